import Derived.Test.YtpabbnddeklpdaaGreatK20
namespace Go.Proofs.YtpabbnddeklpdaaGreat
open Go.RowKit Go.Shelf
set_option linter.unusedVariables false
set_option linter.unusedSimpArgs false
attribute [local go_sem] Oper.semAt_some

theorem sm_from {R L : List EntD} {D1 D2 x0 : EntD} {T : BT} (hs : Sm R L) (hT : T.ord = L) (hl : Srt L) (h0 : EntD.Same x0 { D1 with vv := .slice none 0 0, val := [] }) (h12 : EntD.Same D1 D2) : Sm (R.dropWhile (fun y => decide (compareS y D2 < 0))) (fromS x0 T) := by
 rw [fromS_drop _ _ (by rw [hT]; exact hl), hT]
 have e : (fun y => decide (compareS y x0 < 0)) = (fun y => decide (compareS y D2 < 0)) := by
  funext y
  have e1 : compareS y x0 = compareS y { D1 with vv := .slice none 0 0, val := [] } := cmp_same (EntD.Same.rfl' y) h0
  rw [e1, compareS_noval, cmp_same (EntD.Same.rfl' y) h12]
 rw [e]
 exact Sm.dropW (EntD.Same.rfl' D2) hs
structure GvB (b B1 g : Nat) (N : Int) (dv wv : Value) (b1 b2 b13 bk : Nat) (D1 D2 : EntD) (n : Nat) (W : World) : Prop where
 x1 : Bxd W (b + 1) 3 (.int .i64 N)
 x2 : Bxd W (b + 2) 32 (.pointer (some ⟨g, 0, none⟩))
 x3 : Bxd W (b + 3) 52 dv
 x4 : Bxd W (b + 4) 4 (.bool false)
 e1 : EBox W b1 D1
 e2 : EBox W b2 D2
 x13 : Bxd W b13 27 wv
 xk : Bxd W bk 3 (.int .i64 (n : Int))
 l1 : LaidE W B1 D1
 l2 : LaidE W B1 D2
structure GvN (b nb b1 b2 b13 bk : Nat) (D1 D2 : EntD) : Prop where
 n0 : b + 5 ≤ nb
 n1 : b ≤ b1 ∧ b1 < nb
 n2 : b ≤ b2 ∧ b2 < nb
 n13 : b ≤ b13 ∧ b13 < nb
 nk : b ≤ bk ∧ bk < nb
 d1 : ∀ k, D1.blk k → b ≤ k ∧ k < nb
 d2 : ∀ k, D2.blk k → b ≤ k ∧ k < nb
 nek : b + 4 < bk ∧ bk ≠ b1 ∧ bk ≠ b2 ∧ bk ≠ b13 ∧ (∀ k, D1.blk k → bk ≠ k) ∧ (∀ k, D2.blk k → bk ≠ k)
theorem GvB.keptC {b B1 g b1 b2 b13 bk n : Nat} {N : Int} {dv wv : Value} {D1 D2 : EntD} {W Z : World} {H : Nat → Prop} (h : GvB b B1 g N dv wv b1 b2 b13 bk D1 D2 n W) (k : KpC H W Z) (h0 : ∀ i, 0 < i → i < 5 → H (b + i)) (h1 : H b1 ∧ H b2 ∧ H b13 ∧ H bk) (hd1 : ∀ i, D1.blk i → H i) (hd2 : ∀ i, D2.blk i → H i) : GvB b B1 g N dv wv b1 b2 b13 bk D1 D2 n Z :=
 ⟨k.cells _ _ h.x1 rfl (h0 1 (by omega) (by omega)), k.cells _ _ h.x2 rfl (h0 2 (by omega) (by omega)), k.cells _ _ h.x3 rfl (h0 3 (by omega) (by omega)), k.cells _ _ h.x4 rfl (h0 4 (by omega) (by omega)), k.cells _ _ h.e1 rfl h1.1, k.cells _ _ h.e2 rfl h1.2.1, k.cells _ _ h.x13 rfl h1.2.2.1, k.cells _ _ h.xk rfl h1.2.2.2, h.l1.keptC8 k hd1, h.l2.keptC8 k hd2⟩
theorem GvB.bsk {w : World} {B1 g b1 b2 b13 bk nb : Nat} {N : Int} {dv wv : Value} {D1 D2 : EntD} (hn : GvN w.heap.size nb b1 b2 b13 bk D1 D2) : BsK w nb (GvB w.heap.size B1 g N dv wv b1 b2 b13 bk D1 D2) := fun n W Z h k =>
 h.keptC k (fun i _ hi => by have := hn.n0; omega) ⟨hn.n1, hn.n2, hn.n13, hn.nk⟩ hn.d1 hn.d2
theorem GvB.setk {b nb B1 g b1 b2 b13 bk n : Nat} {N : Int} {dv wv : Value} {D1 D2 : EntD} {W : World} (hn : GvN b nb b1 b2 b13 bk D1 D2) (h : GvB b B1 g N dv wv b1 b2 b13 bk D1 D2 n W) (m : Nat) : GvB b B1 g N dv wv b1 b2 b13 bk D1 D2 m (W.setCell ⟨bk, 0, none⟩ (.int .i64 (m : Int))) := by
 have f : Fb W (W.setCell ⟨bk, 0, none⟩ (.int .i64 (m : Int))) (fun k => k = bk) := Fb.set1 (O := fun k => k = bk) rfl _
 obtain ⟨n0, n1, n2, n3, n4, n5⟩ := hn.nek
 have k : KpC (fun i => i ≠ bk) W (W.setCell ⟨bk, 0, none⟩ (.int .i64 (m : Int))) := KpC.of_fb f (fun i hi e => hi e)
 exact ⟨k.cells _ _ h.x1 rfl (by omega), k.cells _ _ h.x2 rfl (by omega), k.cells _ _ h.x3 rfl (by omega), k.cells _ _ h.x4 rfl (by omega), k.cells _ _ h.e1 rfl (fun e => n1 e.symm), k.cells _ _ h.e2 rfl (fun e => n2 e.symm), k.cells _ _ h.x13 rfl (fun e => n3 e.symm), h.xk.set _, h.l1.keptC8 k (fun i hi e => n4 i hi e.symm), h.l2.keptC8 k (fun i hi e => n5 i hi e.symm)⟩
theorem gv_start (w : World) (g : Nat) (N : Int) (dv : Value) (e : EntD) : ∃ V, V = ((((w.alloc (.cells e.cells 38)).alloc (.cells #[.int .i64 N] 3)).alloc (.cells #[.pointer (some ⟨g, 0, none⟩)] 32)).alloc (.cells #[dv] 52)).alloc (.cells #[.bool false] 4) ∧ Below w.heap.size w V ∧ V.heap.size = w.heap.size + 5 ∧ EBox V w.heap.size e ∧ Bxd V (w.heap.size + 1) 3 (.int .i64 N) ∧ Bxd V (w.heap.size + 2) 32 (.pointer (some ⟨g, 0, none⟩)) ∧ Bxd V (w.heap.size + 3) 52 dv ∧ Bxd V (w.heap.size + 4) 4 (.bool false) := by
 have x1 := EBox.new w e
 have b1 := (Below.refl w.heap.size w).alloc (Nat.le_refl _) (.cells e.cells 38)
 have s1 : (w.alloc (.cells e.cells 38)).heap.size = w.heap.size + 1 := by simp
 obtain ⟨V1, e1⟩ : ∃ V1, V1 = w.alloc (.cells e.cells 38) := ⟨_, rfl⟩
 rw [← e1] at x1 b1 s1
 obtain ⟨V2, e2, b2, s2, x2⟩ := bxd_new V1 3 (.int .i64 N)
 obtain ⟨V3, e3, b3, s3, x3⟩ := bxd_new V2 32 (.pointer (some ⟨g, 0, none⟩))
 obtain ⟨V4, e4, b4, s4, x4⟩ := bxd_new V3 52 dv
 obtain ⟨V5, e5, b5, s5, x5⟩ := bxd_new V4 4 (.bool false)
 have h3 : V2.heap.size = w.heap.size + 2 := by omega
 have h4 : V3.heap.size = w.heap.size + 3 := by omega
 have h5 : V4.heap.size = w.heap.size + 4 := by omega
 rw [s1] at x2; rw [h3] at x3; rw [h4] at x4; rw [h5] at x5
 have k35 := b4.trans (b5.mono b4.size)
 have k25 := b3.trans (k35.mono b3.size)
 have k15 := b2.trans (k25.mono b2.size)
 have k05 := b1.trans (k15.mono b1.size)
 exact ⟨V5, by rw [e5, e4, e3, e2, e1], k05, by omega, x1.later k15, x2.later8 k25, x3.later8 k35, x4.later8 b5, x5⟩
set_option maxRecDepth 100000 in
set_option maxHeartbeats 8000000 in
theorem pgives_any {w : World} {pB tB g cm : Nat} {X FO : Nat → Prop} {L R : List EntD} {lv : Value} {f : Bool} {fn : Nat} {lb : Array Value} {c : Nat → Nat} {C : Nat → Prop} {J : World → Prop} {e : EntD} {N : Int} (h : Gm w pB tB g X FO L R lv f) (he : EntD.Ok w e) (hD : Doer pB tB g f fn lb c C J) (hJ : J w) (hC : ∀ k, C k → k < w.heap.size ∧ ¬ PlB pB tB X k ∧ ¬ FO k) (hc : L.length ≤ c 0) (hm : ∀ i, c i ≤ cm) (hsz : L.length < 100000) :
  Calls Tryz.prog 30 #[.pointer (some ⟨pB, 0, none⟩), .agg e.cells, .int .i64 N, .pointer (some ⟨g, 0, none⟩), .func (.func fn) #[] lb] w (PlP w pB tB g X FO cm f) := by
 obtain ⟨am, cl, hlv⟩ := h.pl.ref.rd.slice
 obtain ⟨mr, hmr⟩ : ∃ mr, mr = R.length := ⟨_, rfl⟩
 rw [← hmr] at hlv
 subst hlv
 obtain ⟨V1, hV1, bV1, sV1, xe, xn, xf, xd, xr⟩ := gv_start w g N (.func (.func fn) #[] lb) e
 have HV1 := Lib.hid hV1
 unfold EntD.cells at HV1
 have HS := Lib.hid (And.intro h (And.intro hJ (And.intro hC (And.intro hc (And.intro hm hsz)))))
 have HE := Lib.hid he
 have HB1 := Lib.hid (And.intro bV1 (And.intro sV1 (And.intro xe (And.intro xn (And.intro xf (And.intro xd xr))))))
 have hok := he.later bV1
 have hce := xe.cells7
 clear hV1 bV1 sV1 xe xn xf xd xr h hJ hC hc hm hsz he hmr
 unfold EntD.cells
 refine (callsIn_wide (n := 9)).1 ?_
 refine callsIn_of_wp_marks Tryz.func30 rfl trivial ?_ rfl
 simp only [Tryz.ntmps30, List.size_toArray, List.length_cons, List.length_nil, Nat.reduceAdd, Nat.reduceSub, Array.replicate_succ, Array.replicate_zero, List.push_toArray, List.append_toArray, List.nil_append, List.cons_append]
 refine wpIn_wide.2 ?_
 go_upto_region 1 with fail
 simp only [Nat.add_assoc, Nat.reduceAdd]
 rw [← HV1.out]
 refine pgive_region hok hce (Lib.hid ?_)
 intro D1 D2 b1 b2 Z hp
 have HP := Lib.hid hp
 have hsV1 := HB1.out.2.1
 have HbZ := Lib.hid (HB1.out.1.trans (hp.bel.mono HB1.out.1.size))
 have hG := HS.out.1.later HbZ.out
 have hpc := hG.pl.cells
 have hd2 := hp.e2.cells7
 have hok2 : EntD.Ok Z D2 := hp.l2.ok (fine_same8 hp.s2 (EntD.cut_fine HE.out))
 have hf1 : EntD.Fine D1 := fine_same8 hp.s1 (EntD.cut_fine HE.out)
 have hok1 : EntD.Ok Z D1 := hp.l1.ok hf1
 have hAd : Hid (∀ Y, Below Z.heap.size Z Y → Calls Tryz.prog 10 #[.agg #[.slice am mr cl, .bool f], .agg #[D2.vr, .int .i64 D2.fam, D2.vq, .int .i64 D2.ts, .int .i64 D2.seq, .int .i64 D2.kind, D2.vv]] Y (fun z w' => ∃ v, z = .returned v ∧ RdL w' v (R.dropWhile (fun y => decide (compareS y D2 < 0))) ∧ (∀ k, v.ownBlock = some k → (Value.slice am mr cl).ownBlock = some k) ∧ Below Y.heap.size Y w')) := fun Y b => refFrom2_any (HS.out.1.later (HbZ.out.trans (b.mono HbZ.out.size))).pl.ref.rd (hok2.later b)
 have hX : Hid (∀ k, X k → k < Z.heap.size) := hG.pl.lt
 have hR : Hid (RdX X Z (.slice am mr cl) R) := hG.pl.ref
 have HF1 := Lib.hid (And.intro hf1 hok1)
 clear hp hce hok hok2 hf1 hok1 hG
 go_upto_region 2 with fail
 refine pgiv2_region ⟨hpc.2.1, hpc.2.2⟩ hd2 hX hR hAd (Lib.hid ?_)
 intro a' m' k' b13 Z2 h2
 have HA2 := Lib.hid h2
 obtain ⟨Z3, hZ3, bZ3, sZ3, xk⟩ := bxd_new Z2 3 (.int .i64 0)
 have HZ3 := Lib.hid hZ3
 have b03 := (h2.bel.trans (bZ3.mono h2.bel.size))
 have hp3 := (HS.out.1.later (HbZ.out.trans (b03.mono HbZ.out.size))).pl.cells
 have hd1 := (HP.out.e1.later b03).cells7
 have HB3 := Lib.hid (And.intro bZ3 (And.intro sZ3 (And.intro xk b03)))
 have hAf : Hid (∀ Y, Below Z3.heap.size Z3 Y → Calls Tryz.prog 7 #[.pointer (some ⟨tB, 0, none⟩), .agg #[D1.vr, .int .i64 D1.fam, D1.vq, .int .i64 D1.ts, .int .i64 D1.seq, .int .i64 D1.kind, D1.vv]] Y (fun z w' => ∃ Bf x0, z = .returned (.func (.func 25) #[] #[.pointer (some ⟨Y.heap.size, 0, none⟩), .pointer (some ⟨Bf, 0, none⟩)]) ∧ Bxd w' Y.heap.size 25 (.pointer (some ⟨tB, 0, none⟩)) ∧ EBox w' Bf x0 ∧ EntD.Same x0 { D1 with vv := .slice none 0 0, val := [] } ∧ EOk (fun i => Y.heap.size ≤ i) w' x0 ∧ Below Y.heap.size Y w' ∧ Y.heap.size + 2 ≤ w'.heap.size ∧ Y.heap.size + 2 ≤ Bf ∧ Bf < w'.heap.size)) := fun Y b => by
  have hl := HF1.out.1
  exact from_ans2 (HF1.out.2.later (HB3.out.2.2.2.trans (b.mono HB3.out.2.2.2.size))) ⟨by have := hl.1.2; omega, by have := hl.2.1.2; omega⟩
 clear h2 hd2 hAd hX hR hpc hZ3 bZ3 sZ3 xk b03
 go_upto_region 4 with fail
 rw [← HZ3.out]
 refine pgiv4_region hp3.1 hd1 hAf (Lib.hid ?_)
 intro Bt Bf x0 Zs V h4
 have H4 := Lib.hid h4
 clear h4 hp3 hd1 hAf
 rename_i K9 hK9
 refine hK9 _ _ ?_
 refine (wpIn_wide (n := 9)).1 ?_
 obtain ⟨bk, hbk⟩ : ∃ bk, bk = Z2.heap.size := ⟨_, rfl⟩
 rw [← hbk]
 obtain ⟨hG0, hJ0, hC0, hc0, hm0, hsz0⟩ := HS.out
 obtain ⟨bV1, sV1, xe, xn, xf, xd, xr⟩ := HB1.out
 obtain ⟨bZ3, sZ3, xk, b03⟩ := HB3.out
 obtain ⟨k41, k42, k43, k44, k45, k46, k47, k48, k49⟩ := H4.out
 rw [← hbk] at xk sZ3
 have bZV : Below Z.heap.size Z V := b03.trans (k42.mono b03.size)
 have b1V : Below V1.heap.size V1 V := HP.out.bel.trans (bZV.mono HP.out.bel.size)
 have b2V : Below Z2.heap.size Z2 V := bZ3.trans (k42.mono bZ3.size)
 have bwV : Below w.heap.size w V := HbZ.out.trans (bZV.mono HbZ.out.size)
 have hGV := hG0.later bwV
 obtain ⟨p, T, h1, h2, h3⟩ := hGV.pl.tab.tree
 have hsm : Sm (R.dropWhile (fun y => decide (compareS y D2 < 0))) (fromS x0 T) := sm_from hGV.pl.sm h3 hGV.pl.tab.srt k45 (same_cross HP.out.s1 HP.out.s2)
 have hsub : ∀ y ∈ fromS x0 T, y ∈ L := fun y hy => by
  rw [fromS_drop _ _ (by rw [h3]; exact hGV.pl.tab.srt), h3] at hy
  exact (List.dropWhile_suffix _).subset hy
 have hRl : (R.dropWhile (fun y => decide (compareS y D2 < 0))).length ≤ R.length := (List.dropWhile_suffix _).length_le
 have rdV : RdX X V (.slice a' m' k') (R.dropWhile (fun y => decide (compareS y D2 < 0))) := HA2.out.rd.keptC (KpC.of_below b2V)
 obtain ⟨aw, cw, eaw⟩ := rdV.rd.slice
 have hmw : m' = (R.dropWhile (fun y => decide (compareS y D2 < 0))).length := by injection eaw
 have hb1 := HP.out.e1.lt'
 have hb2 := HP.out.e2.lt'
 have hb13 := HA2.out.box.lt
 have hs0 := HP.out.lo
 have hZ2 := HA2.out.bel.size
 have hA2l := HA2.out.lo
 have s3 := k42.size
 have hd1r : ∀ k, D1.blk k → V1.heap.size ≤ k ∧ k < Z.heap.size := fun k hk => HP.out.l1.rng8 hk
 have hd2r : ∀ k, D2.blk k → V1.heap.size ≤ k ∧ k < Z.heap.size := fun k hk => HP.out.l2.rng8 hk
 have hNm : GvN w.heap.size (V.heap.size + 6) b1 b2 b13 bk D1 D2 := ⟨by omega, ⟨by omega, by omega⟩, ⟨by omega, by omega⟩, ⟨by omega, by omega⟩, ⟨by omega, by omega⟩, fun k hk => by have := hd1r k hk; omega, fun k hk => by have := hd2r k hk; omega, by omega, by omega, by omega, by omega, fun k hk => by have := hd1r k hk; omega, fun k hk => by have := hd2r k hk; omega⟩
 have hgv : GvB w.heap.size V1.heap.size g N (.func (.func fn) #[] lb) (.slice a' m' k') b1 b2 b13 bk D1 D2 0 V := ⟨xn.later8 b1V, xf.later8 b1V, xd.later8 b1V, xr.later8 b1V, HP.out.e1.later bZV, HP.out.e2.later bZV, HA2.out.box.later8 b2V, xk.later8 k42, HP.out.l1.later bZV, HP.out.l2.later bZV⟩
 have hKK := GvB.bsk (B1 := V1.heap.size) (g := g) (N := N) (dv := .func (.func fn) #[] lb) (wv := .slice a' m' k') hNm
 have HFi := Lib.hid (And.intro (same_cross HP.out.s1 HP.out.s2) (And.intro HF1.out.1 (fine_same8 HP.out.s2 (EntD.cut_fine HE.out))))
 have HSub := Lib.hid hsub
 have HSm := Lib.hid hsm
 have HMw := Lib.hid (And.intro hmw hRl)
 have HNm := Lib.hid hNm
 have HGd := Lib.hid hGV.pl.tab.good
 have HLn := Lib.hid (show ∀ y ∈ fromS x0 T, y.row.length ≤ 140737488355328 ∧ y.qual.length ≤ 140737488355328 ∧ y.val.length ≤ 140737488355328 from fun y hy => hGV.pl.tab.lens y (hsub y hy))
 have hVb : w.heap.size + 5 ≤ V.heap.size ∧ bk < V.heap.size ∧ w.heap.size ≤ bk := by omega
 clear HP HB1 HB3 H4 HA2 HF1 HV1 HZ3 hsV1 xe xn xf xd xr bV1 sV1 bZ3 sZ3 xk b03 hsub hsm hmw hRl eaw hb1 hb2 hb13 hs0 hZ2 hA2l s3 hd1r hd2r hNm bZV b1V b2V HbZ hbk
 gi_wp2
 refine range_o (w := V) rfl (enters_of Tryz.func25 (by kernel_rfl) rfl) (encs := fun x : EntD => #[.agg x.cells]) (from_seqO k44 (k46.mono (fun _ _ => trivial)) k43 h1 h2 HLn.out) (fun h k => h.trans k) (fun X o o' ho hc => KpO.put o o' (by omega) ho hc) (fun _ => rfl)
  (fun pre W => V.heap.size ≤ W.heap.size ∧ GE w (V.heap.size + 6) pB tB g X FO (R.dropWhile (fun y => decide (compareS y D2 < 0))) (.slice a' m' k') f c J (GvB w.heap.size V1.heap.size g N (.func (.func fn) #[] lb) (.slice a' m' k') b1 b2 b13 bk D1 D2) pre.length W)
  (fun cd st W => cd = .exit 0 ∧ ∃ n, n + 1 = st.length ∧ (n : Int) = N ∧ V.heap.size ≤ W.heap.size ∧ GE w (V.heap.size + 6) pB tB g X FO (R.dropWhile (fun y => decide (compareS y D2 < 0))) (.slice a' m' k') f c J (GvB w.heap.size V1.heap.size g N (.func (.func fn) #[] lb) (.slice a' m' k') b1 b2 b13 bk D1 D2) n W)
  (fun s X h => h.1)
  (fun s W Z hW h tu => ⟨Nat.le_trans h.1 tu.below.size, h.2.turn hD hKK (by omega) tu⟩)
  (fun cd s W Z hW h tu => by
   obtain ⟨k0, n, k1, k2, k3, k4⟩ := h
   exact ⟨k0, n, k1, k2, Nat.le_trans k3 tu.below.size, k4.turn hD hKK (by omega) tu⟩)
  ⟨Nat.le_refl _, X, FO, L, R, _, ⟨⟨hGV, Fb.of_below bwV, fun k hk => .inl hk, fun k hk => .inl hk⟩, rdV, hgv, hD.keep _ _ hJ0 (KpC.of_below bwV), hc0, Nat.zero_le _⟩⟩
  (fun pre x a2 W => ∃ Bx s X' FO' L' R' lv', GI w (V.heap.size + 6) pB tB g X FO (R.dropWhile (fun y => decide (compareS y D2 < 0))) (.slice a' m' k') f c J (GvB w.heap.size V1.heap.size g N (.func (.func fn) #[] lb) (.slice a' m' k') b1 b2 b13 bk D1 D2) pre.length W X' FO' L' R' lv' ∧ EBox W Bx x ∧ V.heap.size + 6 ≤ Bx ∧ NxC (fromS x0 T) (V.heap.size + 2) pre x W ∧ O3 W s x ∧ (V.heap.size + 6 ≤ s ∧ (∀ k, X' k → k < s) ∧ (∀ k, FO' k → k < s)) ∧ a2 = { tmps := List.toArray ((.pointer (some ⟨pB, 0, none⟩) : Value) :: (.agg #[e.vr, .int .i64 e.fam, e.vq, .int .i64 e.ts, .int .i64 e.seq, .int .i64 e.kind, e.vv] : Value) :: (.int .i64 N : Value) :: (.pointer (some ⟨g, 0, none⟩) : Value) :: (.func (.func fn) #[] lb : Value) :: undef :: (.pointer (some ⟨w.heap.size, 0, none⟩) : Value) :: (.pointer (some ⟨w.heap.size + 1, 0, none⟩) : Value) :: (.pointer (some ⟨w.heap.size + 2, 0, none⟩) : Value) :: (.pointer (some ⟨w.heap.size + 3, 0, none⟩) : Value) :: (.pointer (some ⟨w.heap.size + 4, 0, none⟩) : Value) :: (.pointer (some ⟨b1, 0, none⟩) : Value) :: (.pointer (some ⟨b2, 0, none⟩) : Value) :: (.pointer (some ⟨b13, 0, none⟩) : Value) :: (.pointer (some ⟨bk, 0, none⟩) : Value) :: (.pointer (some ⟨Bx, 0, none⟩) : Value) :: (.agg #[e.vr, .int .i64 e.fam, e.vq, .int .i64 e.ts, .int .i64 e.seq, .int .i64 e.kind, e.vv] : Value) :: (.agg #[D1.vr, .int .i64 D1.fam, D1.vq, .int .i64 D1.ts, .int .i64 D1.seq, .int .i64 D1.kind, D1.vv] : Value) :: (.agg #[e.vr, .int .i64 e.fam, e.vq, .int .i64 e.ts, .int .i64 e.seq, .int .i64 e.kind, e.vv] : Value) :: (.agg #[D2.vr, .int .i64 D2.fam, D2.vq, .int .i64 D2.ts, .int .i64 D2.seq, .int .i64 D2.kind, D2.vv] : Value) :: (.pointer (some ⟨pB, 0, none⟩) : Value) :: (.pointer (some ⟨pB, 0, none⟩) : Value) :: (.pointer (some ⟨pB, 1, none⟩) : Value) :: (.agg #[.slice am mr cl, .bool f] : Value) :: (.agg #[D2.vr, .int .i64 D2.fam, D2.vq, .int .i64 D2.ts, .int .i64 D2.seq, .int .i64 D2.kind, D2.vv] : Value) :: (.slice a' m' k' : Value) :: (.pointer (some ⟨pB, 0, none⟩) : Value) :: (.pointer (some ⟨pB, 0, none⟩) : Value) :: (.pointer (some ⟨pB, 0, none⟩) : Value) :: (.pointer (some ⟨tB, 0, none⟩) : Value) :: (.agg #[D1.vr, .int .i64 D1.fam, D1.vq, .int .i64 D1.ts, .int .i64 D1.seq, .int .i64 D1.kind, D1.vv] : Value) :: (.func (.func 25) #[] #[.pointer (some ⟨Bt, 0, none⟩), .pointer (some ⟨Bf, 0, none⟩)] : Value) :: (.agg x.cells : Value) :: undef :: undef :: undef :: undef :: undef :: undef :: undef :: undef :: undef :: undef :: undef :: undef :: undef :: undef :: undef :: undef :: undef :: undef :: undef :: undef :: undef :: undef :: undef :: undef :: undef :: undef :: undef :: undef :: undef :: undef :: undef :: undef :: undef :: undef :: undef :: undef :: undef :: undef :: undef :: undef :: undef :: undef :: undef :: undef :: []), defers := [] })
  (fun pre x a2 _ W Z hW ⟨Bx, s, X', FO', L', R', lv', k0, k1, k2, k3, k4, k5, k6⟩ tu => ⟨Bx, s, X', FO', L', R', lv', k0.turn hD hKK (by omega) tu, tu.cells _ _ k1 rfl, k2, ⟨Nat.le_trans k3.1 tu.below.size, k3.2.1, k3.2.2.keptC tu.toC⟩, k4.turn tu, k5, k6⟩)
  ?assign ?body ?done ?stop (fun cd s X h => h.2.choose_spec.2.2.1)
 case assign =>
  intro l' pre x Wp X0 K hip hi hsX hgd0 hK
  obtain ⟨hnx, ho3, hbe, hB4⟩ := hgd0
  obtain ⟨X', FO', L', R', lv', k⟩ := hip.2
  have hlt1 := k.1.gm.pl.lt
  have hlt2 := fun i hi => (k.1.gm.fc i hi).lt
  have hsX' : V.heap.size + 6 ≤ X0.heap.size := by have := hnx.1; omega
  obtain ⟨vr, fam, vq, ts, seq, kind, vv, row, qual, val⟩ := x
  have r1 : Rd X0 vr row := hnx.2.2.1.1
  have r2 : Rd X0 vq qual := hnx.2.2.2.1.1
  have r3 : Rd X0 vv val := hnx.2.2.2.2.1
  obtain ⟨ar, nr, cr, rfl⟩ := rd_slice r1
  obtain ⟨aq, nq, cq, rfl⟩ := rd_slice r2
  obtain ⟨av, nv, cv, rfl⟩ := rd_slice r3
  have hbb := (Below.refl X0.heap.size X0).alloc (Nat.le_refl _) (.cells (EntD.mk (.slice ar nr cr) fam (.slice aq nq cq) ts seq kind (.slice av nv cv) row qual val).cells 38)
  have tu := Turn.of (B := V.heap.size) hbb (by omega)
  have HAx := Lib.hid (And.intro ((k.later hD hKK hbe).later hD hKK hbb) (And.intro (EBox.new X0 (EntD.mk (.slice ar nr cr) fam (.slice aq nq cq) ts seq kind (.slice av nv cv) row qual val)) (And.intro (show NxC (fromS x0 T) (V.heap.size + 2) pre (EntD.mk (.slice ar nr cr) fam (.slice aq nq cq) ts seq kind (.slice av nv cv) row qual val) (X0.alloc (.cells (EntD.mk (.slice ar nr cr) fam (.slice aq nq cq) ts seq kind (.slice av nv cv) row qual val).cells 38)) from ⟨Nat.le_trans hnx.1 tu.below.size, hnx.2.1, hnx.2.2.keptC tu.toC⟩) (ho3.turn tu))))
  have HT9 := Lib.hid (show KpO X (V.heap.size + 2) X0 (X0.alloc (.cells (EntD.mk (.slice ar nr cr) fam (.slice aq nq cq) ts seq kind (.slice av nv cv) row qual val).cells 38)) from ⟨tu.toC, Oth.of hbb⟩)
  have HI := Lib.hid (And.intro (Nat.le_trans hi.1 tu.below.size) (hi.2.turn hD hKK (B := V.heap.size) (by omega) tu))
  have HL1 := Lib.hid hlt1
  have HL2 := Lib.hid hlt2
  clear hbb tu hi hip hnx ho3 hbe r1 r2 r3 k hlt1 hlt2 hgv rdV hGV h1 h2 k43 k44 k45 k46
  simp only [EntD.cells] at *
  gi_wp2
  exact hK _ _ ((KeepsOthers.alloc _ _).from _) HT9.out HI.out ⟨X0.heap.size, Wp.heap.size, X', FO', L', R', lv', HAx.out.1, HAx.out.2.1, hsX', HAx.out.2.2.1, HAx.out.2.2.2, ⟨by omega, HL1.out, HL2.out⟩, rfl⟩
 case body =>
  rintro l' pre x a2 X0 - ⟨Bx, s, X', FO', L', R', lv', hal, hbx, hBx, hnx, ho3, ⟨hs1, hs2, hs3⟩, rfl⟩
  clear hgv rdV hGV h1 h2 k43 k44 k45 k46
  obtain ⟨n, hn⟩ : ∃ n, n = pre.length := ⟨_, rfl⟩
  rw [← hn] at hal
  have hsm := HSm.out
  obtain ⟨q, hq1, hq2⟩ := hnx.2.1
  have e1 := hq2.len
  have e2 := hq1.length_le
  have e3 := hsm.len
  simp only [List.length_append, List.length_cons, List.length_nil] at e1
  have hnm : n < m' := by have := HMw.out.1; omega
  have kc := hal.2.2.1.xk.cell
  have nc := hal.2.2.1.x1.cell
  by_cases hnN : (n : Int) = N
  ·as_aux_lemma =>
    have HAL := Lib.hid hal
    have HN := Lib.hid hn
    have HX : Hid (V.heap.size ≤ X0.heap.size) := by have := hnx.1; unfold Hid; omega
    clear hal hbx hnx ho3 hBx hs1 hs2 hs3 hq1 hq2 e1 e2 e3 hsm hn
    subst hnN
    gi_wp2
    exact ⟨KeepsFrom.refl _ _, rfl, n, by rw [List.length_append, ← HN.out]; rfl, rfl, HX.out, X', FO', L', R', lv', HAL.out⟩
  ·have hnNb : ((n : Int) == N) = false := by simp; exact hnN
   obtain ⟨y, hy⟩ : ∃ y, (R.dropWhile (fun y => decide (compareS y D2 < 0)))[n]? = some y := ⟨_, List.getElem?_eq_getElem (by have := HMw.out.1; omega)⟩
   have hxy : EntD.Same x y ∧ checkS x = 0 := by
    obtain ⟨x1, z1, k1, k2, k3⟩ := hq2.at (i := n) (by simp; omega)
    obtain ⟨y1, z2, k4, k5, k6⟩ := hsm.at (i := n) (by have := HMw.out.1; omega)
    have kx : x1 = x := by
     rw [hn] at k1
     simpa using k1.symm
    obtain ⟨t, ht⟩ := hq1
    have kz : (fromS x0 T)[n]? = some z1 := by
     rw [← ht, List.getElem?_append_left (by omega)]
     exact k2
    rw [kz] at k5
    cases k5
    rw [hy] at k4
    cases k4
    subst kx
    exact ⟨same_cross k3 k6, lens_good HGd.out k3 (HSub.out _ (List.mem_of_getElem? kz))⟩
   obtain ⟨a0, cap0, ea, -, -, -, -, h5⟩ := hal.2.1.rd
   obtain ⟨hyok, bz, oz, eb, hcs⟩ := h5 n y hy
   have eam : a' = some ⟨bz, oz, none⟩ := by
    injection ea with e4
    rw [e4, eb]
   clear h5 ea eb
   subst eam
   have HSe : Hid (∀ Z, Below X0.heap.size X0 Z → Calls Tryz.prog 11 #[.agg #[x.vr, .int .i64 x.fam, x.vq, .int .i64 x.ts, .int .i64 x.seq, .int .i64 x.kind, x.vv], .agg #[y.vr, .int .i64 y.fam, y.vq, .int .i64 y.ts, .int .i64 y.seq, .int .i64 y.kind, y.vv]] Z fun r w' => r = .returned (.bool true) ∧ Below Z.heap.size Z w') := fun Z b => by
    refine (se_any (hnx.2.2.ok.later b) (hyok.later b)).mono ?_
    rintro r w' ⟨rfl, hb⟩
    exact ⟨by rw [decide_eq_true hxy.1], hb⟩
   have wc := hal.2.2.1.x13.cell
   have xc := hbx.cells7
   have HAL := Lib.hid hal
   have HX := Lib.hid (And.intro hbx (And.intro ho3 (And.intro hnx (And.intro hBx (And.intro hs1 (And.intro hs2 hs3))))))
   have HN := Lib.hid hn
   have HXY := Lib.hid hxy
   have HnN := Lib.hid hnN
   clear hal hbx hnx ho3 hBx hs1 hs2 hs3 hq1 hq2 e1 e2 e3 hsm hn hxy hyok hy
   gi_wp2_with fail
   refine wpIn_eq8 _ (pgiv7_region hnm ⟨kc, wc, xc, hcs⟩ HSe) ?_
   intro Y hbY
   have halY := HAL.out.later hD hKK hbY
   have hbxY := HX.out.1.later hbY
   have hsY : V.heap.size + 6 ≤ Y.heap.size := by have := hbY.size; have := HX.out.2.2.1.1; omega
   have hxb : ∀ k, x.blk k → s ≤ k ∧ k < X0.heap.size := fun k hk => HX.out.2.1.lt k hk
   have HFe := Lib.hid (fentry_any halY.1.gm.fu ((HX.out.2.1.later hbY).e3 HXY.out.2) (fun k hk hf => by have := (hxb k hk).1; have := HX.out.2.2.2.2.2.2 k hf; omega))
   unfold EntD.cells at HFe
   have gc := halY.2.2.1.x2.cell
   obtain ⟨p0, p1, p2, p3, p4, p5, p6⟩ := hbxY.cells7
   have HY := Lib.hid (And.intro halY (And.intro hbY (And.intro hsY hxb)))
   clear halY hbxY hsY hxb hbY kc nc wc xc hcs HSe hnNb hnN
   gi_wp2_with fail
   refine ⟨trivial, ?_⟩
   refine (CallsIn.inRound l' (callsIn_wide.2 HFe.out)).mono ?_
   rintro z Y2 ⟨⟨vv, rfl⟩, fu2, f2⟩
   obtain ⟨FO2, hal2, hf2⟩ := HY.out.1.full (x := x) (s := s) hD hKK hG0 (by omega) HY.out.2.2.1 (fun k hk => ⟨(hC0 k hk).1, (hC0 k hk).2.2⟩) fu2 (f2.mono (fun i _ q => q)) (fun k hk => (HY.out.2.2.2 k hk).1) ⟨HX.out.2.2.2.2.1, HX.out.2.2.2.2.2.1⟩ (fun k hk => by
    rcases hk with q | q | q
    ·exact .inl q
    ·exact .inr (.inl q)
    ·exact .inr (.inr q.1))
   have hsY2 : V.heap.size + 6 ≤ Y2.heap.size := Nat.le_trans HY.out.2.2.1 f2.size
   have hdo := hD.does n Y2 X' FO2 L' R' lv' hal2.2.2.2.1 hal2.1.gm (fun k hk => by
    have hk0 := hC0 k hk
    refine ⟨fun q => ?_, fun q => ?_⟩
    ·rcases q with q | q | q
     ·exact hk0.2.1 (.inl q)
     ·exact hk0.2.1 (.inr (.inl q))
     ·rcases hal2.1.nx k q with q | q
      ·exact hk0.2.1 (.inr (.inr q))
      ·omega
    ·rcases hal2.1.nf k q with q | q
     ·exact hk0.2.2 q
     ·omega) hal2.2.2.2.2.1
   have HDo := Lib.hid hdo
   have hen := hD.enters
   have kc := hal2.2.2.1.xk.cell
   have dc := hal2.2.2.1.x3.cell
   have H2 := Lib.hid (And.intro hal2 (And.intro hf2 (And.intro f2 hsY2)))
   clear hal2 hf2 f2 fu2 hsY2 hdo HFe p0 p1 p2 p3 p4 p5 p6 gc
   gi_wp2_with fail
   refine ⟨trivial, ?_⟩
   refine (CallsIn.inRound l' (callsIn_wide.2 HDo.out)).mono ?_
   rintro z Y3 hpl
   obtain rfl : z = .returned (.bool true) := hpl.1
   obtain ⟨X3, FO3, L3, R3, lv3, ⟨rc3, rd3, al3, j3, l3⟩, f3⟩ := H2.out.1.did hD hKK hG0 (by omega) H2.out.2.2.2 hC0 hpl
   have kc := al3.xk.cell
   have kf := al3.xk.fz
   have hn100 : n < 100000 := by have := hG0.pl.sm.len; have := HMw.out.1; have := HMw.out.2; omega
   have HWn : Hid (IntKind.i64.wrap ((n : Int) + 1) = ((n + 1 : Nat) : Int)) := by
    have := wrap_ok ((n : Int) + 1) (by omega) (by omega)
    unfold Hid; rw [this]; simp
   have H3 := Lib.hid (And.intro rc3 (And.intro rd3 (And.intro al3 (And.intro j3 (And.intro l3 f3)))))
   clear rc3 rd3 al3 j3 l3 f3 hpl HDo hen dc
   gi_wp2
   have hrd := GI.round (B := V.heap.size + 2) (B2 := V.heap.size) (bk := bk) hD hG0 HAL.out HY.out.2.1 H2.out.2.2.1 H2.out.2.1 H3.out.2.2.2.2.2 ⟨H3.out.1, H3.out.2.1, H3.out.2.2.1, H3.out.2.2.2.1, H3.out.2.2.2.2.1⟩ HX.out.2.1 HX.out.2.2.2.2.1 ⟨by omega, by omega⟩ HAL.out.2.2.1.xk.cellsAt (fun W hW => hW.setk HNm.out (n + 1)) (by omega) (by have := HMw.out.1; omega) (fun k hk => (hC0 k hk).1)
   have hlen : (pre ++ [x]).length = n + 1 := by rw [List.length_append, ← HN.out]; rfl
   have ecast : (n : Int) + 1 = ((n + 1 : Nat) : Int) := by simp
   rw [ecast]
   refine ⟨hrd.1, hrd.2.1, by have := H2.out.2.2.2; have := H3.out.2.2.2.2.2.size; rw [World.size_setCell]; omega, ?_⟩
   rw [hlen]
   exact hrd.2.2
 case done =>
  rintro D xs X0 hDd hsmx ⟨hsz, X', FO', L', R', lv', hal⟩ hdf
  have e1 := hsmx.len
  have e2 := HSm.out.len
  have hxs : xs.length = m' := by have := HMw.out.1; omega
  rw [hxs] at hal
  clear hxs e1 e2 hsmx hgv rdV hGV h1 h2 k43 k44 k45 k46
  have l1 := hal.2.2.1.l1
  have l2 := hal.2.2.1.l2
  have HSt := Lib.hid (stands8_any l1 (l2.ok HFi.out.2.2) HFi.out.1 HFi.out.2.1)
  obtain ⟨p0, p1, p2, p3, p4, p5, p6⟩ := hal.2.2.1.e1.cells7
  obtain ⟨q0, q1, q2, q3, q4, q5, q6⟩ := hal.2.2.1.e2.cells7
  have HAL := Lib.hid hal
  have HDf := Lib.hid hdf
  clear hal hdf l1 l2
  unfold EntD.cells at HSt
  skip
  go_wp2_with fail
  refine HSt.out.mono ?_
  rintro z X1 ⟨rfl, bX1⟩
  have HA1 := Lib.hid (HAL.out.later hD hKK bX1)
  have HD1 : Hid (X1.heap[D]? = some (.deferred (some []))) := (bX1.block D (Array.getElem?_eq_some_iff.1 HDf.out).1).trans HDf.out
  have kc := HA1.out.2.2.1.xk.cell
  have nc := HA1.out.2.2.1.x1.cell
  have wc := HA1.out.2.2.1.x13.cell
  have rc := HA1.out.2.2.1.x4.cell
  have rf := HA1.out.2.2.1.x4.fz
  clear bX1 p0 p1 p2 p3 p4 p5 p6 q0 q1 q2 q3 q4 q5 q6 HSt
  go_wp2
  obtain ⟨t1, t2, t3⟩ := AlI.leave (X0 := X1) (D := D) (c := c) (C := C) (J := J) (fn := fn) (lb := lb) (dv := .func (.func fn) #[] lb) (n := m') hG0 HA1.out.1 (q := w.heap.size + 4) ⟨by omega, by omega⟩ (by omega) (by omega) HD1.out rfl HA1.out.2.2.1.x4 true
  have hdf' : (X1.setCell ⟨w.heap.size + 4, 0, none⟩ (.bool true)).heap[D]? = some (.deferred (some [])) := (Below.heap_setCell _ _ _ _ (show D ≠ w.heap.size + 4 by omega)).trans HD1.out
  refine ⟨by simp, .inl ⟨_, _, rfl, run_takeDeferred hdf', ?_⟩⟩
  exact ⟨.bool true, by simp [results, Tryz.results30, go_sem, t1], rfl, X', FO', L', R', lv', t2, t3, Nat.le_trans HA1.out.2.2.2.2.1 (hm0 _)⟩
 case stop =>
  rintro D cd pre X0 hDd hsp ⟨rfl, n, hn1, hnN, hsz, X', FO', L', R', lv', hal⟩ hdf
  have hnm : n < m' := by
   obtain ⟨q, hq1, hq2⟩ := hsp
   have e1 := hq2.len
   have e2 := hq1.length_le
   have e3 := HSm.out.len
   have := HMw.out.1
   omega
  have hne : ¬ ((n : Int) = (m' : Int)) := by omega
  have hne2 : (n : Int) < (m' : Int) := by omega
  subst hnN
  clear hsp hn1 hgv rdV hGV h1 h2 k43 k44 k45 k46
  have l1 := hal.2.2.1.l1
  have l2 := hal.2.2.1.l2
  have HSt := Lib.hid (stands8_any l1 (l2.ok HFi.out.2.2) HFi.out.1 HFi.out.2.1)
  obtain ⟨p0, p1, p2, p3, p4, p5, p6⟩ := hal.2.2.1.e1.cells7
  obtain ⟨q0, q1, q2, q3, q4, q5, q6⟩ := hal.2.2.1.e2.cells7
  have HAL := Lib.hid hal
  have HDf := Lib.hid hdf
  clear hal hdf l1 l2
  unfold EntD.cells at HSt
  gi_wp2
  go_wp2_with fail
  refine HSt.out.mono ?_
  rintro z X1 ⟨rfl, bX1⟩
  have HA1 := Lib.hid (HAL.out.later hD hKK bX1)
  have HD1 : Hid (X1.heap[D]? = some (.deferred (some []))) := (bX1.block D (Array.getElem?_eq_some_iff.1 HDf.out).1).trans HDf.out
  have kc := HA1.out.2.2.1.xk.cell
  have nc := HA1.out.2.2.1.x1.cell
  have wc := HA1.out.2.2.1.x13.cell
  have rc := HA1.out.2.2.1.x4.cell
  have rf := HA1.out.2.2.1.x4.fz
  clear bX1 p0 p1 p2 p3 p4 p5 p6 q0 q1 q2 q3 q4 q5 q6 HSt
  go_wp2
  obtain ⟨t1, t2, t3⟩ := AlI.leave (X0 := X1) (D := D) (c := c) (C := C) (J := J) (fn := fn) (lb := lb) (dv := .func (.func fn) #[] lb) (n := m') hG0 HA1.out.1 (q := w.heap.size + 4) ⟨by omega, by omega⟩ (by omega) (by omega) HD1.out rfl HA1.out.2.2.1.x4 true
  have hdf' : (X1.setCell ⟨w.heap.size + 4, 0, none⟩ (.bool true)).heap[D]? = some (.deferred (some [])) := (Below.heap_setCell _ _ _ _ (show D ≠ w.heap.size + 4 by omega)).trans HD1.out
  refine ⟨by simp, .inl ⟨_, _, rfl, run_takeDeferred hdf', ?_⟩⟩
  exact ⟨.bool true, by simp [results, Tryz.results30, go_sem, t1], rfl, X', FO', L', R', lv', t2, t3, Nat.le_trans HA1.out.2.2.2.2.1 (hm0 _)⟩
end Go.Proofs.YtpabbnddeklpdaaGreat

namespace Go.Proofs.YtpabbnddeklpdaaGreat
open Go.RowKit Go.Shelf
set_option linter.unusedVariables false
set_option linter.unusedSimpArgs false

def EntD.blkN (e : EntD) (k : Nat) : Prop := (e.vr.ownBlock = some k ∧ e.row ≠ []) ∨ (e.vq.ownBlock = some k ∧ e.qual ≠ []) ∨ (e.vv.ownBlock = some k ∧ e.val ≠ [])
theorem Rd.keptN {w w' : World} {v : Value} {bs : List Nat} {G : Nat → Prop} (h : Rd w v bs) (k : KpC G w w') (hG : ∀ i, v.ownBlock = some i → bs ≠ [] → G i) : Rd w' v bs := by
 obtain ⟨h1, a, cap, rfl, h3, h4, h5, h6, h7⟩ := h
 refine ⟨h1, a, cap, rfl, h3, h4, h5, h6, ?_⟩
 rcases h7 with h7 | ⟨b, off, rfl, hc⟩
 ·exact .inl h7
 ·refine .inr ⟨b, off, rfl, fun i hi => k.cell (hG b rfl (fun e => ?_)) (hc i hi)⟩
  subst e
  simp at hi
theorem Rd.ltN {w : World} {v : Value} {bs : List Nat} (h : Rd w v bs) : ∀ i, v.ownBlock = some i → bs ≠ [] → i < w.heap.size := by
 obtain ⟨h1, a, cap, rfl, h3, h4, h5, h6, h7⟩ := h
 intro i hi hne
 rcases h7 with h7 | ⟨b, off, rfl, hc⟩
 ·exact absurd h7 (by simpa using hne)
 ·simp only [Value.ownBlock, Option.some.injEq] at hi
  subst hi
  exact World.block_lt_of_cell? _ _ (hc 0 (List.length_pos_iff.2 hne))
structure OkG (G : Nat → Prop) (w : World) (e : EntD) : Prop where
 ok : EntD.Ok w e
 bl : ∀ k, e.blkN k → G k
theorem OkG.keptC {G : Nat → Prop} {w w' : World} {e : EntD} (h : OkG G w e) (k : KpC G w w') : OkG G w' e :=
 ⟨⟨h.ok.1.keptN k (fun i hi hn => h.bl i (.inl ⟨hi, hn⟩)), h.ok.2.1.keptN k (fun i hi hn => h.bl i (.inr (.inl ⟨hi, hn⟩))), h.ok.2.2.keptN k (fun i hi hn => h.bl i (.inr (.inr ⟨hi, hn⟩)))⟩, h.bl⟩
theorem EntD.Ok.ltN {w : World} {e : EntD} (h : EntD.Ok w e) : ∀ k, e.blkN k → k < w.heap.size := by
 rintro k (⟨a, b⟩ | ⟨a, b⟩ | ⟨a, b⟩)
 ·exact h.1.ltN k a b
 ·exact h.2.1.ltN k a b
 ·exact h.2.2.ltN k a b
structure StepD where
 k : Int
 o : Bool
 e : EntD
 g : EntD
 n : Int
def StepD.cells (s : StepD) : Array Value := #[.int .i64 s.k, .bool s.o, s.e.vr, .int .i64 s.e.fam, s.e.vq, .int .i64 s.e.ts, .int .i64 s.e.seq, .int .i64 s.e.kind, s.e.vv, s.g.vr, .int .i64 s.g.fam, s.g.vq, .int .i64 s.g.ts, .int .i64 s.g.seq, .int .i64 s.g.kind, s.g.vv, .int .i64 s.n]
def SBox (w : World) (b : Nat) (s : StepD) : Prop := w.heap[b]? = some (.cells s.cells 40 (0, 0))
theorem SBox.c {w : World} {b : Nat} {s : StepD} (h : SBox w b s) {i : Nat} {v : Value} (hv : s.cells[i]? = some v) : w.cell? ⟨b, i, none⟩ = some v := by
 unfold SBox at h
 simp only [World.cell?, h]
 exact hv
theorem SBox.lt {w : World} {b : Nat} {s : StepD} (h : SBox w b s) : b < w.heap.size := (Array.getElem?_eq_some_iff.1 h).1
theorem SBox.later {w w' : World} {b : Nat} {s : StepD} (h : SBox w b s) (k : Below w.heap.size w w') : SBox w' b s := (k.block b h.lt).trans h
theorem SBox.all {w : World} {b : Nat} {s : StepD} (h : SBox w b s) : w.cell? ⟨b, 0, none⟩ = some (.int .i64 s.k) ∧ w.cell? ⟨b, 16, none⟩ = some (.int .i64 s.n) ∧ (w.cell? ⟨b, 2, none⟩ = some s.e.vr ∧ w.cell? ⟨b, 3, none⟩ = some (.int .i64 s.e.fam) ∧ w.cell? ⟨b, 4, none⟩ = some s.e.vq ∧ w.cell? ⟨b, 5, none⟩ = some (.int .i64 s.e.ts) ∧ w.cell? ⟨b, 6, none⟩ = some (.int .i64 s.e.seq) ∧ w.cell? ⟨b, 7, none⟩ = some (.int .i64 s.e.kind) ∧ w.cell? ⟨b, 8, none⟩ = some s.e.vv) ∧ (w.cell? ⟨b, 9, none⟩ = some s.g.vr ∧ w.cell? ⟨b, 10, none⟩ = some (.int .i64 s.g.fam) ∧ w.cell? ⟨b, 11, none⟩ = some s.g.vq ∧ w.cell? ⟨b, 12, none⟩ = some (.int .i64 s.g.ts) ∧ w.cell? ⟨b, 13, none⟩ = some (.int .i64 s.g.seq) ∧ w.cell? ⟨b, 14, none⟩ = some (.int .i64 s.g.kind) ∧ w.cell? ⟨b, 15, none⟩ = some s.g.vv) :=
 ⟨h.c rfl, h.c rfl, ⟨h.c rfl, h.c rfl, h.c rfl, h.c rfl, h.c rfl, h.c rfl, h.c rfl⟩, h.c rfl, h.c rfl, h.c rfl, h.c rfl, h.c rfl, h.c rfl, h.c rfl⟩
structure Cap8 (w : World) (sB bP bF pB g : Nat) (s : StepD) (SE : Nat → Prop) : Prop where
 sb : SBox w sB s
 pb : Bxd w bP 24 (.pointer (some ⟨pB, 0, none⟩))
 fb : Bxd w bF 32 (.pointer (some ⟨g, 0, none⟩))
 og : OkG SE w s.g
theorem Cap8.keptC {w w' : World} {sB bP bF pB g : Nat} {s : StepD} {SE : Nat → Prop} (h : Cap8 w sB bP bF pB g s SE) (k : KpC (fun i => i = sB ∨ i = bP ∨ i = bF ∨ SE i) w w') : Cap8 w' sB bP bF pB g s SE :=
 ⟨k.cells _ _ h.sb rfl (.inl rfl), k.cells _ _ h.pb rfl (.inr (.inl rfl)), k.cells _ _ h.fb rfl (.inr (.inr (.inl rfl))), h.og.keptC (k.mono (fun i hi => .inr (.inr (.inr hi))))⟩
theorem PlP.refl {w w' : World} {pB tB g n : Nat} {X FO : Nat → Prop} {L R : List EntD} {lv : Value} {f : Bool} (h : Gm w pB tB g X FO L R lv f) (b : Below w.heap.size w w') (hn : L.length ≤ n) : PlP w pB tB g X FO n f (.returned (.bool true)) w' := ⟨rfl, X, FO, L, R, lv, h.later b, GoTo.below b, hn⟩
theorem PlP.mono {w w' : World} {pB tB g n m : Nat} {X FO : Nat → Prop} {f : Bool} {z : Ending} (h : PlP w pB tB g X FO n f z w') (hm : n ≤ m) : PlP w pB tB g X FO m f z w' := by
 obtain ⟨h1, X', FO', L', R', lv', h2, h3, h4⟩ := h
 exact ⟨h1, X', FO', L', R', lv', h2, h3, Nat.le_trans h4 hm⟩
set_option maxRecDepth 100000 in
theorem nothing_any (i : Int) (w : World) : Calls Tryz.prog 17 #[.int .i64 i] w fun e w' => e = .returned (.bool true) ∧ w' = w := by
 go_enter Tryz.func17, Tryz.ntmps17
 go_wp2
 go_ret
 exact ⟨rfl, rfl⟩
theorem nothing_doer (pB tB g m : Nat) (f : Bool) : Doer pB tB g f 17 #[] (fun _ => m) (fun _ => False) (fun _ => True) := by
 refine ⟨enters_of Tryz.func17 (by kernel_rfl) rfl, fun _ _ _ _ => trivial, fun i w X FO L R lv _ h _ hl => ?_⟩
 refine Calls.mono (nothing_any (i : Int) w) ?_
 rintro z w' ⟨rfl, rfl⟩
 exact PlP.refl h (Below.refl _ _) hl
set_option maxRecDepth 100000 in
set_option maxHeartbeats 4000000 in
theorem step1_any {w : World} {pB tB g n sB bP bF i : Nat} {X FO SE : Nat → Prop} {L R : List EntD} {lv : Value} {f : Bool} {s : StepD} (hc : Cap8 w sB bP bF pB g s SE) (h : Gm w pB tB g X FO L R lv f) (hn : if (i : Int) = s.n then L.length + 1 ≤ n else L.length ≤ n) (hsz : n < 1000000) :
  Calls Tryz.prog 31 #[.int .i64 (i : Int), .pointer (some ⟨sB, 0, none⟩), .pointer (some ⟨bP, 0, none⟩), .pointer (some ⟨bF, 0, none⟩)] w (PlP w pB tB g X FO n f) := by
 obtain ⟨c0, c1, c2, g0, g1, g2, g3, g4, g5, g6⟩ := hc.sb.all
 have pc := hc.pb.cell
 have fc := hc.fb.cell
 have HC := Lib.hid hc
 have HG := Lib.hid h
 clear hc h c0 c2
 by_cases hi : (i : Int) = s.n
 ·rw [if_pos hi] at hn
  have HAd := Lib.hid (padd_any HG.out HC.out.og.ok hn hsz)
  unfold EntD.cells at HAd
  have HN := Lib.hid hi
  rw [← hi] at c1
  clear hn hi
  go_enter Tryz.func31, Tryz.ntmps31
  go_wp2_with fail
  refine HAd.out.mono ?_
  rintro z w' hp
  obtain rfl : z = .returned (.bool true) := hp.1
  have HP := Lib.hid hp
  clear hp
  go_wp2
  go_ret
  exact HP.out
 ·rw [if_neg hi] at hn
  have hi' : ((i : Int) == s.n) = false := by simp; exact hi
  have HN := Lib.hid hn
  clear hn
  go_enter Tryz.func31, Tryz.ntmps31
  go_wp2
  go_ret
  exact PlP.refl HG.out (Below.refl _ _) HN.out
set_option maxRecDepth 100000 in
set_option maxHeartbeats 4000000 in
theorem step2_any {w : World} {pB tB g n sB bP bF i : Nat} {X FO SE : Nat → Prop} {L R : List EntD} {lv : Value} {f : Bool} {s : StepD} (hc : Cap8 w sB bP bF pB g s SE) (h : Gm w pB tB g X FO L R lv f) (hn : L.length ≤ n) (hsz : n < 100000) :
  Calls Tryz.prog 33 #[.int .i64 (i : Int), .pointer (some ⟨sB, 0, none⟩), .pointer (some ⟨bP, 0, none⟩), .pointer (some ⟨bF, 0, none⟩)] w (PlP w pB tB g X FO n f) := by
 obtain ⟨c0, c1, c2, g0, g1, g2, g3, g4, g5, g6⟩ := hc.sb.all
 have pc := hc.pb.cell
 have fc := hc.fb.cell
 have HC := Lib.hid hc
 have HG := Lib.hid h
 clear hc h c0 c2 g0 g1 g2 g3 g4 g5 g6
 by_cases hi : (i : Int) = s.n
 ·have HAd := Lib.hid (pall_any (C := fun _ => False) (J := fun _ => True) HG.out (nothing_doer pB tB g n f) trivial (fun _ h => h.elim) hn (by omega))
  have HN := Lib.hid hi
  rw [← hi] at c1
  clear hn hi
  go_enter Tryz.func33, Tryz.ntmps33
  go_wp2_with fail
  refine HAd.out.mono ?_
  rintro z w' hp
  obtain rfl : z = .returned (.bool true) := hp.1
  have HP := Lib.hid hp
  clear hp
  go_wp2
  go_ret
  exact HP.out
 ·have hi' : ((i : Int) == s.n) = false := by simp; exact hi
  have HN := Lib.hid hn
  clear hn
  go_enter Tryz.func33, Tryz.ntmps33
  go_wp2
  go_ret
  exact PlP.refl HG.out (Below.refl _ _) HN.out
theorem step1_doer {pB tB g m sB bP bF : Nat} {SE : Nat → Prop} {f : Bool} {s : StepD} (hm : m + 1 < 100000) : Doer pB tB g f 31 #[.pointer (some ⟨sB, 0, none⟩), .pointer (some ⟨bP, 0, none⟩), .pointer (some ⟨bF, 0, none⟩)] (fun i => if s.n < (i : Int) then m + 1 else m) (fun i => i = sB ∨ i = bP ∨ i = bF ∨ SE i) (fun w => Cap8 w sB bP bF pB g s SE) := by
 refine ⟨enters_of Tryz.func31 (by kernel_rfl) rfl, fun _ _ h k => h.keptC k, fun i w X FO L R lv hc h _ hl => ?_⟩
 refine step1_any hc h ?_ ?_
 ·repeat' split
  all_goals (repeat' split at hl)
  all_goals omega
 ·split <;> omega
theorem step2_doer {pB tB g m sB bP bF : Nat} {SE : Nat → Prop} {f : Bool} {s : StepD} (hm : m < 100000) : Doer pB tB g f 33 #[.pointer (some ⟨sB, 0, none⟩), .pointer (some ⟨bP, 0, none⟩), .pointer (some ⟨bF, 0, none⟩)] (fun _ => m) (fun i => i = sB ∨ i = bP ∨ i = bF ∨ SE i) (fun w => Cap8 w sB bP bF pB g s SE) :=
 ⟨enters_of Tryz.func33 (by kernel_rfl) rfl, fun _ _ h k => h.keptC k, fun i w X FO L R lv hc h _ hl => step2_any hc h hl hm⟩
end Go.Proofs.YtpabbnddeklpdaaGreat

namespace Go.Proofs.YtpabbnddeklpdaaGreat
open Go.RowKit Go.Shelf
set_option linter.unusedVariables false
set_option linter.unusedSimpArgs false

def PlS (w : World) (pB tB g : Nat) (X FO : Nat → Prop) (n : Nat) (z : Ending) (w' : World) : Prop :=
 z = .returned (.bool true) ∧ ∃ (f' : Bool) (X' FO' : Nat → Prop) (L' R' : List EntD) (lv' : Value), Gm w' pB tB g X' FO' L' R' lv' f' ∧ GoTo w w' pB tB X FO X' FO' ∧ L'.length ≤ n
theorem PlP.s {w V w' : World} {pB tB g n m : Nat} {X FO : Nat → Prop} {f : Bool} {z : Ending} (h : PlP V pB tB g X FO n f z w') (b : Below w.heap.size w V) (hm : n ≤ m) : PlS w pB tB g X FO m z w' := by
 obtain ⟨h1, X', FO', L', R', lv', h2, h3, h4⟩ := h
 exact ⟨h1, f, X', FO', L', R', lv', h2, (GoTo.below b).trans h3, Nat.le_trans h4 hm⟩
theorem PlP.s2 {w V w1 w' : World} {pB tB g n m : Nat} {X FO X' FO' : Nat → Prop} {f : Bool} {z : Ending} (h : PlP w1 pB tB g X' FO' n f z w') (k : GoTo V w1 pB tB X FO X' FO') (b : Below w.heap.size w V) (hm : n ≤ m) : PlS w pB tB g X FO m z w' := by
 obtain ⟨h1, X2, FO2, L', R', lv', h2, h3, h4⟩ := h
 exact ⟨h1, f, X2, FO2, L', R', lv', h2, (GoTo.below b).trans (k.trans h3), Nat.le_trans h4 hm⟩
theorem Gm.cold {w w1 : World} {pB tB g : Nat} {X FO : Nat → Prop} {L R : List EntD} {lv : Value} {f : Bool} (h : Gm w pB tB g X FO L R lv f) (a : Apart tB w w1) {p : Option Addr} {T : BT} (h2 : IsT X w p T) (h3 : T.ord = L) (tb : TBox w1 tB p (L.length : Int) ((pk L : Nat) : Int) true) :
  Gm (w1.setCell ⟨pB, 2, none⟩ (.bool true)) pB tB g X FO L R lv true ∧ GoTo w (w1.setCell ⟨pB, 2, none⟩ (.bool true)) pB tB X FO X FO := by
 have f1 : Fb w w1 (fun k => k = tB) := Fb.of_apart a rfl
 have fs : Fb w1 (w1.setCell ⟨pB, 2, none⟩ (.bool true)) (fun k => k = pB) := Fb.set1F (O := fun k => k = pB) (g := pB) rfl 2 _
 have ft : Fb w (w1.setCell ⟨pB, 2, none⟩ (.bool true)) (fun k => k = pB ∨ k = tB) := (f1.mono (fun i _ e => .inr e)).trans (fs.mono (fun i _ e => .inl e))
 have kX : KpC X w (w1.setCell ⟨pB, 2, none⟩ (.bool true)) := KpC.of_fb ft (fun k hk e => by
  rcases e with e | e
  ·exact h.pl.np (e ▸ hk)
  ·exact h.pl.tab.not (e ▸ hk))
 have kF : KpC FO w (w1.setCell ⟨pB, 2, none⟩ (.bool true)) := KpC.of_fb ft (fun k hk e => by
  rcases e with e | e
  ·exact h.ap k (.inl e) hk
  ·exact h.ap k (.inr (.inl e)) hk)
 have hbx : w1.heap[pB]? = some (.cells #[.pointer (some ⟨tB, 0, none⟩), lv, .bool f] 31 (0, 0)) := (f1.block pB h.pl.plt h.pl.pt).trans h.pl.box
 have hs := ft.size
 refine ⟨⟨⟨by simp [World.setCell, Array.getElem?_modify, hbx], ⟨h.pl.tab.not, h.pl.tab.srt, h.pl.tab.good, h.pl.tab.few, p, T, (fs.block tB tb.lt (fun e => h.pl.pt e.symm)).trans tb, h2.keptC kX, h3⟩, h.pl.ref.keptC kX, h.pl.sm, fun k hk => Nat.lt_of_lt_of_le (h.pl.lt k hk) hs, h.pl.np, h.pl.pt⟩, h.fu.keptC h.fc kF (fun _ h => h), fun k hk => (h.fc k hk).kept kF hk, h.ap⟩, ft.mono (fun i _ e => e.imp id .inl), fun k hk => .inl hk, fun k hk => .inl hk⟩
theorem Cap8.next {V w1 : World} {sB bP bF pB tB g n : Nat} {s : StepD} {SE X FO : Nat → Prop} {f : Bool} {z : Ending} (h : Cap8 V sB bP bF pB g s SE) (he : OkG SE V s.e) (hC : ∀ k, (k = sB ∨ k = bP ∨ k = bF ∨ SE k) → k < V.heap.size ∧ ¬ PlB pB tB X k ∧ ¬ FO k) (hp : PlP V pB tB g X FO n f z w1) :
  ∃ X' FO' L' R' lv', Gm w1 pB tB g X' FO' L' R' lv' f ∧ GoTo V w1 pB tB X FO X' FO' ∧ L'.length ≤ n ∧ Cap8 w1 sB bP bF pB g s SE ∧ OkG SE w1 s.e ∧ (∀ k, (k = sB ∨ k = bP ∨ k = bF ∨ SE k) → k < w1.heap.size ∧ ¬ PlB pB tB X' k ∧ ¬ FO' k) := by
 obtain ⟨-, X', FO', L', R', lv', gm, go, hl⟩ := hp
 have kc : KpC (fun k => k = sB ∨ k = bP ∨ k = bF ∨ SE k) V w1 := KpC.of_fb go.fb (fun k hk e => by
  have h3 := hC k hk
  rcases e with e | e | e
  ·exact h3.2.1 (.inl e)
  ·exact h3.2.1 (.inr (.inl e))
  ·exact h3.2.2 e)
 refine ⟨X', FO', L', R', lv', gm, go, hl, h.keptC kc, he.keptC (kc.mono (fun i hi => .inr (.inr (.inr hi)))), fun k hk => ?_⟩
 have h3 := hC k hk
 refine ⟨Nat.lt_of_lt_of_le h3.1 go.fb.size, fun e => ?_, fun e => ?_⟩
 ·rcases e with e | e | e
  ·exact h3.2.1 (.inl e)
  ·exact h3.2.1 (.inr (.inl e))
  ·rcases go.nx k e with q | q
   ·exact h3.2.1 (.inr (.inr q))
   ·omega
 ·rcases go.nf k e with q | q
  ·exact h3.2.2 q
  ·omega
theorem ps_start (w : World) (pB g : Nat) (s : StepD) : ∃ V, V = ((w.alloc (.cells #[.pointer (some ⟨pB, 0, none⟩)] 24)).alloc (.cells s.cells 40)).alloc (.cells #[.pointer (some ⟨g, 0, none⟩)] 32) ∧ Below w.heap.size w V ∧ V.heap.size = w.heap.size + 3 ∧ Bxd V w.heap.size 24 (.pointer (some ⟨pB, 0, none⟩)) ∧ SBox V (w.heap.size + 1) s ∧ Bxd V (w.heap.size + 2) 32 (.pointer (some ⟨g, 0, none⟩)) := by
 obtain ⟨V1, e1, b1, s1, x1⟩ := bxd_new w 24 (.pointer (some ⟨pB, 0, none⟩))
 have x2 : SBox (V1.alloc (.cells s.cells 40)) V1.heap.size s := World.alloc_heap_new V1 _
 have b2 := (Below.refl V1.heap.size V1).alloc (Nat.le_refl _) (.cells s.cells 40)
 have s2 : (V1.alloc (.cells s.cells 40)).heap.size = V1.heap.size + 1 := by simp
 obtain ⟨V2, e2⟩ : ∃ V2, V2 = V1.alloc (.cells s.cells 40) := ⟨_, rfl⟩
 rw [← e2] at x2 b2 s2
 obtain ⟨V3, e3, b3, s3, x3⟩ := bxd_new V2 32 (.pointer (some ⟨g, 0, none⟩))
 have h3 : V2.heap.size = w.heap.size + 2 := by omega
 rw [s1] at x2; rw [h3] at x3
 exact ⟨V3, by rw [e3, e2, e1], b1.trans ((b2.trans (b3.mono b2.size)).mono b1.size), by omega, x1.later8 (b2.trans (b3.mono b2.size)), x2.later b3, x3⟩
set_option maxRecDepth 100000 in
set_option maxHeartbeats 8000000 in
theorem pstep_any {w : World} {pB tB g n : Nat} {X FO SE : Nat → Prop} {L R : List EntD} {lv : Value} {f : Bool} {s : StepD} (h : Gm w pB tB g X FO L R lv f) (he : OkG SE w s.e) (hg : OkG SE w s.g) (hSE : ∀ k, SE k → k < w.heap.size ∧ ¬ PlB pB tB X k ∧ ¬ FO k) (hn : L.length + 1 ≤ n) (hsz : n < 100000) :
  Calls Tryz.prog 9 #[.pointer (some ⟨pB, 0, none⟩), .agg s.cells, .pointer (some ⟨g, 0, none⟩)] w (PlS w pB tB g X FO n) := by
 obtain ⟨V, hV, bV, sV, xp, xs, xf⟩ := ps_start w pB g s
 have HV := Lib.hid hV
 unfold StepD.cells at HV
 have hGV := h.later bV
 have heV : OkG SE V s.e := he.keptC (KpC.of_below bV)
 have hcap : Cap8 V (w.heap.size + 1) w.heap.size (w.heap.size + 2) pB g s SE := ⟨xs, xp, xf, hg.keptC (KpC.of_below bV)⟩
 have hplt := h.pl.plt
 have htlt := h.pl.tlt
 have hC : ∀ k, (k = w.heap.size + 1 ∨ k = w.heap.size ∨ k = w.heap.size + 2 ∨ SE k) → k < V.heap.size ∧ ¬ PlB pB tB X k ∧ ¬ FO k := fun k hk => by
  have hnew : w.heap.size ≤ k → ¬ PlB pB tB X k ∧ ¬ FO k := fun hk2 => ⟨fun e => by
   rcases e with e | e | e
   ·omega
   ·omega
   ·have := h.pl.lt k e; omega, fun e => by have := (h.fc k e).lt; omega⟩
  rcases hk with e | e | e | e
  ·exact ⟨by omega, hnew (by omega)⟩
  ·exact ⟨by omega, hnew (by omega)⟩
  ·exact ⟨by omega, hnew (by omega)⟩
  ·have := hSE k e
   exact ⟨by omega, this.2⟩
 have HG := Lib.hid (And.intro hGV (And.intro heV (And.intro hcap (And.intro hC (And.intro bV (And.intro hn hsz))))))
 obtain ⟨c0, c1, ⟨e0, e1, e2, e3, e4, e5, e6⟩, -⟩ := xs.all
 have pc := xp.cell
 have fc := xf.cell
 clear h he hg hSE hn hsz hV bV xp xs xf hGV heV hcap hC
 unfold StepD.cells
 go_enter Tryz.func9, Tryz.ntmps9
 go_upto_region 1 with fail
 simp only [Nat.add_assoc, Nat.reduceAdd]
 rw [← HV.out]
 by_cases k1 : s.k = 1
 ·as_aux_lemma =>
   obtain ⟨p, T, h1, h2, h3⟩ := HG.out.1.pl.tab.tree
   have HFz := Lib.hid (freeze_any h1)
   obtain ⟨d0, d1, d2⟩ := HG.out.1.pl.cells
   rw [k1] at c0
   have HK := Lib.hid (And.intro h2 h3)
   clear h1 k1 h2 h3
   go_wp2_with fail
   refine HFz.out.mono ?_
   rintro z w1 ⟨⟨v1, rfl⟩, tb1, ap1⟩
   have hb1 : w1.heap[pB]? = V.heap[pB]? := ap1.block pB HG.out.1.pl.plt HG.out.1.pl.pt
   have hbx := hb1.trans HG.out.1.pl.box
   have hpb : Bxd w1 w.heap.size 24 (.pointer (some ⟨pB, 0, none⟩)) := HG.out.2.2.1.pb.keep (ap1.block _ HG.out.2.2.1.pb.lt (by omega))
   have pc2 := hpb.cell
   have z2 : w1.cell? ⟨pB, 2, none⟩ = some (.bool f) := by simp [World.cell?, hbx]
   have z3 : w1.frozen? ⟨pB, 2, none⟩ = false := by simp [World.frozen?, hbx]
   have HT := Lib.hid (And.intro tb1 ap1)
   clear tb1 ap1 hb1 hbx hpb pc HFz d0 d1 d2 c0
   go_wp2
   go_ret
   obtain ⟨gm, go⟩ := HG.out.1.cold HT.out.2 HK.out.1 HK.out.2 HT.out.1
   exact ⟨rfl, true, X, FO, L, R, lv, gm, (GoTo.below HG.out.2.2.2.2.1).trans go, by have := HG.out.2.2.2.2.2.1; omega⟩
 by_cases k2 : s.k = 2
 ·as_aux_lemma =>
   rw [k2] at c0
   clear k2
   have HGi := Lib.hid (pgives_any (N := -1) (C := fun _ => False) (J := fun _ => True) (cm := n) HG.out.1 HG.out.2.1.ok (nothing_doer pB tB g n f) trivial (fun _ h => h.elim) (by have := HG.out.2.2.2.2.2; omega) (fun _ => Nat.le_refl _) (by have := HG.out.2.2.2.2.2; omega))
   unfold EntD.cells at HGi
   clear c1
   go_wp2_with fail
   refine HGi.out.mono ?_
   rintro z w1 hp
   obtain rfl : z = .returned (.bool true) := hp.1
   have HP := Lib.hid hp
   clear hp
   go_wp2
   go_ret
   exact HP.out.s HG.out.2.2.2.2.1 (Nat.le_refl _)
 by_cases k3 : s.k = 3
 ·as_aux_lemma =>
   rw [k3] at c0
   clear k3
   have HGi := Lib.hid (pgives_any (N := s.n) (C := fun _ => False) (J := fun _ => True) (cm := n) HG.out.1 HG.out.2.1.ok (nothing_doer pB tB g n f) trivial (fun _ h => h.elim) (by have := HG.out.2.2.2.2.2; omega) (fun _ => Nat.le_refl _) (by have := HG.out.2.2.2.2.2; omega))
   unfold EntD.cells at HGi
   go_wp2_with fail
   refine HGi.out.mono ?_
   rintro z w1 hp
   obtain rfl : z = .returned (.bool true) := hp.1
   obtain ⟨X', FO', L', R', lv', gm, go, hl, cap, oke, hC'⟩ := HG.out.2.2.1.next HG.out.2.1 HG.out.2.2.2.1 hp
   have HN := Lib.hid (And.intro gm (And.intro go (And.intro hl (And.intro cap oke))))
   obtain ⟨z0, z1, ⟨z2, z3, z4, z5, z6, z7, z8⟩, -⟩ := cap.sb.all
   have pc2 := cap.pb.cell
   have fc2 := cap.fb.cell
   clear hp gm go hl cap oke hC' c0 c1 e0 e1 e2 e3 e4 e5 e6 pc fc
   have HGj := Lib.hid (pgives_any (N := -1) (C := fun _ => False) (J := fun _ => True) (cm := n) HN.out.1 HN.out.2.2.2.2.ok (nothing_doer pB tB g n f) trivial (fun _ h => h.elim) HN.out.2.2.1 (fun _ => Nat.le_refl _) (by have := HN.out.2.2.1; have := HG.out.2.2.2.2.2; omega))
   unfold EntD.cells at HGj
   go_wp2_with fail
   refine HGj.out.mono ?_
   rintro z w2 hp
   obtain rfl : z = .returned (.bool true) := hp.1
   have HP := Lib.hid hp
   clear hp
   go_wp2
   go_ret
   exact HP.out.s2 HN.out.2.1 HG.out.2.2.2.2.1 (Nat.le_refl _)
 by_cases k4 : s.k = 4
 ·as_aux_lemma =>
   rw [k4] at c0
   clear k4
   have HAl := Lib.hid (pall_any (C := fun _ => False) (J := fun _ => True) HG.out.1 (nothing_doer pB tB g n f) trivial (fun _ h => h.elim) (by have := HG.out.2.2.2.2.2; omega) (by have := HG.out.2.2.2.2.2; omega))
   go_wp2_with fail
   refine HAl.out.mono ?_
   rintro z w1 hp
   obtain rfl : z = .returned (.bool true) := hp.1
   have HP := Lib.hid hp
   clear hp
   go_wp2
   go_ret
   exact HP.out.s HG.out.2.2.2.2.1 (Nat.le_refl _)
 by_cases k5 : s.k = 5
 ·as_aux_lemma =>
   rw [k5] at c0
   clear k5
   have HAl := Lib.hid (pall_any (C := fun k => k = w.heap.size + 1 ∨ k = w.heap.size ∨ k = w.heap.size + 2 ∨ SE k) HG.out.1 (step1_doer (m := L.length) (s := s) (f := f) (by have := HG.out.2.2.2.2.2; omega)) HG.out.2.2.1 HG.out.2.2.2.1 (by split <;> omega) (by have := HG.out.2.2.2.2.2; omega))
   have hcn : (if s.n < (R.length : Int) then L.length + 1 else L.length) ≤ n := by have := HG.out.2.2.2.2.2.1; split <;> omega
   go_wp2_with fail
   refine HAl.out.mono ?_
   rintro z w1 hp0
   have hp := hp0.mono hcn
   clear hp0 hcn
   obtain rfl : z = .returned (.bool true) := hp.1
   obtain ⟨X', FO', L', R', lv', gm, go, hl, cap, oke, hC'⟩ := HG.out.2.2.1.next HG.out.2.1 HG.out.2.2.2.1 hp
   have HN := Lib.hid (And.intro gm (And.intro go (And.intro hl (And.intro cap oke))))
   obtain ⟨z0, z1, ⟨z2, z3, z4, z5, z6, z7, z8⟩, -⟩ := cap.sb.all
   have pc2 := cap.pb.cell
   have fc2 := cap.fb.cell
   clear hp gm go hl cap oke hC' c0 c1 e0 e1 e2 e3 e4 e5 e6 pc fc
   have HAm := Lib.hid (pall_any (C := fun _ => False) (J := fun _ => True) HN.out.1 (nothing_doer pB tB g n f) trivial (fun _ h => h.elim) HN.out.2.2.1 (by have := HN.out.2.2.1; have := HG.out.2.2.2.2.2; omega))
   go_wp2_with fail
   refine HAm.out.mono ?_
   rintro z w2 hp
   obtain rfl : z = .returned (.bool true) := hp.1
   have HP := Lib.hid hp
   clear hp
   go_wp2
   go_ret
   exact HP.out.s2 HN.out.2.1 HG.out.2.2.2.2.1 (Nat.le_refl _)
 by_cases k6 : s.k = 6
 ·as_aux_lemma =>
   rw [k6] at c0
   clear k6
   have HGi := Lib.hid (pgives_any (N := -1) (C := fun k => k = w.heap.size + 1 ∨ k = w.heap.size ∨ k = w.heap.size + 2 ∨ SE k) (cm := n) HG.out.1 HG.out.2.1.ok (step2_doer (m := n) (s := s) (f := f) (by have := HG.out.2.2.2.2.2; omega)) HG.out.2.2.1 HG.out.2.2.2.1 (by have := HG.out.2.2.2.2.2; omega) (fun _ => Nat.le_refl _) (by have := HG.out.2.2.2.2.2; omega))
   unfold EntD.cells at HGi
   go_wp2_with fail
   refine HGi.out.mono ?_
   rintro z w1 hp
   obtain rfl : z = .returned (.bool true) := hp.1
   have HP := Lib.hid hp
   clear hp
   go_wp2
   go_ret
   exact HP.out.s HG.out.2.2.2.2.1 (Nat.le_refl _)
 have n1 : (s.k == 1) = false := by simp; exact k1
 have n2 : (s.k == 2) = false := by simp; exact k2
 have n3 : (s.k == 3) = false := by simp; exact k3
 have n4 : (s.k == 4) = false := by simp; exact k4
 have n5 : (s.k == 5) = false := by simp; exact k5
 have n6 : (s.k == 6) = false := by simp; exact k6
 have HAd := Lib.hid (padd_any HG.out.1 HG.out.2.1.ok HG.out.2.2.2.2.2.1 (by have := HG.out.2.2.2.2.2; omega))
 unfold EntD.cells at HAd
 clear k1 k2 k3 k4 k5 k6
 go_wp2_with fail
 refine HAd.out.mono ?_
 rintro z w1 hp
 obtain rfl : z = .returned (.bool true) := hp.1
 have HP := Lib.hid hp
 clear hp
 go_wp2
 go_ret
 exact HP.out.s HG.out.2.2.2.2.1 (Nat.le_refl _)
end Go.Proofs.YtpabbnddeklpdaaGreat
