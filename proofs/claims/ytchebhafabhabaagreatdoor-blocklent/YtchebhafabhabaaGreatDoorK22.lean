import Derived.Test.YtchebhafabhabaaGreatDoorK21
namespace Go.Proofs.YtchebhafabhabaaGreatDoor
open Go.RowKit Go.Shelf
set_option linter.unusedVariables false
attribute [local go_sem] Oper.semAt_some

theorem two_tells (W : World) (v : Value) : ∃ X, X = (W.alloc (.cells #[v] 22)).alloc (.cells #[.bool false] 4) ∧ Below W.heap.size W X ∧ X.heap.size = W.heap.size + 2 ∧ Cell1B X W.heap.size v 22 ∧ Cell1B X (W.heap.size + 1) (.bool false) 4 := by
 refine ⟨_, rfl, ((Below.refl W.heap.size W).alloc (Nat.le_refl _) _).alloc (by simp) _, by simp, Cell1B.later (heap_alloc_new W _) ((Below.refl _ _).alloc (Nat.le_refl _) _), ?_⟩
 have := heap_alloc_new (W.alloc (.cells #[v] 22)) (.cells #[.bool false] 4)
 rwa [World.size_alloc] at this
set_option maxRecDepth 100000 in
set_option maxHeartbeats 8000000 in
theorem tells5_any {W : World} {g r b ne ce np cp B : Nat} {E P key : List Nat} {a ak : Option Addr} {cap kn kc : Nat} {zs : List EntD} (hL : Blad r (kvL zs) E P) (hk : Lk W B g r (kvL zs).length b ne ce E P np cp) (hr : RdL5 W a cap zs) (hck : ∀ e ∈ zs, checkS e = 0) (hkey : Rd W (.slice ak kn kc) key) :
  Calls Tryz.prog 38 #[.pointer (some ⟨g, 0, none⟩), .slice a zs.length cap, .slice ak kn kc] W fun x w' => x = .returned (.bool true) ∧ Below W.heap.size W w' := by
 have hne0 : zs ≠ [] := fun h => hL.some_ (by rw [h]; rfl)
 obtain ⟨bz, oz, ham⟩ : ∃ bz oz, a = some ⟨bz, oz, none⟩ := by
  rcases hr.at_ with k | ⟨bz, oz, k, -⟩
  ·exact absurd k hne0
  ·exact ⟨bz, oz, k⟩
 subst ham
 obtain ⟨mz, hmz⟩ : ∃ mz, zs.length = mz := ⟨_, rfl⟩
 rw [hmz]
 obtain ⟨X0, hX0, A0, hsX, C4, C6⟩ := two_tells W (.slice (some ⟨bz, oz, none⟩) mz cap)
 have HX0 := Lib.hid hX0
 have HMz := Lib.hid hmz
 have hkl : ((kvL zs).length : Int) = (mz : Int) := by rw [kvL_len, hmz]
 have hfew := hL.few
 have hsz := hL.size
 have hmz17 : mz ≤ 131072 := by rw [kvL_len] at hfew; omega
 have hmz0 : 0 < mz := by rw [← hmz]; exact List.length_pos_iff.2 hne0
 have HLa := Lib.hid hL
 have HLk := Lib.hid (show Lk X0 B g r (kvL zs).length b ne ce E P np cp from ⟨hk.box.later A0, hk.ents.later A0, hk.pls.later A0, hk.bg, hk.bb, hk.ne⟩)
 have HZ := Lib.hid (And.intro (hr.later A0) (And.intro hck hne0))
 have HKey := Lib.hid (hkey.later A0)
 have HC4 := Lib.hid C4
 have HC6 := Lib.hid C6
 have HA0 := Lib.hid A0
 have HLn : Hid (∀ Z, Below X0.heap.size X0 Z → Calls Tryz.prog 29 #[.pointer (some ⟨g, 0, none⟩)] Z fun e w' => e = .returned (.int .i64 (mz : Int)) ∧ w' = Z) := fun Z bz => by
  have h := len5_any (HLk.out.box.later bz)
  rw [hkl] at h
  exact h
 have HSk : Hid (∀ Z, Below X0.heap.size X0 Z → Calls Tryz.prog 30 #[.pointer (some ⟨g, 0, none⟩), .slice ak kn kc] Z fun e w' => (∃ n : Nat, e = .returned (.int .i64 (n : Int)) ∧ SkA (kvL zs) key n) ∧ Below Z.heap.size Z w') := fun Z bz => seek_any hL (show Lk Z B g r (kvL zs).length b ne ce E P np cp from ⟨HLk.out.box.later bz, HLk.out.ents.later bz, HLk.out.pls.later bz, hk.bg, hk.bb, hk.ne⟩) (HKey.out.later bz)
 have HRk : Hid (∀ Z, Below X0.heap.size X0 Z → Calls Tryz.prog 31 #[.slice (some ⟨bz, oz, none⟩) mz cap, .slice ak kn kc] Z fun e w' => (∃ n : Nat, e = .returned (.int .i64 (n : Int)) ∧ SkA (kvL zs) key n) ∧ Below Z.heap.size Z w') := fun Z bz => by
  have h := refSeek5_any (HZ.out.1.later bz) hck hL.up (HKey.out.later bz) (by omega)
  rw [hmz] at h
  exact h
 have hmx : Tryz.prog.follows .mixedOrders = true := by kernel_rfl
 have hsq := seq_nil5 73
 have c4 := C4.cell
 clear hX0 hL hk hr hck hkey C4 C6 A0 hmz hkl hne0
 refine (callsIn_wide (n := 9)).1 ?_
 refine callsIn_of_wp_marks Tryz.func38 rfl trivial ?_ rfl
 simp only [Tryz.ntmps38, List.size_toArray, List.length_cons, List.length_nil, Nat.reduceAdd, Nat.reduceSub, Array.replicate_succ, Array.replicate_zero, List.push_toArray, List.append_toArray, List.nil_append, List.cons_append]
 gi_wp2_with fail
 rw [← HX0.out]
 clear HX0
 refine wpIn_wide.2 ?_
 have D0 : Below X0.heap.size X0 X0.drew := (Below.refl _ _).drew
 have c4d := (HC4.out.later D0).cell
 go_region_held3 (fun w' => w'.cell? ⟨W.heap.size, 0, none⟩ = some (.slice (some ⟨bz, oz, none⟩) mz cap)) (first | exact c4d | exact c41 | exact c42 | exact c43 | assumption) (first
  | (go_at_call 32; refine (all5_any (g := g)).mono ?_; rintro z w1 ⟨rfl, rfl⟩; have D1 := D0.alloc D0.size (.cells #[.pointer (some ⟨g, 0, none⟩)] 58); have c41 := (HC4.out.later D1).cell)
  | (go_at_call 29; refine (HLn.out _ D1).mono ?_; rintro z w2 ⟨rfl, rfl⟩)
  | (go_at_call 30; refine (HSk.out _ D1).mono ?_; rintro z w3 ⟨⟨n1, rfl, s1⟩, b3⟩; have D2 := D1.trans (b3.mono D1.size); have c42 := (HC4.out.later D2).cell)
  | (go_at_call 31; refine (HRk.out _ D2).mono ?_; rintro z w4 ⟨⟨n2, rfl, s2⟩, b4⟩; have D3 := D2.trans (b4.mono D2.size); have c43 := (HC4.out.later D3).cell; obtain rfl := skA_one s1 s2))
 obtain ⟨Y5, hY5⟩ : ∃ Y5, Y5 = w4 := ⟨_, rfl⟩
 rw [← hY5] at D3 ⊢
 have HLk5 := Lib.hid (show Lk Y5 B g r (kvL zs).length b ne ce E P np cp from ⟨HLk.out.box.later D3, HLk.out.ents.later D3, HLk.out.pls.later D3, HLk.out.bg, HLk.out.bb, HLk.out.ne⟩)
 have HZ5 := Lib.hid (And.intro (HZ.out.1.later D3) HZ.out.2)
 have HC45 := Lib.hid (HC4.out.later D3)
 have HC65 := Lib.hid (HC6.out.later D3)
 have HB5 := Lib.hid (HA0.out.trans (D3.mono HA0.out.size))
 clear hY5 s1 s2 b3 b4 D0 D1 D2 D3 c4 c4d c41 c42 c43 HSk HRk HLn hsq hsX HLk HZ HC4 HC6 HA0 HKey
 gi_wp2_with fail
 refine ⟨trivial, ?_⟩
 refine (callsIn_wide.2 (all5_any (g := g))).mono ?_
 rintro z W7 ⟨rfl, rfl⟩
 gi_wp2_with fail
 have A6 := (Below.refl Y5.heap.size Y5).alloc (Nat.le_refl _) (.cells #[.int .i64 0] 3)
 have A7 := A6.alloc A6.size (.cells #[.pointer (some ⟨g, 0, none⟩)] 58)
 have q1 : Cell1B ((Y5.alloc (.cells #[.int .i64 0] 3)).alloc (.cells #[.pointer (some ⟨g, 0, none⟩)] 58)) Y5.heap.size (.int .i64 0) 3 := Cell1B.later (heap_alloc_new Y5 _) ((Below.refl _ _).alloc (Nat.le_refl _) _)
 have q2 : Cell1B ((Y5.alloc (.cells #[.int .i64 0] 3)).alloc (.cells #[.pointer (some ⟨g, 0, none⟩)] 58)) (Y5.heap.size + 1) (.pointer (some ⟨g, 0, none⟩)) 58 := by
  have := heap_alloc_new (Y5.alloc (.cells #[.int .i64 0] 3)) (.cells #[.pointer (some ⟨g, 0, none⟩)] 58)
  rwa [World.size_alloc] at this
 have q3 : (((Y5.alloc (.cells #[.int .i64 0] 3)).alloc (.cells #[.pointer (some ⟨g, 0, none⟩)] 58))).heap.size = Y5.heap.size + 2 := by simp
 generalize ((Y5.alloc (.cells #[.int .i64 0] 3)).alloc (.cells #[.pointer (some ⟨g, 0, none⟩)] 58)) = V at *
 have hg9 : g < Y5.heap.size := (Array.getElem?_eq_some_iff.1 HLk5.out.box).1
 have hEn : E ≠ [] := by
  intro h
  have := HLa.out.few
  rw [h] at this
  exact HLa.out.some_ (List.eq_nil_of_length_eq_zero (by simpa using this))
 have hbb9 : b < Y5.heap.size := World.block_lt_of_cell? _ _ (rd_cell HLk5.out.ents 0 (by rw [(rd_lens HLk5.out.ents).1]; exact List.length_pos_iff.2 hEn)).1
 have hseq := all_seq (i0 := Y5.heap.size) HLa.out (show Lk V B g r (kvL zs).length b ne ce E P np cp from ⟨HLk5.out.box.later A7, HLk5.out.ents.later A7, HLk5.out.pls.later A7, HLk5.out.bg, HLk5.out.bb, HLk5.out.ne⟩) q2 (by omega) (by omega) (by omega)
 have HA7 := Lib.hid A7
 have hglY : W.heap.size + 1 < Y5.heap.size := HC65.out.lt
 clear A6 A7 hEn q2
 refine range_t (w := V) rfl (enters_of Tryz.func73 (by kernel_rfl) rfl) (encs := fun x : EntD => #[.agg x.cells]) hseq (fun h k => h.trans k) (fun X o o' ho hc => Fb.of_grown (grownBy_putObj' X _ o') (fun i e => by cases e; exact .inr rfl)) (fun _ => rfl)
  (fun pre X => Below Y5.heap.size Y5 X ∧ Cell1B X Y5.heap.size (.int .i64 (pre.length : Int)) 3 ∧ V.heap.size ≤ X.heap.size)
  (fun c pre X => False)
  (fun s X h => h.2.2)
  (fun s X Z hX ⟨h1, h2, h3⟩ b => ⟨h1.trans (b.mono (by omega)), h2.keepB b (by omega), Nat.le_trans h3 b.size⟩)
  (fun c s X Z hX h b => h)
  ⟨HA7.out, q1, Nat.le_refl _⟩
  (fun pre x a' X => ∃ Bx, V.heap.size ≤ Bx ∧ EBox X Bx x ∧ YG (kvL zs) pre x X ∧ a' = { tmps := #[Value.pointer (some ⟨g, 0, none⟩), Value.slice (some ⟨bz, oz, none⟩) mz cap, Value.slice ak kn kc, undef, Value.pointer (some ⟨W.heap.size, 0, none⟩), undef, Value.pointer (some ⟨W.heap.size + 1, 0, none⟩), Value.pointer (some ⟨Y5.heap.size, 0, none⟩), .pointer (some ⟨Bx, 0, none⟩), undef, undef, undef, Value.pointer (some ⟨g, 0, none⟩), Value.bool false, Value.bool false, Value.pointer (some ⟨g, 0, none⟩), Value.func (Fn.func 73) #[] #[Value.pointer (some ⟨W.heap.size + 2, 0, none⟩)], Value.bool false, Value.bool false, Value.bool false, Value.pointer (some ⟨g, 0, none⟩), Value.int IntKind.i64 (mz : Int), Value.slice (some ⟨bz, oz, none⟩) mz cap, Value.int IntKind.i64 (mz : Int), Value.bool false, Value.bool false, Value.bool false, Value.pointer (some ⟨g, 0, none⟩), Value.slice ak kn kc, Value.int IntKind.i64 (n1 : Int), Value.slice (some ⟨bz, oz, none⟩) mz cap, Value.slice ak kn kc, Value.int IntKind.i64 (n1 : Int), Value.bool false, Value.bool false, Value.pointer (some ⟨g, 0, none⟩), Value.func (Fn.func 73) #[] #[Value.pointer (some ⟨Y5.heap.size + 1, 0, none⟩)], .agg x.cells, undef, undef, undef, undef, undef, undef, undef, undef, undef, undef, undef, undef, undef, undef, undef, undef, undef, undef, undef, undef, undef, undef, undef, undef, undef, undef, undef, undef, undef, undef, undef, undef, undef, undef, undef, undef, undef, undef, undef, undef, undef, undef], defers := [] })
  (fun pre x a' X o o' ho hc ⟨Bx, k0, k1, k2, k3⟩ => ⟨Bx, k0, k1.putN o' ho hc, ⟨k2.1, k2.2.1.putN o' ho hc, k2.2.2⟩, k3⟩)
  ?assign ?body ?done ?stop (fun c s X h => h.elim) (fun c s X h => h)
 case assign =>
  intro l' pre x X K hi hsX hgd hK
  obtain ⟨vr, fam, vq, ts, seq, kind, vv, row, qual, val⟩ := x
  have r1' : Rd X vr row := hgd.2.1.1
  have r2' : Rd X vq qual := hgd.2.1.2.1
  have r3' : Rd X vv val := hgd.2.1.2.2
  obtain ⟨ar, nr, cr, rfl⟩ := rd_slice r1'
  obtain ⟨aq, nq, cq, rfl⟩ := rd_slice r2'
  obtain ⟨av, nv, cv, rfl⟩ := rd_slice r3'
  have hbb := (Below.refl X.heap.size X).alloc (Nat.le_refl _) (.cells (EntD.mk (.slice ar nr cr) fam (.slice aq nq cq) ts seq kind (.slice av nv cv) row qual val).cells 40)
  have HIt : Hid (Below Y5.heap.size Y5 _ ∧ Cell1B _ Y5.heap.size (.int .i64 (pre.length : Int)) 3 ∧ V.heap.size ≤ _) := ⟨hi.1.trans (hbb.mono (by omega)), hi.2.1.later hbb, Nat.le_trans hi.2.2 hbb.size⟩
  have HYg : Hid (YG (kvL zs) pre _ _) := ⟨hgd.1, hgd.2.1.later hbb, hgd.2.2⟩
  have HKp : Hid (Fb X _ (fun k => k = Y5.heap.size ∨ k = V.heap.size + 1)) := Fb.of_below hbb
  have HX : Hid (EBox (X.alloc (.cells (EntD.mk (.slice ar nr cr) fam (.slice aq nq cq) ts seq kind (.slice av nv cv) row qual val).cells 40)) X.heap.size _) := EBox.new X _
  have hsX' : V.heap.size ≤ X.heap.size := by omega
  clear hbb hi hgd r1' r2' r3' hseq
  simp only [EntD.cells] at *
  gi_wp2
  exact hK _ _ ((KeepsOthers.alloc _ _).from _) HKp.out HIt.out ⟨X.heap.size, hsX', HX.out, HYg.out, rfl⟩
 case body =>
  rintro l' pre x a' X ⟨h1, h2, h3⟩ ⟨Bx, hBx, bx, hyg, rfl⟩
  obtain ⟨n, hn⟩ : ∃ n, n = pre.length := ⟨_, rfl⟩
  rw [← hn] at h2
  obtain ⟨⟨kv, hkv, hkx, hvx⟩, hxo, hxc⟩ := hyg
  rw [← hn] at hkv
  have hnl : n < zs.length := by
   have := (List.getElem?_eq_some_iff.1 hkv).1
   rwa [kvL_len] at this
  obtain ⟨y, hy⟩ : ∃ y, zs[n]? = some y := ⟨_, List.getElem?_eq_getElem hnl⟩
  have hym : y ∈ zs := List.mem_of_getElem? hy
  have hsame : EntD.Same x y := by
   have e := kvL_at hy
   rw [hkv] at e
   cases e
   exact same_key hxc (HZ5.out.2.1 y hym) hkx hvx
  have hrdX := HZ5.out.1.later h1
  have hcs : ∀ (j : Nat) u, y.cells.toList[j]? = some u → X.cell? ⟨bz, oz + n * 7 + j, none⟩ = some u := by
   rcases hrdX.at_ with k | ⟨b', o', e', hc'⟩
   ·exact absurd k HZ5.out.2.2
   ·cases e'
    exact hc' n y hy
  have hnm : (n : Int) < (mz : Int) := by have := HMz.out; omega
  have hn0 : (0 : Int) ≤ (n : Int) := by omega
  have d1 : decide ((mz : Int) ≤ (n : Int)) = false := by simp; omega
  have d2 : decide (mz ≤ n) = false := by simp; omega
  have HWn : Hid (wrap64 ((n : Int) + 1) = (n : Int) + 1 ∧ IntKind.i64.wrap ((n : Int) + 1) = (n : Int) + 1) := ⟨wrap64I5 _ (by omega) (by omega), wrapI5 _ (by omega) (by omega)⟩
  have hyo : EntD.Ok X y := hrdX.ok y hym
  have HSe : Hid (∀ Z, Below X.heap.size X Z → Calls Tryz.prog 33 #[.agg #[x.vr, .int .i64 x.fam, x.vq, .int .i64 x.ts, .int .i64 x.seq, .int .i64 x.kind, x.vv], .agg #[y.vr, .int .i64 y.fam, y.vq, .int .i64 y.ts, .int .i64 y.seq, .int .i64 y.kind, y.vv]] Z fun r w' => r = .returned (.bool true) ∧ Below Z.heap.size Z w') := fun Z b => by
   refine (se_any (hxo.later b) (hyo.later b)).mono ?_
   rintro r w' ⟨rfl, hb⟩
   rw [decide_eq_true hsame]
   exact ⟨rfl, hb⟩
  have nc := h2.cell
  have wc := (HC45.out.keepB h1 (by omega)).cell
  obtain ⟨c0, c1, c2', c3, c4, c5, c6⟩ := (⟨bx.vr, bx.fam, bx.vq, bx.ts, bx.seq, bx.kind, bx.vv⟩ : _ ∧ _ ∧ _ ∧ _ ∧ _ ∧ _ ∧ _)
  have e0 := hcs 0 _ rfl
  have e1 := hcs 1 _ rfl
  have e2 := hcs 2 _ rfl
  have e3 := hcs 3 _ rfl
  have e4 := hcs 4 _ rfl
  have e5 := hcs 5 _ rfl
  have e6 := hcs 6 _ rfl
  have HI2 : Hid (Below Y5.heap.size Y5 X ∧ Cell1B X Y5.heap.size (.int .i64 (n : Int)) 3 ∧ V.heap.size ≤ X.heap.size ∧ n = pre.length) := ⟨h1, h2, h3, hn⟩
  have D0 : Below X.heap.size X X.drew := (Below.refl _ _).drew
  unfold EntD.cells
  simp only [Nat.add_zero] at e0
  clear h1 h2 hn hkv hkx hvx hxo hxc hy hym hsame hrdX hcs hyo bx hseq
  gi_wp2_with fail
  refine wpIn_mono (Q := fun e a' w' => match e with | .normal => a' = ({ tmps := #[Value.pointer (some ⟨g, 0, none⟩), Value.slice (some ⟨bz, oz, none⟩) mz cap, Value.slice ak kn kc, undef, Value.pointer (some ⟨W.heap.size, 0, none⟩), undef, Value.pointer (some ⟨W.heap.size + 1, 0, none⟩), Value.pointer (some ⟨Y5.heap.size, 0, none⟩), .pointer (some ⟨Bx, 0, none⟩), undef, undef, undef, Value.pointer (some ⟨g, 0, none⟩), Value.bool false, Value.bool false, Value.pointer (some ⟨g, 0, none⟩), Value.func (Fn.func 73) #[] #[Value.pointer (some ⟨W.heap.size + 2, 0, none⟩)], Value.bool false, Value.bool false, Value.bool false, Value.pointer (some ⟨g, 0, none⟩), Value.int IntKind.i64 (mz : Int), Value.slice (some ⟨bz, oz, none⟩) mz cap, Value.int IntKind.i64 (mz : Int), Value.bool false, Value.bool false, Value.bool false, Value.pointer (some ⟨g, 0, none⟩), Value.slice ak kn kc, Value.int IntKind.i64 (n1 : Int), Value.slice (some ⟨bz, oz, none⟩) mz cap, Value.slice ak kn kc, Value.int IntKind.i64 (n1 : Int), Value.bool false, Value.bool false, Value.pointer (some ⟨g, 0, none⟩), Value.func (Fn.func 73) #[] #[Value.pointer (some ⟨Y5.heap.size + 1, 0, none⟩)], .agg #[x.vr, .int .i64 x.fam, x.vq, .int .i64 x.ts, .int .i64 x.seq, .int .i64 x.kind, x.vv], .int .i64 (n : Int), .slice (some ⟨bz, oz, none⟩) mz cap, .int .i64 (mz : Int), .bool false, .bool false, .agg #[x.vr, .int .i64 x.fam, x.vq, .int .i64 x.ts, .int .i64 x.seq, .int .i64 x.kind, x.vv], .slice (some ⟨bz, oz, none⟩) mz cap, .int .i64 (n : Int), .pointer (some ⟨bz, oz + n * 7, none⟩), .agg #[y.vr, .int .i64 y.fam, y.vq, .int .i64 y.ts, .int .i64 y.seq, .int .i64 y.kind, y.vv], .bool true, .bool false, .bool false, undef, undef, undef, undef, undef, undef, undef, undef, undef, undef, undef, undef, undef, undef, undef, undef, undef, undef, undef, undef, undef, undef, undef, undef, undef, undef, undef, undef, undef], defers := [] } : Act) ∧ Below X.heap.size X w' | _ => False) ?_ ?_
  ·gi_region_with_o (refine ⟨trivial, ?_⟩; gi_at_call 33; refine (CallsIn.inRound l' (callsIn_wide.2 (HSe.out _ D0))).mono ?_; rintro z w1 ⟨rfl, hb1⟩; have D1 := D0.trans (hb1.mono D0.size))
   all_goals exact ⟨rfl, D1⟩
  ·rintro e a' Y hq
   cases e with
   | normal =>
    obtain ⟨rfl, hbY⟩ := hq
    have nc := (HI2.out.2.1.later hbY).cell
    have nf := (HI2.out.2.1.later hbY).fz
    have HEnd : Hid (KeepsFrom V.heap.size X (Y.setCell ⟨Y5.heap.size, 0, none⟩ (.int .i64 ((n : Int) + 1))) ∧ Fb X (Y.setCell ⟨Y5.heap.size, 0, none⟩ (.int .i64 ((n : Int) + 1))) (fun k => k = Y5.heap.size ∨ k = V.heap.size + 1) ∧ Below Y5.heap.size Y5 (Y.setCell ⟨Y5.heap.size, 0, none⟩ (.int .i64 ((n : Int) + 1))) ∧ Cell1B (Y.setCell ⟨Y5.heap.size, 0, none⟩ (.int .i64 ((n : Int) + 1))) Y5.heap.size (.int .i64 ((pre ++ [x]).length : Int)) 3 ∧ V.heap.size ≤ (Y.setCell ⟨Y5.heap.size, 0, none⟩ (.int .i64 ((n : Int) + 1))).heap.size) := by
     obtain ⟨z1, z2, z3, z4⟩ := HI2.out
     have hKO : KeepsOthers X (Y.setCell ⟨Y5.heap.size, 0, none⟩ (.int .i64 ((n : Int) + 1))) := ⟨by rw [World.size_setCell]; exact hbY.size, fun i o hi ho => (KeepsOthers.setCell Y ⟨Y5.heap.size, 0, none⟩ (.int .i64 ((n : Int) + 1))).same i o ((hbY.block i (Array.getElem?_eq_some_iff.1 hi).1).trans hi) ho⟩
     refine ⟨hKO.from _, (Fb.of_below hbY).trans (Fb.set1 (.inl rfl) _), (z1.trans (hbY.mono z1.size)).setCell (p := ⟨Y5.heap.size, 0, none⟩) (Nat.le_refl _) _, ?_, Nat.le_trans z3 hKO.size⟩
     have := (z2.later hbY).set (.int .i64 ((n : Int) + 1))
     rw [List.length_append, ← z4]
     exact this
    have hwn := HWn.out.1
    have hwn2 := HWn.out.2
    clear wc c0 c1 c2' c3 c4 c5 c6 e0 e1 e2 e3 e4 e5 e6 D0 HSe hbY d1 d2 HI2
    gi_wp2
    exact HEnd.out
   | panic c => exact hq.elim
   | ret => exact hq.elim
   | exit id => exact hq.elim
   | goto t => exact hq.elim
   | outgrown => exact hq.elim
 case done =>
  rintro D xs X hD hS ⟨h1, h2, h3⟩ hdf
  rw [hS, kvL_len, HMz.out] at h2
  have hXW : Below W.heap.size W X := HB5.out.trans (h1.mono HB5.out.size)
  have HXW := Lib.hid hXW
  have HI := Lib.hid h2
  have HDf := Lib.hid (And.intro hdf hD)
  have HC4x := Lib.hid (HC45.out.keepB h1 (by omega))
  have HC6x := Lib.hid (HC65.out.keepB h1 hglY)
  have HZx := Lib.hid (And.intro (HZ5.out.1.later h1) HZ5.out.2)
  have HLkx := Lib.hid (show Lk X B g r (kvL zs).length b ne ce E P np cp from ⟨HLk5.out.box.later h1, HLk5.out.ents.later h1, HLk5.out.pls.later h1, HLk5.out.bg, HLk5.out.bb, HLk5.out.ne⟩)
  have hYX : Y5.heap.size + 2 ≤ X.heap.size := by omega
  clear hXW h1 h2 hdf hseq hS q1 HA7 HC45 HC65 HZ5 HLk5 HB5
  gi_wp2
  gi_loopw [9, 10, 11] (fun jv _ _ wr => ∃ k : Nat, k ≤ mz ∧ jv = .int .i64 (k : Int) ∧ Hid (Below X.heap.size X wr)) (fun jv _ _ _ => mz - (intOf jv).toNat)
  case atStart => exact ⟨0, Nat.zero_le _, rfl, Below.refl _ _⟩
  case round =>
   obtain ⟨k, hk, rfl, HU⟩ := hrel
   have wc := (HC4x.out.later HU.out).cell
   have k0 : (0 : Int) ≤ (k : Int) := by omega
   by_cases hlt : k < mz
   ·have hlt2 : (k : Int) < (mz : Int) := by omega
    have HAt := Lib.hid (atB_any2 HLa.out (show Lk wr B g r (kvL zs).length b ne ce E P np cp from ⟨HLkx.out.box.later HU.out, HLkx.out.ents.later HU.out, HLkx.out.pls.later HU.out, HLkx.out.bg, HLkx.out.bb, HLkx.out.ne⟩) (k : Int))
    gi_wp2_with fail
    refine ⟨trivial, ?_⟩
    refine (callsIn_wide.2 HAt.out).mono ?_
    rintro z Y1 ⟨b1, h | h⟩
    ·exact absurd ⟨by omega, by rw [kvL_len, HMz.out]; omega⟩ h.1
    obtain ⟨-, kv, y, hkv, rfl, yok, yc, yk, yv, -⟩ := h
    have hkz : k < zs.length := by rw [HMz.out]; exact hlt
    obtain ⟨q, hq⟩ : ∃ q, zs[k]? = some q := ⟨_, List.getElem?_eq_getElem hkz⟩
    have hqm : q ∈ zs := List.mem_of_getElem? hq
    have hsame : EntD.Same y q := by
     have e := kvL_at hq
     rw [show ((k : Int)).toNat = k by omega, e] at hkv
     cases hkv
     exact same_key yc (HZx.out.2.1 q hqm) yk yv
    obtain ⟨vy, fy, vyq, ty, sy, dy, vyv, ry, qy, ly⟩ := y
    have hy0 := yok
    simp only [EntD.Ok] at hy0
    obtain ⟨ay, ky, cy, rfl⟩ := rd_slice hy0.1
    obtain ⟨ayq, kyq, cyq, rfl⟩ := rd_slice hy0.2.1
    obtain ⟨ayv, kyv, cyv, rfl⟩ := rd_slice hy0.2.2
    have ebY := EBox.new Y1 ⟨.slice ay ky cy, fy, .slice ayq kyq cyq, ty, sy, dy, .slice ayv kyv cyv, ry, qy, ly⟩
    have bY := (Below.refl Y1.heap.size Y1).alloc (Nat.le_refl _) (.cells (EntD.mk (.slice ay ky cy) fy (.slice ayq kyq cyq) ty sy dy (.slice ayv kyv cyv) ry qy ly).cells 40)
    simp only [EntD.cells] at ebY bY
    obtain ⟨Y2, hY2⟩ : ∃ Y2, Y2 = Y1.alloc (.cells #[.slice ay ky cy, .int .i64 fy, .slice ayq kyq cyq, .int .i64 ty, .int .i64 sy, .int .i64 dy, .slice ayv kyv cyv] 40) := ⟨_, rfl⟩
    rw [← hY2] at ebY bY
    have bX1 := HU.out.trans (b1.mono HU.out.size)
    have bX2 := bX1.trans (bY.mono bX1.size)
    have HBX2 := Lib.hid bX2
    have hq2 : ∀ wx, Below Y2.heap.size Y2 wx → ∀ (j : Nat) u, q.cells.toList[j]? = some u → wx.cell? ⟨bz, oz + k * 7 + j, none⟩ = some u := fun wx bx => by
     have hrdX := HZx.out.1.later (bX2.trans (bx.mono bX2.size))
     rcases hrdX.at_ with k' | ⟨b', o', e', hc'⟩
     ·exact absurd k' HZx.out.2.2
     ·cases e'
      exact hc' k q hq
    have KS : Hid (∀ wx, Below Y2.heap.size Y2 wx → wx.cell? ⟨W.heap.size, 0, none⟩ = some (.slice (some ⟨bz, oz, none⟩) mz cap) ∧ (wx.cell? ⟨Y1.heap.size, 0, none⟩ = some (.slice ay ky cy) ∧ wx.cell? ⟨Y1.heap.size, 1, none⟩ = some (.int .i64 fy) ∧ wx.cell? ⟨Y1.heap.size, 2, none⟩ = some (.slice ayq kyq cyq) ∧ wx.cell? ⟨Y1.heap.size, 3, none⟩ = some (.int .i64 ty) ∧ wx.cell? ⟨Y1.heap.size, 4, none⟩ = some (.int .i64 sy) ∧ wx.cell? ⟨Y1.heap.size, 5, none⟩ = some (.int .i64 dy) ∧ wx.cell? ⟨Y1.heap.size, 6, none⟩ = some (.slice ayv kyv cyv)) ∧ (wx.cell? ⟨bz, oz + k * 7, none⟩ = some q.vr ∧ wx.cell? ⟨bz, oz + k * 7 + 1, none⟩ = some (.int .i64 q.fam) ∧ wx.cell? ⟨bz, oz + k * 7 + 2, none⟩ = some q.vq ∧ wx.cell? ⟨bz, oz + k * 7 + 3, none⟩ = some (.int .i64 q.ts) ∧ wx.cell? ⟨bz, oz + k * 7 + 4, none⟩ = some (.int .i64 q.seq) ∧ wx.cell? ⟨bz, oz + k * 7 + 5, none⟩ = some (.int .i64 q.kind) ∧ wx.cell? ⟨bz, oz + k * 7 + 6, none⟩ = some q.vv)) := fun wx bx => ⟨(HC4x.out.later (bX2.trans (bx.mono bX2.size))).cell, (ebY.later bx).cells7, hq2 wx bx 0 _ rfl, hq2 wx bx 1 _ rfl, hq2 wx bx 2 _ rfl, hq2 wx bx 3 _ rfl, hq2 wx bx 4 _ rfl, hq2 wx bx 5 _ rfl, hq2 wx bx 6 _ rfl⟩
    have HSe : Hid (∀ Z, Below Y2.heap.size Y2 Z → Calls Tryz.prog 33 #[.agg #[.slice ay ky cy, .int .i64 fy, .slice ayq kyq cyq, .int .i64 ty, .int .i64 sy, .int .i64 dy, .slice ayv kyv cyv], .agg #[q.vr, .int .i64 q.fam, q.vq, .int .i64 q.ts, .int .i64 q.seq, .int .i64 q.kind, q.vv]] Z fun r w' => r = .returned (.bool true) ∧ Below Z.heap.size Z w') := fun Z bz' => by
     refine (se_any ((yok.later bY).later bz') (((HZx.out.1.later bX2).later bz').ok q hqm)).mono ?_
     rintro r w' ⟨rfl, hb⟩
     rw [decide_eq_true hsame]
     exact ⟨rfl, hb⟩
    have HY2 := Lib.hid hY2
    have D0 : Below Y2.heap.size Y2 Y2.drew := (Below.refl _ _).drew
    unfold EntD.cells
    clear hkv yok yc yk yv b1 hy0 ebY bY hY2 bX1 bX2 hq2 hsame hq hqm HAt wc
    gi_wp2_with fail
    rw [← HY2.out]
    clear HY2
    refine wpIn_wide.2 ?_
    go_region_held3 (fun wx => wx.cell? ⟨W.heap.size, 0, none⟩ = some (.slice (some ⟨bz, oz, none⟩) mz cap) ∧ (wx.cell? ⟨Y1.heap.size, 0, none⟩ = some (.slice ay ky cy) ∧ wx.cell? ⟨Y1.heap.size, 1, none⟩ = some (.int .i64 fy) ∧ wx.cell? ⟨Y1.heap.size, 2, none⟩ = some (.slice ayq kyq cyq) ∧ wx.cell? ⟨Y1.heap.size, 3, none⟩ = some (.int .i64 ty) ∧ wx.cell? ⟨Y1.heap.size, 4, none⟩ = some (.int .i64 sy) ∧ wx.cell? ⟨Y1.heap.size, 5, none⟩ = some (.int .i64 dy) ∧ wx.cell? ⟨Y1.heap.size, 6, none⟩ = some (.slice ayv kyv cyv)) ∧ (wx.cell? ⟨bz, oz + k * 7, none⟩ = some q.vr ∧ wx.cell? ⟨bz, oz + k * 7 + 1, none⟩ = some (.int .i64 q.fam) ∧ wx.cell? ⟨bz, oz + k * 7 + 2, none⟩ = some q.vq ∧ wx.cell? ⟨bz, oz + k * 7 + 3, none⟩ = some (.int .i64 q.ts) ∧ wx.cell? ⟨bz, oz + k * 7 + 4, none⟩ = some (.int .i64 q.seq) ∧ wx.cell? ⟨bz, oz + k * 7 + 5, none⟩ = some (.int .i64 q.kind) ∧ wx.cell? ⟨bz, oz + k * 7 + 6, none⟩ = some q.vv)) (first | exact KS.out _ D0 | exact KS.out _ D1) (first | (go_at_call 33; refine Calls.mono (HSe.out _ D0) ?_; rintro e1 wk ⟨rfl, hbk⟩; have D1 := D0.trans (hbk.mono D0.size)))
    have HNx := Lib.hid (HBX2.out.trans (D1.mono HBX2.out.size))
    clear D0 D1 hbk KS HSe HBX2
    gi_wp2
    go_roundw
    case rel => exact ⟨k + 1, by omega, by go_num, HNx.out⟩
    case measure => simp [intOf]; omega
   ·have hge : ¬ (k : Int) < (mz : Int) := by omega
    obtain rfl : k = mz := by omega
    have ic := (HI.out.later HU.out).cell
    have HC6w := Lib.hid (HC6x.out.later HU.out)
    have HDw := Lib.hid (show wr.heap[D]? = some (.deferred (some [])) from (HU.out.block D (Array.getElem?_eq_some_iff.1 HDf.out.1).1).trans HDf.out.1)
    have HBw := Lib.hid (HXW.out.trans (HU.out.mono HXW.out.size))
    have hDlo : V.heap.size ≤ D := HDf.out.2
    have hdf' : (wr.setCell ⟨W.heap.size + 1, 0, none⟩ (.bool true)).heap[D]? = some (.deferred (some [])) := (Below.heap_setCell _ _ _ _ (by show _ ≠ W.heap.size + 1; omega)).trans HDw.out
    have hR : ((wr.setCell ⟨W.heap.size + 1, 0, none⟩ (.bool true)).putObj D (.deferred none)).cell? ⟨W.heap.size + 1, 0, none⟩ = some (.bool true) := Cell1B.cell (t := 4) ((World.putObj_heap_other (by omega)).trans (HC6w.out.set (.bool true)))
    have hBl : Below W.heap.size W ((wr.setCell ⟨W.heap.size + 1, 0, none⟩ (.bool true)).putObj D (.deferred none)) := by
     have b5 := HBw.out.setCell (p := ⟨W.heap.size + 1, 0, none⟩) (by show W.heap.size ≤ W.heap.size + 1; omega) (.bool true)
     exact b5.trans (below_putB (.deferred none) b5.size (by omega) hdf' rfl)
    have HLv := Lib.hid (And.intro hdf' (And.intro hR hBl))
    have rc := HC6w.out.cell
    have rf := HC6w.out.fz
    clear hdf' hR hBl
    gi_wp2
    refine ⟨by simp, .inl ⟨_, _, rfl, run_takeDeferred HLv.out.1, ?_⟩⟩
    refine ⟨.bool true, by simp [results, Tryz.results38, go_sem, HLv.out.2.1], rfl, HLv.out.2.2⟩
 case stop =>
  rintro D c pre X hD hsp h hdf
  exact h.elim
end Go.Proofs.YtchebhafabhabaaGreatDoor

namespace Go.Proofs.YtchebhafabhabaaGreatDoor
open Go.RowKit
set_option linter.unusedVariables false

end Go.Proofs.YtchebhafabhabaaGreatDoor

namespace Go.Proofs.YtchebhafabhabaaGreatDoor
open Go.RowKit Go.Shelf
set_option linter.unusedVariables false

structure RX (w : World) (I : Nat → Prop) (s5 s6 s9 s11 s13 gF : Nat) (stop : Int) (g r b ne ce np cp : Nat) (E P : List Nat) (bz oz cap : Nat) (zs : List EntD) : Prop where
 hL : Blad r (kvL zs) E P
 hk : Lk w 0 g r (kvL zs).length b ne ce E P np cp
 hr : RdL5 w (some ⟨bz, oz, none⟩) cap zs
 ck : ∀ e ∈ zs, checkS e = 0
 ig : I g
 ib : I b
 ia : ∀ k, adB (some ⟨bz, oz, none⟩) k → I k
 ie : ∀ e ∈ zs, ∀ k, e.adr k → I k
 c5 : Cell1B w s5 (.int .i64 stop) 3
 c6 : Cell1B w s6 (.bool false) 4
 c9 : Cell1B w s9 (.pointer (some ⟨g, 0, none⟩)) 58
 c11 : Cell1B w s11 (.slice (some ⟨bz, oz, none⟩) zs.length cap) 22
 c13 : Cell1B w s13 (.pointer (some ⟨gF, 0, none⟩)) 34
 i5 : I s5
 i6 : I s6
 i9 : I s9
 i11 : I s11
 i13 : I s13
structure RI (V X : World) (gF gi : Nat) (FO0 : Nat → Prop) (n : Nat) (FO : Nat → Prop) : Prop where
 fu : FuB X gF FO
 i_ : Cell1B X gi (.int .i64 (n : Int)) 3
 fb : Fb V X (fun k => FO0 k ∨ k = gi)
 new : ∀ k, FO k → FO0 k ∨ V.heap.size + 2 ≤ k
theorem new1 (X : World) (v : Value) (t : Nat) : ∃ Y, Y = X.alloc (.cells #[v] t) ∧ Below X.heap.size X Y ∧ Y.heap.size = X.heap.size + 1 ∧ Cell1B Y X.heap.size v t := ⟨_, rfl, (Below.refl _ _).alloc (Nat.le_refl _) _, by simp, heap_alloc_new X _⟩
end Go.Proofs.YtchebhafabhabaaGreatDoor

namespace Go.Proofs.YtchebhafabhabaaGreatDoor
open Go.RowKit Go.Shelf
set_option linter.unusedVariables false

def noDefer (ops : Array Oper) : Bool := ops.toList.all fun o => match o.op with | .defer _ => false | _ => true
theorem noDefer_spec {ops : Array Oper} (h : noDefer ops = true) {i : Nat} {o : Oper} (ho : ops[i]? = some o) : ∀ c, o.op ≠ .defer c := by
 intro c e
 have hm : o ∈ ops.toList := List.mem_of_getElem? (i := i) (by simpa using ho)
 have := List.all_eq_true.1 h o hm
 rw [e] at this
 cases this
theorem upon_in {l n : Nat} {P : Program} {o : Oper} {a : Act} {K K' : Act → World → Prop} {Q : Exit → Act → World → Prop} (hK : ∀ a w, K a w → K' a w) : ∀ r, o.upon P a K Q r → o.uponIn (Fence.wide.inRound l) n P a K' Q r := by
 intro r h
 cases r with
 | ok nx w' =>
  cases nx with
  | value v => exact hK _ _ h
  | skip => exact hK _ _ h
  | defer d => exact hK _ _ h
  | enter f args =>
   have h' : CallsIn (Fence.wide.inRound l) (n - 1) P f args w' _ := CallsIn.inRound l (callsIn_wide.2 h)
   refine ⟨fun hh => (by cases hh), h'.mono ?_⟩
   intro e w k
   cases e with
   | returned v => exact hK _ _ k
   | panicked c => exact k
   | outgrown => exact k
  | row row args => exact ⟨fun hh => (by cases hh), fun c cs _ => let ⟨v, w', r, s⟩ := h c cs; ⟨v, w', hK _ _ r, stepsIn_wide.2 s⟩⟩
  | _ => exact h.elim
 | halt hl w' =>
  cases hl with
  | panic v => exact h
  | _ => exact h.elim
theorem opIn {l n i : Nat} {P : Program} {ops : Array Oper} {a : Act} {w : World} {K K' : Act → World → Prop} {Q : Exit → Act → World → Prop} (hd : noDefer ops = true) (hq : ¬ LetsOut Q) (hK : ∀ a w, K a w → K' a w) (h : wpOp P ops Q i K a w) : wpOpIn (Fence.wide.inRound l) n P ops Q i K' a w := by
 unfold wpOp at h
 unfold wpOpIn
 split
 ·rename_i ho
  simp only [ho] at h
  exact hK _ _ h
 ·rename_i o ho
  simp only [ho] at h
  split
  ·rename_i hw
   simp only [hw, if_true] at h
   rcases h with h | ⟨_, h⟩
   ·refine ⟨fun _ _ => trivial, ?_⟩
    have e : o.semAt (Fence.wide.inRound l).round a.eval = execOp a.eval o := Oper.semAt_some l _ _ (noDefer_spec hd ho)
    rw [e]
    exact upon_in hK _ h
   ·exact absurd h hq
  ·rename_i hw
   simp only [hw] at h
   exact ⟨fun _ _ => trivial, hK _ _ h⟩
theorem anyIn {l n : Nat} {P : Program} {md : Region.Mode} {ops : Array Oper} {Q : Exit → Act → World → Prop} (hd : noDefer ops = true) (hq : ¬ LetsOut Q) : ∀ (fuel : Nat) (listed : Array Bool) (a : Act) (w : World), wpAny P md ops Q fuel listed a w → wpAnyIn (Fence.wide.inRound l) n P md ops Q fuel listed a w
 | 0, _, _, _, h => h
 | fuel + 1, _, _, _, h => ⟨h.1, fun i hi => opIn hd hq (fun a w k => anyIn hd hq fuel _ a w k) (h.2 i hi)⟩
def nthC : Nat → Code → Code
 | 0, c => c
 | n + 1, .seq _ y => nthC n y
 | _ + 1, c => c
def fstC : Code → Code
 | .seq x _ => x
 | c => c
def inC : Code → Code
 | .block _ c => c
 | .rangeFunc _ _ _ b => b
 | .cond _ x _ => x
 | .loop c => c
 | c => c
end Go.Proofs.YtchebhafabhabaaGreatDoor

namespace Go.Proofs.YtchebhafabhabaaGreatDoor
open Go.RowKit Go.Shelf
set_option linter.unusedVariables false

end Go.Proofs.YtchebhafabhabaaGreatDoor

namespace Go.Proofs.YtchebhafabhabaaGreatDoor
open Go.RowKit Go.Shelf
set_option linter.unusedVariables false
attribute [local go_sem] Oper.semAt_some

theorem wpIn_eq3 {F : Fence} {n : Nat} {P : Program} {c : Code} {Q : Exit → Act → World → Prop} {a : Act} {w : World} (Fr : Act) (h1 : c.wpIn F n P (fun e a' w' => match e with | .normal => a' = Fr ∧ Below w.heap.size w w' | _ => False) a w) (h2 : ∀ w', Below w.heap.size w w' → Q .normal Fr w') : c.wpIn F n P Q a w := by
 refine wpIn_mono h1 ?_
 intro e a' w' h
 cases e with
 | normal => obtain ⟨rfl, hb⟩ := h; exact h2 _ hb
 | panic c => exact h.elim
 | ret => exact h.elim
 | exit id => exact h.elim
 | goto t => exact h.elim
 | outgrown => exact h.elim

end Go.Proofs.YtchebhafabhabaaGreatDoor

namespace Go.Proofs.YtchebhafabhabaaGreatDoor
open Go.RowKit
set_option linter.unusedVariables false

theorem RowS.fb {w w' : World} {B n : Nat} {v : Value} {vs : List Value} {O : Nat → Prop} (h : RowS w B v n vs) (f : Fb w w' O) (k : ∀ i, v.ownBlock = some i → ¬ O i) : RowS w' B v n vs := ⟨h.1, h.2.1, row_same h.2.2 (fun i hi => f.block i (h.2.2.lt i hi).2 (k i hi))⟩
theorem KBox.fb {w w' : World} {g : Nat} {vL vW : Value} {O : Nat → Prop} (h : KBox w g vL vW) (f : Fb w w' O) (k : ¬ O g) : KBox w' g vL vW := (f.block g (Array.getElem?_eq_some_iff.1 h).1 k).trans h
def BkB (w : World) (g n : Nat) (KO : Nat → Prop) : Prop := ∃ (its : List Item) (aL aW : Option Addr) (cL cW : Nat), KBox w g (.slice aL n cL) (.slice aW n cW) ∧ RowS w 0 (.slice aL n cL) n (its.map Item.l) ∧ RowS w 0 (.slice aW n cW) n (its.map Item.k) ∧ AP (.slice aL n cL) (.slice aW n cW) ∧ (∀ p ∈ its, Own w 0 p.l p.xs.length p.xs ∧ Own w 0 p.k p.xs.length p.xs ∧ Bys p.xs ∧ p.xs.length ≤ 140000) ∧ (its.map Item.l ++ its.map Item.k).Pairwise AP ∧ KO g ∧ (∀ k, KO k → k < w.heap.size) ∧ (∀ k, (Value.slice aL n cL).ownBlock = some k → KO k) ∧ (∀ k, (Value.slice aW n cW).ownBlock = some k → KO k) ∧ ∀ p ∈ its, (∀ k, p.l.ownBlock = some k → KO k) ∧ (∀ k, p.k.ownBlock = some k → KO k)
theorem BkB.lt {w : World} {g n : Nat} {KO : Nat → Prop} (h : BkB w g n KO) : ∀ k, KO k → k < w.heap.size := by
 obtain ⟨its, aL, aW, cL, cW, h1, h2, h3, h4, h5, h6, h7, h8, h9, ha, hb⟩ := h
 exact h8
theorem BkB.fb {w w' : World} {g n : Nat} {KO O : Nat → Prop} (h : BkB w g n KO) (f : Fb w w' O) (hn : ∀ k, O k → ¬ KO k) : BkB w' g n KO := by
 obtain ⟨its, aL, aW, cL, cW, h1, h2, h3, h4, h5, h6, h7, h8, h9, ha, hb⟩ := h
 exact ⟨its, aL, aW, cL, cW, h1.fb f (fun o => hn _ o h7), h2.fb f (fun i hi o => hn _ o (h9 i hi)), h3.fb f (fun i hi o => hn _ o (ha i hi)), h4, fun p hp => ⟨(h5 p hp).1.fb f (fun i hi o => hn _ o ((hb p hp).1 i hi)), (h5 p hp).2.1.fb f (fun i hi o => hn _ o ((hb p hp).2 i hi)), (h5 p hp).2.2⟩, h6, h7, fun k hk => Nat.lt_of_lt_of_le (h8 k hk) f.size, h9, ha, hb⟩
theorem BkB.later {w w' : World} {g n : Nat} {KO : Nat → Prop} (h : BkB w g n KO) (b : Below w.heap.size w w') : BkB w' g n KO := h.fb (O := fun _ => False) (Fb.of_below b) (fun _ h => h.elim)
theorem BkB.bk {w : World} {g n : Nat} {KO : Nat → Prop} (h : BkB w g n KO) : ∃ its, Bk w 0 g n its ∧ (∀ p ∈ its, ∀ k, p.l.ownBlock = some k → KO k) := by
 obtain ⟨its, aL, aW, cL, cW, h1, h2, h3, h4, h5, h6, h7, h8, h9, ha, hb⟩ := h
 exact ⟨its, ⟨⟨aL, cL, aW, cW, h1, h2, h3, h4⟩, h5, h6⟩, fun p hp => (hb p hp).1⟩
theorem BkB.more {w : World} {g n : Nat} {KO KO' : Nat → Prop} (h : BkB w g n KO) (k : ∀ i, KO i → KO' i) (hl : ∀ i, KO' i → i < w.heap.size) : BkB w g n KO' := by
 obtain ⟨its, aL, aW, cL, cW, h1, h2, h3, h4, h5, h6, h7, h8, h9, ha, hb⟩ := h
 exact ⟨its, aL, aW, cL, cW, h1, h2, h3, h4, h5, h6, k _ h7, hl, fun i hi => k i (h9 i hi), fun i hi => k i (ha i hi), fun p hp => ⟨fun i hi => k i ((hb p hp).1 i hi), fun i hi => k i ((hb p hp).2 i hi)⟩⟩
theorem rowS_nil (w : World) : RowS w 0 (.slice none 0 0) 0 [] := ⟨rfl, fun _ h => (List.not_mem_nil h).elim, rfl, .inl ⟨rfl, rfl⟩⟩
theorem bkb_new {w : World} {g : Nat} (h : w.heap[g]? = some (.cells #[.slice none 0 0, .slice none 0 0] 83 (0, 0))) : BkB w g 0 (fun k => k = g) := by
 refine ⟨[], none, none, 0, 0, h, rowS_nil w, rowS_nil w, ?_, fun p hp => (List.not_mem_nil hp).elim, List.Pairwise.nil, rfl, ?_, ?_, ?_, fun p hp => (List.not_mem_nil hp).elim⟩
 ·intro k hk; cases hk
 ·intro k hk; have hk' : k = g := hk; rw [hk']; exact (Array.getElem?_eq_some_iff.1 h).1
 ·intro k hk; cases hk
 ·intro k hk; cases hk
theorem bkb_keep {w : World} {g n m c : Nat} {a : Option Addr} {KO : Nat → Prop} {xs : List Nat} (h : BkB w g n KO) (ho : Own w 0 (.slice a m c) m xs) (hb : ∀ k, (Value.slice a m c).ownBlock = some k → ¬ KO k) (hby : Bys xs) (hl : xs.length ≤ 140000) (hn : n ≤ 1000) :
  Calls Tryz.prog 42 #[.pointer (some ⟨g, 0, none⟩), .slice a m c] w fun r w' => r = .returned (.tuple #[]) ∧ BkB w' g (n + 1) (fun k => KO k ∨ (Value.slice a m c).ownBlock = some k ∨ (w.heap.size ≤ k ∧ k < w'.heap.size)) ∧ Fb w w' KO := by
 obtain ⟨its, aL, aW, cL, cW, h1, h2, h3, h4, h5, h6, h7, h8, h9, ha, hib⟩ := h
 refine (keep_any h1 h2 h3 h4 ho hby hl hn (Nat.zero_le _)).mono ?_
 rintro r w' ⟨rfl, aL', cL', aW', cW', va, vm, vc, k1, r1, r2, o1, ne, blk, sz, e1, e2, e3, lL, lW⟩
 have fr : Fb w w' KO := ⟨e1, e2, e3, sz, fun i hi hk => blk i hi (fun e => hk (e ▸ h7)) (fun e => hk (h9 i e)) (fun e => hk (ha i e))⟩
 have st : Still w w' g (.slice aL n cL) (.slice aW n cW) := ⟨blk, sz, e1, e2, e3⟩
 have OW : ∀ v m' ys B', Own w B' v m' ys → Own w' B' v m' ys := fun v m' ys B' h => h.still h1 h2 h3 st
 have hu : ∀ x, (Value.slice va vm vc).ownBlock = some x → w.heap.size ≤ x ∧ x < w'.heap.size := fun x hx => o1.2.lt x hx
 have hm : m = xs.length := ho.1
 have hvm : vm = xs.length := o1.1
 have hlt : ∀ x, (Value.slice a m c).ownBlock = some x → x < w.heap.size := fun x hx => (ho.2.lt x hx).2
 refine ⟨rfl, ⟨its ++ [⟨.slice a m c, .slice va vm vc, xs⟩], aL', aW', cL', cW', k1, by simpa using r1, by simpa using r2, ne, fun p hp => ?_, ?_, .inl h7, ?_, ?_, ?_, fun p hp => ?_⟩, fr⟩
 ·rcases List.mem_append.1 hp with hp | hp
  ·exact ⟨OW _ _ _ _ (h5 p hp).1, OW _ _ _ _ (h5 p hp).2.1, (h5 p hp).2.2⟩
  ·rw [List.mem_singleton.1 hp]
   exact ⟨hm ▸ OW _ _ _ _ ho, hvm ▸ o1.mono (Nat.zero_le _), hby, hl⟩
 ·have A1 : ∀ p ∈ its, AP p.l (.slice a m c) ∧ AP p.k (.slice a m c) := fun p hp => ⟨fun k hk e => hb k e ((hib p hp).1 k hk), fun k hk e => hb k e ((hib p hp).2 k hk)⟩
  have A2 : ∀ p ∈ its, AP p.l (.slice va vm vc) ∧ AP p.k (.slice va vm vc) := fun p hp => ⟨fun k hk e => by have := h8 k ((hib p hp).1 k hk); have := (hu k e).1; omega, fun k hk e => by have := h8 k ((hib p hp).2 k hk); have := (hu k e).1; omega⟩
  have A3 : AP (.slice a m c) (.slice va vm vc) := fun k hk e => by have := hlt k hk; have := (hu k e).1; omega
  rw [List.pairwise_append] at h6
  obtain ⟨q1, q2, q3⟩ := h6
  simp only [List.map_append, List.map_cons, List.map_nil]
  rw [List.pairwise_append, List.pairwise_append, List.pairwise_append]
  refine ⟨⟨q1, List.pairwise_singleton _ _, fun x hx y hy => ?_⟩, ⟨q2, List.pairwise_singleton _ _, fun x hx y hy => ?_⟩, fun x hx y hy => ?_⟩
  ·rw [List.mem_singleton.1 hy]
   obtain ⟨p, hp, rfl⟩ := List.mem_map.1 hx
   exact (A1 p hp).1
  ·rw [List.mem_singleton.1 hy]
   obtain ⟨p, hp, rfl⟩ := List.mem_map.1 hx
   exact (A2 p hp).2
  ·rcases List.mem_append.1 hx with hx | hx <;> rcases List.mem_append.1 hy with hy | hy
   ·exact q3 x hx y hy
   ·rw [List.mem_singleton.1 hy]
    obtain ⟨p, hp, rfl⟩ := List.mem_map.1 hx
    exact (A2 p hp).1
   ·rw [List.mem_singleton.1 hx]
    obtain ⟨p, hp, rfl⟩ := List.mem_map.1 hy
    exact (A1 p hp).2.symm
   ·rw [List.mem_singleton.1 hx, List.mem_singleton.1 hy]
    exact A3
 ·rintro k (hk | hk | hk)
  ·have := h8 k hk; omega
  ·have := hlt k hk; omega
  ·exact hk.2
 ·intro k hk
  rcases lL k hk with h | h
  ·exact .inl (h9 k h)
  ·exact .inr (.inr ⟨h, (r1.2.2.lt k hk).2⟩)
 ·intro k hk
  rcases lW k hk with h | h
  ·exact .inl (ha k h)
  ·exact .inr (.inr ⟨h, (r2.2.2.lt k hk).2⟩)
 ·rcases List.mem_append.1 hp with hp | hp
  ·exact ⟨fun k hk => .inl ((hib p hp).1 k hk), fun k hk => .inl ((hib p hp).2 k hk)⟩
  ·rw [List.mem_singleton.1 hp]
   exact ⟨fun k hk => .inr (.inl hk), fun k hk => .inr (.inr (hu k hk))⟩
end Go.Proofs.YtchebhafabhabaaGreatDoor

namespace Go.Proofs.YtchebhafabhabaaGreatDoor
open Go.RowKit
set_option linter.unusedVariables false

structure K3 (w : World) (D : EntD) : Prop where
 r : Own w 0 D.vr D.row.length D.row ∧ Bys D.row ∧ D.row.length ≤ 140000
 q : Own w 0 D.vq D.qual.length D.qual ∧ Bys D.qual ∧ D.qual.length ≤ 140000
 v : Own w 0 D.vv D.val.length D.val ∧ Bys D.val ∧ D.val.length ≤ 140000
 ap : Ap3 D
theorem K3.later {w w' : World} {D : EntD} (h : K3 w D) (b : Below w.heap.size w w') : K3 w' D := ⟨⟨h.r.1.later b, h.r.2⟩, ⟨h.q.1.later b, h.q.2⟩, ⟨h.v.1.later b, h.v.2⟩, h.ap⟩
theorem K3.lt {w : World} {D : EntD} (h : K3 w D) : ∀ k, D.blk k → k < w.heap.size := by
 rintro k (e | e | e)
 ·exact (h.r.1.2.lt k e).2
 ·exact (h.q.1.2.lt k e).2
 ·exact (h.v.1.2.lt k e).2
theorem k3_of {w : World} {B : Nat} {x : EntD} (hok : EntD.Ok w x) (hc : checkS x = 0) (h1 : Own w B x.vr x.row.length x.row) (h2 : Own w B x.vq x.qual.length x.qual) (h3 : Own w B x.vv x.val.length x.val) (ha : Ap3 x) : K3 w x := by
 have hl : x.row.length ≤ 256 ∧ x.qual.length ≤ 256 ∧ x.val.length ≤ 4096 := by
  unfold checkS at hc
  repeat' split at hc
  all_goals first | omega | skip
 exact ⟨⟨h1.mono (Nat.zero_le _), hok.1.1, by omega⟩, ⟨h2.mono (Nat.zero_le _), hok.2.1.1, by omega⟩, ⟨h3.mono (Nat.zero_le _), hok.2.2.1, by omega⟩, ha⟩
set_option maxRecDepth 100000 in
set_option maxHeartbeats 4000000 in
theorem kentryB {w : World} {g n : Nat} {FO : Nat → Prop} {D : EntD} (hf : BkB w g n FO) (hD : K3 w D) (hb : ∀ k, D.blk k → ¬ FO k) (hn : n ≤ 990) :
  Calls Tryz.prog 43 #[.pointer (some ⟨g, 0, none⟩), .agg D.cells] w fun e w' => (∃ v, e = .returned v) ∧ BkB w' g (n + 3) (fun k => FO k ∨ D.blk k ∨ (w.heap.size ≤ k ∧ k < w'.heap.size)) ∧ Fb w w' (fun k => FO k ∨ D.blk k) := by
 have hlt := hD.lt
 have hFl := hf.lt
 obtain ⟨⟨hor, byr, lnr⟩, ⟨hoq, byq, lnq⟩, ⟨hov, byv, lnv⟩, rq, rv, qv⟩ := hD
 obtain ⟨ar, cr, er⟩ := own_form hor.2
 obtain ⟨aq, cq, eq⟩ := own_form hoq.2
 obtain ⟨av, cv, ev⟩ := own_form hov.2
 obtain ⟨nr, hnr⟩ : ∃ nr, nr = D.row.length := ⟨_, rfl⟩
 obtain ⟨nq, hnq⟩ : ∃ nq, nq = D.qual.length := ⟨_, rfl⟩
 obtain ⟨nv, hnv⟩ : ∃ nv, nv = D.val.length := ⟨_, rfl⟩
 rw [← hnr] at hor er
 rw [← hnq] at hoq eq
 rw [← hnv] at hov ev
 rw [er] at hor
 rw [eq] at hoq
 rw [ev] at hov
 clear hnr hnq hnv
 have A0 := (Below.refl w.heap.size w).alloc (Nat.le_refl _) (.cells D.cells 40)
 have bx0 := EBox.new w D
 have sX : (w.alloc (.cells D.cells 40)).heap.size = w.heap.size + 1 := by simp
 obtain ⟨X0, hX0⟩ : ∃ X, X = w.alloc (.cells D.cells 40) := ⟨_, rfl⟩
 rw [← hX0] at A0 bx0 sX
 have HX0 := Lib.hid hX0
 have HB0 := Lib.hid A0
 have hf0 := hf.later A0
 have T1 := bkb_keep hf0 (hor.later A0) (fun k hk => hb k (.inl (er ▸ hk))) byr lnr (by omega)
 have HT1 := Lib.hid T1
 have HA := Lib.hid (And.intro A0 (And.intro bx0 (And.intro (hoq.later A0) (hov.later A0))))
 have HS := Lib.hid (And.intro hlt (And.intro hFl (And.intro hb (And.intro rq (And.intro rv qv)))))
 obtain ⟨vr, fam, vq, ts, seq, kind, vv, row, qual, val⟩ := D
 simp only at er eq ev
 subst er eq ev
 clear T1 hf0 hor hoq hov hlt hFl hb rq rv qv hX0
 have c0 := bx0.vr
 clear bx0
 simp only [EntD.cells] at *
 go_enter Tryz.func43, Tryz.ntmps43
 go_wp2_with fail
 rw [← HX0.out]
 refine HT1.out.mono ?_
 rintro e X1 ⟨rfl, f1, k1⟩
 replace k1 := k1.mono (O' := fun k => _ ∨ (Value.slice ar nr cr).ownBlock = some k) (fun i _ h => .inl h)
 have bx1 : EBox X1 w.heap.size ⟨.slice ar nr cr, fam, .slice aq nq cq, ts, seq, kind, .slice av nv cv, row, qual, val⟩ := HA.out.2.1.fbF k1 (by
  rintro (e | e)
  ·have := HS.out.2.1 _ e; omega
  ·have := HS.out.1 _ (.inl e); omega)
 have oq1 := HA.out.2.2.1.fbF k1 (fun k hk => by
  rintro (e | e)
  ·exact HS.out.2.2.1 k (.inr (.inl hk)) e
  ·exact HS.out.2.2.2.1 k e hk)
 have ov1 := HA.out.2.2.2.fbF k1 (fun k hk => by
  rintro (e | e)
  ·exact HS.out.2.2.1 k (.inr (.inr hk)) e
  ·exact HS.out.2.2.2.2.1 k e hk)
 have HT2 := Lib.hid (bkb_keep f1 oq1 (fun k hk => by
  rintro (e | e | e)
  ·exact HS.out.2.2.1 k (.inr (.inl hk)) e
  ·exact HS.out.2.2.2.1 k e hk
  ·have := HS.out.1 k (.inr (.inl hk)); omega) byq lnq (by omega))
 have c2 := bx1.vq
 have HA1 := Lib.hid (And.intro bx1 (And.intro ov1 k1))
 clear bx1 oq1 ov1 k1 f1 HT1 HA c0 HX0
 simp only at c2
 go_wp2_with fail
 refine HT2.out.mono ?_
 rintro e X2 ⟨rfl, f2, k2⟩
 replace k2 := k2.mono (O' := fun k => _ ∨ (Value.slice aq nq cq).ownBlock = some k) (fun i _ h => .inl h)
 have hs1 : w.heap.size + 1 ≤ X1.heap.size := by have := HA1.out.2.2.size; omega
 have bx2 := HA1.out.1.fbF k2 (by
  rintro ((e | e | e) | e)
  ·have := HS.out.2.1 _ e; omega
  ·have := HS.out.1 _ (.inl e); omega
  ·omega
  ·have := HS.out.1 _ (.inr (.inl e)); omega)
 have ov2 := HA1.out.2.1.fbF k2 (fun k hk => by
  rintro ((e | e | e) | e)
  ·exact HS.out.2.2.1 k (.inr (.inr hk)) e
  ·exact HS.out.2.2.2.2.1 k e hk
  ·have := HS.out.1 k (.inr (.inr hk)); omega
  ·exact HS.out.2.2.2.2.2 k e hk)
 have HT3 := Lib.hid (bkb_keep f2 ov2 (fun k hk => by
  rintro ((e | e | e) | e | e)
  ·exact HS.out.2.2.1 k (.inr (.inr hk)) e
  ·exact HS.out.2.2.2.2.1 k e hk
  ·have := HS.out.1 k (.inr (.inr hk)); omega
  ·exact HS.out.2.2.2.2.2 k e hk
  ·have := HS.out.1 k (.inr (.inr hk)); omega) byv lnv (by omega))
 have c6 := bx2.vv
 have HA2 := Lib.hid (And.intro HA1.out.2.2 k2)
 clear bx2 ov2 k2 f2 HT2 HA1 c2
 simp only at c6
 go_wp2_with fail
 refine HT3.out.mono ?_
 rintro e X3 ⟨rfl, f3, k3⟩
 replace k3 := k3.mono (O' := fun k => _ ∨ (Value.slice av nv cv).ownBlock = some k) (fun i _ h => .inl h)
 have HEnd := Lib.hid (And.intro f3 k3)
 clear f3 k3 HT3 c6
 go_wp2
 refine bodyPost_end (results_none rfl _ _ _) rfl ?_
 obtain ⟨f3, k3⟩ := HEnd.out
 obtain ⟨k1, k2⟩ := HA2.out
 have hs12 := k2.size
 have hs23 := k3.size
 refine ⟨⟨_, rfl⟩, f3.more ?_ ?_, ?_⟩
 ·rintro i (((e | e | e) | e | e) | e | e)
  ·exact .inl e
  ·exact .inr (.inl (.inl e))
  ·exact .inr (.inr ⟨by omega, by omega⟩)
  ·exact .inr (.inl (.inr (.inl e)))
  ·exact .inr (.inr ⟨by omega, by omega⟩)
  ·exact .inr (.inl (.inr (.inr e)))
  ·exact .inr (.inr ⟨by omega, by omega⟩)
 ·rintro i (e | e | e)
  ·have := HS.out.2.1 i e; omega
  ·have := HS.out.1 i e; omega
  ·exact e.2
 ·have m0 : Fb w X0 (fun k => FO k ∨ EntD.blk ⟨.slice ar nr cr, fam, .slice aq nq cq, ts, seq, kind, .slice av nv cv, row, qual, val⟩ k ∨ w.heap.size ≤ k) := Fb.of_below HB0.out
  have m1 := m0.trans (k1.mono (fun i _ e => by
   rcases e with e | e
   ·exact .inl e
   ·exact .inr (.inl (.inl e))))
  have m2 := m1.trans (k2.mono (fun i _ e => by
   rcases e with (e | e | e) | e
   ·exact .inl e
   ·exact .inr (.inl (.inl e))
   ·exact .inr (.inr (by omega))
   ·exact .inr (.inl (.inr (.inl e)))))
  have m3 := m2.trans (k3.mono (fun i _ e => by
   rcases e with ((e | e | e) | e | e) | e
   ·exact .inl e
   ·exact .inr (.inl (.inl e))
   ·exact .inr (.inr (by omega))
   ·exact .inr (.inl (.inr (.inl e)))
   ·exact .inr (.inr (by omega))
   ·exact .inr (.inl (.inr (.inr e)))))
  refine m3.mono (fun i hi e => ?_)
  rcases e with e | e | e
  ·exact .inl e
  ·exact .inr e
  ·omega
end Go.Proofs.YtchebhafabhabaaGreatDoor

namespace Go.Proofs.YtchebhafabhabaaGreatDoor
open Go.RowKit
set_option linter.unusedVariables false

theorem Bd.fbN {w w' : World} {X : Nat → Prop} {B g r : Nat} {s : Bs} {ve vp vl : Value} (h : Bd w B g r s ve vp vl) (f : Fb w w' X) (hx : ∀ k, bO g ve vp k ∨ vl.ownBlock = some k → ¬ X k) : Bd w' B g r s ve vp vl :=
 ⟨(f.block g (Array.getElem?_eq_some_iff.1 h.box).1 (hx g (.inl (.inl rfl)))).trans h.box, h.es.fbF f (fun k hk => hx k (.inl (.inr (.inl hk)))), h.ps.fbF f (fun k hk => hx k (.inl (.inr (.inr hk)))), h.la.fbF f (fun k hk => hx k (.inr hk)), h.ep, h.el, h.pl, h.bg, h.size, h.lal, h.few, h.byE, h.byP, h.byL⟩
structure LU (U : World) (b4 b5 r m c na ca : Nat) (a aa : Option Addr) (zs : List EntD) (s : Bs) : Prop where
 tab : Tab U
 c4 : Cell1B U b4 (.bool false) 4
 c5 : Cell1B U b5 (.slice a m c) 22
 rd : RdL5 U a c zs
 hm : zs.length = m
 ck : ∀ e ∈ zs, checkS e = 0
 la : Blad r (kvL zs) s.es s.ps
 bd : bldS r Bs.zero zs = (0, s)
 len : m ≤ 80
 all : Rd U (.slice aa na ca) (blockL s.es s.ps m r)
theorem LU.later {U X : World} {b4 b5 r m c na ca : Nat} {a aa : Option Addr} {zs : List EntD} {s : Bs} (h : LU U b4 b5 r m c na ca a aa zs s) (b : Below U.heap.size U X) : LU X b4 b5 r m c na ca a aa zs s :=
 ⟨h.tab.later b, h.c4.later b, h.c5.later b, h.rd.later b, h.hm, h.ck, h.la, h.bd, h.len, h.all.later b⟩
structure LV (V : World) (b8 gk gb cb gx cx i q x r b ne ce np cp : Nat) (zs : List EntD) (s : Bs) (ve vp vl : Value) : Prop where
 c8 : Cell1B V b8 (.pointer (some ⟨gk, 0, none⟩)) 81
 cb_ : V.cell? ⟨gb, i, none⟩ = some (.pointer (some ⟨q, 0, none⟩))
 cx_ : V.cell? ⟨gx, i, none⟩ = some (.pointer (some ⟨x, 0, none⟩))
 bd : Bd V 0 q r s ve vp vl
 lk : Lk V 0 x r (kvL zs).length b ne ce s.es s.ps np cp
 n8 : b8 ≠ gk
 nb : gb ≠ gk
 nx : gx ≠ gk
 nq : ∀ k, bO q ve vp k ∨ vl.ownBlock = some k → k ≠ gk
 nl : x ≠ gk ∧ b ≠ gk
theorem Fb.cellF {w w' : World} {O : Nat → Prop} {p : Addr} {v : Value} (f : Fb w w' O) (hn : ¬ O p.block) (h : w.cell? p = some v) : w'.cell? p = some v := by
 rw [← h]
 unfold World.cell?
 rw [f.block p.block (World.block_lt_of_cell? _ _ h) hn]
theorem LV.fb {V X : World} {b8 gk gb cb gx cx i q x r b ne ce np cp : Nat} {zs : List EntD} {s : Bs} {ve vp vl : Value} (h : LV V b8 gk gb cb gx cx i q x r b ne ce np cp zs s ve vp vl) (f : Fb V X (fun k => k = gk)) : LV X b8 gk gb cb gx cx i q x r b ne ce np cp zs s ve vp vl :=
 ⟨h.c8.fb f h.n8, f.cellF h.nb h.cb_, f.cellF h.nx h.cx_, h.bd.fbN f h.nq, ⟨h.lk.box.fb f h.nl.1, h.lk.ents.fb f h.nl.2, h.lk.pls.fb f h.nl.2, h.lk.bg, h.lk.bb, h.lk.ne⟩, h.n8, h.nb, h.nx, h.nq, h.nl⟩
theorem LV.later {V X : World} {b8 gk gb cb gx cx i q x r b ne ce np cp : Nat} {zs : List EntD} {s : Bs} {ve vp vl : Value} (h : LV V b8 gk gb cb gx cx i q x r b ne ce np cp zs s ve vp vl) (hb : Below V.heap.size V X) : LV X b8 gk gb cb gx cx i q x r b ne ce np cp zs s ve vp vl := h.fb (Fb.of_below hb)
structure LI (V X : World) (gk n : Nat) (KO : Nat → Prop) : Prop where
 bk : BkB X gk n KO
 fb : Fb V X (fun k => k = gk)
 new : ∀ k, KO k → k = gk ∨ V.heap.size ≤ k
theorem LI.later {V X Y : World} {gk n : Nat} {KO : Nat → Prop} (h : LI V X gk n KO) (b : Below X.heap.size X Y) : LI V Y gk n KO := ⟨h.bk.later b, h.fb.trans (Fb.of_below b), h.new⟩
theorem LI.keep {V X Y : World} {gk n n' : Nat} {KO D : Nat → Prop} (h : LI V X gk n KO) (hb : BkB Y gk n' (fun k => KO k ∨ D k ∨ (X.heap.size ≤ k ∧ k < Y.heap.size))) (f : Fb X Y (fun k => KO k ∨ D k)) (hD : ∀ k, D k → V.heap.size ≤ k) : LI V Y gk n' (fun k => KO k ∨ D k ∨ (X.heap.size ≤ k ∧ k < Y.heap.size)) := by
 refine ⟨hb, h.fb.trans' f h.fb.size (fun i hi hC => ?_), ?_⟩
 ·rcases hC with k | k
  ·rcases h.new i k with k | k
   ·exact k
   ·omega
  ·have := hD i k; omega
 ·rintro k (h1 | h1 | h1)
  ·exact h.new k h1
  ·exact .inr (hD k h1)
  ·have := h.fb.size; exact .inr (by omega)
theorem LU.at_ {U V X : World} {b4 b5 r m c na ca gk n : Nat} {a aa : Option Addr} {zs : List EntD} {s : Bs} {KO : Nat → Prop} (h : LU U b4 b5 r m c na ca a aa zs s) (hg : gk = U.heap.size) (bV : Below U.heap.size U V) (hi : LI V X gk n KO) : LU X b4 b5 r m c na ca a aa zs s := h.later (bV.trans (hi.fb.belowB (fun k e => by have e' : k = gk := e; omega) bV.size))
structure LJ (V X : World) (gF gi : Nat) (FO0 : Nat → Prop) (n m : Nat) (FO : Nat → Prop) : Prop where
 fu : BkB X gF m FO
 i_ : Cell1B X gi (.int .i64 (n : Int)) 3
 fb : Fb V X (fun k => FO0 k ∨ k = gi)
 new : ∀ k, FO k → FO0 k ∨ V.heap.size + 2 ≤ k
theorem LJ.st {V X Y : World} {gF gi n m : Nat} {FO0 FO C : Nat → Prop} (h : LJ V X gF gi FO0 n m FO) (f : Fb X Y C) (hc : ∀ k, k < X.heap.size → FO k ∨ k = gi → ¬ C k) (hV : ∀ k, C k → V.heap.size ≤ k) : LJ V Y gF gi FO0 n m FO :=
 ⟨h.fu.fb f (fun k hk ho => hc k (h.fu.lt k ho) (.inl ho) hk), h.i_.fb f (hc gi h.i_.lt (.inr rfl)), h.fb.trans' f h.fb.size (fun i hi hC => by have := hV i hC; omega), h.new⟩
theorem LJ.later {V X Y : World} {gF gi n m : Nat} {FO0 FO : Nat → Prop} (h : LJ V X gF gi FO0 n m FO) (b : Below X.heap.size X Y) : LJ V Y gF gi FO0 n m FO := h.st (C := fun _ => False) (Fb.of_below b) (fun _ _ _ h => h) (fun _ h => h.elim)
theorem LJ.grow {V X Y : World} {gF gi n m m' : Nat} {FO0 FO : Nat → Prop} {D : EntD} (h : LJ V X gF gi FO0 n m FO) (hX : V.heap.size + 2 ≤ X.heap.size) (hf : BkB Y gF m' (fun k => FO k ∨ D.blk k ∨ (X.heap.size ≤ k ∧ k < Y.heap.size))) (f : Fb X Y (fun k => FO k ∨ D.blk k)) (hx : ∀ k, D.blk k → V.heap.size + 2 ≤ k) (hgi : gi < V.heap.size) (hF : ¬ FO0 gi) : LJ V Y gF gi FO0 n m' (fun k => FO k ∨ D.blk k ∨ (X.heap.size ≤ k ∧ k < Y.heap.size)) := by
 refine ⟨hf, h.i_.fb f ?_, h.fb.trans' f h.fb.size ?_, ?_⟩
 ·rintro (k | k)
  ·rcases h.new _ k with k | k
   ·exact hF k
   ·omega
  ·have := hx _ k; omega
 ·rintro i hi (k | k)
  ·rcases h.new _ k with k | k
   ·exact .inl k
   ·omega
  ·have := hx _ k; omega
 ·rintro k (h1 | h1 | h1)
  ·exact h.new k h1
  ·exact .inr (hx k h1)
  ·exact .inr (by omega)
theorem LJ.seti {V X : World} {gF gi n n' m : Nat} {FO0 FO : Nat → Prop} (h : LJ V X gF gi FO0 n m FO) (hgi : gi < V.heap.size) (hF : ¬ FO0 gi) : LJ V (X.setCell ⟨gi, 0, none⟩ (.int .i64 (n' : Int))) gF gi FO0 n' m FO :=
 ⟨h.fu.fb (Fb.set1 (O := fun k => k = gi) rfl _) (fun k e ho => by
  rcases h.new _ ho with k1 | k1
  ·rw [e] at k1; exact hF k1
  ·omega), h.i_.set _, h.fb.trans (Fb.set1 (.inr rfl) _), h.new⟩
theorem LJ.ob {V X : World} {gF gi n m : Nat} {FO0 FO : Nat → Prop} (h : LJ V X gF gi FO0 n m FO) (h0 : ∀ k, FO0 k → k < V.heap.size) (hgi : gi < V.heap.size) {k : Nat} (ho : FO k ∨ k = gi) : k < X.heap.size ∧ k ≠ V.heap.size ∧ k ≠ V.heap.size + 1 ∧ ∀ j, ¬ FO0 j → j ≠ gi → j < V.heap.size → k ≠ j := by
 rcases ho with ho | ho
 ·refine ⟨h.fu.lt k ho, ?_⟩
  rcases h.new k ho with h1 | h1
  ·have := h0 k h1
   exact ⟨by omega, by omega, fun j hj _ _ e => hj (e ▸ h1)⟩
  ·exact ⟨by omega, by omega, fun j _ _ hj => by omega⟩
 ·subst ho
  exact ⟨h.i_.lt, by omega, by omega, fun j _ hj _ e => hj e.symm⟩
theorem LJ.li {V U X : World} {gk gc n n0 m : Nat} {KO0 KO : Nat → Prop} (h : LJ U X gk gc KO0 n m KO) (h0 : LI V U gk n0 KO0) (hgc : V.heap.size ≤ gc) : LI V X gk m KO := by
 refine ⟨h.fu, h0.fb.trans' h.fb h0.fb.size (fun i hi hC => ?_), fun k hk => ?_⟩
 ·rcases hC with k | k
  ·rcases h0.new i k with k | k
   ·exact k
   ·omega
  ·omega
 ·rcases h.new k hk with k1 | k1
  ·exact h0.new k k1
  ·have := h0.fb.size; exact .inr (by omega)
end Go.Proofs.YtchebhafabhabaaGreatDoor
