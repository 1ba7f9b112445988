import Derived.Test.YtchebhafabhabaaGreatDoorK23
namespace Go.Proofs.YtchebhafabhabaaGreatDoor
open Go.RowKit Go.Shelf
set_option linter.unusedVariables false
attribute [local go_sem] Oper.semAt_some

theorem two_tells (W : World) (v : Value) : ∃ X, X = (W.alloc (.cells #[v] 22)).alloc (.cells #[.bool false] 4) ∧ Below W.heap.size W X ∧ X.heap.size = W.heap.size + 2 ∧ Cell1B X W.heap.size v 22 ∧ Cell1B X (W.heap.size + 1) (.bool false) 4 := by
  refine ⟨_, rfl, ((Below.refl W.heap.size W).alloc (Nat.le_refl _) _).alloc (by simp) _, by simp, Cell1B.later (heap_alloc_new W _) ((Below.refl _ _).alloc (Nat.le_refl _) _), ?_⟩
  have := heap_alloc_new (W.alloc (.cells #[v] 22)) (.cells #[.bool false] 4)
  rwa [World.size_alloc] at this
set_option maxRecDepth 100000 in
set_option maxHeartbeats 8000000 in
theorem tells5_any {W : World} {g r b ne ce np cp B : Nat} {E P key : List Nat} {a ak : Option Addr} {cap kn kc : Nat} {zs : List EntD} (hL : Blad r (kvL zs) E P) (hk : Lk W B g r (kvL zs).length b ne ce E P np cp) (hr : RdL5 W a cap zs) (hck : ∀ e ∈ zs, checkS e = 0) (hkey : Rd W (.slice ak kn kc) key) :
    Calls Tryz.prog 38 #[.pointer (some ⟨g, 0, none⟩), .slice a zs.length cap, .slice ak kn kc] W fun x w' => x = .returned (.bool true) ∧ Below W.heap.size W w' := by
  have hne0 : zs ≠ [] := fun h => hL.some_ (by rw [h]; rfl)
  obtain ⟨bz, oz, ham⟩ : ∃ bz oz, a = some ⟨bz, oz, none⟩ := by
    rcases hr.at_ with k | ⟨bz, oz, k, -⟩
    · exact absurd k hne0
    · exact ⟨bz, oz, k⟩
  subst ham
  obtain ⟨mz, hmz⟩ : ∃ mz, zs.length = mz := ⟨_, rfl⟩
  rw [hmz]
  obtain ⟨X0, hX0, A0, hsX, C4, C6⟩ := two_tells W (.slice (some ⟨bz, oz, none⟩) mz cap)
  have HX0 := Lib.hid hX0
  have HMz := Lib.hid hmz
  have hkl : ((kvL zs).length : Int) = (mz : Int) := by rw [kvL_len, hmz]
  have hfew := hL.few
  have hsz := hL.size
  have hmz17 : mz ≤ 131072 := by rw [kvL_len] at hfew; omega
  have hmz0 : 0 < mz := by rw [← hmz]; exact List.length_pos_iff.2 hne0
  have HLa := Lib.hid hL
  have HLk := Lib.hid (show Lk X0 B g r (kvL zs).length b ne ce E P np cp from ⟨hk.box.later A0, hk.ents.later A0, hk.pls.later A0, hk.bg, hk.bb, hk.ne⟩)
  have HZ := Lib.hid (And.intro (hr.later A0) (And.intro hck hne0))
  have HKey := Lib.hid (hkey.later A0)
  have HC4 := Lib.hid C4
  have HC6 := Lib.hid C6
  have HA0 := Lib.hid A0
  have HLn : Hid (∀ Z, Below X0.heap.size X0 Z → Calls Tryz.prog 29 #[.pointer (some ⟨g, 0, none⟩)] Z fun e w' => e = .returned (.int .i64 (mz : Int)) ∧ w' = Z) := fun Z bz => by
    have h := len5_any (HLk.out.box.later bz)
    rw [hkl] at h
    exact h
  have HSk : Hid (∀ Z, Below X0.heap.size X0 Z → Calls Tryz.prog 30 #[.pointer (some ⟨g, 0, none⟩), .slice ak kn kc] Z fun e w' => (∃ n : Nat, e = .returned (.int .i64 (n : Int)) ∧ SkA (kvL zs) key n) ∧ Below Z.heap.size Z w') := fun Z bz => seek_any hL (show Lk Z B g r (kvL zs).length b ne ce E P np cp from ⟨HLk.out.box.later bz, HLk.out.ents.later bz, HLk.out.pls.later bz, hk.bg, hk.bb, hk.ne⟩) (HKey.out.later bz)
  have HRk : Hid (∀ Z, Below X0.heap.size X0 Z → Calls Tryz.prog 31 #[.slice (some ⟨bz, oz, none⟩) mz cap, .slice ak kn kc] Z fun e w' => (∃ n : Nat, e = .returned (.int .i64 (n : Int)) ∧ SkA (kvL zs) key n) ∧ Below Z.heap.size Z w') := fun Z bz => by
    have h := refSeek5_any (HZ.out.1.later bz) hck hL.up (HKey.out.later bz) (by omega)
    rw [hmz] at h
    exact h
  have hmx : Tryz.prog.follows .mixedOrders = true := by kernel_rfl
  have hsq := seq_nil5 73
  have c4 := C4.cell
  clear hX0 hL hk hr hck hkey C4 C6 A0 hmz hkl hne0
  refine (callsIn_wide (n := 9)).1 ?_
  refine callsIn_of_wp_marks Tryz.func38 rfl trivial ?_ rfl
  simp only [Tryz.ntmps38, List.size_toArray, List.length_cons, List.length_nil, Nat.reduceAdd, Nat.reduceSub, Array.replicate_succ, Array.replicate_zero, List.push_toArray, List.append_toArray, List.nil_append, List.cons_append]
  gi_wp2_with fail
  rw [← HX0.out]
  clear HX0
  refine wpIn_wide.2 ?_
  have D0 : Below X0.heap.size X0 X0.drew := (Below.refl _ _).drew
  have c4d := (HC4.out.later D0).cell
  go_region_held3 (fun w' => w'.cell? ⟨W.heap.size, 0, none⟩ = some (.slice (some ⟨bz, oz, none⟩) mz cap)) (first | exact c4d | exact c41 | exact c42 | exact c43 | assumption) (first
    | (go_at_call 32; refine (all5_any (g := g)).mono ?_; rintro z w1 ⟨rfl, rfl⟩; have D1 := D0.alloc D0.size (.cells #[.pointer (some ⟨g, 0, none⟩)] 58); have c41 := (HC4.out.later D1).cell)
    | (go_at_call 29; refine (HLn.out _ D1).mono ?_; rintro z w2 ⟨rfl, rfl⟩)
    | (go_at_call 30; refine (HSk.out _ D1).mono ?_; rintro z w3 ⟨⟨n1, rfl, s1⟩, b3⟩; have D2 := D1.trans (b3.mono D1.size); have c42 := (HC4.out.later D2).cell)
    | (go_at_call 31; refine (HRk.out _ D2).mono ?_; rintro z w4 ⟨⟨n2, rfl, s2⟩, b4⟩; have D3 := D2.trans (b4.mono D2.size); have c43 := (HC4.out.later D3).cell; obtain rfl := skA_one s1 s2))
  obtain ⟨Y5, hY5⟩ : ∃ Y5, Y5 = w4 := ⟨_, rfl⟩
  rw [← hY5] at D3 ⊢
  have HLk5 := Lib.hid (show Lk Y5 B g r (kvL zs).length b ne ce E P np cp from ⟨HLk.out.box.later D3, HLk.out.ents.later D3, HLk.out.pls.later D3, HLk.out.bg, HLk.out.bb, HLk.out.ne⟩)
  have HZ5 := Lib.hid (And.intro (HZ.out.1.later D3) HZ.out.2)
  have HC45 := Lib.hid (HC4.out.later D3)
  have HC65 := Lib.hid (HC6.out.later D3)
  have HB5 := Lib.hid (HA0.out.trans (D3.mono HA0.out.size))
  clear hY5 s1 s2 b3 b4 D0 D1 D2 D3 c4 c4d c41 c42 c43 HSk HRk HLn hsq hsX HLk HZ HC4 HC6 HA0 HKey
  gi_wp2_with fail
  refine ⟨trivial, ?_⟩
  refine (callsIn_wide.2 (all5_any (g := g))).mono ?_
  rintro z W7 ⟨rfl, rfl⟩
  gi_wp2_with fail
  have A6 := (Below.refl Y5.heap.size Y5).alloc (Nat.le_refl _) (.cells #[.int .i64 0] 3)
  have A7 := A6.alloc A6.size (.cells #[.pointer (some ⟨g, 0, none⟩)] 58)
  have q1 : Cell1B ((Y5.alloc (.cells #[.int .i64 0] 3)).alloc (.cells #[.pointer (some ⟨g, 0, none⟩)] 58)) Y5.heap.size (.int .i64 0) 3 := Cell1B.later (heap_alloc_new Y5 _) ((Below.refl _ _).alloc (Nat.le_refl _) _)
  have q2 : Cell1B ((Y5.alloc (.cells #[.int .i64 0] 3)).alloc (.cells #[.pointer (some ⟨g, 0, none⟩)] 58)) (Y5.heap.size + 1) (.pointer (some ⟨g, 0, none⟩)) 58 := by
    have := heap_alloc_new (Y5.alloc (.cells #[.int .i64 0] 3)) (.cells #[.pointer (some ⟨g, 0, none⟩)] 58)
    rwa [World.size_alloc] at this
  have q3 : (((Y5.alloc (.cells #[.int .i64 0] 3)).alloc (.cells #[.pointer (some ⟨g, 0, none⟩)] 58))).heap.size = Y5.heap.size + 2 := by simp
  generalize ((Y5.alloc (.cells #[.int .i64 0] 3)).alloc (.cells #[.pointer (some ⟨g, 0, none⟩)] 58)) = V at *
  have hg9 : g < Y5.heap.size := (Array.getElem?_eq_some_iff.1 HLk5.out.box).1
  have hEn : E ≠ [] := by
    intro h
    have := HLa.out.few
    rw [h] at this
    exact HLa.out.some_ (List.eq_nil_of_length_eq_zero (by simpa using this))
  have hbb9 : b < Y5.heap.size := World.block_lt_of_cell? _ _ (rd_cell HLk5.out.ents 0 (by rw [(rd_lens HLk5.out.ents).1]; exact List.length_pos_iff.2 hEn)).1
  have hseq := all_seq (i0 := Y5.heap.size) HLa.out (show Lk V B g r (kvL zs).length b ne ce E P np cp from ⟨HLk5.out.box.later A7, HLk5.out.ents.later A7, HLk5.out.pls.later A7, HLk5.out.bg, HLk5.out.bb, HLk5.out.ne⟩) q2 (by omega) (by omega) (by omega)
  have HA7 := Lib.hid A7
  have hglY : W.heap.size + 1 < Y5.heap.size := HC65.out.lt
  clear A6 A7 hEn q2
  refine range_t (w := V) rfl (enters_of Tryz.func73 (by kernel_rfl) rfl) (encs := fun x : EntD => #[.agg x.cells]) hseq (fun h k => h.trans k) (fun X o o' ho hc => Fb.of_grown (grownBy_putObj' X _ o') (fun i e => by cases e; exact .inr rfl)) (fun _ => rfl)
    (fun pre X => Below Y5.heap.size Y5 X ∧ Cell1B X Y5.heap.size (.int .i64 (pre.length : Int)) 3 ∧ V.heap.size ≤ X.heap.size)
    (fun c pre X => False)
    (fun s X h => h.2.2)
    (fun s X Z hX ⟨h1, h2, h3⟩ b => ⟨h1.trans (b.mono (by omega)), h2.keepB b (by omega), Nat.le_trans h3 b.size⟩)
    (fun c s X Z hX h b => h)
    ⟨HA7.out, q1, Nat.le_refl _⟩
    (fun pre x a' X => ∃ Bx, V.heap.size ≤ Bx ∧ EBox X Bx x ∧ YG (kvL zs) pre x X ∧ a' = { tmps := #[Value.pointer (some ⟨g, 0, none⟩), Value.slice (some ⟨bz, oz, none⟩) mz cap, Value.slice ak kn kc, undef, Value.pointer (some ⟨W.heap.size, 0, none⟩), undef, Value.pointer (some ⟨W.heap.size + 1, 0, none⟩), Value.pointer (some ⟨Y5.heap.size, 0, none⟩), .pointer (some ⟨Bx, 0, none⟩), undef, undef, undef, Value.pointer (some ⟨g, 0, none⟩), Value.bool false, Value.bool false, Value.pointer (some ⟨g, 0, none⟩), Value.func (Fn.func 73) #[] #[Value.pointer (some ⟨W.heap.size + 2, 0, none⟩)], Value.bool false, Value.bool false, Value.bool false, Value.pointer (some ⟨g, 0, none⟩), Value.int IntKind.i64 (mz : Int), Value.slice (some ⟨bz, oz, none⟩) mz cap, Value.int IntKind.i64 (mz : Int), Value.bool false, Value.bool false, Value.bool false, Value.pointer (some ⟨g, 0, none⟩), Value.slice ak kn kc, Value.int IntKind.i64 (n1 : Int), Value.slice (some ⟨bz, oz, none⟩) mz cap, Value.slice ak kn kc, Value.int IntKind.i64 (n1 : Int), Value.bool false, Value.bool false, Value.pointer (some ⟨g, 0, none⟩), Value.func (Fn.func 73) #[] #[Value.pointer (some ⟨Y5.heap.size + 1, 0, none⟩)], .agg x.cells, undef, undef, undef, undef, undef, undef, undef, undef, undef, undef, undef, undef, undef, undef, undef, undef, undef, undef, undef, undef, undef, undef, undef, undef, undef, undef, undef, undef, undef, undef, undef, undef, undef, undef, undef, undef, undef, undef, undef, undef, undef, undef], defers := [] })
    (fun pre x a' X o o' ho hc ⟨Bx, k0, k1, k2, k3⟩ => ⟨Bx, k0, k1.putN o' ho hc, ⟨k2.1, k2.2.1.putN o' ho hc, k2.2.2⟩, k3⟩)
    ?assign ?body ?done ?stop (fun c s X h => h.elim) (fun c s X h => h)
  case assign =>
    intro l' pre x X K hi hsX hgd hK
    obtain ⟨vr, fam, vq, ts, seq, kind, vv, row, qual, val⟩ := x
    have r1' : Rd X vr row := hgd.2.1.1
    have r2' : Rd X vq qual := hgd.2.1.2.1
    have r3' : Rd X vv val := hgd.2.1.2.2
    obtain ⟨ar, nr, cr, rfl⟩ := rd_slice r1'
    obtain ⟨aq, nq, cq, rfl⟩ := rd_slice r2'
    obtain ⟨av, nv, cv, rfl⟩ := rd_slice r3'
    have hbb := (Below.refl X.heap.size X).alloc (Nat.le_refl _) (.cells (EntD.mk (.slice ar nr cr) fam (.slice aq nq cq) ts seq kind (.slice av nv cv) row qual val).cells 40)
    have HIt : Hid (Below Y5.heap.size Y5 _ ∧ Cell1B _ Y5.heap.size (.int .i64 (pre.length : Int)) 3 ∧ V.heap.size ≤ _) := ⟨hi.1.trans (hbb.mono (by omega)), hi.2.1.later hbb, Nat.le_trans hi.2.2 hbb.size⟩
    have HYg : Hid (YG (kvL zs) pre _ _) := ⟨hgd.1, hgd.2.1.later hbb, hgd.2.2⟩
    have HKp : Hid (Fb X _ (fun k => k = Y5.heap.size ∨ k = V.heap.size + 1)) := Fb.of_below hbb
    have HX : Hid (EBox (X.alloc (.cells (EntD.mk (.slice ar nr cr) fam (.slice aq nq cq) ts seq kind (.slice av nv cv) row qual val).cells 40)) X.heap.size _) := EBox.new X _
    have hsX' : V.heap.size ≤ X.heap.size := by omega
    clear hbb hi hgd r1' r2' r3' hseq
    simp only [EntD.cells] at *
    gi_wp2
    exact hK _ _ ((KeepsOthers.alloc _ _).from _) HKp.out HIt.out ⟨X.heap.size, hsX', HX.out, HYg.out, rfl⟩
  case body =>
    rintro l' pre x a' X ⟨h1, h2, h3⟩ ⟨Bx, hBx, bx, hyg, rfl⟩
    obtain ⟨n, hn⟩ : ∃ n, n = pre.length := ⟨_, rfl⟩
    rw [← hn] at h2
    obtain ⟨⟨kv, hkv, hkx, hvx⟩, hxo, hxc⟩ := hyg
    rw [← hn] at hkv
    have hnl : n < zs.length := by
      have := (List.getElem?_eq_some_iff.1 hkv).1
      rwa [kvL_len] at this
    obtain ⟨y, hy⟩ : ∃ y, zs[n]? = some y := ⟨_, List.getElem?_eq_getElem hnl⟩
    have hym : y ∈ zs := List.mem_of_getElem? hy
    have hsame : EntD.Same x y := by
      have e := kvL_at hy
      rw [hkv] at e
      cases e
      exact same_key hxc (HZ5.out.2.1 y hym) hkx hvx
    have hrdX := HZ5.out.1.later h1
    have hcs : ∀ (j : Nat) u, y.cells.toList[j]? = some u → X.cell? ⟨bz, oz + n * 7 + j, none⟩ = some u := by
      rcases hrdX.at_ with k | ⟨b', o', e', hc'⟩
      · exact absurd k HZ5.out.2.2
      · cases e'
        exact hc' n y hy
    have hnm : (n : Int) < (mz : Int) := by have := HMz.out; omega
    have hn0 : (0 : Int) ≤ (n : Int) := by omega
    have d1 : decide ((mz : Int) ≤ (n : Int)) = false := by simp; omega
    have d2 : decide (mz ≤ n) = false := by simp; omega
    have HWn : Hid (wrap64 ((n : Int) + 1) = (n : Int) + 1 ∧ IntKind.i64.wrap ((n : Int) + 1) = (n : Int) + 1) := ⟨wrap64I5 _ (by omega) (by omega), wrapI5 _ (by omega) (by omega)⟩
    have hyo : EntD.Ok X y := hrdX.ok y hym
    have HSe : Hid (∀ Z, Below X.heap.size X Z → Calls Tryz.prog 33 #[.agg #[x.vr, .int .i64 x.fam, x.vq, .int .i64 x.ts, .int .i64 x.seq, .int .i64 x.kind, x.vv], .agg #[y.vr, .int .i64 y.fam, y.vq, .int .i64 y.ts, .int .i64 y.seq, .int .i64 y.kind, y.vv]] Z fun r w' => r = .returned (.bool true) ∧ Below Z.heap.size Z w') := fun Z b => by
      refine (se_any (hxo.later b) (hyo.later b)).mono ?_
      rintro r w' ⟨rfl, hb⟩
      rw [decide_eq_true hsame]
      exact ⟨rfl, hb⟩
    have nc := h2.cell
    have wc := (HC45.out.keepB h1 (by omega)).cell
    obtain ⟨c0, c1, c2', c3, c4, c5, c6⟩ := (⟨bx.vr, bx.fam, bx.vq, bx.ts, bx.seq, bx.kind, bx.vv⟩ : _ ∧ _ ∧ _ ∧ _ ∧ _ ∧ _ ∧ _)
    have e0 := hcs 0 _ rfl
    have e1 := hcs 1 _ rfl
    have e2 := hcs 2 _ rfl
    have e3 := hcs 3 _ rfl
    have e4 := hcs 4 _ rfl
    have e5 := hcs 5 _ rfl
    have e6 := hcs 6 _ rfl
    have HI2 : Hid (Below Y5.heap.size Y5 X ∧ Cell1B X Y5.heap.size (.int .i64 (n : Int)) 3 ∧ V.heap.size ≤ X.heap.size ∧ n = pre.length) := ⟨h1, h2, h3, hn⟩
    have D0 : Below X.heap.size X X.drew := (Below.refl _ _).drew
    unfold EntD.cells
    simp only [Nat.add_zero] at e0
    clear h1 h2 hn hkv hkx hvx hxo hxc hy hym hsame hrdX hcs hyo bx hseq
    gi_wp2_with fail
    refine wpIn_mono (Q := fun e a' w' => match e with | .normal => a' = ({ tmps := #[Value.pointer (some ⟨g, 0, none⟩), Value.slice (some ⟨bz, oz, none⟩) mz cap, Value.slice ak kn kc, undef, Value.pointer (some ⟨W.heap.size, 0, none⟩), undef, Value.pointer (some ⟨W.heap.size + 1, 0, none⟩), Value.pointer (some ⟨Y5.heap.size, 0, none⟩), .pointer (some ⟨Bx, 0, none⟩), undef, undef, undef, Value.pointer (some ⟨g, 0, none⟩), Value.bool false, Value.bool false, Value.pointer (some ⟨g, 0, none⟩), Value.func (Fn.func 73) #[] #[Value.pointer (some ⟨W.heap.size + 2, 0, none⟩)], Value.bool false, Value.bool false, Value.bool false, Value.pointer (some ⟨g, 0, none⟩), Value.int IntKind.i64 (mz : Int), Value.slice (some ⟨bz, oz, none⟩) mz cap, Value.int IntKind.i64 (mz : Int), Value.bool false, Value.bool false, Value.bool false, Value.pointer (some ⟨g, 0, none⟩), Value.slice ak kn kc, Value.int IntKind.i64 (n1 : Int), Value.slice (some ⟨bz, oz, none⟩) mz cap, Value.slice ak kn kc, Value.int IntKind.i64 (n1 : Int), Value.bool false, Value.bool false, Value.pointer (some ⟨g, 0, none⟩), Value.func (Fn.func 73) #[] #[Value.pointer (some ⟨Y5.heap.size + 1, 0, none⟩)], .agg #[x.vr, .int .i64 x.fam, x.vq, .int .i64 x.ts, .int .i64 x.seq, .int .i64 x.kind, x.vv], .int .i64 (n : Int), .slice (some ⟨bz, oz, none⟩) mz cap, .int .i64 (mz : Int), .bool false, .bool false, .agg #[x.vr, .int .i64 x.fam, x.vq, .int .i64 x.ts, .int .i64 x.seq, .int .i64 x.kind, x.vv], .slice (some ⟨bz, oz, none⟩) mz cap, .int .i64 (n : Int), .pointer (some ⟨bz, oz + n * 7, none⟩), .agg #[y.vr, .int .i64 y.fam, y.vq, .int .i64 y.ts, .int .i64 y.seq, .int .i64 y.kind, y.vv], .bool true, .bool false, .bool false, undef, undef, undef, undef, undef, undef, undef, undef, undef, undef, undef, undef, undef, undef, undef, undef, undef, undef, undef, undef, undef, undef, undef, undef, undef, undef, undef, undef, undef], defers := [] } : Act) ∧ Below X.heap.size X w' | _ => False) ?_ ?_
    · gi_region_with_o (refine ⟨trivial, ?_⟩; gi_at_call 33; refine (CallsIn.inRound l' (callsIn_wide.2 (HSe.out _ D0))).mono ?_; rintro z w1 ⟨rfl, hb1⟩; have D1 := D0.trans (hb1.mono D0.size))
      all_goals exact ⟨rfl, D1⟩
    · rintro e a' Y hq
      cases e with
      | normal =>
        obtain ⟨rfl, hbY⟩ := hq
        have nc := (HI2.out.2.1.later hbY).cell
        have nf := (HI2.out.2.1.later hbY).fz
        have HEnd : Hid (KeepsFrom V.heap.size X (Y.setCell ⟨Y5.heap.size, 0, none⟩ (.int .i64 ((n : Int) + 1))) ∧ Fb X (Y.setCell ⟨Y5.heap.size, 0, none⟩ (.int .i64 ((n : Int) + 1))) (fun k => k = Y5.heap.size ∨ k = V.heap.size + 1) ∧ Below Y5.heap.size Y5 (Y.setCell ⟨Y5.heap.size, 0, none⟩ (.int .i64 ((n : Int) + 1))) ∧ Cell1B (Y.setCell ⟨Y5.heap.size, 0, none⟩ (.int .i64 ((n : Int) + 1))) Y5.heap.size (.int .i64 ((pre ++ [x]).length : Int)) 3 ∧ V.heap.size ≤ (Y.setCell ⟨Y5.heap.size, 0, none⟩ (.int .i64 ((n : Int) + 1))).heap.size) := by
          obtain ⟨z1, z2, z3, z4⟩ := HI2.out
          have hKO : KeepsOthers X (Y.setCell ⟨Y5.heap.size, 0, none⟩ (.int .i64 ((n : Int) + 1))) := ⟨by rw [World.size_setCell]; exact hbY.size, fun i o hi ho => (KeepsOthers.setCell Y ⟨Y5.heap.size, 0, none⟩ (.int .i64 ((n : Int) + 1))).same i o ((hbY.block i (Array.getElem?_eq_some_iff.1 hi).1).trans hi) ho⟩
          refine ⟨hKO.from _, (Fb.of_below hbY).trans (Fb.set1 (.inl rfl) _), (z1.trans (hbY.mono z1.size)).setCell (p := ⟨Y5.heap.size, 0, none⟩) (Nat.le_refl _) _, ?_, Nat.le_trans z3 hKO.size⟩
          have := (z2.later hbY).set (.int .i64 ((n : Int) + 1))
          rw [List.length_append, ← z4]
          exact this
        have hwn := HWn.out.1
        have hwn2 := HWn.out.2
        clear wc c0 c1 c2' c3 c4 c5 c6 e0 e1 e2 e3 e4 e5 e6 D0 HSe hbY d1 d2 HI2
        gi_wp2
        exact HEnd.out
      | panic c => exact hq.elim
      | ret => exact hq.elim
      | exit id => exact hq.elim
      | goto t => exact hq.elim
      | outgrown => exact hq.elim
  case done =>
    rintro D xs X hD hS ⟨h1, h2, h3⟩ hdf
    rw [hS, kvL_len, HMz.out] at h2
    have hXW : Below W.heap.size W X := HB5.out.trans (h1.mono HB5.out.size)
    have HXW := Lib.hid hXW
    have HI := Lib.hid h2
    have HDf := Lib.hid (And.intro hdf hD)
    have HC4x := Lib.hid (HC45.out.keepB h1 (by omega))
    have HC6x := Lib.hid (HC65.out.keepB h1 hglY)
    have HZx := Lib.hid (And.intro (HZ5.out.1.later h1) HZ5.out.2)
    have HLkx := Lib.hid (show Lk X B g r (kvL zs).length b ne ce E P np cp from ⟨HLk5.out.box.later h1, HLk5.out.ents.later h1, HLk5.out.pls.later h1, HLk5.out.bg, HLk5.out.bb, HLk5.out.ne⟩)
    have hYX : Y5.heap.size + 2 ≤ X.heap.size := by omega
    clear hXW h1 h2 hdf hseq hS q1 HA7 HC45 HC65 HZ5 HLk5 HB5
    gi_wp2
    gi_loopw [9, 10, 11] (fun jv _ _ wr => ∃ k : Nat, k ≤ mz ∧ jv = .int .i64 (k : Int) ∧ Hid (Below X.heap.size X wr)) (fun jv _ _ _ => mz - (intOf jv).toNat)
    case atStart => exact ⟨0, Nat.zero_le _, rfl, Below.refl _ _⟩
    case round =>
      obtain ⟨k, hk, rfl, HU⟩ := hrel
      have wc := (HC4x.out.later HU.out).cell
      have k0 : (0 : Int) ≤ (k : Int) := by omega
      by_cases hlt : k < mz
      · have hlt2 : (k : Int) < (mz : Int) := by omega
        have HAt := Lib.hid (atB_any HLa.out (show Lk wr B g r (kvL zs).length b ne ce E P np cp from ⟨HLkx.out.box.later HU.out, HLkx.out.ents.later HU.out, HLkx.out.pls.later HU.out, HLkx.out.bg, HLkx.out.bb, HLkx.out.ne⟩) (k : Int))
        gi_wp2_with fail
        refine ⟨trivial, ?_⟩
        refine (callsIn_wide.2 HAt.out).mono ?_
        rintro z Y1 ⟨b1, h | h⟩
        · exact absurd ⟨by omega, by rw [kvL_len, HMz.out]; omega⟩ h.1
        obtain ⟨-, kv, y, hkv, rfl, yok, yc, yk, yv, -⟩ := h
        have hkz : k < zs.length := by rw [HMz.out]; exact hlt
        obtain ⟨q, hq⟩ : ∃ q, zs[k]? = some q := ⟨_, List.getElem?_eq_getElem hkz⟩
        have hqm : q ∈ zs := List.mem_of_getElem? hq
        have hsame : EntD.Same y q := by
          have e := kvL_at hq
          rw [show ((k : Int)).toNat = k by omega, e] at hkv
          cases hkv
          exact same_key yc (HZx.out.2.1 q hqm) yk yv
        obtain ⟨vy, fy, vyq, ty, sy, dy, vyv, ry, qy, ly⟩ := y
        have hy0 := yok
        simp only [EntD.Ok] at hy0
        obtain ⟨ay, ky, cy, rfl⟩ := rd_slice hy0.1
        obtain ⟨ayq, kyq, cyq, rfl⟩ := rd_slice hy0.2.1
        obtain ⟨ayv, kyv, cyv, rfl⟩ := rd_slice hy0.2.2
        have ebY := EBox.new Y1 ⟨.slice ay ky cy, fy, .slice ayq kyq cyq, ty, sy, dy, .slice ayv kyv cyv, ry, qy, ly⟩
        have bY := (Below.refl Y1.heap.size Y1).alloc (Nat.le_refl _) (.cells (EntD.mk (.slice ay ky cy) fy (.slice ayq kyq cyq) ty sy dy (.slice ayv kyv cyv) ry qy ly).cells 40)
        simp only [EntD.cells] at ebY bY
        obtain ⟨Y2, hY2⟩ : ∃ Y2, Y2 = Y1.alloc (.cells #[.slice ay ky cy, .int .i64 fy, .slice ayq kyq cyq, .int .i64 ty, .int .i64 sy, .int .i64 dy, .slice ayv kyv cyv] 40) := ⟨_, rfl⟩
        rw [← hY2] at ebY bY
        have bX1 := HU.out.trans (b1.mono HU.out.size)
        have bX2 := bX1.trans (bY.mono bX1.size)
        have HBX2 := Lib.hid bX2
        have hq2 : ∀ wx, Below Y2.heap.size Y2 wx → ∀ (j : Nat) u, q.cells.toList[j]? = some u → wx.cell? ⟨bz, oz + k * 7 + j, none⟩ = some u := fun wx bx => by
          have hrdX := HZx.out.1.later (bX2.trans (bx.mono bX2.size))
          rcases hrdX.at_ with k' | ⟨b', o', e', hc'⟩
          · exact absurd k' HZx.out.2.2
          · cases e'
            exact hc' k q hq
        have KS : Hid (∀ wx, Below Y2.heap.size Y2 wx → wx.cell? ⟨W.heap.size, 0, none⟩ = some (.slice (some ⟨bz, oz, none⟩) mz cap) ∧ (wx.cell? ⟨Y1.heap.size, 0, none⟩ = some (.slice ay ky cy) ∧ wx.cell? ⟨Y1.heap.size, 1, none⟩ = some (.int .i64 fy) ∧ wx.cell? ⟨Y1.heap.size, 2, none⟩ = some (.slice ayq kyq cyq) ∧ wx.cell? ⟨Y1.heap.size, 3, none⟩ = some (.int .i64 ty) ∧ wx.cell? ⟨Y1.heap.size, 4, none⟩ = some (.int .i64 sy) ∧ wx.cell? ⟨Y1.heap.size, 5, none⟩ = some (.int .i64 dy) ∧ wx.cell? ⟨Y1.heap.size, 6, none⟩ = some (.slice ayv kyv cyv)) ∧ (wx.cell? ⟨bz, oz + k * 7, none⟩ = some q.vr ∧ wx.cell? ⟨bz, oz + k * 7 + 1, none⟩ = some (.int .i64 q.fam) ∧ wx.cell? ⟨bz, oz + k * 7 + 2, none⟩ = some q.vq ∧ wx.cell? ⟨bz, oz + k * 7 + 3, none⟩ = some (.int .i64 q.ts) ∧ wx.cell? ⟨bz, oz + k * 7 + 4, none⟩ = some (.int .i64 q.seq) ∧ wx.cell? ⟨bz, oz + k * 7 + 5, none⟩ = some (.int .i64 q.kind) ∧ wx.cell? ⟨bz, oz + k * 7 + 6, none⟩ = some q.vv)) := fun wx bx => ⟨(HC4x.out.later (bX2.trans (bx.mono bX2.size))).cell, (ebY.later bx).cells7, hq2 wx bx 0 _ rfl, hq2 wx bx 1 _ rfl, hq2 wx bx 2 _ rfl, hq2 wx bx 3 _ rfl, hq2 wx bx 4 _ rfl, hq2 wx bx 5 _ rfl, hq2 wx bx 6 _ rfl⟩
        have HSe : Hid (∀ Z, Below Y2.heap.size Y2 Z → Calls Tryz.prog 33 #[.agg #[.slice ay ky cy, .int .i64 fy, .slice ayq kyq cyq, .int .i64 ty, .int .i64 sy, .int .i64 dy, .slice ayv kyv cyv], .agg #[q.vr, .int .i64 q.fam, q.vq, .int .i64 q.ts, .int .i64 q.seq, .int .i64 q.kind, q.vv]] Z fun r w' => r = .returned (.bool true) ∧ Below Z.heap.size Z w') := fun Z bz' => by
          refine (se_any ((yok.later bY).later bz') (((HZx.out.1.later bX2).later bz').ok q hqm)).mono ?_
          rintro r w' ⟨rfl, hb⟩
          rw [decide_eq_true hsame]
          exact ⟨rfl, hb⟩
        have HY2 := Lib.hid hY2
        have D0 : Below Y2.heap.size Y2 Y2.drew := (Below.refl _ _).drew
        unfold EntD.cells
        clear hkv yok yc yk yv b1 hy0 ebY bY hY2 bX1 bX2 hq2 hsame hq hqm HAt wc
        gi_wp2_with fail
        rw [← HY2.out]
        clear HY2
        refine wpIn_wide.2 ?_
        go_region_held3 (fun wx => wx.cell? ⟨W.heap.size, 0, none⟩ = some (.slice (some ⟨bz, oz, none⟩) mz cap) ∧ (wx.cell? ⟨Y1.heap.size, 0, none⟩ = some (.slice ay ky cy) ∧ wx.cell? ⟨Y1.heap.size, 1, none⟩ = some (.int .i64 fy) ∧ wx.cell? ⟨Y1.heap.size, 2, none⟩ = some (.slice ayq kyq cyq) ∧ wx.cell? ⟨Y1.heap.size, 3, none⟩ = some (.int .i64 ty) ∧ wx.cell? ⟨Y1.heap.size, 4, none⟩ = some (.int .i64 sy) ∧ wx.cell? ⟨Y1.heap.size, 5, none⟩ = some (.int .i64 dy) ∧ wx.cell? ⟨Y1.heap.size, 6, none⟩ = some (.slice ayv kyv cyv)) ∧ (wx.cell? ⟨bz, oz + k * 7, none⟩ = some q.vr ∧ wx.cell? ⟨bz, oz + k * 7 + 1, none⟩ = some (.int .i64 q.fam) ∧ wx.cell? ⟨bz, oz + k * 7 + 2, none⟩ = some q.vq ∧ wx.cell? ⟨bz, oz + k * 7 + 3, none⟩ = some (.int .i64 q.ts) ∧ wx.cell? ⟨bz, oz + k * 7 + 4, none⟩ = some (.int .i64 q.seq) ∧ wx.cell? ⟨bz, oz + k * 7 + 5, none⟩ = some (.int .i64 q.kind) ∧ wx.cell? ⟨bz, oz + k * 7 + 6, none⟩ = some q.vv)) (first | exact KS.out _ D0 | exact KS.out _ D1) (first | (go_at_call 33; refine Calls.mono (HSe.out _ D0) ?_; rintro e1 wk ⟨rfl, hbk⟩; have D1 := D0.trans (hbk.mono D0.size)))
        have HNx := Lib.hid (HBX2.out.trans (D1.mono HBX2.out.size))
        clear D0 D1 hbk KS HSe HBX2
        gi_wp2
        go_roundw
        case rel => exact ⟨k + 1, by omega, by go_num, HNx.out⟩
        case measure => simp [intOf]; omega
      · have hge : ¬ (k : Int) < (mz : Int) := by omega
        obtain rfl : k = mz := by omega
        have ic := (HI.out.later HU.out).cell
        have HC6w := Lib.hid (HC6x.out.later HU.out)
        have HDw := Lib.hid (show wr.heap[D]? = some (.deferred (some [])) from (HU.out.block D (Array.getElem?_eq_some_iff.1 HDf.out.1).1).trans HDf.out.1)
        have HBw := Lib.hid (HXW.out.trans (HU.out.mono HXW.out.size))
        have hDlo : V.heap.size ≤ D := HDf.out.2
        have hdf' : (wr.setCell ⟨W.heap.size + 1, 0, none⟩ (.bool true)).heap[D]? = some (.deferred (some [])) := (Below.heap_setCell _ _ _ _ (by show _ ≠ W.heap.size + 1; omega)).trans HDw.out
        have hR : ((wr.setCell ⟨W.heap.size + 1, 0, none⟩ (.bool true)).putObj D (.deferred none)).cell? ⟨W.heap.size + 1, 0, none⟩ = some (.bool true) := Cell1B.cell (t := 4) ((World.putObj_heap_other (by omega)).trans (HC6w.out.set (.bool true)))
        have hBl : Below W.heap.size W ((wr.setCell ⟨W.heap.size + 1, 0, none⟩ (.bool true)).putObj D (.deferred none)) := by
          have b5 := HBw.out.setCell (p := ⟨W.heap.size + 1, 0, none⟩) (by show W.heap.size ≤ W.heap.size + 1; omega) (.bool true)
          exact b5.trans (below_putB (.deferred none) b5.size (by omega) hdf' rfl)
        have HLv := Lib.hid (And.intro hdf' (And.intro hR hBl))
        have rc := HC6w.out.cell
        have rf := HC6w.out.fz
        clear hdf' hR hBl
        gi_wp2
        refine ⟨by simp, .inl ⟨_, _, rfl, run_takeDeferred HLv.out.1, ?_⟩⟩
        refine ⟨.bool true, by simp [results, Tryz.results38, go_sem, HLv.out.2.1], rfl, HLv.out.2.2⟩
  case stop =>
    rintro D c pre X hD hsp h hdf
    exact h.elim
end Go.Proofs.YtchebhafabhabaaGreatDoor
