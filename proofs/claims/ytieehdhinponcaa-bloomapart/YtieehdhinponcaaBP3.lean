import Derived.Test.YtieehdhinponcaaJ14
import Derived.Deep.RegionHeld3
namespace Go.Proofs.Ytieehdhinponcaa
open Go.RowKit
set_option linter.unusedVariables false

set_option maxRecDepth 100000 in
set_option maxHeartbeats 8000000 in
theorem apart_walk {va vb : Value} {ks qs : List (List Nat)} {w : World} (b : Int) (ha : RdP w va ks) (hb : RdP w vb qs) :
    Calls Try.prog 7 #[.int .i64 b, va, vb] w fun e w' => e = .returned (.bool true) ∧ Below w.heap.size w w' := by
  have H1 : Hid (RdP w va ks) := ha
  have H2 : Hid (RdP w vb qs) := hb
  obtain ⟨a1, c1, rfl⟩ := own_rdp_len ha
  obtain ⟨a2, c2, rfl⟩ := own_rdp_len hb
  clear ha hb
  have HS : Hid (∀ wx : World, Calls Try.prog 12 #[] wx fun e w' => e = .returned (.bool true) ∧ Below wx.heap.size wx w') := started_any
  obtain ⟨nk, hnk⟩ : ∃ nk, nk = ks.length := ⟨_, rfl⟩
  obtain ⟨nq, hnq⟩ : ∃ nq, nq = qs.length := ⟨_, rfl⟩
  obtain ⟨P, hP⟩ : ∃ P, P = fourL b ks qs := ⟨_, rfl⟩
  obtain ⟨XA, hXA⟩ : ∃ XA, XA = bldL b ks := ⟨_, rfl⟩
  obtain ⟨XB, hXB⟩ : ∃ XB, XB = bldL b qs := ⟨_, rfl⟩
  obtain ⟨XU, hXU⟩ : ∃ XU, XU = uniL XA XB := ⟨_, rfl⟩
  obtain ⟨XV, hXV⟩ : ∃ XV, XV = uniL XA XA := ⟨_, rfl⟩
  obtain ⟨EA, hEA⟩ : ∃ EA, EA = bldE b ks.length := ⟨_, rfl⟩
  obtain ⟨EB, hEB⟩ : ∃ EB, EB = bldE b qs.length := ⟨_, rfl⟩
  obtain ⟨EU, hEU⟩ : ∃ EU, EU = uniE XA XB := ⟨_, rfl⟩
  obtain ⟨EV, hEV⟩ : ∃ EV, EV = uniE XA XA := ⟨_, rfl⟩
  obtain ⟨nA, hnA⟩ : ∃ n, n = XA.length := ⟨_, rfl⟩
  obtain ⟨nB, hnB⟩ : ∃ n, n = XB.length := ⟨_, rfl⟩
  obtain ⟨nU, hnU⟩ : ∃ n, n = XU.length := ⟨_, rfl⟩
  obtain ⟨nV, hnV⟩ : ∃ n, n = XV.length := ⟨_, rfl⟩
  have HP : Hid (P = [XA, XB, XU, XV]) := by rw [hP, hXU, hXV, hXA, hXB]; exact rfl
  have HP3 : Hid (∀ x ∈ P, Bys x ∧ x.length ≤ 3000000) := by rw [hP]; exact four_ok b ks qs
  have h4 : ∀ x ∈ [XA, XB, XU, XV], Bys x ∧ x.length ≤ 3000000 := by have := HP3.out; rwa [HP.out] at this
  have YA : Hid (Bys XA) := (h4 XA (by simp)).1
  have lA : nA ≤ 3000000 := by rw [hnA]; exact (h4 XA (by simp)).2
  have YB : Hid (Bys XB) := (h4 XB (by simp)).1
  have lB : nB ≤ 3000000 := by rw [hnB]; exact (h4 XB (by simp)).2
  have YU : Hid (Bys XU) := (h4 XU (by simp)).1
  have lU : nU ≤ 3000000 := by rw [hnU]; exact (h4 XU (by simp)).2
  have YV : Hid (Bys XV) := (h4 XV (by simp)).1
  have lV : nV ≤ 3000000 := by rw [hnV]; exact (h4 XV (by simp)).2
  have HB1 : Hid (∀ wx : World, Below w.heap.size w wx → Calls Try.prog 13 #[.int .i64 b, .slice a1 nk c1] wx fun e w' => ∃ a c, e = .returned (.tuple #[.slice a nA c, .int .i64 (EA : Int)]) ∧ Own w' wx.heap.size (.slice a nA c) nA XA ∧ Below wx.heap.size wx w') := by
    have h : ∀ wx : World, Below w.heap.size w wx → Calls Try.prog 13 #[.int .i64 b, .slice a1 nk c1] wx fun e w' => ∃ a c, e = .returned (.tuple #[.slice a nA c, .int .i64 (EA : Int)]) ∧ Own w' wx.heap.size (.slice a nA c) nA XA ∧ Below wx.heap.size wx w' := fun wx hx => by
      have h := H1.out.later hx
      rw [← hnk] at h
      have := buildM b h nA (by rw [hnA, hXA]) EA hEA
      rwa [← hXA] at this
    exact h
  have HB2 : Hid (∀ wx : World, Below w.heap.size w wx → Calls Try.prog 13 #[.int .i64 b, .slice a2 nq c2] wx fun e w' => ∃ a c, e = .returned (.tuple #[.slice a nB c, .int .i64 (EB : Int)]) ∧ Own w' wx.heap.size (.slice a nB c) nB XB ∧ Below wx.heap.size wx w') := by
    have h : ∀ wx : World, Below w.heap.size w wx → Calls Try.prog 13 #[.int .i64 b, .slice a2 nq c2] wx fun e w' => ∃ a c, e = .returned (.tuple #[.slice a nB c, .int .i64 (EB : Int)]) ∧ Own w' wx.heap.size (.slice a nB c) nB XB ∧ Below wx.heap.size wx w' := fun wx hx => by
      have h := H2.out.later hx
      rw [← hnq] at h
      have := buildM b h nB (by rw [hnB, hXB]) EB hEB
      rwa [← hXB] at this
    exact h
  have HU1 : Hid (∀ (wx : World) (va vb : Value), Rd wx va XA → Rd wx vb XB → Calls Try.prog 15 #[va, vb] wx fun e w' => ∃ a c, e = .returned (.tuple #[.slice a nU c, .int .i64 (EU : Int)]) ∧ Own w' wx.heap.size (.slice a nU c) nU XU ∧ Below wx.heap.size wx w') := by
    have h : ∀ (wx : World) (va vb : Value), Rd wx va XA → Rd wx vb XB → Calls Try.prog 15 #[va, vb] wx fun e w' => ∃ a c, e = .returned (.tuple #[.slice a nU c, .int .i64 (EU : Int)]) ∧ Own w' wx.heap.size (.slice a nU c) nU XU ∧ Below wx.heap.size wx w' := fun wx va vb ha hb => by
      have := unionM ha hb nU (by rw [hnU, hXU]) EU hEU
      rwa [← hXU] at this
    exact h
  have HU2 : Hid (∀ (wx : World) (va : Value), Rd wx va XA → Calls Try.prog 15 #[va, va] wx fun e w' => ∃ a c, e = .returned (.tuple #[.slice a nV c, .int .i64 (EV : Int)]) ∧ Own w' wx.heap.size (.slice a nV c) nV XV ∧ Below wx.heap.size wx w') := by
    have h : ∀ (wx : World) (va : Value), Rd wx va XA → Calls Try.prog 15 #[va, va] wx fun e w' => ∃ a c, e = .returned (.tuple #[.slice a nV c, .int .i64 (EV : Int)]) ∧ Own w' wx.heap.size (.slice a nV c) nV XV ∧ Below wx.heap.size wx w' := fun wx va ha => by
      have := unionM ha ha nV (by rw [hnV, hXV]) EV hEV
      rwa [← hXV] at this
    exact h
  have HNA : Hid (nA = XA.length ∧ nB = XB.length ∧ nU = XU.length ∧ nV = XV.length) := ⟨hnA, hnB, hnU, hnV⟩
  have HCp : Hid (∀ (wx : World) (a0 : Option Addr) (n0 c0 : Nat) (L : List Nat), Rd wx (.slice a0 n0 c0) L → n0 ≤ 3000000 → Calls Try.prog 22 #[.slice a0 n0 c0] wx fun e w' => ∃ a c, e = .returned (.slice a n0 c) ∧ Own w' wx.heap.size (.slice a n0 c) n0 L ∧ Below wx.heap.size wx w') := by
    have h : ∀ (wx : World) (a0 : Option Addr) (n0 c0 : Nat) (L : List Nat), Rd wx (.slice a0 n0 c0) L → n0 ≤ 3000000 → Calls Try.prog 22 #[.slice a0 n0 c0] wx fun e w' => ∃ a c, e = .returned (.slice a n0 c) ∧ Own w' wx.heap.size (.slice a n0 c) n0 L ∧ Below wx.heap.size wx w' := fun wx a0 n0 c0 L hr hl => copied_any hr (by omega)
    exact h
  rw [← hnk, ← hnq]
  clear hnA hnB hnU hnV hXA hXB hXU hXV hEA hEB hEU hEV hP hnk hnq H1 H2 h4
  go_enter Try.func7, Try.ntmps7
  go_wp2_with (go_at_call 12; fail)
  refine Calls.mono (HS.out _) ?_
  rintro e0 w0 ⟨rfl, b0⟩
  go_wp2
  go_loopw [8, 9, 10, 11, 12, 13, 14, 15, 16, 17, 18] (fun l us i _ _ _ _ _ _ _ _ wr => ∃ (t : Nat) (al au : Option Addr) (cl cu : Nat) (ls ws : List Value), t ≤ 2 ∧ i = .int .i64 ((t : Nat) : Int) ∧ l = .slice al (4 * t) cl ∧ us = .slice au (4 * t) cu ∧ Fw w wr w.heap.size (4 * t) cl (4 * t) cu al au ls ws ls ws (repL P t) (repL P t)) (fun _ _ i _ _ _ _ _ _ _ _ _ => 2 - (intOf i).toNat)
  case atStart => exact ⟨0, none, none, 0, 0, [], [], Nat.zero_le _, rfl, rfl, rfl, Fw.nil b0 b0.size⟩
  case round =>
    obtain ⟨t, al, au, cl, cu, ls, ws, ht2, rfl, rfl, rfl, hF⟩ := hrel
    have HF : Hid (Fw w wr w.heap.size (4 * t) cl (4 * t) cu al au ls ws ls ws (repL P t) (repL P t)) := hF
    clear hF
    by_cases hlt : t < 2
    · have hlt2 : (t : Int) < 2 := by omega
      have bw := HF.out.bel
      go_wp2_with (go_at_call 13; fail)
      refine Calls.mono (HB1.out _ bw) ?_
      rintro e1 w1 ⟨aA, cA, rfl, oA, b1⟩
      have F1 : Hid (Fw w w1 w.heap.size (4 * t) cl (4 * t) cu al au ls ws (ls ++ [.slice aA nA cA]) ws (repL P t ++ [XA]) (repL P t)) := HF.out.list b1 oA
      have RA1 : Hid (Rd w1 (.slice aA nA cA) XA) := oA.rd YA.out (by omega)
      have OA1 : Hid (Own w1 wr.heap.size (.slice aA nA cA) nA XA) := oA
      clear oA
      have bw1 := F1.out.bel
      go_wp2_with (go_at_call 13; fail)
      refine Calls.mono (HB2.out _ bw1) ?_
      rintro e2 w2 ⟨aB, cB, rfl, oB, b2⟩
      have F2 : Hid (Fw w w2 w.heap.size (4 * t) cl (4 * t) cu al au ls ws (ls ++ [.slice aA nA cA] ++ [.slice aB nB cB]) ws (repL P t ++ [XA] ++ [XB]) (repL P t)) := F1.out.list b2 oB
      have R2_ : Hid (Rd w2 (.slice aA nA cA) XA ∧ Rd w2 (.slice aB nB cB) XB) := ⟨RA1.out.later b2, oB.rd YB.out (by omega)⟩
      have OB2 : Hid (Own w2 w1.heap.size (.slice aB nB cB) nB XB) := oB
      clear oB
      go_wp2_with (go_at_call 15; fail)
      refine Calls.mono (HU1.out _ _ _ R2_.out.1 R2_.out.2) ?_
      rintro e3 w3 ⟨aU, cU, rfl, oU, b3⟩
      have F3 : Hid (Fw w w3 w.heap.size (4 * t) cl (4 * t) cu al au ls ws (ls ++ [.slice aA nA cA] ++ [.slice aB nB cB] ++ [.slice aU nU cU]) ws (repL P t ++ [XA] ++ [XB] ++ [XU]) (repL P t)) := F2.out.list b3 oU
      have R3_ : Hid (Rd w3 (.slice aA nA cA) XA) := R2_.out.1.later b3
      have OU3 : Hid (Own w3 w2.heap.size (.slice aU nU cU) nU XU) := oU
      clear oU
      go_wp2_with (go_at_call 15; fail)
      refine Calls.mono (HU2.out _ _ R3_.out) ?_
      rintro e4 w4 ⟨aV, cV, rfl, oV, b4⟩
      have F4 : Hid (Fw w w4 w.heap.size (4 * t) cl (4 * t) cu al au ls ws (ls ++ [.slice aA nA cA] ++ [.slice aB nB cB] ++ [.slice aU nU cU] ++ [.slice aV nV cV]) ws (repL P t ++ [XA] ++ [XB] ++ [XU] ++ [XV]) (repL P t)) := F3.out.list b4 oV
      have O4 : Hid (Own w4 wr.heap.size (.slice aA nA cA) nA XA ∧ Own w4 w1.heap.size (.slice aB nB cB) nB XB ∧ Own w4 w2.heap.size (.slice aU nU cU) nU XU ∧ Own w4 w3.heap.size (.slice aV nV cV) nV XV) := ⟨((OA1.out.later b2).later b3).later b4, (OB2.out.later b3).later b4, OU3.out.later b4, oV⟩
      clear oV F1 F2 F3 OA1 OB2 OU3 RA1 R2_ R3_
      go_wp2_with (first
        | (have X := F9; at_builtin; refine wpList_append_parts rfl _ _ rfl w.heap.size _ _ _ ws rfl F9.out.u _ 4 rfl (by simp [Value.oneCell']) rfl (by omega) F9.out.hB ?_; intro a10 c10 w10 hr10 hg10 hl10; have F10 : Hid (Fw w w10 w.heap.size (4 * t + 4) c5 (4 * t + 4) c10 a5 a10 _ _ _ _ _ _) := F9.out.rowU hr10 hg10 hl10; clear hr10 hg10 hl10)
        | (have X := F8; go_at_call_of 22 (Value.slice aV nV cV); refine Calls.mono (HCp.out _ _ _ _ _ (Z8.out.2.2.2) lV) ?_; rintro e9 w9 ⟨a9, c9, rfl, o9, b9⟩; have F9 : Hid (Fw w w9 w.heap.size (4 * t + 4) c5 (4 * t) cu a5 au _ ws _ (ws ++ [.slice a6 nA c6] ++ [.slice a7 nB c7] ++ [.slice a8 nU c8] ++ [.slice a9 nV c9]) _ (repL P t ++ [XA] ++ [XB] ++ [XU] ++ [XV])) := F8.out.copy b9 o9; clear o9)
        | (have X := F7; go_at_call_of 22 (Value.slice aU nU cU); refine Calls.mono (HCp.out _ _ _ _ _ (Z7.out.2.2.1) lU) ?_; rintro e8 w8 ⟨a8, c8, rfl, o8, b8⟩; have F8 : Hid (Fw w w8 w.heap.size (4 * t + 4) c5 (4 * t) cu a5 au _ ws _ (ws ++ [.slice a6 nA c6] ++ [.slice a7 nB c7] ++ [.slice a8 nU c8]) _ (repL P t ++ [XA] ++ [XB] ++ [XU])) := F7.out.copy b8 o8; have Z8 : Hid (Rd w8 (.slice aA nA cA) XA ∧ Rd w8 (.slice aB nB cB) XB ∧ Rd w8 (.slice aU nU cU) XU ∧ Rd w8 (.slice aV nV cV) XV) := ⟨Z7.out.1.later b8, Z7.out.2.1.later b8, Z7.out.2.2.1.later b8, Z7.out.2.2.2.later b8⟩; clear o8)
        | (have X := F6; go_at_call_of 22 (Value.slice aB nB cB); refine Calls.mono (HCp.out _ _ _ _ _ (Z6.out.2.1) lB) ?_; rintro e7 w7 ⟨a7, c7, rfl, o7, b7⟩; have F7 : Hid (Fw w w7 w.heap.size (4 * t + 4) c5 (4 * t) cu a5 au _ ws _ (ws ++ [.slice a6 nA c6] ++ [.slice a7 nB c7]) _ (repL P t ++ [XA] ++ [XB])) := F6.out.copy b7 o7; have Z7 : Hid (Rd w7 (.slice aA nA cA) XA ∧ Rd w7 (.slice aB nB cB) XB ∧ Rd w7 (.slice aU nU cU) XU ∧ Rd w7 (.slice aV nV cV) XV) := ⟨Z6.out.1.later b7, Z6.out.2.1.later b7, Z6.out.2.2.1.later b7, Z6.out.2.2.2.later b7⟩; clear o7)
        | (go_at_call_of 22 (Value.slice aA nA cA); refine Calls.mono (HCp.out _ _ _ _ _ (Z5.out.1) lA) ?_; rintro e6 w6 ⟨a6, c6, rfl, o6, b6⟩; have F6 : Hid (Fw w w6 w.heap.size (4 * t + 4) c5 (4 * t) cu a5 au _ ws _ (ws ++ [.slice a6 nA c6]) _ (repL P t ++ [XA])) := F5.out.copy b6 o6; have Z6 : Hid (Rd w6 (.slice aA nA cA) XA ∧ Rd w6 (.slice aB nB cB) XB ∧ Rd w6 (.slice aU nU cU) XU ∧ Rd w6 (.slice aV nV cV) XV) := ⟨Z5.out.1.later b6, Z5.out.2.1.later b6, Z5.out.2.2.1.later b6, Z5.out.2.2.2.later b6⟩; clear o6)
        | (at_builtin; refine wpList_append_parts rfl _ _ rfl w.heap.size _ _ _ ls rfl F4.out.l _ 4 rfl (by simp [Value.oneCell']) rfl (by omega) F4.out.hB ?_; intro a5 c5 w5 hr5 hg5 hl5; have F5 : Hid (Fw w w5 w.heap.size (4 * t + 4) c5 (4 * t) cu a5 au (ls ++ [.slice aA nA cA, .slice aB nB cB, .slice aU nU cU, .slice aV nV cV]) ws (ls ++ [.slice aA nA cA] ++ [.slice aB nB cB] ++ [.slice aU nU cU] ++ [.slice aV nV cV]) ws (repL P t ++ [XA] ++ [XB] ++ [XU] ++ [XV]) (repL P t)) := F4.out.rowL hr5 hg5 hl5; have Z5 : Hid (Rd w5 (.slice aA nA cA) XA ∧ Rd w5 (.slice aB nB cB) XB ∧ Rd w5 (.slice aU nU cU) XU ∧ Rd w5 (.slice aV nV cV) XV) := ⟨(O4.out.1.kept_row F4.out.l (by decide) hg5).rd YA.out (by omega), (O4.out.2.1.kept_row F4.out.l (by decide) hg5).rd YB.out (by omega), (O4.out.2.2.1.kept_row F4.out.l (by decide) hg5).rd YU.out (by omega), (O4.out.2.2.2.kept_row F4.out.l (by decide) hg5).rd YV.out (by omega)⟩; clear hr5 hg5 hl5))
      go_roundw
      case rel =>
        refine ⟨t + 1, a5, a10, c5, c10, ls ++ [.slice aA nA cA, .slice aB nB cB, .slice aU nU cU, .slice aV nV cV], ws ++ [.slice a6 nA c6, .slice a7 nB c7, .slice a8 nU c8, .slice a9 nV c9], by omega, by go_num, by rw [Nat.mul_succ], by rw [Nat.mul_succ], ?_⟩
        have h := F10.out
        have e1 : repL P (t + 1) = repL P t ++ [XA] ++ [XB] ++ [XU] ++ [XV] := by rw [repL_succ, HP.out]; simp
        rw [e1, Nat.mul_succ]
        simp only [List.append_assoc, List.cons_append, List.nil_append] at h ⊢
        exact h
      case measure => simp [intOf]; omega
    · obtain rfl : t = 2 := by omega
      have hge : ¬ (((2 : Nat) : Int) < 2) := by omega
      have HX : Hid (Fw w wr w.heap.size 8 cl 8 cu al au ls ws ls ws (repL P 2) (repL P 2)) := HF.out
      clear HF
      go_wp2
      obtain ⟨C0, hC0⟩ : ∃ C0, C0 = repL P 2 := ⟨_, rfl⟩
      have HCC : Hid (∀ (j : Nat) (x : List Nat), C0[j]? = some x → Bys x ∧ x.length ≤ 3000000 ∧ (∀ y, C0[j % 4]? = some y → x = y)) := by
        have h : ∀ (j : Nat) (x : List Nat), C0[j]? = some x → Bys x ∧ x.length ≤ 3000000 ∧ (∀ y, C0[j % 4]? = some y → x = y) := by
          intro j x hx
          have hm : x ∈ P := by
            have := List.mem_of_getElem? hx
            rw [hC0, repL_two] at this
            rcases List.mem_append.1 this with h | h <;> exact h
          refine ⟨(HP3.out x hm).1, (HP3.out x hm).2, fun y hy => ?_⟩
          rw [hC0, repL_two, HP.out] at hx hy
          have hj8 : j < 8 := by have := (List.getElem?_eq_some_iff.1 hx).1; simpa using this
          have hj : j = 0 ∨ j = 1 ∨ j = 2 ∨ j = 3 ∨ j = 4 ∨ j = 5 ∨ j = 6 ∨ j = 7 := by omega
          rcases hj with rfl | rfl | rfl | rfl | rfl | rfl | rfl | rfl <;> (simp at hx hy; rw [← hx, ← hy])
        exact h
      have HC8 : Hid (C0.length = 8) := by
        have h : C0.length = 8 := by rw [hC0, repL_two, HP.out]; rfl
        exact h
      have HC3 : Hid (C0[0]? = some XA ∧ C0[1]? = some XB ∧ C0[2]? = some XU) := by
        have h : C0[0]? = some XA ∧ C0[1]? = some XB ∧ C0[2]? = some XU := by rw [hC0, repL_two, HP.out]; exact ⟨rfl, rfl, rfl⟩
        exact h
      have HXL : Hid (∀ wx, Below wr.heap.size wr wx → Fw w wx w.heap.size 8 cl 8 cu al au ls ws ls ws C0 C0) := by
        have h : ∀ wx, Below wr.heap.size wr wx → Fw w wx w.heap.size 8 cl 8 cu al au ls ws ls ws C0 C0 := fun wx hx => by rw [hC0]; exact HX.out.later hx
        exact h
      clear HX hC0
      obtain ⟨W2, hW2⟩ : ∃ W2, W2 = wr := ⟨_, rfl⟩
      rw [← hW2] at HXL ⊢
      clear hW2
      go_loopw [19] (fun i wr => ∃ t : Nat, t ≤ 8 ∧ i = .int .i64 ((t : Nat) : Int) ∧ Below W2.heap.size W2 wr) (fun i _ => 8 - (intOf i).toNat)
      case atStart => exact ⟨0, Nat.zero_le _, rfl, Below.refl _ _⟩
      case round =>
        obtain ⟨t, ht8, rfl, hbW⟩ := hrel
        have HBW : Hid (Below W2.heap.size W2 wr) := hbW
        have HFw : Hid (Fw w wr w.heap.size 8 cl 8 cu al au ls ws ls ws C0 C0) := HXL.out _ hbW
        clear hbW
        by_cases hlt : t < 8
        · have hlt2 : (t : Int) < 8 := by omega
          have hbit := and_three t hlt
          obtain ⟨r, hr⟩ : ∃ r, r = t % 4 := ⟨_, rfl⟩
          rw [← hr] at hbit
          have hr4 : r < 4 := by omega
          have hr5 : (r : Int) < 8 := by omega
          obtain ⟨hOw, hR2⟩ := HFw.out.ow
          obtain ⟨gL, a3, x, c3, rfl, _, hCx, hcl, hown⟩ := hOw.item hlt
          obtain ⟨gU, a4, c4, y, rfl, hDy, hcu, hownU⟩ := copyAt hOw.kx hR2 hlt
          obtain ⟨gU', a5, c5, z, e0, hDz, hcr, hownR⟩ := copyAt hOw.kx hR2 (show r < 8 by omega)
          cases e0
          rw [hCx] at hDy
          cases hDy
          have hcc := HCC.out t x hCx
          have hxz : x = z := hcc.2.2 z (by rw [← hr]; exact hDz)
          subst hxz
          obtain ⟨nx, hnx⟩ : ∃ nx, nx = x.length := ⟨_, rfl⟩
          rw [← hnx] at hcl hcu hcr hown hownU hownR
          have hnl : nx ≤ 3000000 := by rw [hnx]; exact hcc.2.1
          have k1 := World.block_lt_of_cell? _ _ hcl
          have k2 := World.block_lt_of_cell? _ _ hcu
          have k3 := World.block_lt_of_cell? _ _ hcr
          have HQ : Hid (∀ wx, Below wr.heap.size wr wx → wx.cell? ⟨gL, t, none⟩ = some (.slice a3 nx c3) ∧ wx.cell? ⟨gU, t, none⟩ = some (.slice a4 nx c4) ∧ wx.cell? ⟨gU, r, none⟩ = some (.slice a5 nx c5)) := by
            have h : ∀ wx, Below wr.heap.size wr wx → wx.cell? ⟨gL, t, none⟩ = some (.slice a3 nx c3) ∧ wx.cell? ⟨gU, t, none⟩ = some (.slice a4 nx c4) ∧ wx.cell? ⟨gU, r, none⟩ = some (.slice a5 nx c5) := fun wx hx => ⟨(hx.cell (p := ⟨gL, t, none⟩) k1).trans hcl, (hx.cell (p := ⟨gU, t, none⟩) k2).trans hcu, (hx.cell (p := ⟨gU, r, none⟩) k3).trans hcr⟩
            exact h
          have HA1 : Hid (∀ wx, Below wr.heap.size wr wx → Calls Try.prog 18 #[.slice a3 nx c3, .slice a4 nx c4] wx fun e w' => e = .returned (.bool true) ∧ w' = wx) := by
            have h : ∀ wx, Below wr.heap.size wr wx → Calls Try.prog 18 #[.slice a3 nx c3, .slice a4 nx c4] wx fun e w' => e = .returned (.bool true) ∧ w' = wx := fun wx hx => (alike_any ((hown.later hx).rd hcc.1 (by omega)) ((hownU.later hx).rd hcc.1 (by omega))).mono fun e w' h => ⟨by rw [h.1]; simp, h.2⟩
            exact h
          have HA2 : Hid (∀ wx, Below wr.heap.size wr wx → Calls Try.prog 18 #[.slice a4 nx c4, .slice a5 nx c5] wx fun e w' => e = .returned (.bool true) ∧ w' = wx) := by
            have h : ∀ wx, Below wr.heap.size wr wx → Calls Try.prog 18 #[.slice a4 nx c4, .slice a5 nx c5] wx fun e w' => e = .returned (.bool true) ∧ w' = wx := fun wx hx => (alike_any ((hownU.later hx).rd hcc.1 (by omega)) ((hownR.later hx).rd hcc.1 (by omega))).mono fun e w' h => ⟨by rw [h.1]; simp, h.2⟩
            exact h
          have bd : Below wr.heap.size wr wr.drew := (Below.refl _ _).drew
          have p0 := HQ.out _ bd
          have p9 := HQ.out _ (Below.refl _ _)
          have z0 : (0 : Int) ≤ (t : Int) := by omega
          have z1 : (0 : Int) ≤ (r : Int) := by omega
          clear hown hownU hownR hcc hCx hDz hnx k1 k2 k3 hcl hcu hcr hOw hR2 hr
          go_wp2
          go_region_held3 (fun wx => wx.cell? ⟨gL, t, none⟩ = some (.slice a3 nx c3) ∧ wx.cell? ⟨gU, t, none⟩ = some (.slice a4 nx c4) ∧ wx.cell? ⟨gU, r, none⟩ = some (.slice a5 nx c5)) (first | exact p0) (first | (go_at_call_of 18 (Value.slice a3 nx c3); refine Calls.mono (HA1.out _ bd) ?_; rintro e5 w5 ⟨rfl, rfl⟩) | (go_at_call_of 18 (Value.slice a4 nx c4); refine Calls.mono (HA2.out _ bd) ?_; rintro e6 w6 ⟨rfl, rfl⟩))
          go_wp2
          go_roundw
          case rel => exact ⟨t + 1, by omega, by go_num, HBW.out.drew⟩
          case measure => simp [intOf]; omega
        · obtain rfl : t = 8 := by omega
          have hge : ¬ (((8 : Nat) : Int) < 8) := by omega
          obtain ⟨hOw, hR2⟩ := HFw.out.ow
          obtain ⟨gL, _, _, _, rfl, _⟩ := hOw.item (j := 0) (by omega)
          have OW : Hid (Ow w wr w.heap.size 8 cl (some ⟨gL, 0, none⟩) ls ws C0 C0 ∧ R2 wr w.heap.size 8 cu au ws [.slice (some ⟨gL, 0, none⟩) 8 cl]) := ⟨hOw, hR2⟩
          clear hOw hR2 HFw HBW HXL
          go_wp2
          go_loopw [20, 21] (fun i _ wr => ∃ (t : Nat) (C : List (List Nat)), t ≤ 8 ∧ i = .int .i64 ((t : Nat) : Int) ∧ (Ow w wr w.heap.size 8 cl (some ⟨gL, 0, none⟩) ls ws C C0 ∧ R2 wr w.heap.size 8 cu au ws [.slice (some ⟨gL, 0, none⟩) 8 cl]) ∧ Fi C0 C t 0) (fun i _ _ => 8 - (intOf i).toNat)
          case atStart => exact ⟨0, C0, Nat.zero_le _, rfl, OW.out, Fi.start C0⟩
          case round =>
            obtain ⟨t, C, ht4, rfl, hO, hF⟩ := hrel
            have HO : Hid ((Ow w wr w.heap.size 8 cl (some ⟨gL, 0, none⟩) ls ws C C0 ∧ R2 wr w.heap.size 8 cu au ws [.slice (some ⟨gL, 0, none⟩) 8 cl]) ∧ Fi C0 C t 0) := ⟨hO, hF⟩
            clear hO hF OW
            by_cases hlt : t < 8
            · have hlt2 : (t : Int) < 8 := by omega
              obtain ⟨gL', a, x, c, e0, hls, hCx, hcl, hown⟩ := HO.out.1.1.item hlt
              cases e0
              obtain ⟨n0, hn0⟩ : ∃ n0, n0 = x.length := ⟨_, rfl⟩
              rw [← hn0] at hls hcl
              have HL : Hid (ls[t]? = some (.slice a n0 c)) := hls
              have hn3 : n0 ≤ 3000000 := by
                obtain ⟨x0, hx0⟩ : ∃ x0, C0[t]? = some x0 := ⟨C0[t]'(by rw [HC8.out]; exact hlt), List.getElem?_eq_getElem _⟩
                have := (HO.out.2.2 t x0 x hx0 hCx).1
                have := (HCC.out t x0 hx0).2.1
                omega
              have hwt : IntKind.u8.wrap (IntKind.i64.wrap (11 + (t : Int))) = ((11 + t : Nat) : Int) := by
                rw [IntWalk.i64_in _ ⟨by omega, by omega⟩]
                rw [show (11 + (t : Int)) = ((11 + t : Nat) : Int) by omega]
                rw [IntWalk.u8_in _ ⟨by omega, by omega⟩]
              clear hls hown hCx hcl hn0
              go_wp2
              go_loopw [21] (fun k wr => ∃ (q : Nat) (C : List (List Nat)), q ≤ n0 ∧ k = .int .i64 ((q : Nat) : Int) ∧ (Ow w wr w.heap.size 8 cl (some ⟨gL, 0, none⟩) ls ws C C0 ∧ R2 wr w.heap.size 8 cu au ws [.slice (some ⟨gL, 0, none⟩) 8 cl]) ∧ Fi C0 C t q) (fun k _ => n0 - (intOf k).toNat)
              case atStart => exact ⟨0, C, Nat.zero_le _, rfl, HO.out.1, HO.out.2⟩
              case round =>
                obtain ⟨q, C, hq, rfl, hO, hF⟩ := hrel
                have HO : Hid ((Ow w wr w.heap.size 8 cl (some ⟨gL, 0, none⟩) ls ws C C0 ∧ R2 wr w.heap.size 8 cu au ws [.slice (some ⟨gL, 0, none⟩) 8 cl]) ∧ Fi C0 C t q) := ⟨hO, hF⟩
                obtain ⟨gL', x, e0, hCx, hxl, hcl, hown, _⟩ := hO.1.at HL.out
                cases e0
                have HX : Hid (C[t]? = some x ∧ x.length = n0) := ⟨hCx, hxl⟩
                clear hO hF hCx
                by_cases hql : q < n0
                · have hql2 : (q : Int) < (n0 : Int) := by omega
                  rcases ownNonil hown with ⟨_, h0, _⟩ | ⟨g, rfl⟩
                  · omega
                  have hcg := ownCell hown hql
                  have hfz := hown.2.frozenAt q
                  obtain ⟨yv, hyv⟩ : ∃ yv, yv = x.getD q 0 := ⟨_, rfl⟩
                  rw [← hyv] at hcg
                  clear hown hxl hyv
                  go_wp2
                  go_roundw
                  case rel => exact ⟨q + 1, C.set t (x.set q (11 + t)), by omega, by go_num, ⟨HO.out.1.1.store HL.out HX.out.1 _, HO.out.1.2.kept_bytes (HO.out.1.1.sh.own t _ x HL.out HX.out.1) (HO.out.1.1.sh.store HL.out HX.out.1 (k := q) (11 + t)).2⟩, HO.out.2.step HX.out.1 (by rw [HX.out.2]; exact hql)⟩
                  case measure => simp [intOf]; omega
                · obtain rfl : q = n0 := by omega
                  have hge : ¬ ((q : Int) < (q : Int)) := by omega
                  clear hown hxl
                  go_wp2
                  go_roundw
                  case rel => exact ⟨t + 1, C, by omega, by go_num, HO.out.1, HO.out.2.next HX.out.1 HX.out.2.symm⟩
                  case measure => simp [intOf]; omega
            · obtain rfl : t = 8 := by omega
              have hge : ¬ (((8 : Nat) : Int) < 8) := by omega
              have OF : Hid (Ow w wr w.heap.size 8 cl (some ⟨gL, 0, none⟩) ls ws (fullL C0) C0 ∧ R2 wr w.heap.size 8 cu au ws [.slice (some ⟨gL, 0, none⟩) 8 cl]) := by
                have := HO.out.1
                rwa [HO.out.2.full (by rw [HC8.out]; exact Nat.le_refl _)] at this
              clear HO
              go_wp2
              go_loopw [22, 23] (fun m i wr => ∃ (t : Nat) (am : Option Addr) (cm : Nat) (ms : List Value), t ≤ 8 ∧ i = .int .i64 ((t : Nat) : Int) ∧ m = .slice am t cm ∧ Gw w wr w.heap.size 8 cl t cm (some ⟨gL, 0, none⟩) am ls ms ws (fullL C0) C0 ∧ R2 wr w.heap.size 8 cu au ws [.slice (some ⟨gL, 0, none⟩) 8 cl, .slice am t cm]) (fun _ i _ => 8 - (intOf i).toNat)
              case atStart => exact ⟨0, none, 0, [], Nat.zero_le _, rfl, rfl, Gw.start OF.out.1, OF.out.2.row, fun r hr => by
                simp only [List.mem_cons, List.not_mem_nil, or_false] at hr
                rcases hr with rfl | rfl
                · exact OF.out.2.ap _ (by simp)
                · exact Ap.symm (fun g h => by simp [Value.ownBlock] at h)⟩
              case round =>
                obtain ⟨t, am, cm, ms, ht4, rfl, rfl, hG⟩ := hrel
                have HG : Hid (Gw w wr w.heap.size 8 cl t cm (some ⟨gL, 0, none⟩) am ls ms ws (fullL C0) C0 ∧ R2 wr w.heap.size 8 cu au ws [.slice (some ⟨gL, 0, none⟩) 8 cl, .slice am t cm]) := hG
                clear hG OF
                by_cases hlt : t < 8
                · have hlt2 : (t : Int) < 8 := by omega
                  obtain ⟨gL', a, x, c, e0, hls, hCx, hcl, hown⟩ := HG.out.1.ow.item hlt
                  cases e0
                  obtain ⟨n0, hn0⟩ : ∃ n0, n0 = x.length := ⟨_, rfl⟩
                  rw [← hn0] at hls hcl hown
                  have hn3 : n0 ≤ 3000000 := by
                    obtain ⟨x0, hx0, rfl⟩ := fullL_get hCx
                    have := (HCC.out t x0 hx0).2.1
                    simp at hn0
                    omega
                  have hmk2 : 11 + t < 256 := by omega
                  have HX : Hid (ls[t]? = some (.slice a n0 c) ∧ (fullL C0)[t]? = some x ∧ n0 = x.length ∧ Own wr w.heap.size (.slice a n0 c) n0 x) := ⟨hls, hCx, hn0, hown⟩
                  have hBr := HG.out.1.hB
                  clear hls hown hCx hn0
                  go_wp2_with (first | (go_at_call 21; refine Calls.mono (grown_any (m := 11 + t) HX.out.2.2.2 hBr hn3 hmk2) ?_; rintro eg wg ⟨a5, c5, rfl, og1, og2, og3, og4⟩; have GG : Hid (w.heap.size ≤ wg.heap.size ∧ wg.ownsRow w.heap.size 24 1 (.slice am t cm) t ms ∧ ∀ (a2 : Option Addr) (c2 : Nat) (w2 : World), w2.ownsRow w.heap.size 24 1 (.slice a2 (t + 1) c2) (t + 1) (ms ++ [.slice a5 (n0 + (n0 + 70)) c5]) → wg.grownBy w2 (Value.slice am t cm).ownBlock → (∀ g, (Value.slice a2 (t + 1) c2).ownBlock = some g → (Value.slice am t cm).ownBlock = some g ∨ wg.heap.size < g) → Gw w w2 w.heap.size 8 cl (t + 1) c2 (some ⟨gL, 0, none⟩) a2 ls (ms ++ [.slice a5 (n0 + (n0 + 70)) c5]) ws (fullL C0) C0) := HG.out.1.grow HX.out.1 HX.out.2.1 (by rw [← HX.out.2.2.1]; exact og1) (by rw [← HX.out.2.2.1]; exact og2) og3 og4; have GR : Hid (R2 wg w.heap.size 8 cu au ws [.slice (some ⟨gL, 0, none⟩) 8 cl, .slice am t cm]) := HG.out.2.kept_bytes HX.out.2.2.2 og3; clear og1 og2 og3 og4) | (at_builtin; refine wpList_append_part rfl _ _ rfl w.heap.size _ _ _ ms rfl GG.out.2.1 _ rfl rfl (by omega) GG.out.1 ?_; intro a6 c6 w6 hr6 hg6 hl6; have G6 : Hid (Gw w w6 w.heap.size 8 cl (t + 1) c6 (some ⟨gL, 0, none⟩) a6 ls (ms ++ [.slice a5 (n0 + (n0 + 70)) c5]) ws (fullL C0) C0 ∧ R2 w6 w.heap.size 8 cu au ws [.slice (some ⟨gL, 0, none⟩) 8 cl, .slice a6 (t + 1) c6]) := ⟨GG.out.2.2 _ _ _ hr6 hg6 hl6, GR.out.moved hg6 hl6⟩; clear hr6 hg6 hl6))
                  go_roundw
                  case rel => exact ⟨t + 1, a6, c6, _, by omega, by go_num, rfl, G6.out⟩
                  case measure => simp [intOf]; omega
                · obtain rfl : t = 8 := by omega
                  have hge : ¬ (((8 : Nat) : Int) < 8) := by omega
                  have bG := HG.out.1.bel
                  go_wp2_with (go_at_call 13; fail)
                  refine Calls.mono (HB1.out _ bG) ?_
                  rintro e1 w1 ⟨aA, cA, rfl, oA, b1⟩
                  have B1 := bG.trans (b1.mono bG.size)
                  have OA : Hid (Own w1 wr.heap.size (.slice aA nA cA) nA XA) := oA
                  clear oA
                  go_wp2_with (go_at_call 13; fail)
                  refine Calls.mono (HB2.out _ B1) ?_
                  rintro e2 w2 ⟨aB, cB, rfl, oB, b2⟩
                  have R2_ : Hid (Rd w2 (.slice aA nA cA) XA ∧ Rd w2 (.slice aB nB cB) XB) := ⟨(OA.out.later b2).rd YA.out (by omega), oB.rd YB.out (by omega)⟩
                  clear oB
                  go_wp2_with (go_at_call 15; fail)
                  refine Calls.mono (HU1.out _ _ _ R2_.out.1 R2_.out.2) ?_
                  rintro e3 w3 ⟨aU, cU, rfl, oU, b3⟩
                  have b13 := b1.trans ((b2.trans (b3.mono b2.size)).mono b1.size)
                  have HG3 : Hid (Gw w w3 w.heap.size 8 cl 8 cm (some ⟨gL, 0, none⟩) am ls ms ws (fullL C0) C0 ∧ R2 w3 w.heap.size 8 cu au ws [.slice (some ⟨gL, 0, none⟩) 8 cl, .slice am 8 cm]) := ⟨HG.out.1.later b13, HG.out.2.later b13⟩
                  have hx1 := HC3.out
                  obtain ⟨gU, p1, d1, y1, rfl, hy1, hc1, ho1⟩ := copyAt HG3.out.1.kx HG3.out.2 (show 0 < 8 by omega)
                  obtain ⟨gU2, p2, d2, y2, e9, hy2, hc2, ho2⟩ := copyAt HG3.out.1.kx HG3.out.2 (show 1 < 8 by omega)
                  cases e9
                  obtain ⟨gU3, p3, d3, y3, e9, hy3, hc3, ho3⟩ := copyAt HG3.out.1.kx HG3.out.2 (show 2 < 8 by omega)
                  cases e9
                  rw [hx1.1] at hy1
                  rw [hx1.2.1] at hy2
                  rw [hx1.2.2] at hy3
                  cases hy1
                  cases hy2
                  cases hy3
                  rw [← HNA.out.1] at hc1 ho1
                  rw [← HNA.out.2.1] at hc2 ho2
                  rw [← HNA.out.2.2.1] at hc3 ho3
                  have R3_ : Hid ((Rd w3 (.slice aA nA cA) XA ∧ Rd w3 (.slice p1 nA d1) XA) ∧ (Rd w3 (.slice aB nB cB) XB ∧ Rd w3 (.slice p2 nB d2) XB) ∧ (Rd w3 (.slice aU nU cU) XU ∧ Rd w3 (.slice p3 nU d3) XU)) := ⟨⟨R2_.out.1.later b3, ho1.rd YA.out (by omega)⟩, ⟨R2_.out.2.later b3, ho2.rd YB.out (by omega)⟩, ⟨oU.rd YU.out (by omega), ho3.rd YU.out (by omega)⟩⟩
                  clear oU ho1 ho2 ho3 R2_ OA hx1
                  go_wp2_with (first | (go_at_call_of 18 (Value.slice aA nA cA); refine Calls.mono (alike_any R3_.out.1.1 R3_.out.1.2) ?_; rintro ea wa ⟨rfl, rfl⟩; rw [show decide (XA = XA) = true by simp]) | (go_at_call_of 18 (Value.slice aB nB cB); refine Calls.mono (alike_any R3_.out.2.1.1 R3_.out.2.1.2) ?_; rintro eb wb ⟨rfl, rfl⟩; rw [show decide (XB = XB) = true by simp]) | (go_at_call_of 18 (Value.slice aU nU cU); refine Calls.mono (alike_any R3_.out.2.2.1 R3_.out.2.2.2) ?_; rintro ec wc ⟨rfl, rfl⟩; rw [show decide (XU = XU) = true by simp]))
                  have HG2 : Hid (Gw w wc w.heap.size 8 cl 8 cm (some ⟨gL, 0, none⟩) am ls ms ws (fullL C0) C0) := HG3.out.1
                  clear HG HG3 R3_ hc1 hc2 hc3
                  obtain ⟨WC, hWC⟩ : ∃ WC, WC = wc := ⟨_, rfl⟩
                  rw [← hWC] at HG2 ⊢
                  clear hWC
                  go_loopw [30, 31] (fun i _ wr => ∃ t : Nat, t ≤ 8 ∧ i = .int .i64 ((t : Nat) : Int) ∧ wr = WC) (fun i _ _ => 8 - (intOf i).toNat)
                  case atStart => exact ⟨0, Nat.zero_le _, rfl, rfl⟩
                  case round =>
                    obtain ⟨t, ht4, rfl, rfl⟩ := hrel
                    by_cases hlt : t < 8
                    · have hlt2 : (t : Int) < 8 := by omega
                      obtain ⟨gL', a, x, c, e0, _, hCx, hcl, hown⟩ := HG2.out.ow.item hlt
                      cases e0
                      obtain ⟨gM, a7, c7, rfl, hcm, hown7⟩ := HG2.out.at hlt hCx
                      obtain ⟨x0, hx0, rfl⟩ := fullL_get hCx
                      obtain ⟨n0, hn0⟩ : ∃ n0, n0 = (List.replicate x0.length (11 + t)).length := ⟨_, rfl⟩
                      have hn3 : n0 ≤ 3000000 := by
                        have := (HCC.out t x0 hx0).2.1
                        simp at hn0
                        omega
                      rw [← hn0] at hown hown7 hcl hcm
                      have hn1 : x0.length = n0 := by simpa using hn0.symm
                      rw [hn1] at hown hown7
                      have HCE : Hid (∀ q g, q < n0 → a = some ⟨g, 0, none⟩ → wr.cell? ⟨g, q, none⟩ = some (.int .u8 (11 + (t : Int)))) := by
                        have h : ∀ q g, q < n0 → a = some ⟨g, 0, none⟩ → wr.cell? ⟨g, q, none⟩ = some (.int .u8 (11 + (t : Int))) := by
                          rintro q g hq rfl
                          have := ownCell hown hq
                          rw [rep_get1 _ _ _ hq] at this
                          rw [this]; rfl
                        exact h
                      have HCM : Hid (∀ q, q < n0 + (n0 + 70) → ∃ g, a7 = some ⟨g, 0, none⟩ ∧ wr.cell? ⟨g, q, none⟩ = some (.int .u8 (11 + (t : Int)))) := by
                        have h : ∀ q, q < n0 + (n0 + 70) → ∃ g, a7 = some ⟨g, 0, none⟩ ∧ wr.cell? ⟨g, q, none⟩ = some (.int .u8 (11 + (t : Int))) := by
                          intro q hq
                          rcases ownNonil hown7 with ⟨_, h0, _⟩ | ⟨g, rfl⟩
                          · omega
                          · refine ⟨g, rfl, ?_⟩
                            have := ownCell hown7 hq
                            rw [rep_get _ _ _ _ hq] at this
                            rw [this]; rfl
                        exact h
                      have HNz : Hid (0 < n0 → ∃ g, a = some ⟨g, 0, none⟩) := by
                        have h : 0 < n0 → ∃ g, a = some ⟨g, 0, none⟩ := fun h => by
                          rcases ownNonil hown with ⟨_, h0, _⟩ | ⟨g, rfl⟩
                          · omega
                          · exact ⟨g, rfl⟩
                        exact h
                      clear hown hown7 hn0 hn1 hCx hx0
                      obtain ⟨NM, hNM⟩ : ∃ NM, NM = n0 + (n0 + 70) := ⟨_, rfl⟩
                      rw [← hNM] at hcm HCM
                      go_wp2
                      go_loopw [31] (fun k wr' => ∃ q : Nat, q ≤ NM ∧ k = .int .i64 ((q : Nat) : Int) ∧ wr' = wr) (fun k _ => NM - (intOf k).toNat)
                      case atStart => exact ⟨0, Nat.zero_le _, rfl, rfl⟩
                      case round =>
                        obtain ⟨q, hq, rfl, rfl⟩ := hrel
                        by_cases hql : q < NM
                        · have hql2 : (q : Int) < (NM : Int) := by omega
                          obtain ⟨g7, rfl, hc7⟩ := HCM.out q hql
                          by_cases hqn : q < n0
                          · have hqn2 : (q : Int) < (n0 : Int) := by omega
                            obtain ⟨g8, rfl⟩ := HNz.out (by omega)
                            have hc8 := HCE.out q g8 hqn rfl
                            go_wp2
                            go_roundw
                            case rel => exact ⟨q + 1, by omega, by go_num, by trivial⟩
                            case measure => simp [intOf]; omega
                          · have hqn2 : ¬ ((q : Int) < (n0 : Int)) := by omega
                            go_wp2
                            go_roundw
                            case rel => exact ⟨q + 1, by omega, by go_num, by trivial⟩
                            case measure => simp [intOf]; omega
                        · obtain rfl : q = NM := by omega
                          have hge2 : ¬ ((q : Int) < (q : Int)) := by omega
                          go_wp2
                          go_roundw
                          case rel => exact ⟨t + 1, by omega, by go_num, by trivial⟩
                          case measure => simp [intOf]; omega
                    · obtain rfl : t = 8 := by omega
                      have hge2 : ¬ (((8 : Nat) : Int) < 8) := by omega
                      have bC := HG2.out.bel
                      go_wp2_with (go_at_call 12; refine Calls.mono (HS.out _) ?_; rintro e9 w9 ⟨rfl, b9⟩)
                      go_ret
                      exact ⟨rfl, bC.trans (b9.mono bC.size)⟩
end Go.Proofs.Ytieehdhinponcaa
