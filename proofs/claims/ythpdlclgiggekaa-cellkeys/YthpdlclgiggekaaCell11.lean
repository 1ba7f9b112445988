import Derived.Test.YthpdlclgiggekaaCell10
import Derived.Lib.Hide
namespace Go.Proofs.Ythpdlclgiggekaa
open Go.RowKit
set_option linter.unusedVariables false

set_option maxRecDepth 100000 in
set_option maxHeartbeats 1000000 in
theorem refCheck_plain {vr vq vv : Value} {w : World} (hok : EntD.Ok w (plainD vr vq vv)) :
    Calls Try.prog 40 #[.agg (plainD vr vq vv).cells] w fun r w' => r = .returned (.int .i64 0) ∧ Below w.heap.size w w' := by
  obtain ⟨h1, h2, h3⟩ := hok
  obtain ⟨ar, nr, cr, e1⟩ := rd_slice h1
  obtain ⟨aq, nq, cq, e2⟩ := rd_slice h2
  obtain ⟨av, nv, cv, e3⟩ := rd_slice h3
  simp only [plainD] at e1 e2 e3 h1 h2 h3
  subst e1 e2 e3
  obtain rfl : nr = 1 := (rd_lens h1).1
  obtain rfl : nq = 1 := (rd_lens h2).1
  obtain rfl : nv = 1 := (rd_lens h3).1
  clear h1 h2 h3
  have A1 := (Below.refl w.heap.size w).alloc (Nat.le_refl _) (.cells (plainD (.slice ar 1 cr) (.slice aq 1 cq) (.slice av 1 cv)).cells 35)
  simp only [plainD, EntD.cells] at *
  go_enter Try.func40, Try.ntmps40
  go_wp2_with fail
  refine (refOut_in _ _ _ _ (by omega) (by omega)).mono ?_
  rintro e w1 ⟨rfl, rfl⟩
  go_wp2_with fail
  refine (refOut_in _ _ _ _ (by omega) (by omega)).mono ?_
  rintro e w1 ⟨rfl, rfl⟩
  go_wp2_with fail
  refine (refOut_in _ _ _ _ (by omega) (by omega)).mono ?_
  rintro e w1 ⟨rfl, rfl⟩
  go_wp2_with fail
  refine (refOut_in _ _ _ _ (by omega) (by omega)).mono ?_
  rintro e w1 ⟨rfl, rfl⟩
  go_wp2_with fail
  refine (refOut_in _ _ _ _ (by omega) (by omega)).mono ?_
  rintro e w1 ⟨rfl, rfl⟩
  go_wp2
  go_ret
  exact ⟨rfl, A1⟩
theorem wpList_append_gr {w : World} {ops : Array Oper} {rest : List Oper} {o : Oper} {a : Act} {Q : Exit → Act → World → Prop} (hgd : o.guard = none) (s x : Operand)
    (ho : o.op = .call { callee := .builtin .append, args := #[s, x], argTypes := #[33, 33] })
    (B : Nat) (a0 : Option Addr) (m0 c0 : Nat) (acc : List Nat) (hs : a.eval s = .slice a0 m0 c0) (hown : Own w B (.slice a0 m0 c0) m0 acc)
    (ao : Option Addr) (m c : Nat) (bs : List Nat) (hx : a.eval x = .slice ao m c) (hrd : Rd w (.slice ao m c) bs)
    (hbytes : m0 + m ≤ 140737488355328) (hB : B ≤ w.heap.size)
    (h : ∀ a' m' c' w', Own w' B (.slice a' m' c') m' (acc ++ bs) → Below B w w' → w.grownBy w' (Value.slice a0 m0 c0).ownBlock → wpList Try.prog ops Q rest (a.put o.dst (.slice a' m' c')) w') : wpList Try.prog ops Q (o :: rest) a w := by
  obtain ⟨i0, hi, hz0, hz1, hz2⟩ := info_parts info_byte
  obtain ⟨hby, a1, c1, h2, hle, hm, hl48, hnone, hat⟩ := hrd
  simp only [Value.slice.injEq] at h2
  obtain ⟨rfl, rfl, rfl⟩ := h2
  cases ao with
  | none =>
    have hb0 : bs = [] ∧ c = 0 := by
      rcases hnone with h | ⟨b, off, h⟩
      · exact ⟨List.eq_nil_of_length_eq_zero (by omega), h⟩
      · cases h
    obtain ⟨rfl, rfl⟩ := hb0
    refine wpList_append_own_none hgd s x 33 ho B 5 i0 1 und_bytes hi _ _ _ hs hown.2 (by simpa using hx) ?_
    exact h _ _ _ _ (by simpa using hown) (Below.refl _ _) (World.grownBy.refl _ _)
  | some ad =>
    refine wpList_append_own _ hgd s x 33 ho B 5 i0 (.int .u8 0) 1 1 und_bytes hi hz0 hz1 hz2 rfl (by decide) _ m0 (bv acc) hs hown.2 ad bs.length c (bv bs) hx (by simp [bv]) hat.add (bv_oneCell bs) (by unfold maxLen; omega) (by omega) hB ?_
    intro v' w' h1 h2 _
    obtain ⟨a', c', rfl⟩ := own_form h1
    refine h a' _ c' w' ⟨by rw [hown.1]; simp, by simpa [bv] using h1⟩ ((Below.refl B w).grown h2 hB (fun k hk => (hown.2.lt k hk).1)) h2


/-- What owns its bytes keeps them while another one grows. -/
theorem Own.grown {w w' : World} {B m : Nat} {v : Value} {o : Option Nat} {xs : List Nat} (h : Own w B v m xs) (k : w.grownBy w' o) (hne : ∀ g, o = some g → g < B) : Own w' B v m xs := by
  refine ⟨h.1, h.2.1, ?_⟩
  rcases h.2.2 with h2 | ⟨g, cap, cur, h3, h4, h5, h6⟩
  · exact .inl h2
  · refine .inr ⟨g, cap, cur, h3, h4, ?_, h6⟩
    rw [k.block g (Array.getElem?_eq_some_iff.1 h5).1 ?_]
    · exact h5
    · intro e
      have := hne g e.symm
      omega

set_option maxRecDepth 100000 in
set_option maxHeartbeats 1000000 in
theorem refkey_plain {vr vq vv : Value} {w : World} (hok : EntD.Ok w (plainD vr vq vv)) :
    Calls Try.prog 67 #[.agg (plainD vr vq vv).cells] w fun r w' => ∃ a m c, r = .returned (.slice a m c) ∧ Own w' w.heap.size (.slice a m c) m plainK ∧ Below w.heap.size w w' := by
  obtain ⟨h1, h2, h3⟩ := hok
  have A1 := (Below.refl w.heap.size w).alloc (Nat.le_refl _) (.cells (plainD vr vq vv).cells 35)
  have bx1 : Hid (EBox (w.alloc (.cells (plainD vr vq vv).cells 35)) w.heap.size (plainD vr vq vv)) := EBox.new w (plainD vr vq vv)
  have o1 : ordL [114] = [114, 0, 1] := by simp [ordL, escL]
  have o2 : ordL [113] = [113, 0, 1] := by simp [ordL, escL]
  simp only [plainD, EntD.cells] at *
  have HRR : Hid (Rd w vr [114]) := h1
  have HRQ : Hid (Rd w vq [113]) := h2
  have HO : Hid (ordL [114] = [114, 0, 1] ∧ ordL [113] = [113, 0, 1]) := ⟨o1, o2⟩
  clear h1 h2 h3 o1 o2
  go_enter Try.func67, Try.ntmps67
  go_wp2_with fail
  refine (refOrdered_any (HRR.out.later A1) (by rw [HO.out.1]; decide)).mono ?_
  rintro e1 w1 ⟨a1, m1, c1, rfl, own1, hb1⟩
  rw [HO.out.1] at own1
  obtain rfl : m1 = 3 := own1.1
  have B1 := A1.trans (hb1.mono A1.size)
  have bx1b : Hid (EBox w1 w.heap.size _) := bx1.out.later hb1
  have hG : w.heap.size < w.heap.size + 1 := by omega
  have own1' : Own w1 (w.heap.size + 1) (.slice a1 3 c1) 3 [114, 0, 1] := by simpa using own1
  have hS1 : w.heap.size + 1 ≤ w1.heap.size := by have := hb1.size; simpa using this
  clear hb1 bx1 own1
  have bxw1 : Hid (EBox w1 w.heap.size _) := bx1b.out
  clear bx1b
  have xfam1 := bxw1.out.fam
  simp only at xfam1
  go_wp2_with (at_builtin; refine wpList_append_new rfl _ _ rfl (w.heap.size + 1) a1 3 c1 _ rfl own1' [_] 1 rfl [1] rfl rfl (by omega) hS1 ?_; intro a2 m2 c2 w2 own2 hb2; refine Hid.out ?_)
  refine Lib.hid ?_
  obtain rfl : m2 = 4 := by rw [own2.1]; rfl
  have bxw2 : Hid (EBox w2 w.heap.size _) := bxw1.out.keep hb2 hG
  have B2 := B1.trans (hb2.mono (Nat.le_of_lt hG))
  have hS2 : w.heap.size + 1 ≤ w2.heap.size := Nat.le_trans hS1 hb2.size
  clear bxw1 B1 hS1 hb2
  clear xfam1 own1'
  have xkind2 := bxw2.out.kind
  simp only at xkind2
  go_wp2_with (at_builtin; refine wpList_append_new rfl _ _ rfl (w.heap.size + 1) a2 4 c2 _ rfl own2 [_] 1 rfl [1] rfl rfl (by omega) hS2 ?_; intro a3 m3 c3 w3 own3 hb3; refine Hid.out ?_)
  refine Lib.hid ?_
  obtain rfl : m3 = 5 := by rw [own3.1]; rfl
  have bxw3 : Hid (EBox w3 w.heap.size _) := bxw2.out.keep hb3 hG
  have B3 := B2.trans (hb3.mono (Nat.le_of_lt hG))
  have hS3 : w.heap.size + 1 ≤ w3.heap.size := Nat.le_trans hS2 hb3.size
  clear bxw2 B2 hS2 hb3
  clear xkind2 own2
  have xvq3 := bxw3.out.vq
  simp only at xvq3
  go_wp2_with fail
  refine (refOrdered_any (HRQ.out.later B3) (by rw [HO.out.2]; decide)).mono ?_
  rintro e4 w4 ⟨a4, m4, c4, rfl, own4, hb4⟩
  rw [HO.out.2] at own4
  obtain rfl : m4 = 3 := own4.1
  have r4 : Rd w4 (.slice a4 3 c4) [113, 0, 1] := own4.rd (by intro x hx; simp at hx; omega) (by omega)
  have own34 := own3.later hb4
  have bxw4 : Hid (EBox w4 w.heap.size _) := bxw3.out.later hb4
  have B4 := B3.trans (hb4.mono B3.size)
  have hS4 : w.heap.size + 1 ≤ w4.heap.size := Nat.le_trans hS3 hb4.size
  clear bxw3 B3 hS3 hb4 own3 own4 xvq3
  go_wp2_with (at_builtin; refine wpList_append_at rfl _ _ rfl (w.heap.size + 1) a3 5 c3 _ rfl own34 a4 3 c4 _ rfl r4 (by omega) hS4 ?_; intro a5 m5 c5 w5 own5 hb5; refine Hid.out ?_)
  refine Lib.hid ?_
  obtain rfl : m5 = 8 := by rw [own5.1]; rfl
  have bxw5 : Hid (EBox w5 w.heap.size _) := bxw4.out.keep hb5 hG
  have B5 := B4.trans (hb5.mono (Nat.le_of_lt hG))
  have hS5 : w.heap.size + 1 ≤ w5.heap.size := Nat.le_trans hS4 hb5.size
  clear bxw4 B4 hS4 hb5
  clear own34 r4
  have xkind5 := bxw5.out.kind
  simp only at xkind5
  go_wp2_with (at_builtin; refine wpList_append_new rfl _ _ rfl (w.heap.size + 1) a5 8 c5 _ rfl own5 [_] 1 rfl [1] rfl rfl (by omega) hS5 ?_; intro a6 m6 c6 w6 own6 hb6; refine Hid.out ?_)
  refine Lib.hid ?_
  obtain rfl : m6 = 9 := by rw [own6.1]; rfl
  have bxw6 : Hid (EBox w6 w.heap.size _) := bxw5.out.keep hb6 hG
  have B6 := B5.trans (hb6.mono (Nat.le_of_lt hG))
  have hS6 : w.heap.size + 1 ≤ w6.heap.size := Nat.le_trans hS5 hb6.size
  clear bxw5 B5 hS5 hb6
  clear xkind5 own5
  have xts6 := bxw6.out.ts
  simp only at xts6
  go_wp2_with fail
  refine (refFalling_any 5 (by decide) _).mono ?_
  rintro e7 w7 ⟨a7, m7, c7, rfl, own7, hb7⟩
  rw [be8_a] at own7
  obtain rfl : m7 = 8 := own7.1
  have r7 : Rd w7 (.slice a7 8 c7) _ := own7.rd (by rw [← be8_a]; exact be8_bys _) (by omega)
  have own67 := own6.later hb7
  have bxw7 : Hid (EBox w7 w.heap.size _) := bxw6.out.later hb7
  have B7 := B6.trans (hb7.mono B6.size)
  have hS7 : w.heap.size + 1 ≤ w7.heap.size := Nat.le_trans hS6 hb7.size
  clear bxw6 B6 hS6 hb7 own6 own7 xts6
  have xseq7 := bxw7.out.seq
  simp only at xseq7
  go_wp2_with fail
  refine (refFalling_any 32 (by decide) _).mono ?_
  rintro e8 w8 ⟨a8, m8, c8, rfl, own8, hb8⟩
  rw [be8_b] at own8
  obtain rfl : m8 = 8 := own8.1
  have r8 : Rd w8 (.slice a8 8 c8) _ := own8.rd (by rw [← be8_b]; exact be8_bys _) (by omega)
  have r78 := r7.later hb8
  have own68 := own67.later hb8
  have HLT : Hid (∀ g, (Value.slice a6 9 c6).ownBlock = some g → g < w7.heap.size) := fun g hg => (own67.2.lt g hg).2
  have bxw8 : Hid (EBox w8 w.heap.size _) := bxw7.out.later hb8
  have B8 := B7.trans (hb8.mono B7.size)
  have hS8 : w.heap.size + 1 ≤ w8.heap.size := Nat.le_trans hS7 hb8.size
  have R8 : Hid (Own w8 w7.heap.size (.slice a8 8 c8) 8 [127, 255, 255, 255, 255, 255, 255, 223] ∧ Below w7.heap.size w7 w8) := ⟨own8, hb8⟩
  clear bxw7 B7 hb8 own67 own8 xseq7 r7
  go_wp2_with (at_builtin; refine wpList_append_gr rfl _ _ rfl (w.heap.size + 1) a6 9 c6 _ rfl own68 a7 8 c7 _ rfl r78 (by omega) hS8 ?_; intro a9 m9 c9 w9 own9 hb9 gr9; refine Hid.out ?_)
  refine Lib.hid ?_
  obtain rfl : m9 = 17 := by rw [own9.1]; rfl
  have r9 : Rd w9 (.slice a8 8 c8) _ := (R8.out.1.grown gr9 HLT.out).rd (by rw [← be8_b]; exact be8_bys _) (by omega)
  have bxw9 : Hid (EBox w9 w.heap.size _) := bxw8.out.keep hb9 hG
  have B9 := B8.trans (hb9.mono (Nat.le_of_lt hG))
  have hS9 : w.heap.size + 1 ≤ w9.heap.size := Nat.le_trans hS8 hb9.size
  clear bxw8 B8 hS8 hb9 own68 r78 r8 R8 HLT gr9 hS7
  go_wp2_with (at_builtin; refine wpList_append_at rfl _ _ rfl (w.heap.size + 1) a9 17 c9 _ rfl own9 a8 8 c8 _ rfl r9 (by omega) hS9 ?_; intro a10 m10 c10 w10 own10 hb10; refine Hid.out ?_)
  refine Lib.hid ?_
  obtain rfl : m10 = 25 := by rw [own10.1]; rfl
  have bxw10 : Hid (EBox w10 w.heap.size _) := bxw9.out.keep hb10 hG
  have B10 := B9.trans (hb10.mono (Nat.le_of_lt hG))
  have hS10 : w.heap.size + 1 ≤ w10.heap.size := Nat.le_trans hS9 hb10.size
  clear bxw9 B9 hS9 hb10 own9 r9
  have xk10 := bxw10.out.kind
  simp only at xk10
  go_wp2_with (at_builtin; refine wpList_append_new rfl _ _ rfl (w.heap.size + 1) a10 25 c10 _ rfl own10 [_] 1 rfl [1] rfl rfl (by omega) hS10 ?_; intro a11 m11 c11 w11 own11 hb11)
  go_ret
  exact ⟨a11, m11, c11, rfl, own11.mono (Nat.le_of_lt hG), B10.trans (hb11.mono (Nat.le_of_lt hG))⟩

set_option maxRecDepth 100000 in
set_option maxHeartbeats 1000000 in
theorem refKey_plain {vr vq vv : Value} {w : World} (hok : EntD.Ok w (plainD vr vq vv)) :
    Calls Try.prog 41 #[.agg (plainD vr vq vv).cells] w fun r w' => ∃ a m c, r = .returned (.tuple #[.slice a m c, .int .i64 0]) ∧ Own w' w.heap.size (.slice a m c) m plainK ∧ Below w.heap.size w w' := by
  have A1 := (Below.refl w.heap.size w).alloc (Nat.le_refl _) (.cells (plainD vr vq vv).cells 35)
  have bx1 : Hid (EBox (w.alloc (.cells (plainD vr vq vv).cells 35)) w.heap.size (plainD vr vq vv)) := EBox.new w (plainD vr vq vv)
  have HK : Hid (EntD.Ok w (plainD vr vq vv)) := hok
  have c1 := refCheck_plain (hok.later A1)
  have HC : Hid (Calls _ _ _ _ _) := c1
  clear hok c1
  have c2 := fun w' => @refkey_plain vr vq vv w'
  have HC2 : Hid (∀ w', EntD.Ok w' (plainD vr vq vv) → Calls _ _ _ _ _) := c2
  clear c2
  simp only [plainD, EntD.cells] at *
  go_enter Try.func41, Try.ntmps41
  go_wp2_with fail
  refine HC.out.mono ?_
  rintro e1 w1 ⟨rfl, hb1⟩
  have B1 := A1.trans (hb1.mono A1.size)
  have bx2 := bx1.out.later hb1
  have x0 := bx2.vr
  have x1 := bx2.fam
  have x2 := bx2.vq
  have x3 := bx2.ts
  have x4 := bx2.seq
  have x5 := bx2.kind
  have x6 := bx2.vv
  simp only at x0 x1 x2 x3 x4 x5 x6
  clear bx1 hb1 bx2 A1
  go_wp2_with fail
  refine (HC2.out _ (HK.out.later B1)).mono ?_
  rintro e2 w2 ⟨a2, m2, c2, rfl, own2, hb2⟩
  go_wp2
  go_ret2
  exact ⟨a2, m2, c2, rfl, own2.mono B1.size, B1.trans (hb2.mono B1.size)⟩

end Go.Proofs.Ythpdlclgiggekaa
