import Derived.Test.YtjcpjpjccoeakaaJ09
import Derived.Lib.Hide
import Derived.Deep.QuietTactic
import Derived.BigQuiet
import Derived.Deep.RegionHeld3
namespace Go.Proofs.Ytjcpjpjccoeakaa
open Go.RowKit
set_option linter.unusedVariables false

set_option maxRecDepth 100000 in
set_option maxHeartbeats 1000000 in
theorem refCheck_plain {vr vq vv : Value} {w : World} (hok : EntD.Ok w (plainD vr vq vv)) :
    Calls Try.prog 40 #[.agg (plainD vr vq vv).cells] w fun r w' => r = .returned (.int .i64 0) ∧ Below w.heap.size w w' := by
  obtain ⟨h1, h2, h3⟩ := hok
  obtain ⟨ar, nr, cr, e1⟩ := rd_slice h1
  obtain ⟨aq, nq, cq, e2⟩ := rd_slice h2
  obtain ⟨av, nv, cv, e3⟩ := rd_slice h3
  simp only [plainD] at e1 e2 e3 h1 h2 h3
  subst e1 e2 e3
  obtain rfl : nr = 1 := (rd_lens h1).1
  obtain rfl : nq = 1 := (rd_lens h2).1
  obtain rfl : nv = 1 := (rd_lens h3).1
  clear h1 h2 h3
  have A1 := (Below.refl w.heap.size w).alloc (Nat.le_refl _) (.cells (plainD (.slice ar 1 cr) (.slice aq 1 cq) (.slice av 1 cv)).cells 35)
  simp only [plainD, EntD.cells] at *
  go_enter Try.func40, Try.ntmps40
  go_wp2_with fail
  refine (refOut_in _ _ _ _ (by omega) (by omega)).mono ?_
  rintro e w1 ⟨rfl, rfl⟩
  go_wp2_with fail
  refine (refOut_in _ _ _ _ (by omega) (by omega)).mono ?_
  rintro e w1 ⟨rfl, rfl⟩
  go_wp2_with fail
  refine (refOut_in _ _ _ _ (by omega) (by omega)).mono ?_
  rintro e w1 ⟨rfl, rfl⟩
  go_wp2_with fail
  refine (refOut_in _ _ _ _ (by omega) (by omega)).mono ?_
  rintro e w1 ⟨rfl, rfl⟩
  go_wp2_with fail
  refine (refOut_in _ _ _ _ (by omega) (by omega)).mono ?_
  rintro e w1 ⟨rfl, rfl⟩
  go_wp2
  go_ret
  exact ⟨rfl, A1⟩
theorem wpList_append_gr {w : World} {ops : Array Oper} {rest : List Oper} {o : Oper} {a : Act} {Q : Exit → Act → World → Prop} (hgd : o.guard = none) (s x : Operand)
    (ho : o.op = .call { callee := .builtin .append, args := #[s, x], argTypes := #[33, 33] })
    (B : Nat) (a0 : Option Addr) (m0 c0 : Nat) (acc : List Nat) (hs : a.eval s = .slice a0 m0 c0) (hown : Own w B (.slice a0 m0 c0) m0 acc)
    (ao : Option Addr) (m c : Nat) (bs : List Nat) (hx : a.eval x = .slice ao m c) (hrd : Rd w (.slice ao m c) bs)
    (hbytes : m0 + m ≤ 140737488355328) (hB : B ≤ w.heap.size)
    (h : ∀ a' m' c' w', Own w' B (.slice a' m' c') m' (acc ++ bs) → Below B w w' → w.grownBy w' (Value.slice a0 m0 c0).ownBlock → wpList Try.prog ops Q rest (a.put o.dst (.slice a' m' c')) w') : wpList Try.prog ops Q (o :: rest) a w := by
  obtain ⟨i0, hi, hz0, hz1, hz2⟩ := info_parts info_byte
  obtain ⟨hby, a1, c1, h2, hle, hm, hl48, hnone, hat⟩ := hrd
  simp only [Value.slice.injEq] at h2
  obtain ⟨rfl, rfl, rfl⟩ := h2
  cases ao with
  | none =>
    have hb0 : bs = [] ∧ c = 0 := by
      rcases hnone with h | ⟨b, off, h⟩
      · exact ⟨List.eq_nil_of_length_eq_zero (by omega), h⟩
      · cases h
    obtain ⟨rfl, rfl⟩ := hb0
    refine wpList_append_own_none hgd s x 33 ho B 5 i0 1 und_bytes hi _ _ _ hs hown.2 (by simpa using hx) ?_
    exact h _ _ _ _ (by simpa using hown) (Below.refl _ _) (World.grownBy.refl _ _)
  | some ad =>
    refine wpList_append_own _ hgd s x 33 ho B 5 i0 (.int .u8 0) 1 1 und_bytes hi hz0 hz1 hz2 rfl (by decide) _ m0 (bv acc) hs hown.2 ad bs.length c (bv bs) hx (by simp [bv]) hat.add (bv_oneCell bs) (by unfold maxLen; omega) (by omega) hB ?_
    intro v' w' h1 h2 _
    obtain ⟨a', c', rfl⟩ := own_form h1
    refine h a' _ c' w' ⟨by rw [hown.1]; simp, by simpa [bv] using h1⟩ ((Below.refl B w).grown h2 hB (fun k hk => (hown.2.lt k hk).1)) h2


/-- What owns its bytes keeps them while another one grows. -/
theorem Own.grown {w w' : World} {B m : Nat} {v : Value} {o : Option Nat} {xs : List Nat} (h : Own w B v m xs) (k : w.grownBy w' o) (hne : ∀ g, o = some g → g < B) : Own w' B v m xs := by
  refine ⟨h.1, h.2.1, ?_⟩
  rcases h.2.2 with h2 | ⟨g, cap, cur, h3, h4, h5, h6⟩
  · exact .inl h2
  · refine .inr ⟨g, cap, cur, h3, h4, ?_, h6⟩
    rw [k.block g (Array.getElem?_eq_some_iff.1 h5).1 ?_]
    · exact h5
    · intro e
      have := hne g e.symm
      omega

set_option maxRecDepth 100000 in
set_option maxHeartbeats 1000000 in
theorem refkey_plain {vr vq vv : Value} {w : World} (hok : EntD.Ok w (plainD vr vq vv)) :
    Calls Try.prog 67 #[.agg (plainD vr vq vv).cells] w fun r w' => ∃ a m c, r = .returned (.slice a m c) ∧ Own w' w.heap.size (.slice a m c) m plainK ∧ Below w.heap.size w w' := by
  obtain ⟨h1, h2, h3⟩ := hok
  have A1 := (Below.refl w.heap.size w).alloc (Nat.le_refl _) (.cells (plainD vr vq vv).cells 35)
  have bx1 : Hid (EBox (w.alloc (.cells (plainD vr vq vv).cells 35)) w.heap.size (plainD vr vq vv)) := EBox.new w (plainD vr vq vv)
  have o1 : ordL [114] = [114, 0, 1] := by simp [ordL, escL]
  have o2 : ordL [113] = [113, 0, 1] := by simp [ordL, escL]
  simp only [plainD, EntD.cells] at *
  have HRR : Hid (Rd w vr [114]) := h1
  have HRQ : Hid (Rd w vq [113]) := h2
  have HO : Hid (ordL [114] = [114, 0, 1] ∧ ordL [113] = [113, 0, 1]) := ⟨o1, o2⟩
  clear h1 h2 h3 o1 o2
  go_enter Try.func67, Try.ntmps67
  go_wp2_with fail
  refine (refOrdered_any (HRR.out.later A1) (by rw [HO.out.1]; decide)).mono ?_
  rintro e1 w1 ⟨a1, m1, c1, rfl, own1, hb1⟩
  rw [HO.out.1] at own1
  obtain rfl : m1 = 3 := own1.1
  have B1 := A1.trans (hb1.mono A1.size)
  have bx1b : Hid (EBox w1 w.heap.size _) := bx1.out.later hb1
  have hG : w.heap.size < w.heap.size + 1 := by omega
  have own1' : Own w1 (w.heap.size + 1) (.slice a1 3 c1) 3 [114, 0, 1] := by simpa using own1
  have hS1 : w.heap.size + 1 ≤ w1.heap.size := by have := hb1.size; simpa using this
  clear hb1 bx1 own1
  have bxw1 : Hid (EBox w1 w.heap.size _) := bx1b.out
  clear bx1b
  have xfam1 := bxw1.out.fam
  simp only at xfam1
  go_wp2_with (at_builtin; refine wpList_append_new rfl _ _ rfl (w.heap.size + 1) a1 3 c1 _ rfl own1' [_] 1 rfl [1] rfl rfl (by omega) hS1 ?_; intro a2 m2 c2 w2 own2 hb2; refine Hid.out ?_)
  refine Lib.hid ?_
  obtain rfl : m2 = 4 := by rw [own2.1]; rfl
  have bxw2 : Hid (EBox w2 w.heap.size _) := bxw1.out.keep hb2 hG
  have B2 := B1.trans (hb2.mono (Nat.le_of_lt hG))
  have hS2 : w.heap.size + 1 ≤ w2.heap.size := Nat.le_trans hS1 hb2.size
  clear bxw1 B1 hS1 hb2
  clear xfam1 own1'
  have xkind2 := bxw2.out.kind
  simp only at xkind2
  go_wp2_with (at_builtin; refine wpList_append_new rfl _ _ rfl (w.heap.size + 1) a2 4 c2 _ rfl own2 [_] 1 rfl [1] rfl rfl (by omega) hS2 ?_; intro a3 m3 c3 w3 own3 hb3; refine Hid.out ?_)
  refine Lib.hid ?_
  obtain rfl : m3 = 5 := by rw [own3.1]; rfl
  have bxw3 : Hid (EBox w3 w.heap.size _) := bxw2.out.keep hb3 hG
  have B3 := B2.trans (hb3.mono (Nat.le_of_lt hG))
  have hS3 : w.heap.size + 1 ≤ w3.heap.size := Nat.le_trans hS2 hb3.size
  clear bxw2 B2 hS2 hb3
  clear xkind2 own2
  have xvq3 := bxw3.out.vq
  simp only at xvq3
  go_wp2_with fail
  refine (refOrdered_any (HRQ.out.later B3) (by rw [HO.out.2]; decide)).mono ?_
  rintro e4 w4 ⟨a4, m4, c4, rfl, own4, hb4⟩
  rw [HO.out.2] at own4
  obtain rfl : m4 = 3 := own4.1
  have r4 : Rd w4 (.slice a4 3 c4) [113, 0, 1] := own4.rd (by intro x hx; simp at hx; omega) (by omega)
  have own34 := own3.later hb4
  have bxw4 : Hid (EBox w4 w.heap.size _) := bxw3.out.later hb4
  have B4 := B3.trans (hb4.mono B3.size)
  have hS4 : w.heap.size + 1 ≤ w4.heap.size := Nat.le_trans hS3 hb4.size
  clear bxw3 B3 hS3 hb4 own3 own4 xvq3
  go_wp2_with (at_builtin; refine wpList_append_at rfl _ _ rfl (w.heap.size + 1) a3 5 c3 _ rfl own34 a4 3 c4 _ rfl r4 (by omega) hS4 ?_; intro a5 m5 c5 w5 own5 hb5; refine Hid.out ?_)
  refine Lib.hid ?_
  obtain rfl : m5 = 8 := by rw [own5.1]; rfl
  have bxw5 : Hid (EBox w5 w.heap.size _) := bxw4.out.keep hb5 hG
  have B5 := B4.trans (hb5.mono (Nat.le_of_lt hG))
  have hS5 : w.heap.size + 1 ≤ w5.heap.size := Nat.le_trans hS4 hb5.size
  clear bxw4 B4 hS4 hb5
  clear own34 r4
  have xkind5 := bxw5.out.kind
  simp only at xkind5
  go_wp2_with (at_builtin; refine wpList_append_new rfl _ _ rfl (w.heap.size + 1) a5 8 c5 _ rfl own5 [_] 1 rfl [1] rfl rfl (by omega) hS5 ?_; intro a6 m6 c6 w6 own6 hb6; refine Hid.out ?_)
  refine Lib.hid ?_
  obtain rfl : m6 = 9 := by rw [own6.1]; rfl
  have bxw6 : Hid (EBox w6 w.heap.size _) := bxw5.out.keep hb6 hG
  have B6 := B5.trans (hb6.mono (Nat.le_of_lt hG))
  have hS6 : w.heap.size + 1 ≤ w6.heap.size := Nat.le_trans hS5 hb6.size
  clear bxw5 B5 hS5 hb6
  clear xkind5 own5
  have xts6 := bxw6.out.ts
  simp only at xts6
  go_wp2_with fail
  refine (refFalling_any 5 (by decide) _).mono ?_
  rintro e7 w7 ⟨a7, m7, c7, rfl, own7, hb7⟩
  rw [be8_a] at own7
  obtain rfl : m7 = 8 := own7.1
  have r7 : Rd w7 (.slice a7 8 c7) _ := own7.rd (by rw [← be8_a]; exact be8_bys _) (by omega)
  have own67 := own6.later hb7
  have bxw7 : Hid (EBox w7 w.heap.size _) := bxw6.out.later hb7
  have B7 := B6.trans (hb7.mono B6.size)
  have hS7 : w.heap.size + 1 ≤ w7.heap.size := Nat.le_trans hS6 hb7.size
  clear bxw6 B6 hS6 hb7 own6 own7 xts6
  have xseq7 := bxw7.out.seq
  simp only at xseq7
  go_wp2_with fail
  refine (refFalling_any 32 (by decide) _).mono ?_
  rintro e8 w8 ⟨a8, m8, c8, rfl, own8, hb8⟩
  rw [be8_b] at own8
  obtain rfl : m8 = 8 := own8.1
  have r8 : Rd w8 (.slice a8 8 c8) _ := own8.rd (by rw [← be8_b]; exact be8_bys _) (by omega)
  have r78 := r7.later hb8
  have own68 := own67.later hb8
  have HLT : Hid (∀ g, (Value.slice a6 9 c6).ownBlock = some g → g < w7.heap.size) := fun g hg => (own67.2.lt g hg).2
  have bxw8 : Hid (EBox w8 w.heap.size _) := bxw7.out.later hb8
  have B8 := B7.trans (hb8.mono B7.size)
  have hS8 : w.heap.size + 1 ≤ w8.heap.size := Nat.le_trans hS7 hb8.size
  have R8 : Hid (Own w8 w7.heap.size (.slice a8 8 c8) 8 [127, 255, 255, 255, 255, 255, 255, 223] ∧ Below w7.heap.size w7 w8) := ⟨own8, hb8⟩
  clear bxw7 B7 hb8 own67 own8 xseq7 r7
  go_wp2_with (at_builtin; refine wpList_append_gr rfl _ _ rfl (w.heap.size + 1) a6 9 c6 _ rfl own68 a7 8 c7 _ rfl r78 (by omega) hS8 ?_; intro a9 m9 c9 w9 own9 hb9 gr9; refine Hid.out ?_)
  refine Lib.hid ?_
  obtain rfl : m9 = 17 := by rw [own9.1]; rfl
  have r9 : Rd w9 (.slice a8 8 c8) _ := (R8.out.1.grown gr9 HLT.out).rd (by rw [← be8_b]; exact be8_bys _) (by omega)
  have bxw9 : Hid (EBox w9 w.heap.size _) := bxw8.out.keep hb9 hG
  have B9 := B8.trans (hb9.mono (Nat.le_of_lt hG))
  have hS9 : w.heap.size + 1 ≤ w9.heap.size := Nat.le_trans hS8 hb9.size
  clear bxw8 B8 hS8 hb9 own68 r78 r8 R8 HLT gr9 hS7
  go_wp2_with (at_builtin; refine wpList_append_at rfl _ _ rfl (w.heap.size + 1) a9 17 c9 _ rfl own9 a8 8 c8 _ rfl r9 (by omega) hS9 ?_; intro a10 m10 c10 w10 own10 hb10; refine Hid.out ?_)
  refine Lib.hid ?_
  obtain rfl : m10 = 25 := by rw [own10.1]; rfl
  have bxw10 : Hid (EBox w10 w.heap.size _) := bxw9.out.keep hb10 hG
  have B10 := B9.trans (hb10.mono (Nat.le_of_lt hG))
  have hS10 : w.heap.size + 1 ≤ w10.heap.size := Nat.le_trans hS9 hb10.size
  clear bxw9 B9 hS9 hb10 own9 r9
  have xk10 := bxw10.out.kind
  simp only at xk10
  go_wp2_with (at_builtin; refine wpList_append_new rfl _ _ rfl (w.heap.size + 1) a10 25 c10 _ rfl own10 [_] 1 rfl [1] rfl rfl (by omega) hS10 ?_; intro a11 m11 c11 w11 own11 hb11)
  go_ret
  exact ⟨a11, m11, c11, rfl, own11.mono (Nat.le_of_lt hG), B10.trans (hb11.mono (Nat.le_of_lt hG))⟩

set_option maxRecDepth 100000 in
set_option maxHeartbeats 1000000 in
theorem refKey_plain {vr vq vv : Value} {w : World} (hok : EntD.Ok w (plainD vr vq vv)) :
    Calls Try.prog 41 #[.agg (plainD vr vq vv).cells] w fun r w' => ∃ a m c, r = .returned (.tuple #[.slice a m c, .int .i64 0]) ∧ Own w' w.heap.size (.slice a m c) m plainK ∧ Below w.heap.size w w' := by
  have A1 := (Below.refl w.heap.size w).alloc (Nat.le_refl _) (.cells (plainD vr vq vv).cells 35)
  have bx1 : Hid (EBox (w.alloc (.cells (plainD vr vq vv).cells 35)) w.heap.size (plainD vr vq vv)) := EBox.new w (plainD vr vq vv)
  have HK : Hid (EntD.Ok w (plainD vr vq vv)) := hok
  have c1 := refCheck_plain (hok.later A1)
  have HC : Hid (Calls _ _ _ _ _) := c1
  clear hok c1
  have c2 := fun w' => @refkey_plain vr vq vv w'
  have HC2 : Hid (∀ w', EntD.Ok w' (plainD vr vq vv) → Calls _ _ _ _ _) := c2
  clear c2
  simp only [plainD, EntD.cells] at *
  go_enter Try.func41, Try.ntmps41
  go_wp2_with fail
  refine HC.out.mono ?_
  rintro e1 w1 ⟨rfl, hb1⟩
  have B1 := A1.trans (hb1.mono A1.size)
  have bx2 := bx1.out.later hb1
  have x0 := bx2.vr
  have x1 := bx2.fam
  have x2 := bx2.vq
  have x3 := bx2.ts
  have x4 := bx2.seq
  have x5 := bx2.kind
  have x6 := bx2.vv
  simp only at x0 x1 x2 x3 x4 x5 x6
  clear bx1 hb1 bx2 A1
  go_wp2_with fail
  refine (HC2.out _ (HK.out.later B1)).mono ?_
  rintro e2 w2 ⟨a2, m2, c2, rfl, own2, hb2⟩
  go_wp2
  go_ret2
  exact ⟨a2, m2, c2, rfl, own2.mono B1.size, B1.trans (hb2.mono B1.size)⟩

end Go.Proofs.Ytjcpjpjccoeakaa

namespace Go.Proofs.Ytjcpjpjccoeakaa
open Go.RowKit
set_option linter.unusedVariables false

theorem ordR_a : ordR plainK 0 = ([114], 3, 0) := by simp [ordR, plainK, rord]
theorem ordR_b : ordR plainK 5 = ([113], 8, 0) := by simp [ordR, plainK, rord]
theorem fallR_a : fallR plainK 9 = (5, 17, 0) := by decide +kernel
theorem fallR_b : fallR plainK 17 = (32, 25, 0) := by decide +kernel
theorem oneR_3 : oneR plainK 3 = (1, 4, false) := rfl
theorem oneR_4 : oneR plainK 4 = (1, 5, false) := rfl
theorem oneR_8 : oneR plainK 8 = (1, 9, false) := rfl
theorem oneR_25 : oneR plainK 25 = (1, 26, false) := rfl
theorem check_plain : checkS ⟨.slice none 0 0, ((1 : Nat) : Int), .slice none 0 0, ((5 : Nat) : Int), ((32 : Nat) : Int), ((1 : Nat) : Int), .slice none 0 0, [114], [113], []⟩ = 0 := by simp [checkS]
theorem parse_plain {w : World} {m c : Nat} {a : Option Addr} (hr : Rd w (.slice a m c) plainK) :
    Calls Try.prog 25 #[.slice a m c] w fun e w' => ∃ ar mr cr aq mq cq, e = .returned (.tuple #[.agg #[.slice ar mr cr, .int .i64 1, .slice aq mq cq, .int .i64 5, .int .i64 32, .int .i64 1, .slice none 0 0], .int .i64 0]) ∧ Below w.heap.size w w' := by
  obtain rfl : m = 26 := (rd_lens hr).1
  refine (parse_read (row := [114]) (qual := [113]) (fam := 1) (ts := 5) (sq := 32) (kd := 1) (p := 26) hr ⟨by intro x hx; simp at hx; omega, by simp⟩ ⟨by intro x hx; simp at hx; omega, by simp⟩
    (fun W g rb rd => entry_plain (fm := 1) (cm := 1) rb rd (by decide) ordR_a oneR_3 oneR_4 (by decide) ordR_b oneR_8 fallR_a fallR_b oneR_25)).mono ?_
  rintro e w1 ⟨_, h2, h3⟩
  obtain ⟨vr, vq, h4, o1, B, _, o2, _⟩ := h2 ⟨by simp [mark], rfl, check_plain⟩
  obtain ⟨ar, cr, rfl⟩ := own_form o1.2
  obtain ⟨aq, cq, rfl⟩ := own_form o2.2
  exact ⟨ar, _, cr, aq, _, cq, h4, h3⟩

theorem take_eq {xs ys : List Nat} {t : Nat} (h1 : t < xs.length) (h2 : t < ys.length) (h : xs.take t = ys.take t) (he : xs.getD t 0 = ys.getD t 0) : xs.take (t + 1) = ys.take (t + 1) := by
  rw [List.take_add_one, List.take_add_one, h, List.getElem?_eq_getElem h1, List.getElem?_eq_getElem h2]
  simp [List.getD, List.getElem?_eq_getElem h1, List.getElem?_eq_getElem h2] at he
  simp [he]

set_option maxRecDepth 100000 in
set_option maxHeartbeats 1000000 in
/-- The law's own comparison, by a loop. -/
theorem alike_any {va vb : Value} {xs ys : List Nat} {w : World} (ha : Rd w va xs) (hb : Rd w vb ys) :
    Calls Try.prog 29 #[va, vb] w fun e w' => e = .returned (.bool (decide (xs = ys))) ∧ Below w.heap.size w w' := by
  obtain ⟨a, n, cap, rfl⟩ := rd_slice ha
  obtain ⟨b, m, capb, rfl⟩ := rd_slice hb
  obtain ⟨hn, _, _, hn48⟩ := rd_lens ha
  obtain ⟨hm, _, _, hm48⟩ := rd_lens hb
  have HN : Hid (n = xs.length) := hn
  have HM : Hid (m = ys.length) := hm
  clear hn hm
  by_cases hnm : n = m
  · subst hnm
    go_enter Try.func29, Try.ntmps29
    go_wp2
    go_loopw [5] (fun i wr => ∃ t : Nat, t ≤ n ∧ i = .int .i64 (t : Int) ∧ xs.take t = ys.take t ∧ Below w.heap.size w wr) (fun i _ => n - (intOf i).toNat)
    case atStart => exact ⟨0, by omega, rfl, rfl, Below.refl _ _⟩
    case round =>
      obtain ⟨t, htn, rfl, heq, hbk⟩ := hrel
      have HQ : Hid (xs.take t = ys.take t) := heq
      clear heq
      by_cases h1 : t < n
      · have h1' : (t : Int) < (n : Int) := by omega
        have ht0 : (0 : Int) ≤ (t : Int) := by omega
        rcases rd_some ha with ⟨_, h0, _⟩ | ⟨ba, oa, rfl⟩
        · omega
        rcases rd_some hb with ⟨_, h0, _⟩ | ⟨bb, ob, rfl⟩
        · omega
        obtain ⟨ca0, cal⟩ := rd_cell ha t h1
        obtain ⟨cb0, cbl⟩ := rd_cell hb t h1
        have ca : wr.cell? ⟨ba, oa + t, none⟩ = some (.int .u8 ((xs.getD t 0 : Nat) : Int)) := by
          rw [hbk.cell (p := ⟨ba, oa + t, none⟩) (World.block_lt_of_cell? w _ ca0)]; exact ca0
        have cb : wr.cell? ⟨bb, ob + t, none⟩ = some (.int .u8 ((ys.getD t 0 : Nat) : Int)) := by
          rw [hbk.cell (p := ⟨bb, ob + t, none⟩) (World.block_lt_of_cell? w _ cb0)]; exact cb0
        have HTE : Hid (xs.getD t 0 = ys.getD t 0 → xs.take (t + 1) = ys.take (t + 1)) := fun e => take_eq (by rw [← HN.out]; exact h1) (by rw [← HM.out]; exact h1) HQ.out e
        have HNE : Hid (xs.getD t 0 ≠ ys.getD t 0 → xs ≠ ys) := fun e h => e (by rw [h])
        obtain ⟨x, hx⟩ : ∃ x, x = xs.getD t 0 := ⟨_, rfl⟩
        obtain ⟨y, hy⟩ : ∃ y, y = ys.getD t 0 := ⟨_, rfl⟩
        rw [← hx] at ca cal HTE HNE
        rw [← hy] at cb cbl HTE HNE
        clear hx hy ca0 cb0
        by_cases hxy : x = y
        · subst hxy
          go_wp2
          go_quiet (fail)
          go_wp2
          go_roundw
          case rel => exact ⟨t + 1, by omega, by go_num, HTE.out trivial, below_drewN hbk _⟩
          case measure => simp [intOf]; omega
        · have hxy' : ¬ ((x : Int) = (y : Int)) := by omega
          go_wp2
          go_quiet (fail)
          go_wp2
          go_ret
          rw [decide_eq_false (HNE.out hxy)]
          exact ⟨rfl, below_drewN hbk _⟩
      · have h1' : (n : Int) ≤ (t : Int) := by omega
        go_wp2
        go_ret
        have e : xs = ys := by
          have := HQ.out
          rw [List.take_of_length_le (by rw [← HN.out]; omega), List.take_of_length_le (by rw [← HM.out]; omega)] at this
          exact this
        rw [decide_eq_true e]
        exact ⟨rfl, hbk⟩
  · have hnm' : ¬ ((n : Int) = (m : Int)) := by omega
    go_enter Try.func29, Try.ntmps29
    go_wp2
    go_ret
    rw [decide_eq_false (fun e => hnm (by rw [HN.out, HM.out, e]))]
    exact ⟨rfl, Below.refl _ _⟩

end Go.Proofs.Ytjcpjpjccoeakaa

namespace Go.Proofs.Ytjcpjpjccoeakaa
open Go.RowKit
set_option linter.unusedVariables false

theorem EBox.cells7 {w : World} {g : Nat} {e : EntD} (h : EBox w g e) : w.cell? ⟨g, 0, none⟩ = some e.vr ∧ w.cell? ⟨g, 1, none⟩ = some (.int .i64 e.fam) ∧ w.cell? ⟨g, 2, none⟩ = some e.vq ∧ w.cell? ⟨g, 3, none⟩ = some (.int .i64 e.ts) ∧ w.cell? ⟨g, 4, none⟩ = some (.int .i64 e.seq) ∧ w.cell? ⟨g, 5, none⟩ = some (.int .i64 e.kind) ∧ w.cell? ⟨g, 6, none⟩ = some e.vv := ⟨h.vr, h.fam, h.vq, h.ts, h.seq, h.kind, h.vv⟩
theorem check_plainD (vr vq vv : Value) : checkS (plainD vr vq vv) = 0 := by simp [checkS, plainD]
def badD (vr vq vv : Value) (seq : Int) : EntD := ⟨vr, 1, vq, 0, seq, 1, vv, [114], [113], [118]⟩
theorem check_badD (vr vq vv : Value) (seq : Int) : checkS (badD vr vq vv seq) = 23 := by simp [checkS, badD]

theorem cmp_plain (a b c x y z : Value) : compareS (plainD a b c) (badD x y z 32) = -1 := by simp [compareS, cmpsS, firstNZ, plainD, badD, ordC_self, cmpI, aheadS]
theorem alike_same {va vb : Value} {xs : List Nat} {w : World} (ha : Rd w va xs) (hb : Rd w vb xs) :
    Calls Try.prog 29 #[va, vb] w fun e w' => e = .returned (.bool true) ∧ Below w.heap.size w w' := by
  have h := alike_any ha hb
  rw [decide_eq_true rfl] at h
  exact h

set_option maxRecDepth 100000 in
set_option maxHeartbeats 4000000 in
theorem told_any (w : World) : Calls Try.prog 18 #[] w fun e w' => e = .returned (.bool true) ∧ Below w.heap.size w w' := by
  go_enter Try.func18, Try.ntmps18
  go_wp2_with fail
  refine (plain_any _).mono ?_
  rintro e w1 ⟨vr1, vq1, vv1, rfl, ok1, B1⟩
  go_wp2_with fail
  refine (key_ok ok1 (check_plainD _ _ _)).mono ?_
  rintro e w2 ⟨a2, m2, c2, rfl, own2, hb2⟩
  rw [keyL_plain] at own2
  obtain rfl : m2 = 26 := own2.1
  have r2 := own2.rd plainK_bys (by decide)
  have B2 := B1.trans (hb2.mono B1.size)
  clear ok1 own2 hb2 B1
  go_wp2_with fail
  refine (parse_plain r2).mono ?_
  rintro e w3 ⟨ar3, mr3, cr3, aq3, mq3, cq3, rfl, hb3⟩
  have B3 := B2.trans (hb3.mono B2.size)
  have r3 := r2.later hb3
  have A3 := (Below.refl w3.heap.size w3).alloc (Nat.le_refl _) (.cells (EntD.cells ⟨.slice ar3 mr3 cr3, 1, .slice aq3 mq3 cq3, 5, 32, 1, .slice none 0 0, [], [], []⟩) 35)
  have bx3 := EBox.new w3 ⟨.slice ar3 mr3 cr3, 1, .slice aq3 mq3 cq3, 5, 32, 1, .slice none 0 0, [], [], []⟩
  have HX3 : Hid (_ ∧ _) := ⟨bx3, A3⟩
  clear hb3 B2 r2 bx3 A3
  simp only [EntD.cells] at HX3
  go_wp2_with fail
  refine (plain_any _).mono ?_
  rintro e w4 ⟨vr4, vq4, vv4, rfl, ok4, hb4⟩
  have bx4 := HX3.out.1.later hb4
  have hb34 := HX3.out.2.trans (hb4.mono HX3.out.2.size)
  have B4 := B3.trans (hb34.mono B3.size)
  have r4 := r3.later hb34
  have HX4 : Hid (EBox w4 w3.heap.size _) := bx4
  clear HX3 hb4 bx4 hb34 B3 r3
  go_wp2_with fail
  refine (refKey_plain ok4).mono ?_
  rintro e w5 ⟨a5, m5, c5, rfl, own5, hb5⟩
  obtain rfl : m5 = 26 := own5.1
  have k5 := own5.rd plainK_bys (by decide)
  have B5 := B4.trans (hb5.mono B4.size)
  have r5 := r4.later hb5
  have HX5 : Hid (EBox w5 w3.heap.size _) := HX4.out.later hb5
  clear HX4 hb5 B4 r4 own5 ok4
  go_wp2_with fail
  refine (plain_any _).mono ?_
  rintro e w6 ⟨vr6, vq6, vv6, rfl, ok6, hb6⟩
  have B6 := B5.trans (hb6.mono B5.size)
  have r6 := r5.later hb6
  have k6 := k5.later hb6
  have HX6 : Hid (EBox w6 w3.heap.size _) := HX5.out.later hb6
  clear HX5 hb6 B5 r5 k5
  obtain ⟨ar6, mr6, cr6, e1⟩ := rd_slice ok6.1
  obtain ⟨aq6, mq6, cq6, e2⟩ := rd_slice ok6.2.1
  obtain ⟨av6, mv6, cv6, e3⟩ := rd_slice ok6.2.2
  simp only [plainD] at e1 e2 e3
  subst e1 e2 e3
  have okb : EntD.Ok w6 (badD (.slice ar6 mr6 cr6) (.slice aq6 mq6 cq6) (.slice av6 mv6 cv6) 32) := ok6
  have A7 := (Below.refl w6.heap.size w6).alloc (Nat.le_refl _) (.cells (badD (.slice ar6 mr6 cr6) (.slice aq6 mq6 cq6) (.slice av6 mv6 cv6) 32).cells 35)
  have bx7 := EBox.new w6 (badD (.slice ar6 mr6 cr6) (.slice aq6 mq6 cq6) (.slice av6 mv6 cv6) 32)
  have c7 := key_bad (okb.later A7) (by rw [check_badD]; decide)
  rw [check_badD] at c7
  have HX7 : Hid (_ ∧ _ ∧ _) := ⟨bx7, A7, c7⟩
  have HOK : Hid (EntD.Ok w6 _) := ok6
  clear ok6 okb A7 bx7 c7
  simp only [EntD.cells, badD] at HX7
  simp only [plainD, EntD.cells]
  go_wp2_with fail
  refine HX7.out.2.2.mono ?_
  rintro e w8 ⟨rfl, hb8⟩
  have hb68 := HX7.out.2.1.trans (hb8.mono HX7.out.2.1.size)
  have B8 := B6.trans (hb68.mono B6.size)
  have r8 := r6.later hb68
  have k8 := k6.later hb68
  have HX8 : Hid (EBox w8 w3.heap.size _) := HX6.out.later hb68
  have HB8 : Hid (EBox w8 w6.heap.size _) := HX7.out.1.later hb8
  have HOK8 : Hid (EntD.Ok w8 _) := HOK.out.later hb68
  clear HX7 HX6 HOK hb68 hb8 B6 r6 k6
  have okw : EntD.Ok w8 (badD (.slice ar6 mr6 cr6) (.slice aq6 mq6 cq6) (.slice av6 mv6 cv6) (-1)) := HOK8.out
  have A9 := (Below.refl w8.heap.size w8).alloc (Nat.le_refl _) (.cells (badD (.slice ar6 mr6 cr6) (.slice aq6 mq6 cq6) (.slice av6 mv6 cv6) (-1)).cells 35)
  have c9 := check_any (okw.later A9)
  rw [check_badD] at c9
  have HX9 : Hid (_ ∧ _) := ⟨A9, c9⟩
  clear okw A9 c9
  simp only [EntD.cells, badD] at HX9
  obtain ⟨z0, z1, z2, z3, z4, z5, z6⟩ := HB8.out.cells7
  simp only at z0 z1 z2 z3 z4 z5 z6
  go_wp2_with fail
  refine HX9.out.2.mono ?_
  rintro e w9 ⟨rfl, hb9⟩
  have hb89 := HX9.out.1.trans (hb9.mono HX9.out.1.size)
  have B9 := B8.trans (hb89.mono B8.size)
  have r9 : Hid (Rd w9 (.slice a2 26 c2) plainK) := r8.later hb89
  have k9 : Hid (Rd w9 (.slice a5 26 c5) plainK) := k8.later hb89
  have KS : Hid (∀ wx, Below w9.heap.size w9 wx → wx.cell? ⟨w3.heap.size, 3, none⟩ = some (.int .i64 5) ∧ wx.cell? ⟨w6.heap.size, 0, none⟩ = some (.slice ar6 mr6 cr6) ∧ wx.cell? ⟨w6.heap.size, 1, none⟩ = some (.int .i64 1) ∧ wx.cell? ⟨w6.heap.size, 2, none⟩ = some (.slice aq6 mq6 cq6) ∧ wx.cell? ⟨w6.heap.size, 3, none⟩ = some (.int .i64 0) ∧ wx.cell? ⟨w6.heap.size, 4, none⟩ = some (.int .i64 32) ∧ wx.cell? ⟨w6.heap.size, 5, none⟩ = some (.int .i64 1) ∧ wx.cell? ⟨w6.heap.size, 6, none⟩ = some (.slice av6 mv6 cv6)) := fun wx hx => ⟨((HX8.out.later hb89).later hx).ts, ((HB8.out.later hb89).later hx).cells7⟩
  have CC : Hid (∀ wx vr vq vv, Below w9.heap.size w9 wx → EntD.Ok wx (plainD vr vq vv) → Calls Try.prog 20 #[.agg #[vr, .int .i64 1, vq, .int .i64 5, .int .i64 32, .int .i64 1, vv], .agg #[.slice ar6 mr6 cr6, .int .i64 1, .slice aq6 mq6 cq6, .int .i64 0, .int .i64 32, .int .i64 1, .slice av6 mv6 cv6]] wx fun r w' => r = .returned (.int .i64 (-1)) ∧ Below wx.heap.size wx w') := by
    intro wx vr vq vv hx hk
    have h := compare_any hk (show EntD.Ok wx (badD (.slice ar6 mr6 cr6) (.slice aq6 mq6 cq6) (.slice av6 mv6 cv6) 32) from (HOK8.out.later hb89).later hx)
    rw [cmp_plain] at h
    exact h
  clear HX9 hb9 hb89 B8 r8 k8 HX8 HB8 HOK8 z0 z1 z2 z3 z4 z5 z6
  have D0 : Below w9.heap.size w9 w9.drew := (Below.refl _ _).drew
  go_wp2_with fail
  go_region_held3 (fun wx => wx.cell? ⟨w3.heap.size, 3, none⟩ = some (.int .i64 5) ∧ wx.cell? ⟨w6.heap.size, 0, none⟩ = some (.slice ar6 mr6 cr6) ∧ wx.cell? ⟨w6.heap.size, 1, none⟩ = some (.int .i64 1) ∧ wx.cell? ⟨w6.heap.size, 2, none⟩ = some (.slice aq6 mq6 cq6) ∧ wx.cell? ⟨w6.heap.size, 3, none⟩ = some (.int .i64 0) ∧ wx.cell? ⟨w6.heap.size, 4, none⟩ = some (.int .i64 32) ∧ wx.cell? ⟨w6.heap.size, 5, none⟩ = some (.int .i64 1) ∧ wx.cell? ⟨w6.heap.size, 6, none⟩ = some (.slice av6 mv6 cv6)) (first | exact KS.out _ D0 | exact KS.out _ D1 | exact KS.out _ D2 | exact KS.out _ D3)
    (first
      | (go_at_call 29; refine (alike_same (r9.out.later D0) (k9.out.later D0)).mono ?_; rintro e w10 ⟨rfl, hb10⟩; have D1 := D0.trans (hb10.mono D0.size))
      | (go_at_call 55; refine (plain_any _).mono ?_; rintro e w11 ⟨vr11, vq11, vv11, rfl, ok11, hb11⟩; have D2 := D1.trans (hb11.mono D1.size))
      | (go_at_call 20; refine (CC.out _ _ _ _ D2 ok11).mono ?_; rintro e w12 ⟨rfl, hb12⟩; have D3 := D2.trans (hb12.mono D2.size)))
  go_wp2
  go_ret
  exact ⟨rfl, B9.trans (D3.mono B9.size)⟩
end Go.Proofs.Ytjcpjpjccoeakaa

namespace Go.Proofs.Ytjcpjpjccoeakaa
open Go.RowKit
set_option linter.unusedVariables false

def marks5 : List Nat := [201, 202, 203, 204, 205]
theorem marks5_bys : Bys marks5 := by
  have h : ∀ x ∈ marks5, x < 256 := by decide
  exact h
theorem rep_bys (n m : Nat) (h : m < 256) : Bys (List.replicate n m) := by intro x hx; rw [List.eq_of_mem_replicate hx]; exact h

set_option maxRecDepth 100000 in
set_option maxHeartbeats 1000000 in
theorem copied_any {v : Value} {bs : List Nat} {w : World} (hr : Rd w v bs) (hl : bs.length ≤ 140737488355328) :
    Calls Try.prog 31 #[v] w fun e w' => ∃ a m c, e = .returned (.slice a m c) ∧ Own w' w.heap.size (.slice a m c) m bs ∧ Below w.heap.size w w' := by
  obtain ⟨a, n, cap, rfl⟩ := rd_slice hr
  obtain ⟨hn, hle, hm, hl48⟩ := rd_lens hr
  rw [← hn] at hl
  clear hn
  go_enter Try.func31, Try.ntmps31
  go_wp2_with (at_builtin; refine wpList_append_at rfl _ _ rfl w.heap.size none 0 0 [] rfl ⟨rfl, World.ownsRow_nil _ _ _ _⟩ a n cap bs rfl hr (by omega) (Nat.le_refl _) ?_; intro a5 m5 c5 w5 own5 hb5)
  go_ret
  exact ⟨a5, m5, c5, rfl, by simpa using own5, hb5⟩

/-- Bytes with marks in the room behind them. -/
def Laid (w : World) (B : Nat) (u : Value) (bs : List Nat) : Prop := ∃ g c, u = .slice (some ⟨g, 0, none⟩) bs.length c ∧ bs.length + 75 ≤ c ∧ c ≤ maxLen ∧ Own w B (.slice (some ⟨g, 0, none⟩) (bs.length + 75) c) (bs.length + 75) ((bs ++ marks5) ++ List.replicate 70 206)
theorem Laid.later {w w' : World} {B : Nat} {u : Value} {bs : List Nat} (h : Laid w B u bs) (hb : Below w.heap.size w w') : Laid w' B u bs := by
  obtain ⟨g, c, h1, h2, h3, h4⟩ := h
  exact ⟨g, c, h1, h2, h3, h4.later hb⟩
theorem Laid.all {w : World} {B g c : Nat} {bs : List Nat} (h4 : Own w B (.slice (some ⟨g, 0, none⟩) (bs.length + 75) c) (bs.length + 75) ((bs ++ marks5) ++ List.replicate 70 206)) (hb : Bys bs) (hl : bs.length ≤ 140737488355328) : Rd w (.slice (some ⟨g, 0, none⟩) (bs.length + 75) c) ((bs ++ marks5) ++ List.replicate 70 206) :=
  h4.rd (Bys.app (Bys.app hb marks5_bys) (rep_bys _ _ (by decide))) (by omega)
theorem Laid.rd {w : World} {B : Nat} {u : Value} {bs : List Nat} (h : Laid w B u bs) (hb : Bys bs) (hl : bs.length ≤ 140737488355328) : Rd w u bs := by
  obtain ⟨g, c, rfl, h2, h3, h4⟩ := h
  have := (Laid.all h4 hb hl).upto bs.length (by omega)
  simpa using this

set_option maxRecDepth 100000 in
set_option maxHeartbeats 2000000 in
/-- What laid makes of bytes that it must cut. -/
theorem laid_cut {a : Option Addr} {n cap N : Nat} {bs : List Nat} {w : World} (hr : Rd w (.slice a n cap) bs) (hN : N ≤ 20000) (hcut : N < n) :
    Calls Try.prog 30 #[.slice a n cap, .int .i64 (N : Int)] w fun e w' => ∃ u, e = .returned u ∧ Laid w' w.heap.size u (bs.take N) ∧ Below w.heap.size w w' := by
  obtain ⟨hn, hle, hm, hl48⟩ := rd_lens hr
  have hcut' : (N : Int) < (n : Int) := by omega
  rcases rd_some hr with ⟨_, h1, _⟩ | ⟨b, off, rfl⟩
  · omega
  have r1 := hr.upto N (by omega)
  have i1 : (N : Int) ≤ (cap : Int) := by omega
  have i2 : (0 : Int) ≤ (N : Int) := by omega
  have HK : Hid ((bs.take N).length = N) := by unfold Hid; rw [List.length_take]; omega
  clear hn hr
  go_enter Try.func30, Try.ntmps30
  go_wp2_with fail
  refine (copied_any r1 (by rw [HK.out]; omega)).mono ?_
  rintro e w1 ⟨a1, m1, k1, rfl, own1, hb1⟩
  have hm1 : Hid (m1 = N) := by unfold Hid; rw [own1.1]; exact HK.out
  have hm1b : m1 ≤ 20000 := by have := hm1.out; omega
  go_wp2_with (at_builtin; refine wpList_append_new rfl _ _ rfl w.heap.size a1 m1 k1 _ rfl own1 [_, _, _, _, _] 5 rfl marks5 rfl rfl (by omega) hb1.size ?_; intro a6 m6 k6 w6 own6 hb6; refine Hid.out ?_)
  refine Lib.hid ?_
  have B6 := hb1.trans hb6
  have hm6 : Hid (m6 = N + 5) := by unfold Hid; rw [own6.1, List.length_append, ← own1.1, hm1.out]; rfl
  clear own1 hb1 hb6
  go_wp2
  go_loopw [5, 6] (fun s i wr => ∃ t a m c, t ≤ 70 ∧ i = .int .i64 ((t : Nat) : Int) ∧ s = .slice a m c ∧ Own wr w.heap.size (.slice a m c) m ((bs.take N ++ marks5) ++ List.replicate t 206) ∧ Below w.heap.size w wr) (fun _ i _ => 70 - (intOf i).toNat)
  case atStart => exact ⟨0, a6, m6, k6, by omega, rfl, rfl, by simpa using own6, B6⟩
  case round =>
    obtain ⟨t, a7, m7, k7, ht, rfl, rfl, own7, B7⟩ := hrel
    have hm7 : Hid (m7 = N + 5 + t) := by unfold Hid; rw [own7.1, List.length_append, List.length_append, HK.out, List.length_replicate]; rfl
    have hm7b : m7 ≤ 20100 := by have := hm7.out; omega
    by_cases hlt : t < 70
    · have hlt' : (t : Int) < 70 := by omega
      go_wp2_with (at_builtin; refine wpList_append_new rfl _ _ rfl w.heap.size a7 m7 k7 _ rfl own7 [_] 1 rfl [206] rfl rfl (by omega) B7.size ?_; intro a8 m8 k8 w8 own8 hb8)
      go_roundw
      case rel => exact ⟨t + 1, a8, m8, k8, by omega, by go_num, rfl, by rw [List.append_assoc, ← List.replicate_succ'] at own8; exact own8, B7.trans hb8⟩
      case measure => simp [intOf]; omega
    · have hge : (70 : Int) ≤ (t : Int) := by omega
      obtain rfl : t = 70 := by omega
      obtain ⟨g, he, hc1, hc2⟩ : ∃ g, a7 = some ⟨g, 0, none⟩ ∧ m7 ≤ k7 ∧ k7 ≤ maxLen := by
        rcases own7.2.2 with ⟨h1, h2⟩ | ⟨g, cp, cur, h1, h2, h3, h4, h5, h6⟩
        · have := hm7.out; omega
        · simp only [Value.slice.injEq] at h1
          exact ⟨g, h1.1, by omega, by omega⟩
      subst he
      have j1 : (N : Int) ≤ (k7 : Int) := by have := hm7.out; omega
      have j2 : (0 : Int) ≤ (N : Int) := by omega
      go_wp2
      go_ret
      refine ⟨_, rfl, ?_, B7⟩
      have e7 : m7 = (bs.take N).length + 75 := by rw [hm7.out, HK.out]
      subst e7
      refine ⟨g, k7, by rw [HK.out]; simp, by omega, hc2, own7⟩

set_option maxRecDepth 100000 in
set_option maxHeartbeats 2000000 in
/-- And of bytes that it leaves whole. -/
theorem laid_whole {a : Option Addr} {n cap N : Nat} {bs : List Nat} {w : World} (hr : Rd w (.slice a n cap) bs) (hN : N ≤ 20000) (hcut : n ≤ N) :
    Calls Try.prog 30 #[.slice a n cap, .int .i64 (N : Int)] w fun e w' => ∃ u, e = .returned u ∧ Laid w' w.heap.size u bs ∧ Below w.heap.size w w' := by
  obtain ⟨hn, hle, hm, hl48⟩ := rd_lens hr
  have hcut' : (n : Int) ≤ (N : Int) := by omega
  have HK : Hid (bs.length = n) := hn.symm
  clear hn
  go_enter Try.func30, Try.ntmps30
  go_wp2_with fail
  refine (copied_any hr (by rw [HK.out]; omega)).mono ?_
  rintro e w1 ⟨a1, m1, k1, rfl, own1, hb1⟩
  have hm1 : Hid (m1 = n) := by unfold Hid; rw [own1.1]; exact HK.out
  have hm1b : m1 ≤ 20000 := by have := hm1.out; omega
  go_wp2_with (at_builtin; refine wpList_append_new rfl _ _ rfl w.heap.size a1 m1 k1 _ rfl own1 [_, _, _, _, _] 5 rfl marks5 rfl rfl (by omega) hb1.size ?_; intro a6 m6 k6 w6 own6 hb6; refine Hid.out ?_)
  refine Lib.hid ?_
  have B6 := hb1.trans hb6
  have hm6 : Hid (m6 = n + 5) := by unfold Hid; rw [own6.1, List.length_append, ← own1.1, hm1.out]; rfl
  clear own1 hb1 hb6
  go_wp2
  go_loopw [5, 6] (fun s i wr => ∃ t a m c, t ≤ 70 ∧ i = .int .i64 ((t : Nat) : Int) ∧ s = .slice a m c ∧ Own wr w.heap.size (.slice a m c) m ((bs ++ marks5) ++ List.replicate t 206) ∧ Below w.heap.size w wr) (fun _ i _ => 70 - (intOf i).toNat)
  case atStart => exact ⟨0, a6, m6, k6, by omega, rfl, rfl, by simpa using own6, B6⟩
  case round =>
    obtain ⟨t, a7, m7, k7, ht, rfl, rfl, own7, B7⟩ := hrel
    have hm7 : Hid (m7 = n + 5 + t) := by unfold Hid; rw [own7.1, List.length_append, List.length_append, HK.out, List.length_replicate]; rfl
    have hm7b : m7 ≤ 20100 := by have := hm7.out; omega
    by_cases hlt : t < 70
    · have hlt' : (t : Int) < 70 := by omega
      go_wp2_with (at_builtin; refine wpList_append_new rfl _ _ rfl w.heap.size a7 m7 k7 _ rfl own7 [_] 1 rfl [206] rfl rfl (by omega) B7.size ?_; intro a8 m8 k8 w8 own8 hb8)
      go_roundw
      case rel => exact ⟨t + 1, a8, m8, k8, by omega, by go_num, rfl, by rw [List.append_assoc, ← List.replicate_succ'] at own8; exact own8, B7.trans hb8⟩
      case measure => simp [intOf]; omega
    · have hge : (70 : Int) ≤ (t : Int) := by omega
      obtain rfl : t = 70 := by omega
      obtain ⟨g, he, hc1, hc2⟩ : ∃ g, a7 = some ⟨g, 0, none⟩ ∧ m7 ≤ k7 ∧ k7 ≤ maxLen := by
        rcases own7.2.2 with ⟨h1, h2⟩ | ⟨g, cp, cur, h1, h2, h3, h4, h5, h6⟩
        · have := hm7.out; omega
        · simp only [Value.slice.injEq] at h1
          exact ⟨g, h1.1, by omega, by omega⟩
      subst he
      have j1 : (n : Int) ≤ (k7 : Int) := by have := hm7.out; omega
      have j2 : (0 : Int) ≤ (n : Int) := by omega
      go_wp2
      go_ret
      refine ⟨_, rfl, ?_, B7⟩
      have e7 : m7 = (bs).length + 75 := by rw [hm7.out, HK.out]
      subst e7
      refine ⟨g, k7, by rw [HK.out]; simp, by omega, hc2, own7⟩

theorem laid_any {v : Value} {N : Nat} {bs : List Nat} {w : World} (hr : Rd w v bs) (hN : N ≤ 20000) :
    Calls Try.prog 30 #[v, .int .i64 (N : Int)] w fun e w' => ∃ u, e = .returned u ∧ Laid w' w.heap.size u (bs.take N) ∧ Below w.heap.size w w' := by
  obtain ⟨a, n, cap, rfl⟩ := rd_slice hr
  by_cases h : N < n
  · exact laid_cut hr hN h
  · have e : bs.take N = bs := List.take_of_length_le (by rw [← (rd_lens hr).1]; omega)
    rw [e]
    exact laid_whole hr hN (by omega)

set_option maxRecDepth 100000 in
set_option maxHeartbeats 1000000 in
theorem intact_any {u v : Value} {B : Nat} {bs : List Nat} {w : World} (hl : Laid w B u bs) (hv : Rd w v bs) (h20 : bs.length ≤ 20000) :
    Calls Try.prog 36 #[u, v] w fun e w' => e = .returned (.bool true) ∧ Below w.heap.size w w' := by
  have ru := hl.rd hv.1 (by omega)
  obtain ⟨g, c, rfl, h2, h3, h4⟩ := hl
  have rall := Laid.all h4 hv.1 (by omega)
  obtain ⟨a, n, cap, rfl⟩ := rd_slice hv
  have hn : n = bs.length := (rd_lens hv).1
  have HM : Hid (∀ w', Below w.heap.size w w' → Rd w' (.slice (some ⟨g, n, none⟩) 5 (c - n)) marks5) := fun w' hb => by
    have r1 := ((rall.later hb).upto (bs.length + 5) (by omega)).past bs.length (by omega) (off' := n) (n' := 5) (cap' := c - n) (by omega) (by omega) (by omega)
    have e : (((bs ++ marks5) ++ List.replicate 70 206).take (bs.length + 5)).drop bs.length = marks5 := by
      have e1 : (((bs ++ marks5) ++ List.replicate 70 206).take (bs.length + 5)) = bs ++ marks5 := by
        rw [List.take_append_of_le_length (by simp [marks5]), List.take_of_length_le (by simp [marks5])]
      rw [e1, List.drop_left]
    rw [e] at r1
    exact r1
  have HN : Hid (n = bs.length) := hn
  have q1 : ((n : Int) + 5 ≤ (c : Int)) := by omega
  have q2 : (0 : Int) ≤ (n : Int) := by omega
  have q3 : (n : Int) ≤ 20000 := by omega
  rw [← hn] at ru ⊢
  clear h4 rall hn
  go_enter Try.func36, Try.ntmps36
  go_wp2_with fail
  refine (alike_same ru hv).mono ?_
  rintro e w1 ⟨rfl, hb1⟩
  have hb2 := hb1.trans (((Below.refl w1.heap.size w1).alloc (Nat.le_refl _) (.cells (bv marks5).toArray 5)).mono hb1.size)
  have rm : Rd (w1.alloc (.cells (bv marks5).toArray 5)) (.slice (some ⟨w1.heap.size, 0, none⟩) 5 5) marks5 := by
    have o : Own (w1.alloc (.cells (bv marks5).toArray 5)) w1.heap.size (.slice (some ⟨w1.heap.size, 0, none⟩) 5 5) 5 marks5 := ⟨rfl, rfl, .inr ⟨w1.heap.size, 5, (bv marks5).toArray, rfl, Nat.le_refl _, heap_new w1 _, Nat.le_refl _, by decide, rfl, rfl⟩⟩
    exact o.rd marks5_bys (by decide)
  have rm2 := HM.out _ hb2
  have HRM : Hid (_ ∧ _ ∧ _) := ⟨rm, rm2, hb2⟩
  clear rm rm2 hb2 HM
  simp only [bv, marks5, List.map_cons, List.map_nil] at HRM
  go_wp2_with fail
  refine (alike_same HRM.out.2.1 HRM.out.1).mono ?_
  rintro e w3 ⟨rfl, hb3⟩
  go_wp2
  go_ret
  exact ⟨rfl, HRM.out.2.2.trans (hb3.mono HRM.out.2.2.size)⟩
end Go.Proofs.Ytjcpjpjccoeakaa
