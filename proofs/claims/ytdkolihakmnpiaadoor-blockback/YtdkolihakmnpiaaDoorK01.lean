import Derived.Test.YtdkolihakmnpiaaDoorK00
import Derived.Deep.DeepAppendRoom
import Derived.Maps.AppendAt
namespace Go.Proofs.YtdkolihakmnpiaaDoor
open Go.RowKit
set_option linter.unusedVariables false

set_option maxRecDepth 100000 in
theorem mayRestart_any (r : Int) (w : World) : Calls Tryd.prog 46 #[.int .i64 r] w fun e w' => e = .returned (.bool (decide (1 ≤ r ∧ r ≤ 16))) ∧ w' = w := by
  by_cases h1 : 1 ≤ r
  · by_cases h2 : r ≤ 16
    · have hd : decide (1 ≤ r ∧ r ≤ 16) = true := by simp [h1, h2]
      rw [hd]
      go_enter Tryd.func46, Tryd.ntmps46
      go_wp2
      go_ret
      exact ⟨rfl, rfl⟩
    · have hd : decide (1 ≤ r ∧ r ≤ 16) = false := by simp [h2]
      rw [hd]
      go_enter Tryd.func46, Tryd.ntmps46
      go_wp2
      go_ret
      exact ⟨rfl, rfl⟩
  · have hd : decide (1 ≤ r ∧ r ≤ 16) = false := by simp [h1]
    rw [hd]
    go_enter Tryd.func46, Tryd.ntmps46
    go_wp2
    go_ret
    exact ⟨rfl, rfl⟩
set_option maxRecDepth 100000 in
theorem sizeOf_any {a b : Option Addr} {n m c d : Nat} (w : World) (hn : n ≤ 1000000000) (hm : m ≤ 1000000000) : Calls Tryd.prog 47 #[.slice a n c, .slice b m d] w fun e w' => e = .returned (.int .i64 ((n + m + 9 : Nat) : Int)) ∧ w' = w := by
  go_enter Tryd.func47, Tryd.ntmps47
  go_wp2
  go_ret
  exact ⟨by congr 1, rfl⟩

def comL : List Nat → List Nat → Nat
  | a :: xs, b :: ys => if a = b then comL xs ys + 1 else 0
  | _, _ => 0
theorem comL_le : ∀ (a b : List Nat), comL a b ≤ a.length ∧ comL a b ≤ b.length
  | [], b => ⟨by simp [comL], by simp [comL]⟩
  | a :: xs, [] => ⟨by simp [comL], by simp [comL]⟩
  | a :: xs, b :: ys => by
    have := comL_le xs ys
    unfold comL
    split <;> simp <;> omega
theorem comL_of : ∀ {a b : List Nat} {n : Nat}, n ≤ a.length → n ≤ b.length → (∀ i, i < n → a.getD i 0 = b.getD i 0) → (n = a.length ∨ n = b.length ∨ a.getD n 0 ≠ b.getD n 0) → comL a b = n
  | [], b, n, h1, _, _, _ => by simp at h1; subst h1; simp [comL]
  | a :: xs, [], n, _, h2, _, _ => by simp at h2; subst h2; simp [comL]
  | a :: xs, b :: ys, 0, _, _, _, h4 => by
    have : a ≠ b := by
      rcases h4 with h | h | h
      · simp at h
      · simp at h
      · simpa using h
    simp [comL, this]
  | a :: xs, b :: ys, n + 1, h1, h2, h3, h4 => by
    have e := h3 0 (by omega)
    simp at e
    have := comL_of (a := xs) (b := ys) (n := n) (by simpa using h1) (by simpa using h2) (fun i hi => by have := h3 (i + 1) (by omega); simpa using this) (by
      rcases h4 with h | h | h
      · exact .inl (by simpa using h)
      · exact .inr (.inl (by simpa using h))
      · exact .inr (.inr (by simpa using h)))
    simp [comL, e, this]
set_option maxRecDepth 100000 in
set_option maxHeartbeats 2000000 in
theorem common_any {va vb : Value} {A B : List Nat} {w : World} (ha : Rd w va A) (hb : Rd w vb B) : Calls Tryd.prog 40 #[va, vb] w fun e w' => e = .returned (.int .i64 ((comL A B : Nat) : Int)) ∧ Below w.heap.size w w' := by
  obtain ⟨aA, nA, cA, rfl⟩ := rd_slice ha
  obtain ⟨aB, nB, cB, rfl⟩ := rd_slice hb
  have hA := rd_lens ha
  have hB := rd_lens hb
  have HA : Hid (Rd w (.slice aA nA cA) A) := ha
  have HB : Hid (Rd w (.slice aB nB cB) B) := hb
  have HL : Hid (nA = A.length ∧ nB = B.length) := ⟨hA.1, hB.1⟩
  have h48 := hA.2.2.2
  have h49 := hB.2.2.2
  clear ha hb hA hB
  go_enter Tryd.func40, Tryd.ntmps40
  go_wp2
  go_loopw [5] (fun i wr => ∃ k : Nat, k ≤ nA ∧ k ≤ nB ∧ i = .int .i64 ((k : Nat) : Int) ∧ Below w.heap.size w wr ∧ Hid (∀ j, j < k → A.getD j 0 = B.getD j 0)) (fun i _ => nA - (intOf i).toNat)
  case atStart => exact ⟨0, Nat.zero_le _, Nat.zero_le _, rfl, Below.refl _ _, fun j hj => by omega⟩
  case round =>
    obtain ⟨k, hkA, hkB, rfl, hbw, hS⟩ := hrel
    have HBW : Hid (Below w.heap.size w wr) := hbw
    have k0 : (0 : Int) ≤ (k : Int) := by omega
    by_cases h1 : k < nA
    · have h1i : (k : Int) < (nA : Int) := by omega
      obtain ⟨bA, oA, rfl⟩ : ∃ b off, aA = some ⟨b, off, none⟩ := by
        rcases rd_some HA.out with ⟨_, h, _⟩ | h
        · omega
        · exact h
      by_cases h2 : k < nB
      · have h2i : (k : Int) < (nB : Int) := by omega
        obtain ⟨bB, oB, rfl⟩ : ∃ b off, aB = some ⟨b, off, none⟩ := by
          rcases rd_some HB.out with ⟨_, h, _⟩ | h
          · omega
          · exact h
        obtain ⟨ca, la⟩ := rd_cell (HA.out.later hbw) k h1
        obtain ⟨cb, lb⟩ := rd_cell (HB.out.later hbw) k h2
        obtain ⟨xa, hxa⟩ : ∃ xa, xa = A.getD k 0 := ⟨_, rfl⟩
        obtain ⟨xb, hxb⟩ : ∃ xb, xb = B.getD k 0 := ⟨_, rfl⟩
        rw [← hxa] at ca la
        rw [← hxb] at cb lb
        have HX : Hid (xa = A.getD k 0 ∧ xb = B.getD k 0) := ⟨hxa, hxb⟩
        clear hxa hxb hbw
        by_cases he : xa = xb
        · subst he
          go_wp2
          go_quiet (fail)
          go_wp2
          go_roundw
          case rel => exact ⟨k + 1, by omega, by omega, by go_num, below_drewN HBW.out _, fun j hj => by
            by_cases hjk : j < k
            · exact hS.out j hjk
            · obtain rfl : j = k := by omega
              rw [← HX.out.1, ← HX.out.2]⟩
          case measure => simp [intOf]; omega
        · have he1 : ((xa : Int) == (xb : Int)) = false := by rw [beq_eq_false_iff_ne]; omega
          have he2 : ¬ ((xa : Int) = (xb : Int)) := by omega
          have hr : comL A B = k := comL_of (by rw [← HL.out.1]; exact hkA) (by rw [← HL.out.2]; exact hkB) hS.out (.inr (.inr (by rw [← HX.out.1, ← HX.out.2]; exact he)))
          have HR : Hid (comL A B = k) := hr
          clear hr
          go_wp2
          go_quiet (fail)
          go_wp2
          go_ret
          exact ⟨by rw [HR.out]; rfl, below_drewN HBW.out _⟩
      · have h2i : ¬ ((k : Int) < (nB : Int)) := by omega
        have hr : comL A B = k := comL_of (by rw [← HL.out.1]; exact hkA) (by rw [← HL.out.2]; exact hkB) hS.out (.inr (.inl (by rw [← HL.out.2]; omega)))
        have HR : Hid (comL A B = k) := hr
        clear hr hbw
        go_wp2
        go_quiet (fail)
        go_wp2
        go_ret
        exact ⟨by rw [HR.out]; rfl, below_drewN HBW.out _⟩
    · have h1i : ¬ ((k : Int) < (nA : Int)) := by omega
      have hr : comL A B = k := comL_of (by rw [← HL.out.1]; exact hkA) (by rw [← HL.out.2]; exact hkB) hS.out (.inl (by rw [← HL.out.1]; omega))
      have HR : Hid (comL A B = k) := hr
      clear hr hbw
      go_wp2
      go_quiet (fail)
      go_wp2
      go_ret
      exact ⟨by rw [HR.out]; rfl, below_drewN HBW.out _⟩
end Go.Proofs.YtdkolihakmnpiaaDoor

namespace Go.Proofs.YtdkolihakmnpiaaDoor
open Go.RowKit
set_option linter.unusedVariables false

theorem RdP.one {w : World} {u : Value} {bs : List Nat} (h : Rd w u bs) : RdP (w.alloc (.cells #[u] 24)) (.slice (some ⟨w.heap.size, 0, none⟩) 1 1) [bs] := by
  refine ⟨by simp, _, 1, rfl, .inr ⟨w.heap.size, 0, rfl, fun i hi => ?_⟩⟩
  have hi0 : i = 0 := by simp at hi; exact hi
  subst hi0
  refine ⟨u, ?_, ?_⟩
  · exact news_new w [u] 24 0 u rfl
  · exact h.later ((Below.refl _ _).alloc (Nat.le_refl _) _)

def frameL (body : List Nat) : List Nat := ((be4 body.length ++ le4 (sumL (be4 body.length))) ++ body) ++ le4 (sumL body)

theorem sumL_lt (bs : List Nat) : sumL bs < 4294967296 := by unfold sumL; omega

theorem be4_bys (n : Nat) (h : n < 4294967296) : Bys (be4 n) := by
  intro x hx; simp [be4] at hx; omega
theorem le4_bys (n : Nat) (h : n < 4294967296) : Bys (le4 n) := by
  intro x hx; simp [le4] at hx; omega
theorem Bys.app {a b : List Nat} (ha : Bys a) (hb : Bys b) : Bys (a ++ b) := by
  intro x hx
  rcases List.mem_append.1 hx with h | h
  · exact ha x h
  · exact hb x h
theorem frameL_bys (body : List Nat) (h : Bys body) (hl : body.length ≤ 1048576) : Bys (frameL body) :=
  (((be4_bys _ (by omega)).app (le4_bys _ (sumL_lt _))).app h).app (le4_bys _ (sumL_lt _))

theorem own_app {w1 : World} {B n m : Nat} {v : Value} {acc bs : List Nat} (h : w1.ownsRow B 5 1 v (n + m) (bv acc ++ bv bs)) (hn : n = acc.length) (hm : m = bs.length) :
    w1.ownsRow B 5 1 v (acc ++ bs).length (bv (acc ++ bs)) := by
  subst hn; subst hm
  simpa [bv] using h

end Go.Proofs.YtdkolihakmnpiaaDoor

namespace Go.Proofs.YtdkolihakmnpiaaDoor
open Go.RowKit
set_option linter.unusedVariables false

def headR (bs : List Nat) : Nat × Nat :=
  if bs.length < 8 then (0, 10)
  else if rdle (bs.getD 4 0) (bs.getD 5 0) (bs.getD 6 0) (bs.getD 7 0) ≠ sumL (bs.take 4) then (0, 12)
  else if 1048576 < rdle (bs.getD 3 0) (bs.getD 2 0) (bs.getD 1 0) (bs.getD 0 0) then (0, 13)
  else (rdle (bs.getD 3 0) (bs.getD 2 0) (bs.getD 1 0) (bs.getD 0 0), 0)

theorem headR_lt (bs : List Nat) : (headR bs).1 ≤ 1048576 ∧ (headR bs).2 ≤ 13 := by
  unfold headR
  split
  · simp
  · split
    · simp
    · split
      · simp
      · exact ⟨by show rdle _ _ _ _ ≤ _; omega, by simp⟩

def frameR (bs : List Nat) (k : Nat) : List Nat × Nat × Nat :=
  if (headR (bs.drop k)).2 ≠ 0 then ([], 0, (headR (bs.drop k)).2)
  else if bs.length < k + 8 + (headR (bs.drop k)).1 + 4 then ([], 0, 10)
  else if rdle ((bs.drop (k + 8 + (headR (bs.drop k)).1)).getD 0 0) ((bs.drop (k + 8 + (headR (bs.drop k)).1)).getD 1 0) ((bs.drop (k + 8 + (headR (bs.drop k)).1)).getD 2 0) ((bs.drop (k + 8 + (headR (bs.drop k)).1)).getD 3 0) ≠ sumL ((bs.drop (k + 8)).take (headR (bs.drop k)).1) then ([], 0, 12)
  else ((bs.drop (k + 8)).take (headR (bs.drop k)).1, k + 12 + (headR (bs.drop k)).1, 0)

theorem headR_nil : headR [] = (0, 10) := rfl

end Go.Proofs.YtdkolihakmnpiaaDoor

namespace Go.Proofs.YtdkolihakmnpiaaDoor
open Go.RowKit
set_option linter.unusedVariables false

theorem st1 : uintR [9, 172, 2] 1 = (300, 3, 0) := by decide
theorem st2 : (frameL [7]).length = 13 := by decide
theorem st3 : frameR (frameL [7]) 0 = ([7], 13, 0) := by decide
theorem st4 : uintL 300 = [172, 2] := by decide

theorem rd_new (w : World) (g : Nat) (hg : g = w.heap.size) (bs : List Nat) (vs : List Value) (hv : vs = bv bs) (hb : Bys bs) (hl : bs.length ≤ 1000) (n : Nat) (hn : n = bs.length) :
    Rd (w.alloc (.cells vs.toArray 5)) (.slice (some ⟨g, 0, none⟩) n n) bs := by
  subst hv hn hg
  refine ⟨hb, _, _, rfl, Nat.le_refl _, by unfold maxLen; omega, by omega, .inr ⟨w.heap.size, 0, rfl⟩, .inr ⟨w.heap.size, 0, rfl, fun i hi => ?_⟩⟩
  have := news_new w (bv bs) 5 i (.int .u8 ((bs.getD i 0 : Nat) : Int)) (by simp [bv, List.getElem?_eq_getElem hi])
  have e : (⟨w.heap.size, 0, none⟩ : Addr).add i = ⟨w.heap.size, 0 + i, none⟩ := by unfold Addr.add; split <;> simp_all
  rwa [e] at this

theorem readUint_at {v : Value} {bs : List Nat} {w : World} (hr : Rd w v bs) (z : Int) (k : Nat) (hz : z = (k : Int)) (hk : k ≤ bs.length) {V P E : Nat} (h : uintR bs k = (V, P, E)) :
    Calls Tryd.prog 67 #[v, .int .i64 z] w fun e w' => e = .returned (.tuple #[.int .u64 (V : Int), .int .i64 (P : Int), .int .i64 (E : Int)]) ∧ w' = w := by
  subst hz
  have := readUint_in hr k hk
  rw [h] at this
  exact this
theorem uint_at (z : Int) (v : Nat) (hz : z = (v : Int)) (hv : v < 18446744073709551616) (w : World) {L : List Nat} (hL : uintL v = L) :
    Calls Tryd.prog 73 #[.int .u64 z] w fun e w' => ∃ a m c, e = .returned (.slice a m c) ∧ Own w' w.heap.size (.slice a m c) m L ∧ Below w.heap.size w w' := by
  subst hz hL
  exact handed (uint_any v hv w)
theorem bys7 : Bys [7] := by intro x hx; simp at hx; omega

end Go.Proofs.YtdkolihakmnpiaaDoor

namespace Go.Proofs.YtdkolihakmnpiaaDoor
open Go.RowKit
set_option linter.unusedVariables false

theorem uintF_len (f v : Nat) : 1 ≤ (uintF f v).length ∧ (uintF f v).length ≤ f + 1 := by
  induction f generalizing v with
  | zero => simp [uintF]
  | succ f ih =>
    unfold uintF
    split
    · have := ih (v / 128); simp; omega
    · simp
theorem uintL_len (v : Nat) : 1 ≤ (uintL v).length ∧ (uintL v).length ≤ 10 := uintF_len 9 v
theorem uintF_bys (f v : Nat) (h : v < 128 ^ (f + 1)) : Bys (uintF f v) := by
  induction f generalizing v with
  | zero => intro x hx; simp [uintF] at hx; simp at h; omega
  | succ f ih =>
    unfold uintF
    split
    · intro x hx
      simp only [List.mem_cons] at hx
      rcases hx with rfl | hx
      · omega
      · exact ih (v / 128) (by rw [Nat.pow_succ] at h; exact Nat.div_lt_of_lt_mul (by rw [Nat.mul_comm]; exact h)) x hx
    · intro x hx; simp at hx; omega
theorem uintL_bys (v : Nat) (h : v < 18446744073709551616) : Bys (uintL v) := uintF_bys 9 v (Nat.lt_of_lt_of_le h (by decide))

def bytesL (bs : List Nat) : List Nat := uintL bs.length ++ bs

theorem own_le10 {w : World} {B : Nat} {v : Value} {m n k : Nat} (h : Own w B v m ([] ++ uintL k)) (hl : n ≤ 140737488355312) : m + n ≤ 140737488355328 := by
  have h1 := h.1
  have h2 := uintL_len k
  rw [List.nil_append] at h1
  omega

theorem ruint_ok : ∀ (f : Nat) (l : List Nat) (i v V c : Nat), ruint f l i v = (V, c, 0) → i + f = 9 → v < 128 ^ i → i < c ∧ c ≤ i + l.length ∧ V < 18446744073709551616 := by
  intro f
  induction f with
  | zero =>
    intro l i v V c h hi hv
    cases l with
    | nil => simp [ruint] at h
    | cons x r =>
      unfold ruint at h
      split at h
      · simp at h
      · split at h
        · simp at h
        · split at h
          · simp at h
          · rename_i h1 h2 h3
            simp only [Prod.mk.injEq, and_true] at h
            obtain ⟨rfl, rfl⟩ := h
            refine ⟨by omega, by simp, ?_⟩
            have hi9 : i = 9 := by omega
            subst hi9
            have hx : x ≤ 1 := by
              by_cases hx : 1 < x
              · exact absurd ⟨rfl, hx⟩ h1
              · omega
            have : x % 128 * 128 ^ 9 ≤ 1 * 128 ^ 9 := Nat.mul_le_mul_right _ (by omega)
            have e : (128 : Nat) ^ 9 = 9223372036854775808 := by decide
            rw [e] at this hv ⊢
            omega
  | succ f ih =>
    intro l i v V c h hi hv
    cases l with
    | nil => simp [ruint] at h
    | cons x r =>
      unfold ruint at h
      split at h
      · simp at h
      · split at h
        · have := ih r (i + 1) _ V c h (by omega) (next_lt v x i hv)
          simp only [List.length_cons]
          omega
        · split at h
          · simp at h
          · rename_i h1 h2 h3
            simp only [Prod.mk.injEq, and_true] at h
            obtain ⟨rfl, rfl⟩ := h
            refine ⟨by omega, by simp, ?_⟩
            have h8 : 128 ^ (i + 1) ≤ 128 ^ 9 := Nat.pow_le_pow_right (by omega) (by omega)
            have e : (128 : Nat) ^ 9 = 9223372036854775808 := by decide
            have := next_lt v x i hv
            rw [e] at h8
            omega
theorem uintR_ok {bs : List Nat} {k V P : Nat} (h : uintR bs k = (V, P, 0)) (hk : k ≤ bs.length) : k < P ∧ P ≤ bs.length ∧ V < 18446744073709551616 := by
  unfold uintR at h
  simp only [Prod.mk.injEq] at h
  obtain ⟨h1, h2, h3⟩ := h
  rw [if_pos h3] at h2
  have := ruint_ok 9 (bs.drop k) 0 0 V (ruint 9 (bs.drop k) 0 0).2.1 (Prod.ext h1 (Prod.ext rfl h3)) rfl (by simp)
  rw [List.length_drop] at this
  omega
theorem ruint_err : ∀ (f : Nat) (l : List Nat) (i v : Nat), (ruint f l i v).2.2 ≠ 0 → (ruint f l i v).1 = 0 := by
  intro f
  induction f with
  | zero =>
    intro l i v h
    cases l with
    | nil => rfl
    | cons x r =>
      unfold ruint at h ⊢
      split
      · rfl
      · split
        · rfl
        · split
          · rfl
          · rename_i h1 h2 h3; simp [h1, h2, h3] at h
  | succ f ih =>
    intro l i v h
    cases l with
    | nil => rfl
    | cons x r =>
      unfold ruint at h ⊢
      split
      · rfl
      · split
        · rename_i h1 h2; rw [if_neg h1, if_pos h2] at h; exact ih _ _ _ h
        · split
          · rfl
          · rename_i h1 h2 h3; simp [h1, h2, h3] at h
theorem ruint_e : ∀ (f : Nat) (l : List Nat) (i v : Nat), (ruint f l i v).2.2 ≤ 13 := by
  intro f
  induction f with
  | zero =>
    intro l i v
    cases l with
    | nil => simp [ruint]
    | cons x r =>
      unfold ruint
      split
      · simp
      · split
        · simp
        · split <;> simp
  | succ f ih =>
    intro l i v
    cases l with
    | nil => simp [ruint]
    | cons x r =>
      unfold ruint
      split
      · simp
      · split
        · exact ih _ _ _
        · split <;> simp

def bytesR (bs : List Nat) (k most : Nat) : List Nat × Nat × Nat :=
  if (uintR bs k).2.2 ≠ 0 then ([], 0, (uintR bs k).2.2)
  else if most < (uintR bs k).1 then ([], 0, 13)
  else if bs.length < (uintR bs k).2.1 + (uintR bs k).1 then ([], 0, 10)
  else ((bs.drop (uintR bs k).2.1).take (uintR bs k).1, (uintR bs k).2.1 + (uintR bs k).1, 0)

end Go.Proofs.YtdkolihakmnpiaaDoor

namespace Go.Proofs.YtdkolihakmnpiaaDoor
open Go.RowKit
set_option linter.unusedVariables false

def pieceOf (bs : List Nat) (k : Nat) : Option (Nat × Nat) := if (uintR bs k).2.2 = 0 ∧ (uintR bs k).1 ≤ bs.length - (uintR bs k).2.1 then some ((uintR bs k).2.1, (uintR bs k).1) else none
theorem pieceOf_ok {bs : List Nat} {k s m : Nat} (h : pieceOf bs k = some (s, m)) (hk : k ≤ bs.length) : k < s ∧ s + m ≤ bs.length := by
  unfold pieceOf at h
  split at h
  · rename_i hc
    simp only [Option.some.injEq, Prod.mk.injEq] at h
    obtain ⟨rfl, rfl⟩ := h
    have := uintR_ok (bs := bs) (k := k) (V := (uintR bs k).1) (P := (uintR bs k).2.1) (Prod.ext rfl (Prod.ext rfl hc.1)) hk
    omega
  · cases h

theorem piece_rd {w : World} {b off n c o c' k s m : Nat} {bs : List Nat} (hr : Rd w (.slice (some ⟨b, off, none⟩) n c) bs) (hp : pieceOf bs k = some (s, m)) (hk : k ≤ bs.length) (h : (m = 0 ∧ c' = 0) ∨ (o = off + s ∧ c' = c - s)) : Rd w (.slice (some ⟨b, o, none⟩) m c') ((bs.drop s).take m) := by
  have hn := (rd_lens hr).1
  have := pieceOf_ok hp hk
  rcases h with ⟨rfl, rfl⟩ | ⟨ho, hc⟩
  · simpa using Rd.zero w (some ⟨b, o, none⟩)
  · have := hr.sub s (s + m) (by omega) (by omega) ho (show m = s + m - s by omega) hc
    rwa [List.drop_take, show s + m - s = m by omega] at this
set_option maxRecDepth 100000 in
set_option maxHeartbeats 1000000 in
theorem piece_any {b off n c : Nat} {bs : List Nat} {w : World} (hr : Rd w (.slice (some ⟨b, off, none⟩) n c) bs) (k : Nat) (hk : k ≤ n) :
    Calls Tryd.prog 68 #[.slice (some ⟨b, off, none⟩) n c, .int .i64 (k : Int)] w fun e w' => Below w.heap.size w w' ∧ ((pieceOf bs k = none ∧ e = .returned (.tuple #[.slice none 0 0, .int .i64 0, .bool false])) ∨ ∃ s m : Nat, pieceOf bs k = some (s, m) ∧ ∃ o c', e = .returned (.tuple #[.slice (some ⟨b, o, none⟩) m c', .int .i64 ((s + m : Nat) : Int), .bool true]) ∧ ((m = 0 ∧ c' = 0) ∨ (o = off + s ∧ c' = c - s))) := by
  obtain ⟨hn, hle, hm, hl48⟩ := rd_lens hr
  have HR : Hid (Rd w (.slice (some ⟨b, off, none⟩) n c) bs) := hr
  have HN : Hid (n = bs.length) := hn
  obtain ⟨V, hV⟩ : ∃ V, V = (uintR bs k).1 := ⟨_, rfl⟩
  obtain ⟨P, hP⟩ : ∃ P, P = (uintR bs k).2.1 := ⟨_, rfl⟩
  obtain ⟨E, hE⟩ : ∃ E, E = (uintR bs k).2.2 := ⟨_, rfl⟩
  have HU : Hid (∀ wx, Below w.heap.size w wx → Calls Tryd.prog 67 #[.slice (some ⟨b, off, none⟩) n c, .int .i64 (k : Int)] wx fun e w' => e = .returned (.tuple #[.int .u64 (V : Int), .int .i64 (P : Int), .int .i64 (E : Int)]) ∧ w' = wx) := by
    have h : ∀ wx, Below w.heap.size w wx → Calls Tryd.prog 67 #[.slice (some ⟨b, off, none⟩) n c, .int .i64 (k : Int)] wx fun e w' => e = .returned (.tuple #[.int .u64 (V : Int), .int .i64 (P : Int), .int .i64 (E : Int)]) ∧ w' = wx := fun wx hx => by
      rw [hV, hP, hE]
      exact readUint_in (HR.out.later hx) k (by rw [← HN.out]; exact hk)
    exact h
  have HPc : Hid (pieceOf bs k = if E = 0 ∧ V ≤ n - P then some (P, V) else none) := by
    have h : pieceOf bs k = if E = 0 ∧ V ≤ n - P then some (P, V) else none := by rw [hV, hP, hE, HN.out]; rfl
    exact h
  have hok : E = 0 → k < P ∧ P ≤ n ∧ V < 18446744073709551616 := fun h => by
    have := uintR_ok (bs := bs) (k := k) (V := V) (P := P) (Prod.ext hV.symm (Prod.ext hP.symm (by rw [← hE]; exact h))) (by rw [← HN.out]; exact hk)
    rw [HN.out]; exact this
  unfold maxLen at hm
  clear hr hn hV hP hE
  by_cases h0 : E = 0
  · subst h0
    obtain ⟨h1, h2, h3⟩ := hok rfl
    have hw : IntKind.u64.wrap (IntKind.i64.wrap ((n : Int) - (P : Int))) = ((n - P : Nat) : Int) := by
      rw [IntWalk.i64_in _ ⟨by omega, by omega⟩, IntWalk.u64_in _ ⟨by omega, by omega⟩]; omega
    by_cases h4 : V ≤ n - P
    · have h4i : ¬ (((n - P : Nat) : Int) < (V : Int)) := by omega
      have h4d : decide (((n - P : Nat) : Int) < (V : Int)) = false := by rw [decide_eq_false_iff_not]; omega
      have hc : Hid (pieceOf bs k = some (P, V)) := by
        have h : pieceOf bs k = some (P, V) := by rw [HPc.out, if_pos ⟨rfl, h4⟩]
        exact h
      have hwV : IntKind.i64.wrap (V : Int) = (V : Int) := IntWalk.i64_in _ ⟨by omega, by omega⟩
      have hwS : IntKind.i64.wrap ((P : Int) + (V : Int)) = ((P + V : Nat) : Int) := by rw [IntWalk.i64_in _ ⟨by omega, by omega⟩]; omega
      go_enter Tryd.func68, Tryd.ntmps68
      go_wp2_with (go_at_call 67; refine Calls.mono (HU.out _ (Below.refl _ _)) ?_; rintro e1 w1 ⟨rfl, rfl⟩)
      · have hV0 : V = 0 := by omega
        refine bodyPost_ret (v := .tuple #[.slice (some ⟨b, off, none⟩) V 0, .int .i64 ((P + V : Nat) : Int), .bool true]) ?_ rfl ⟨Below.refl _ _, .inr ⟨P, V, hc.out, off, 0, rfl, .inl ⟨hV0, rfl⟩⟩⟩
        simp [results, Tryd.results68, go_sem]
      · refine bodyPost_ret (v := .tuple #[.slice (some ⟨b, off + P, none⟩) V (c - P), .int .i64 ((P + V : Nat) : Int), .bool true]) ?_ rfl ⟨Below.refl _ _, .inr ⟨P, V, hc.out, off + P, c - P, rfl, .inr ⟨rfl, rfl⟩⟩⟩
        simp [results, Tryd.results68, go_sem]
    · have h4i : ((n - P : Nat) : Int) < (V : Int) := by omega
      have h4j : (n : Int) - (P : Int) < (V : Int) := by omega
      have hc : Hid (pieceOf bs k = none) := by
        have h : pieceOf bs k = none := by rw [HPc.out, if_neg (fun h => h4 h.2)]
        exact h
      go_enter Tryd.func68, Tryd.ntmps68
      go_wp2_with (go_at_call 67; refine Calls.mono (HU.out _ (Below.refl _ _)) ?_; rintro e1 w1 ⟨rfl, rfl⟩)
      refine bodyPost_ret (v := .tuple #[.slice none 0 0, .int .i64 0, .bool false]) ?_ rfl ⟨Below.refl _ _, .inl ⟨hc.out, rfl⟩⟩
      simp [results, Tryd.results68, go_sem]
  · have hc : Hid (pieceOf bs k = none) := by
      have h : pieceOf bs k = none := by rw [HPc.out, if_neg (fun h => h0 h.1)]
      exact h
    have h0b : ((E : Int) != 0) = true := by rw [bne_iff_ne]; omega
    have h0c : ¬ ((E : Int) = 0) := by omega
    go_enter Tryd.func68, Tryd.ntmps68
    go_wp2_with (go_at_call 67; refine Calls.mono (HU.out _ (Below.refl _ _)) ?_; rintro e1 w1 ⟨rfl, rfl⟩)
    refine bodyPost_ret (v := .tuple #[.slice none 0 0, .int .i64 0, .bool false]) ?_ rfl ⟨Below.refl _ _, .inl ⟨hc.out, rfl⟩⟩
    simp [results, Tryd.results68, go_sem]
end Go.Proofs.YtdkolihakmnpiaaDoor

namespace Go.Proofs.YtdkolihakmnpiaaDoor
open Go.RowKit
set_option linter.unusedVariables false

def recordOf (bs : List Nat) (k : Nat) : Option (Nat × (Nat × Nat) × (Nat × Nat)) :=
  if (uintR bs k).2.2 = 0 ∧ (uintR bs k).1 ≤ bs.length then
    match pieceOf bs (uintR bs k).2.1 with
    | none => none
    | some r => match pieceOf bs (r.1 + r.2) with
      | none => none
      | some v => some ((uintR bs k).1, r, v)
  else none
theorem recordOf_ok {bs : List Nat} {k sh : Nat} {r v : Nat × Nat} (h : recordOf bs k = some (sh, r, v)) (hk : k ≤ bs.length) : sh ≤ bs.length ∧ k < r.1 ∧ r.1 + r.2 < v.1 ∧ v.1 + v.2 ≤ bs.length := by
  unfold recordOf at h
  split at h
  · rename_i hc
    have h0 := uintR_ok (bs := bs) (k := k) (V := (uintR bs k).1) (P := (uintR bs k).2.1) (Prod.ext rfl (Prod.ext rfl hc.1)) hk
    split at h
    · cases h
    · rename_i r' hr
      split at h
      · cases h
      · rename_i v' hv
        simp only [Option.some.injEq, Prod.mk.injEq] at h
        obtain ⟨rfl, rfl, rfl⟩ := h
        have h1 := pieceOf_ok (s := r'.1) (m := r'.2) hr h0.2.1
        have h2 := pieceOf_ok (s := v'.1) (m := v'.2) hv h1.2
        omega
  · cases h

def RecB (w : World) (g : Nat) (a b c d : Value) : Prop := w.heap[g]? = some (.cells #[a, b, c, d] 76 (0, 0))
theorem RecB.cells {w : World} {g : Nat} {a b c d : Value} (h : RecB w g a b c d) : w.cell? ⟨g, 0, none⟩ = some a ∧ w.cell? ⟨g, 1, none⟩ = some b ∧ w.cell? ⟨g, 2, none⟩ = some c ∧ w.cell? ⟨g, 3, none⟩ = some d := by
  unfold RecB at h
  simp [World.cell?, h]
theorem RecB.fz {w : World} {g : Nat} {a b c d : Value} (h : RecB w g a b c d) (i : Nat) : w.frozen? ⟨g, i, none⟩ = false := by
  unfold RecB at h
  simp [World.frozen?, h]
theorem RecB.fill {w : World} {g : Nat} {a b c d : Value} (h : RecB w g a b c d) (a' b' c' d' : Value) : RecB ((((w.setCell ⟨g, 0, none⟩ a').setCell ⟨g, 1, none⟩ b').setCell ⟨g, 2, none⟩ c').setCell ⟨g, 3, none⟩ d') g a' b' c' d' := by
  unfold RecB at *
  simp [World.setCell, Array.getElem?_modify, h]
theorem fill_below {w w' : World} {B g : Nat} (h : Below B w w') (hg : B ≤ g) (a b c d : Value) : Below B w ((((w'.setCell ⟨g, 0, none⟩ a).setCell ⟨g, 1, none⟩ b).setCell ⟨g, 2, none⟩ c).setCell ⟨g, 3, none⟩ d) :=
  (((h.setCell (p := ⟨g, 0, none⟩) hg _).setCell (p := ⟨g, 1, none⟩) hg _).setCell (p := ⟨g, 2, none⟩) hg _).setCell (p := ⟨g, 3, none⟩) hg _

set_option maxRecDepth 100000 in
set_option maxHeartbeats 1000000 in
theorem readRecord_any {b off n c : Nat} {bs : List Nat} {w : World} (hr : Rd w (.slice (some ⟨b, off, none⟩) n c) bs) (k : Nat) (hk : k ≤ n) :
    Calls Tryd.prog 38 #[.slice (some ⟨b, off, none⟩) n c, .int .i64 (k : Int)] w fun e w' => Below w.heap.size w w' ∧ ((recordOf bs k = none ∧ e = .returned (.tuple #[.agg #[.int .i64 0, .slice none 0 0, .slice none 0 0, .int .i64 0], .bool false])) ∨ ∃ (sh : Nat) (r v : Nat × Nat), recordOf bs k = some (sh, r, v) ∧ ∃ o1 d1 o2 d2, e = .returned (.tuple #[.agg #[.int .i64 (sh : Int), .slice (some ⟨b, o1, none⟩) r.2 d1, .slice (some ⟨b, o2, none⟩) v.2 d2, .int .i64 ((v.1 + v.2 : Nat) : Int)], .bool true]) ∧ Rd w' (.slice (some ⟨b, o1, none⟩) r.2 d1) ((bs.drop r.1).take r.2) ∧ Rd w' (.slice (some ⟨b, o2, none⟩) v.2 d2) ((bs.drop v.1).take v.2)) := by
  obtain ⟨hn, hle, hm, hl48⟩ := rd_lens hr
  have HR : Hid (Rd w (.slice (some ⟨b, off, none⟩) n c) bs) := hr
  have HN : Hid (n = bs.length) := hn
  obtain ⟨V, hV⟩ : ∃ V, V = (uintR bs k).1 := ⟨_, rfl⟩
  obtain ⟨P, hP⟩ : ∃ P, P = (uintR bs k).2.1 := ⟨_, rfl⟩
  obtain ⟨E, hE⟩ : ∃ E, E = (uintR bs k).2.2 := ⟨_, rfl⟩
  have HU : Hid (∀ wx, Below w.heap.size w wx → Calls Tryd.prog 67 #[.slice (some ⟨b, off, none⟩) n c, .int .i64 (k : Int)] wx fun e w' => e = .returned (.tuple #[.int .u64 (V : Int), .int .i64 (P : Int), .int .i64 (E : Int)]) ∧ w' = wx) := by
    have h : ∀ wx, Below w.heap.size w wx → Calls Tryd.prog 67 #[.slice (some ⟨b, off, none⟩) n c, .int .i64 (k : Int)] wx fun e w' => e = .returned (.tuple #[.int .u64 (V : Int), .int .i64 (P : Int), .int .i64 (E : Int)]) ∧ w' = wx := fun wx hx => by
      rw [hV, hP, hE]
      exact readUint_in (HR.out.later hx) k (by rw [← HN.out]; exact hk)
    exact h
  have hok : E = 0 → k < P ∧ P ≤ n ∧ V < 18446744073709551616 := fun h => by
    have := uintR_ok (bs := bs) (k := k) (V := V) (P := P) (Prod.ext hV.symm (Prod.ext hP.symm (by rw [← hE]; exact h))) (by rw [← HN.out]; exact hk)
    rw [HN.out]; exact this
  have HRc : Hid (recordOf bs k = if E = 0 ∧ V ≤ n then (match pieceOf bs P with | none => none | some r => match pieceOf bs (r.1 + r.2) with | none => none | some v => some (V, r, v)) else none) := by
    have h : recordOf bs k = if E = 0 ∧ V ≤ n then (match pieceOf bs P with | none => none | some r => match pieceOf bs (r.1 + r.2) with | none => none | some v => some (V, r, v)) else none := by rw [hV, hP, hE, HN.out]; rfl
    exact h
  have HPI : Hid (∀ (wx : World) (j : Nat), Below w.heap.size w wx → j ≤ n → Calls Tryd.prog 68 #[.slice (some ⟨b, off, none⟩) n c, .int .i64 (j : Int)] wx fun e w' => Below wx.heap.size wx w' ∧ ((pieceOf bs j = none ∧ e = .returned (.tuple #[.slice none 0 0, .int .i64 0, .bool false])) ∨ ∃ s m : Nat, pieceOf bs j = some (s, m) ∧ ∃ o c', e = .returned (.tuple #[.slice (some ⟨b, o, none⟩) m c', .int .i64 ((s + m : Nat) : Int), .bool true]) ∧ ((m = 0 ∧ c' = 0) ∨ (o = off + s ∧ c' = c - s)))) := by
    have h : ∀ (wx : World) (j : Nat), Below w.heap.size w wx → j ≤ n → Calls Tryd.prog 68 #[.slice (some ⟨b, off, none⟩) n c, .int .i64 (j : Int)] wx fun e w' => Below wx.heap.size wx w' ∧ ((pieceOf bs j = none ∧ e = .returned (.tuple #[.slice none 0 0, .int .i64 0, .bool false])) ∨ ∃ s m : Nat, pieceOf bs j = some (s, m) ∧ ∃ o c', e = .returned (.tuple #[.slice (some ⟨b, o, none⟩) m c', .int .i64 ((s + m : Nat) : Int), .bool true]) ∧ ((m = 0 ∧ c' = 0) ∨ (o = off + s ∧ c' = c - s))) := fun wx j hx hj => piece_any (HR.out.later hx) j hj
    exact h
  unfold maxLen at hm
  clear hr hn hV hP hE
  obtain ⟨W0, hW0⟩ : ∃ W0, W0 = w.alloc (.cells #[.int .i64 0, .slice none 0 0, .slice none 0 0, .int .i64 0] 76) := ⟨_, rfl⟩
  have b0 : Below w.heap.size w W0 := by rw [hW0]; exact (Below.refl _ _).alloc (Nat.le_refl _) _
  have HBX : Hid (∀ wx, Below W0.heap.size W0 wx → RecB wx w.heap.size (.int .i64 0) (.slice none 0 0) (.slice none 0 0) (.int .i64 0)) := by
    have h : ∀ wx, Below W0.heap.size W0 wx → RecB wx w.heap.size (.int .i64 0) (.slice none 0 0) (.slice none 0 0) (.int .i64 0) := fun wx hx => by
      have hs : w.heap.size < W0.heap.size := by rw [hW0]; simp
      exact (hx.block _ hs).trans (by rw [hW0]; exact heap_alloc_new w _)
    exact h
  have HB0 : Hid (∀ wx, Below W0.heap.size W0 wx → Below w.heap.size w wx) := by
    have h : ∀ wx, Below W0.heap.size W0 wx → Below w.heap.size w wx := fun wx hx => b0.trans (hx.mono b0.size)
    exact h
  have HW0 : Hid (W0 = w.alloc (.cells #[.int .i64 0, .slice none 0 0, .slice none 0 0, .int .i64 0] 76)) := hW0
  clear hW0 b0
  by_cases h0 : E = 0
  · subst h0
    obtain ⟨h1, h2, h3⟩ := hok rfl
    by_cases h4 : V ≤ n
    · have h4i : ¬ ((n : Int) < (V : Int)) := by omega
      go_enter Tryd.func38, Tryd.ntmps38
      go_wp2_with (go_at_call 67; fail)
      rw [← HW0.out]
      clear HW0
      refine Calls.mono (HU.out _ (HB0.out _ (Below.refl _ _))) ?_
      rintro e1 w1 ⟨rfl, rfl⟩
      go_wp2_with (go_at_call 68; fail)
      refine Calls.mono (HPI.out _ P (HB0.out _ (Below.refl _ _)) h2) ?_
      rintro e2 w2 ⟨b2, (⟨hp, rfl⟩ | ⟨s1, m1, hp, o1, d1, rfl, hr1⟩)⟩
      · have HC : Hid (recordOf bs k = none) := by
          have h : recordOf bs k = none := by rw [HRc.out, if_pos ⟨by trivial, h4⟩, hp]
          exact h
        clear hp
        have fb := (HBX.out _ b2).fill (.int .i64 0) (.slice none 0 0) (.slice none 0 0) (.int .i64 0)
        have bw := fill_below (HB0.out _ b2) (Nat.le_refl w.heap.size) (.int .i64 0) (.slice none 0 0) (.slice none 0 0) (.int .i64 0)
        have HDN : Hid (RecB ((((w2.setCell ⟨w.heap.size, 0, none⟩ (.int .i64 0)).setCell ⟨w.heap.size, 1, none⟩ (.slice none 0 0)).setCell ⟨w.heap.size, 2, none⟩ (.slice none 0 0)).setCell ⟨w.heap.size, 3, none⟩ (.int .i64 0)) w.heap.size (.int .i64 0) (.slice none 0 0) (.slice none 0 0) (.int .i64 0) ∧ Below w.heap.size w ((((w2.setCell ⟨w.heap.size, 0, none⟩ (.int .i64 0)).setCell ⟨w.heap.size, 1, none⟩ (.slice none 0 0)).setCell ⟨w.heap.size, 2, none⟩ (.slice none 0 0)).setCell ⟨w.heap.size, 3, none⟩ (.int .i64 0))) := ⟨fb, bw⟩
        obtain ⟨q0, q1, q2, q3⟩ := (HBX.out _ b2).cells
        have f0 := (HBX.out _ b2).fz 0
        have f1 := (HBX.out _ b2).fz 1
        have f2 := (HBX.out _ b2).fz 2
        have f3 := (HBX.out _ b2).fz 3
        clear fb bw
        go_wp2
        obtain ⟨fb, bw⟩ := HDN.out
        clear HDN
        generalize ((((w2.setCell ⟨w.heap.size, 0, none⟩ (.int .i64 0)).setCell ⟨w.heap.size, 1, none⟩ (.slice none 0 0)).setCell ⟨w.heap.size, 2, none⟩ (.slice none 0 0)).setCell ⟨w.heap.size, 3, none⟩ (.int .i64 0)) = wf at fb bw ⊢
        obtain ⟨t0, t1, t2, t3⟩ := fb.cells
        refine bodyPost_ret (v := .tuple #[.agg #[.int .i64 0, .slice none 0 0, .slice none 0 0, .int .i64 0], .bool false]) ?_ rfl ⟨bw, .inl ⟨HC.out, rfl⟩⟩
        simp [results, Tryd.results38, go_sem, t0, t1, t2, t3]
      · have hp1 := pieceOf_ok hp (by rw [← HN.out]; exact h2)
        rw [← HN.out] at hp1
        have HP1 : Hid (pieceOf bs P = some (s1, m1)) := hp
        have HR1 : Hid ((m1 = 0 ∧ d1 = 0) ∨ (o1 = off + s1 ∧ d1 = c - s1)) := hr1
        clear hp hr1
        go_wp2_with (go_at_call 68; fail)
        refine Calls.mono (HPI.out _ (s1 + m1) (HB0.out _ b2) hp1.2) ?_
        rintro e3 w3 ⟨b3', (⟨hp, rfl⟩ | ⟨s2, m2, hp, o2, d2, rfl, hr2⟩)⟩
        · have HC : Hid (recordOf bs k = none) := by
            have h : recordOf bs k = none := by rw [HRc.out, if_pos ⟨by trivial, h4⟩, HP1.out]; simp only [hp]
            exact h
          have b3 := b2.trans (b3'.mono b2.size)
          clear hp b3'
          have fb := (HBX.out _ b3).fill (.int .i64 0) (.slice none 0 0) (.slice none 0 0) (.int .i64 0)
          have bw := fill_below (HB0.out _ b3) (Nat.le_refl w.heap.size) (.int .i64 0) (.slice none 0 0) (.slice none 0 0) (.int .i64 0)
          have HDN : Hid (RecB ((((w3.setCell ⟨w.heap.size, 0, none⟩ (.int .i64 0)).setCell ⟨w.heap.size, 1, none⟩ (.slice none 0 0)).setCell ⟨w.heap.size, 2, none⟩ (.slice none 0 0)).setCell ⟨w.heap.size, 3, none⟩ (.int .i64 0)) w.heap.size (.int .i64 0) (.slice none 0 0) (.slice none 0 0) (.int .i64 0) ∧ Below w.heap.size w ((((w3.setCell ⟨w.heap.size, 0, none⟩ (.int .i64 0)).setCell ⟨w.heap.size, 1, none⟩ (.slice none 0 0)).setCell ⟨w.heap.size, 2, none⟩ (.slice none 0 0)).setCell ⟨w.heap.size, 3, none⟩ (.int .i64 0))) := ⟨fb, bw⟩
          obtain ⟨q0, q1, q2, q3⟩ := (HBX.out _ b3).cells
          have f0 := (HBX.out _ b3).fz 0
          have f1 := (HBX.out _ b3).fz 1
          have f2 := (HBX.out _ b3).fz 2
          have f3 := (HBX.out _ b3).fz 3
          clear fb bw
          go_wp2
          obtain ⟨fb, bw⟩ := HDN.out
          clear HDN
          generalize ((((w3.setCell ⟨w.heap.size, 0, none⟩ (.int .i64 0)).setCell ⟨w.heap.size, 1, none⟩ (.slice none 0 0)).setCell ⟨w.heap.size, 2, none⟩ (.slice none 0 0)).setCell ⟨w.heap.size, 3, none⟩ (.int .i64 0)) = wf at fb bw ⊢
          obtain ⟨t0, t1, t2, t3⟩ := fb.cells
          refine bodyPost_ret (v := .tuple #[.agg #[.int .i64 0, .slice none 0 0, .slice none 0 0, .int .i64 0], .bool false]) ?_ rfl ⟨bw, .inl ⟨HC.out, rfl⟩⟩
          simp [results, Tryd.results38, go_sem, t0, t1, t2, t3]
        · have HC : Hid (recordOf bs k = some (V, (s1, m1), (s2, m2))) := by
            have h : recordOf bs k = some (V, (s1, m1), (s2, m2)) := by rw [HRc.out, if_pos ⟨by trivial, h4⟩, HP1.out]; simp only [hp]
            exact h
          have hp2 := pieceOf_ok hp (by rw [← HN.out]; exact hp1.2)
          rw [← HN.out] at hp2
          have b3 := b2.trans (b3'.mono b2.size)
          have RD : Hid (∀ wx, Below w.heap.size w wx → Rd wx (.slice (some ⟨b, o1, none⟩) m1 d1) ((bs.drop s1).take m1) ∧ Rd wx (.slice (some ⟨b, o2, none⟩) m2 d2) ((bs.drop s2).take m2)) := by
            have h : ∀ wx, Below w.heap.size w wx → Rd wx (.slice (some ⟨b, o1, none⟩) m1 d1) ((bs.drop s1).take m1) ∧ Rd wx (.slice (some ⟨b, o2, none⟩) m2 d2) ((bs.drop s2).take m2) := fun wx hx => ⟨(piece_rd HR.out HP1.out (by rw [← HN.out]; exact h2) HR1.out).later hx, (piece_rd HR.out hp (by rw [← HN.out]; exact hp1.2) hr2).later hx⟩
            exact h
          clear hp hr2 b3'
          have hVi : IntKind.i64.wrap (V : Int) = (V : Int) := IntWalk.i64_in _ ⟨by omega, by omega⟩
          have fb := (HBX.out _ b3).fill (.int .i64 (V : Int)) (.slice (some ⟨b, o1, none⟩) m1 d1) (.slice (some ⟨b, o2, none⟩) m2 d2) (.int .i64 ((s2 : Int) + (m2 : Int)))
          have bw := fill_below (HB0.out _ b3) (Nat.le_refl w.heap.size) (.int .i64 (V : Int)) (.slice (some ⟨b, o1, none⟩) m1 d1) (.slice (some ⟨b, o2, none⟩) m2 d2) (.int .i64 ((s2 : Int) + (m2 : Int)))
          have HDN : Hid (RecB ((((w3.setCell ⟨w.heap.size, 0, none⟩ (.int .i64 (V : Int))).setCell ⟨w.heap.size, 1, none⟩ (.slice (some ⟨b, o1, none⟩) m1 d1)).setCell ⟨w.heap.size, 2, none⟩ (.slice (some ⟨b, o2, none⟩) m2 d2)).setCell ⟨w.heap.size, 3, none⟩ (.int .i64 ((s2 : Int) + (m2 : Int)))) w.heap.size (.int .i64 (V : Int)) (.slice (some ⟨b, o1, none⟩) m1 d1) (.slice (some ⟨b, o2, none⟩) m2 d2) (.int .i64 ((s2 : Int) + (m2 : Int))) ∧ Below w.heap.size w ((((w3.setCell ⟨w.heap.size, 0, none⟩ (.int .i64 (V : Int))).setCell ⟨w.heap.size, 1, none⟩ (.slice (some ⟨b, o1, none⟩) m1 d1)).setCell ⟨w.heap.size, 2, none⟩ (.slice (some ⟨b, o2, none⟩) m2 d2)).setCell ⟨w.heap.size, 3, none⟩ (.int .i64 ((s2 : Int) + (m2 : Int))))) := ⟨fb, bw⟩
          obtain ⟨q0, q1, q2, q3⟩ := (HBX.out _ b3).cells
          have f0 := (HBX.out _ b3).fz 0
          have f1 := (HBX.out _ b3).fz 1
          have f2 := (HBX.out _ b3).fz 2
          have f3 := (HBX.out _ b3).fz 3
          clear fb bw
          go_wp2
          obtain ⟨fb, bw⟩ := HDN.out
          clear HDN
          generalize ((((w3.setCell ⟨w.heap.size, 0, none⟩ (.int .i64 (V : Int))).setCell ⟨w.heap.size, 1, none⟩ (.slice (some ⟨b, o1, none⟩) m1 d1)).setCell ⟨w.heap.size, 2, none⟩ (.slice (some ⟨b, o2, none⟩) m2 d2)).setCell ⟨w.heap.size, 3, none⟩ (.int .i64 ((s2 : Int) + (m2 : Int)))) = wf at fb bw ⊢
          obtain ⟨t0, t1, t2, t3⟩ := fb.cells
          refine bodyPost_ret (v := .tuple #[.agg #[.int .i64 (V : Int), .slice (some ⟨b, o1, none⟩) m1 d1, .slice (some ⟨b, o2, none⟩) m2 d2, .int .i64 ((s2 : Int) + (m2 : Int))], .bool true]) ?_ rfl ⟨bw, .inr ⟨V, (s1, m1), (s2, m2), HC.out, o1, d1, o2, d2, rfl, (RD.out _ bw).1, (RD.out _ bw).2⟩⟩
          simp [results, Tryd.results38, go_sem, t0, t1, t2, t3]
    · have h4i : (n : Int) < (V : Int) := by omega
      have HC : Hid (recordOf bs k = none) := by
        have h : recordOf bs k = none := by rw [HRc.out, if_neg (fun h => h4 h.2)]
        exact h
      go_enter Tryd.func38, Tryd.ntmps38
      go_wp2_with (go_at_call 67; fail)
      rw [← HW0.out]
      clear HW0
      refine Calls.mono (HU.out _ (HB0.out _ (Below.refl _ _))) ?_
      rintro e1 w1 ⟨rfl, rfl⟩
      have b1 := Below.refl w1.heap.size w1
      have fb := (HBX.out _ b1).fill (.int .i64 0) (.slice none 0 0) (.slice none 0 0) (.int .i64 0)
      have bw := fill_below (HB0.out _ b1) (Nat.le_refl w.heap.size) (.int .i64 0) (.slice none 0 0) (.slice none 0 0) (.int .i64 0)
      have HDN : Hid (RecB ((((w1.setCell ⟨w.heap.size, 0, none⟩ (.int .i64 0)).setCell ⟨w.heap.size, 1, none⟩ (.slice none 0 0)).setCell ⟨w.heap.size, 2, none⟩ (.slice none 0 0)).setCell ⟨w.heap.size, 3, none⟩ (.int .i64 0)) w.heap.size (.int .i64 0) (.slice none 0 0) (.slice none 0 0) (.int .i64 0) ∧ Below w.heap.size w ((((w1.setCell ⟨w.heap.size, 0, none⟩ (.int .i64 0)).setCell ⟨w.heap.size, 1, none⟩ (.slice none 0 0)).setCell ⟨w.heap.size, 2, none⟩ (.slice none 0 0)).setCell ⟨w.heap.size, 3, none⟩ (.int .i64 0))) := ⟨fb, bw⟩
      obtain ⟨q0, q1, q2, q3⟩ := (HBX.out _ b1).cells
      have f0 := (HBX.out _ b1).fz 0
      have f1 := (HBX.out _ b1).fz 1
      have f2 := (HBX.out _ b1).fz 2
      have f3 := (HBX.out _ b1).fz 3
      clear fb bw
      go_wp2
      obtain ⟨fb, bw⟩ := HDN.out
      clear HDN
      generalize ((((w1.setCell ⟨w.heap.size, 0, none⟩ (.int .i64 0)).setCell ⟨w.heap.size, 1, none⟩ (.slice none 0 0)).setCell ⟨w.heap.size, 2, none⟩ (.slice none 0 0)).setCell ⟨w.heap.size, 3, none⟩ (.int .i64 0)) = wf at fb bw ⊢
      obtain ⟨t0, t1, t2, t3⟩ := fb.cells
      refine bodyPost_ret (v := .tuple #[.agg #[.int .i64 0, .slice none 0 0, .slice none 0 0, .int .i64 0], .bool false]) ?_ rfl ⟨bw, .inl ⟨HC.out, rfl⟩⟩
      simp [results, Tryd.results38, go_sem, t0, t1, t2, t3]
  · have h0b : ((E : Int) != 0) = true := by rw [bne_iff_ne]; omega
    have h0c : ¬ ((E : Int) = 0) := by omega
    have HC : Hid (recordOf bs k = none) := by
      have h : recordOf bs k = none := by rw [HRc.out, if_neg (fun h => h0 h.1)]
      exact h
    go_enter Tryd.func38, Tryd.ntmps38
    go_wp2_with (go_at_call 67; fail)
    rw [← HW0.out]
    clear HW0
    refine Calls.mono (HU.out _ (HB0.out _ (Below.refl _ _))) ?_
    rintro e1 w1 ⟨rfl, rfl⟩
    have b1 := Below.refl w1.heap.size w1
    have fb := (HBX.out _ b1).fill (.int .i64 0) (.slice none 0 0) (.slice none 0 0) (.int .i64 0)
    have bw := fill_below (HB0.out _ b1) (Nat.le_refl w.heap.size) (.int .i64 0) (.slice none 0 0) (.slice none 0 0) (.int .i64 0)
    have HDN : Hid (RecB ((((w1.setCell ⟨w.heap.size, 0, none⟩ (.int .i64 0)).setCell ⟨w.heap.size, 1, none⟩ (.slice none 0 0)).setCell ⟨w.heap.size, 2, none⟩ (.slice none 0 0)).setCell ⟨w.heap.size, 3, none⟩ (.int .i64 0)) w.heap.size (.int .i64 0) (.slice none 0 0) (.slice none 0 0) (.int .i64 0) ∧ Below w.heap.size w ((((w1.setCell ⟨w.heap.size, 0, none⟩ (.int .i64 0)).setCell ⟨w.heap.size, 1, none⟩ (.slice none 0 0)).setCell ⟨w.heap.size, 2, none⟩ (.slice none 0 0)).setCell ⟨w.heap.size, 3, none⟩ (.int .i64 0))) := ⟨fb, bw⟩
    obtain ⟨q0, q1, q2, q3⟩ := (HBX.out _ b1).cells
    have f0 := (HBX.out _ b1).fz 0
    have f1 := (HBX.out _ b1).fz 1
    have f2 := (HBX.out _ b1).fz 2
    have f3 := (HBX.out _ b1).fz 3
    clear fb bw
    go_wp2
    obtain ⟨fb, bw⟩ := HDN.out
    clear HDN
    generalize ((((w1.setCell ⟨w.heap.size, 0, none⟩ (.int .i64 0)).setCell ⟨w.heap.size, 1, none⟩ (.slice none 0 0)).setCell ⟨w.heap.size, 2, none⟩ (.slice none 0 0)).setCell ⟨w.heap.size, 3, none⟩ (.int .i64 0)) = wf at fb bw ⊢
    obtain ⟨t0, t1, t2, t3⟩ := fb.cells
    refine bodyPost_ret (v := .tuple #[.agg #[.int .i64 0, .slice none 0 0, .slice none 0 0, .int .i64 0], .bool false]) ?_ rfl ⟨bw, .inl ⟨HC.out, rfl⟩⟩
    simp [results, Tryd.results38, go_sem, t0, t1, t2, t3]
end Go.Proofs.YtdkolihakmnpiaaDoor

namespace Go.Proofs.YtdkolihakmnpiaaDoor
open Go.RowKit
set_option linter.unusedVariables false

theorem ownNil (w : World) (B : Nat) : Own w B (.slice none 0 0) 0 [] := ⟨rfl, World.ownsRow_nil _ _ _ _⟩
theorem ownCell {w : World} {B k g c : Nat} {xs : List Nat} (h : Own w B (.slice (some ⟨g, 0, none⟩) k c) k xs) {i : Nat} (hi : i < k) : w.cell? ⟨g, i, none⟩ = some (.int .u8 ((xs.getD i 0 : Nat) : Int)) := by
  rw [h.2.cellAt i (by omega)]
  have := h.1
  simp [bv, List.getElem?_eq_getElem (by omega : i < xs.length)]
theorem ownNonil {w : World} {B k c : Nat} {a : Option Addr} {xs : List Nat} (o : Own w B (.slice a k c) k xs) : (a = none ∧ k = 0 ∧ c = 0) ∨ ∃ g, a = some ⟨g, 0, none⟩ := by
  rcases o.2.2 with ⟨h1, h2⟩ | ⟨g, cap, cur, h1, _⟩
  · simp only [Value.slice.injEq] at h1
    exact .inl ⟨h1.1, h2, h1.2.2⟩
  · simp only [Value.slice.injEq] at h1
    exact .inr ⟨g, h1.1⟩
theorem ownAgain {w w' : World} {B n k g c cu : Nat} {xs ys : List Nat} (o : Own w B (.slice (some ⟨g, 0, none⟩) n c) n xs) (o' : Own w' B (.slice (some ⟨g, 0, none⟩) n c) n xs) (ou : Own w B (.slice (some ⟨g, 0, none⟩) k cu) k ys) (hc : ∀ i, i < k → w'.cell? ⟨g, i, none⟩ = w.cell? ⟨g, i, none⟩) : Own w' B (.slice (some ⟨g, 0, none⟩) k cu) k ys := by
  rcases o.2.2 with ⟨h1, _⟩ | ⟨g1, cap1, cur1, h1, h2, h3, h4, h5, h6, h7⟩
  · cases h1
  rcases o'.2.2 with ⟨k1, _⟩ | ⟨g2, cap2, cur2, k1, k2, k3, k4, k5, k6, k7⟩
  · cases k1
  rcases ou.2.2 with ⟨l1, _⟩ | ⟨g3, cap3, cur3, l1, l2, l3, l4, l5, l6, l7⟩
  · cases l1
  simp only [Value.slice.injEq, Option.some.injEq, Addr.mk.injEq, and_true, true_and] at h1 k1 l1
  obtain ⟨rfl, rfl⟩ := h1
  obtain ⟨rfl, rfl⟩ := k1
  obtain ⟨rfl, rfl⟩ := l1
  rw [h3] at l3
  simp only [Option.some.injEq, Obj.cells.injEq, and_true] at l3
  subst l3
  have hsz : cur2.size = cur1.size := by rw [k6, h6]
  refine ⟨ou.1, ou.2.1, .inr ⟨g, cu, cur2, rfl, l2, k3, l4, l5, by rw [hsz, l6], ?_⟩⟩
  rw [← l7]
  apply List.ext_getElem?
  intro i
  by_cases hi : i < k * 1
  · rw [List.getElem?_take_of_lt hi, List.getElem?_take_of_lt hi]
    have := hc i (by omega)
    simp only [World.cell?, k3, h3] at this
    simpa using this
  · rw [List.getElem?_take_eq_none (by omega), List.getElem?_take_eq_none (by omega)]
theorem ownPre {w w' : World} {B N k cv cu : Nat} {av au : Option Addr} {xs ys : List Nat} (ov : Own w B (.slice av N cv) N xs) (ov' : Own w' B (.slice av N cv) N xs) (gr : w.grownBy w' (Value.slice av N cv).ownBlock) (ou : Own w B (.slice au k cu) k ys) (hk : k ≤ N) : Own w' B (.slice au k cu) k ys := by
  by_cases hb : (Value.slice au k cu).ownBlock = (Value.slice av N cv).ownBlock
  · rcases ownNonil ou with ⟨rfl, rfl, rfl⟩ | ⟨g, rfl⟩
    · exact ⟨ou.1, ou.2.1, .inl ⟨rfl, rfl⟩⟩
    · rcases ownNonil ov with ⟨rfl, _, _⟩ | ⟨g2, rfl⟩
      · cases hb
      · simp only [Value.ownBlock, Option.some.injEq] at hb
        subst hb
        refine ownAgain ov ov' ou (fun i hi => ?_)
        rw [ownCell ov' (by omega : i < N), ownCell ov (by omega : i < N)]
  · exact ⟨ou.1, ou.2.kept gr (.inr hb)⟩
theorem appendKeep {w : World} {B n m c : Nat} {v : Value} {xs bs : List Nat} (ty : TypeId) (hown : Own w B v n xs) (ad : Addr) (hm : m = bs.length) (hnews : ∀ j u, (bv bs)[j]? = some u → w.cell? (ad.add j) = some u) (hp : 0 < m) (hbytes : n + m ≤ 140737488355328) (hB : B ≤ w.heap.size) :
    ∃ v' w', (Builtin.append_ #[24, 24] ty #[v, .slice (some ad) m c]).run Tryd.prog w = .ok v' w' ∧ Own w' B v' (n + m) (xs ++ bs) ∧ w.grownBy w' v.ownBlock ∧ Own w' B v n xs ∧ (v'.ownBlock = v.ownBlock ∨ v'.ownBlock = some w.heap.size) := by
  obtain ⟨i0, hi, hz0, hz1, hz2⟩ := info_parts info_byte
  have hl : (bv bs).length = m * 1 := by simp [bv, hm]
  obtain ⟨v', w', hr, h2, h3, _⟩ := run_append_own (P := Tryd.prog) w B 24 ty 5 i0 (.int .u8 0) 1 1 und_bytes hi hz0 hz1 hz2 rfl (by decide) v n (bv xs) hown.2 ad m c (bv bs) hl hnews (bv_oneCell bs) (by unfold maxLen; omega) (by omega) hB
  have o2 : Own w' B v' (n + m) (xs ++ bs) := ⟨by rw [hown.1, hm]; simp, by simpa [bv] using h2⟩
  refine ⟨v', w', hr, o2, h3, ?_⟩
  rcases hown.2.2 with ⟨rfl, h0⟩ | ⟨g, cap, cur, rfl, hg1, hg2, hg3, hg4, hg5, hg6⟩
  · have hx : xs = [] := List.eq_nil_of_length_eq_zero (by rw [← hown.1]; exact h0)
    subst hx h0
    have hr2 := run_append_nil (P := Tryd.prog) w 24 ty 5 i0 (.int .u8 0) und_bytes hi hz0 ad m c (bv bs) (by rw [hz1]; exact hl) hnews hp (by omega) (by rw [hz2]; omega)
    rw [hr] at hr2
    injection hr2 with e1 e2
    subst e1
    exact ⟨ownNil _ _, .inr rfl⟩
  · by_cases hroom : n + m ≤ cap
    · obtain ⟨w2, hr2, k2, _⟩ := run_append_own_spare (P := Tryd.prog) w B 24 ty 5 i0 1 und_bytes hi hz1 g n cap (bv xs) hown.2 ad m c (bv bs) hl hnews (bv_oneCell bs) hroom
      rw [hr] at hr2
      injection hr2 with e1 e2
      subst e1 e2
      refine ⟨⟨hown.1, hown.2.1, ?_⟩, .inl rfl⟩
      rcases o2.2.2 with ⟨h5, _⟩ | ⟨g2, cap2, cur2, h5, h6, h7, h8, h9, h10, h11⟩
      · cases h5
      · simp only [Value.slice.injEq, Option.some.injEq] at h5
        obtain ⟨e3, _, rfl⟩ := h5
        obtain rfl : g = g2 := by injection e3
        refine .inr ⟨g, cap, cur2, rfl, h6, h7, hg3, hg4, h10, ?_⟩
        have e4 : cur2.toList.take (n * 1) = (cur2.toList.take ((n + m) * 1)).take (n * 1) := by
          rw [List.take_take, Nat.min_eq_left (by omega)]
        rw [e4, h11, bv_append, List.take_append_of_le_length (by rw [bv_length, ← hown.1]; omega), List.take_of_length_le (by rw [bv_length, ← hown.1]; omega)]
    · have holds : ∀ j u, (bv xs)[j]? = some u → w.cell? ((⟨g, 0, none⟩ : Addr).add j) = some u := hown.2.cells (g := g) rfl
      have hr2 := run_append_grow (P := Tryd.prog) w 24 ty 5 i0 (.int .u8 0) und_bytes hi hz0 ⟨g, 0, none⟩ n cap (bv xs) (by rw [hz1, bv_length, ← hown.1]; omega) holds ad m c (bv bs) (by rw [hz1]; exact hl) hnews (by omega) (by omega) (by rw [hz2]; exact growslice_fits (by omega) (by omega))
      rw [hr] at hr2
      injection hr2 with e1 e2
      subst e1
      refine ⟨?_, .inr rfl⟩
      refine ⟨hown.1, hown.2.1, .inr ⟨g, cap, cur, rfl, hg1, ?_, hg3, hg4, hg5, hg6⟩⟩
      rw [e2, heap_alloc_old w.drew _ (Array.getElem?_eq_some_iff.1 hg2).1]
      exact hg2

structure Gr (w w' : World) (B n n' : Nat) (v v' : Value) (xs ys : List Nat) : Prop where
  new : Own w' B v' n' (xs ++ ys)
  old : Own w' B v n xs
  grown : w.grownBy w' v.ownBlock
  loc : ∀ g, v'.ownBlock = some g → v.ownBlock = some g ∨ w.heap.size ≤ g
theorem Gr.refl {w : World} {B n : Nat} {v : Value} {xs : List Nat} (h : Own w B v n xs) : Gr w w B n n v v xs [] :=
  ⟨by simpa using h, h, ⟨rfl, rfl, rfl, Nat.le_refl _, fun _ _ _ => rfl⟩, fun g hg => .inl hg⟩
theorem Gr.later {w w' w2 : World} {B n n' : Nat} {v v' : Value} {xs ys : List Nat} (h : Gr w w' B n n' v v' xs ys) (hb : Below w'.heap.size w' w2) : Gr w w2 B n n' v v' xs ys :=
  ⟨h.new.later hb, h.old.later hb, h.grown.andThen (row' := none) ⟨hb.os, hb.tape, hb.output, hb.size, fun i hi _ => hb.block i hi⟩ (fun j e => by cases e), h.loc⟩
theorem Gr.trans {w w' w2 : World} {B n n' n2 : Nat} {v v' v2 : Value} {xs ys zs : List Nat} (h : Gr w w' B n n' v v' xs ys) (k : Gr w' w2 B n' n2 v' v2 (xs ++ ys) zs) : Gr w w2 B n n2 v v2 xs (ys ++ zs) := by
  obtain ⟨av, cv, rfl⟩ := own_form h.old.2
  obtain ⟨av', cv', rfl⟩ := own_form h.new.2
  refine ⟨by rw [← List.append_assoc]; exact k.new, ownPre h.new k.old k.grown h.old ?_, h.grown.andThen k.grown (fun j e => ?_), fun g hg => ?_⟩
  · have h1 := h.new.1
    have h2 := h.old.1
    rw [List.length_append] at h1
    omega
  · rcases h.loc j e with h1 | h1
    · exact .inr h1
    · exact .inl h1
  · rcases k.loc g hg with h1 | h1
    · exact h.loc g h1
    · exact .inr (Nat.le_trans h.grown.size h1)
theorem appendKeep0 {w : World} {B n c : Nat} {v : Value} {xs : List Nat} (ty : TypeId) (hown : Own w B v n xs) (ad : Addr) (hbytes : n ≤ 140737488355328) (hB : B ≤ w.heap.size) :
    ∃ v' w', (Builtin.append_ #[24, 24] ty #[v, .slice (some ad) 0 c]).run Tryd.prog w = .ok v' w' ∧ Own w' B v' n xs ∧ w.grownBy w' v.ownBlock ∧ Own w' B v n xs ∧ (v'.ownBlock = v.ownBlock ∨ v'.ownBlock = some w.heap.size) := by
  obtain ⟨i0, hi, hz0, hz1, hz2⟩ := info_parts info_byte
  have hnews : ∀ j u, (bv [])[j]? = some u → w.cell? (ad.add j) = some u := fun j u h => by simp [bv] at h
  obtain ⟨v', w', hr, h2, h3, h4, h5⟩ := run_append_own_at (P := Tryd.prog) w B 24 ty 5 i0 (.int .u8 0) 1 1 und_bytes hi hz0 hz1 hz2 rfl (by decide) v n (bv xs) hown.2 ad 0 c (bv []) (by simp [bv]) hnews (bv_oneCell []) (by unfold maxLen; omega) (by omega) hB
  have o2 : Own w' B v' n xs := ⟨hown.1, by simpa [bv] using h2⟩
  refine ⟨v', w', hr, o2, h3, ?_, h5⟩
  rcases hown.2.2 with ⟨rfl, h0⟩ | ⟨g, cap, cur, rfl, hg1, hg2, hg3, hg4, hg5, hg6⟩
  · have hx : xs = [] := List.eq_nil_of_length_eq_zero (by rw [← hown.1]; exact h0)
    subst hx h0
    exact ownNil _ _
  · obtain ⟨w2, hr2, k2, _⟩ := run_append_own_spare (P := Tryd.prog) w B 24 ty 5 i0 1 und_bytes hi hz1 g n cap (bv xs) hown.2 ad 0 c (bv []) (by simp [bv]) hnews (bv_oneCell []) (by omega)
    rw [hr] at hr2
    injection hr2 with e1 e2
    subst e1
    exact o2
theorem wpList_append_keep {w : World} {ops : Array Oper} {rest : List Oper} {o : Oper} {a : Act} {Q : Exit → Act → World → Prop} (hgd : o.guard = none) (s x : Operand)
    (ho : o.op = .call { callee := .builtin .append, args := #[s, x], argTypes := #[24, 24] })
    (B : Nat) (a0 : Option Addr) (m0 c0 : Nat) (acc : List Nat) (hs : a.eval s = .slice a0 m0 c0) (hown : Own w B (.slice a0 m0 c0) m0 acc)
    (ao : Option Addr) (m c : Nat) (bs : List Nat) (hx : a.eval x = .slice ao m c) (hrd : Rd w (.slice ao m c) bs)
    (hbytes : m0 + m ≤ 140737488355328) (hB : B ≤ w.heap.size)
    (h : ∀ a' c' w', Gr w w' B m0 (m0 + m) (.slice a0 m0 c0) (.slice a' (m0 + m) c') acc bs → wpList Tryd.prog ops Q rest (a.put o.dst (.slice a' (m0 + m) c')) w') : wpList Tryd.prog ops Q (o :: rest) a w := by
  obtain ⟨i0, hi, hz0, hz1, hz2⟩ := info_parts info_byte
  obtain ⟨hn, _, _, _⟩ := rd_lens hrd
  have fin : ∀ (v' : Value) (w' : World), (Builtin.append_ #[24, 24] o.type #[.slice a0 m0 c0, .slice ao m c]).run Tryd.prog w = .ok v' w' → Own w' B v' (m0 + m) (acc ++ bs) → w.grownBy w' (Value.slice a0 m0 c0).ownBlock → Own w' B (.slice a0 m0 c0) m0 acc → (v'.ownBlock = (Value.slice a0 m0 c0).ownBlock ∨ v'.ownBlock = some w.heap.size) → wpList Tryd.prog ops Q (o :: rest) a w := by
    intro v' w' hr h1 h2 h3 h4
    obtain ⟨a', c', rfl⟩ := own_form h1.2
    refine wpList_plain hgd fun K hK => ?_
    unfold Oper.wp execOp
    simp only [ho, resolve, invoke, builtin, Sem.run_bind, Sem.run_pure, Result.andThen_ok, List.map_toArray, List.map_cons, List.map_nil, hs, hx, hr]
    refine hK _ _ (h a' c' w' ⟨h1, h3, h2, fun g hg => ?_⟩)
    rcases h4 with h4 | h4
    · exact .inl (h4 ▸ hg)
    · rw [h4] at hg
      simp at hg
      omega
  by_cases hm : m = 0
  · have hb0 : bs = [] := List.eq_nil_of_length_eq_zero (by omega)
    subst hm hb0
    cases ao with
    | none =>
      rcases rd_some hrd with ⟨hc, _, _⟩ | ⟨b, off, hh⟩
      · subst hc
        refine wpList_append_own_none hgd s x 24 ho B 5 i0 1 und_bytes hi _ _ _ hs hown.2 (by simpa using hx) ?_
        exact h a0 c0 w (Gr.refl hown)
      · cases hh
    | some ad =>
      obtain ⟨v', w', hr, h1, h2, h3, h4⟩ := appendKeep0 (c := c) o.type hown ad (by omega) hB
      exact fin v' w' hr (by simpa using h1) h2 h3 h4
  · rcases rd_some hrd with ⟨_, h0, _⟩ | ⟨b, off, rfl⟩
    · omega
    · obtain ⟨_, a1, c1, h2, _, _, _, _, hat⟩ := hrd
      simp only [Value.slice.injEq] at h2
      obtain ⟨rfl, _, rfl⟩ := h2
      obtain ⟨v', w', hr, h1, h2, h3, h4⟩ := appendKeep (c := c) o.type hown ⟨b, off, none⟩ (m := m) (bs := bs) hn hat.add (by omega) hbytes hB
      exact fin v' w' hr h1 h2 h3 h4
end Go.Proofs.YtdkolihakmnpiaaDoor
