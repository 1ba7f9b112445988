import Derived.Test.YthpdlclgiggekaaReadFrame
import Derived.Test.YthpdlclgiggekaaReadUint
namespace Go.Proofs.Ythpdlclgiggekaa
open Go.RowKit
set_option linter.unusedVariables false

theorem st1 : uintR [9, 172, 2] 1 = (300, 3, 0) := by decide
theorem st2 : (frameL [7]).length = 13 := by decide
theorem st3 : frameR (frameL [7]) 0 = ([7], 13, 0) := by decide
theorem st4 : uintL 300 = [172, 2] := by decide

theorem rd_new (w : World) (g : Nat) (hg : g = w.heap.size) (bs : List Nat) (vs : List Value) (hv : vs = bv bs) (hb : Bys bs) (hl : bs.length ≤ 1000) (n : Nat) (hn : n = bs.length) :
    Rd (w.alloc (.cells vs.toArray 5)) (.slice (some ⟨g, 0, none⟩) n n) bs := by
  subst hv hn hg
  refine ⟨hb, _, _, rfl, Nat.le_refl _, by unfold maxLen; omega, by omega, .inr ⟨w.heap.size, 0, rfl⟩, .inr ⟨w.heap.size, 0, rfl, fun i hi => ?_⟩⟩
  have := news_new w (bv bs) 5 i (.int .u8 ((bs.getD i 0 : Nat) : Int)) (by simp [bv, List.getElem?_eq_getElem hi])
  have e : (⟨w.heap.size, 0, none⟩ : Addr).add i = ⟨w.heap.size, 0 + i, none⟩ := by unfold Addr.add; split <;> simp_all
  rwa [e] at this

theorem readUint_at {v : Value} {bs : List Nat} {w : World} (hr : Rd w v bs) (z : Int) (k : Nat) (hz : z = (k : Int)) (hk : k ≤ bs.length) {V P E : Nat} (h : uintR bs k = (V, P, E)) :
    Calls Try.prog 93 #[v, .int .i64 z] w fun e w' => e = .returned (.tuple #[.int .u64 (V : Int), .int .i64 (P : Int), .int .i64 (E : Int)]) ∧ w' = w := by
  subst hz
  have := readUint_in hr k hk
  rw [h] at this
  exact this
theorem uint_at (z : Int) (v : Nat) (hz : z = (v : Int)) (hv : v < 18446744073709551616) (w : World) {L : List Nat} (hL : uintL v = L) :
    Calls Try.prog 91 #[.int .u64 z] w fun e w' => ∃ a m c, e = .returned (.slice a m c) ∧ Own w' w.heap.size (.slice a m c) m L ∧ Below w.heap.size w w' := by
  subst hz hL
  exact handed (uint_any v hv w)
theorem bys7 : Bys [7] := by intro x hx; simp at hx; omega

end Go.Proofs.Ythpdlclgiggekaa
