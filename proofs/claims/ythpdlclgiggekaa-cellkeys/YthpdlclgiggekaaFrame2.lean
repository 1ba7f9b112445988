import Derived.Test.YthpdlclgiggekaaFrame
namespace Go.Proofs.Ythpdlclgiggekaa
open Go.RowKit
set_option linter.unusedVariables false

theorem RdP.one {w : World} {u : Value} {bs : List Nat} (h : Rd w u bs) : RdP (w.alloc (.cells #[u] 33)) (.slice (some ⟨w.heap.size, 0, none⟩) 1 1) [bs] := by
  refine ⟨by simp, _, 1, rfl, .inr ⟨w.heap.size, 0, rfl, fun i hi => ?_⟩⟩
  have hi0 : i = 0 := by simp at hi; exact hi
  subst hi0
  refine ⟨u, ?_, ?_⟩
  · exact news_new w [u] 33 0 u rfl
  · exact h.later ((Below.refl _ _).alloc (Nat.le_refl _) _)

def frameL (body : List Nat) : List Nat := ((be4 body.length ++ le4 (sumL (be4 body.length))) ++ body) ++ le4 (sumL body)

theorem sumL_lt (bs : List Nat) : sumL bs < 4294967296 := by unfold sumL; omega

theorem be4_bys (n : Nat) (h : n < 4294967296) : Bys (be4 n) := by
  intro x hx; simp [be4] at hx; omega
theorem le4_bys (n : Nat) (h : n < 4294967296) : Bys (le4 n) := by
  intro x hx; simp [le4] at hx; omega
theorem Bys.app {a b : List Nat} (ha : Bys a) (hb : Bys b) : Bys (a ++ b) := by
  intro x hx
  rcases List.mem_append.1 hx with h | h
  · exact ha x h
  · exact hb x h
theorem frameL_bys (body : List Nat) (h : Bys body) (hl : body.length ≤ 1048576) : Bys (frameL body) :=
  (((be4_bys _ (by omega)).app (le4_bys _ (sumL_lt _))).app h).app (le4_bys _ (sumL_lt _))

theorem own_app {w1 : World} {B n m : Nat} {v : Value} {acc bs : List Nat} (h : w1.ownsRow B 5 1 v (n + m) (bv acc ++ bv bs)) (hn : n = acc.length) (hm : m = bs.length) :
    w1.ownsRow B 5 1 v (acc ++ bs).length (bv (acc ++ bs)) := by
  subst hn; subst hm
  simpa [bv] using h

end Go.Proofs.Ythpdlclgiggekaa
