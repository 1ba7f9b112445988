import Derived.Test.YtncbiohmogmcpaaDoorReadFrame
import Derived.Test.YtncbiohmogmcpaaDoorReadUint
namespace Go.Proofs.YtncbiohmogmcpaaDoor
open Go.RowKit
set_option linter.unusedVariables false

theorem st1 : uintR [9, 172, 2] 1 = (300, 3, 0) := by decide
theorem st2 : (frameL [7]).length = 13 := by decide
theorem st3 : frameR (frameL [7]) 0 = ([7], 13, 0) := by decide
theorem st4 : uintL 300 = [172, 2] := by decide

theorem rd_new (w : World) (g : Nat) (hg : g = w.heap.size) (bs : List Nat) (vs : List Value) (hv : vs = bv bs) (hb : Bys bs) (hl : bs.length ≤ 1000) (n : Nat) (hn : n = bs.length) :
    Rd (w.alloc (.cells vs.toArray 5)) (.slice (some ⟨g, 0, none⟩) n n) bs := by
  subst hv hn hg
  refine ⟨hb, _, _, rfl, Nat.le_refl _, by unfold maxLen; omega, by omega, .inr ⟨w.heap.size, 0, rfl⟩, .inr ⟨w.heap.size, 0, rfl, fun i hi => ?_⟩⟩
  have := news_new w (bv bs) 5 i (.int .u8 ((bs.getD i 0 : Nat) : Int)) (by simp [bv, List.getElem?_eq_getElem hi])
  have e : (⟨w.heap.size, 0, none⟩ : Addr).add i = ⟨w.heap.size, 0 + i, none⟩ := by unfold Addr.add; split <;> simp_all
  rwa [e] at this

theorem readUint_at {v : Value} {bs : List Nat} {w : World} (hr : Rd w v bs) (z : Int) (k : Nat) (hz : z = (k : Int)) (hk : k ≤ bs.length) {V P E : Nat} (h : uintR bs k = (V, P, E)) :
    Calls Tryd.prog 28 #[v, .int .i64 z] w fun e w' => e = .returned (.tuple #[.int .u64 (V : Int), .int .i64 (P : Int), .int .i64 (E : Int)]) ∧ w' = w := by
  subst hz
  have := readUint_in hr k hk
  rw [h] at this
  exact this
theorem readFrame_at {v : Value} {bs : List Nat} {w : World} (hr : Rd w v bs) (ht : Tab w) (z : Int) (k : Nat) (hz : z = (k : Int)) (hk : k ≤ bs.length) (h47 : bs.length ≤ 140737488355328) {L : List Nat} {P E : Nat} (h : frameR bs k = (L, P, E)) :
    Calls Tryd.prog 30 #[v, .int .i64 z] w fun e w' => ∃ a m c, e = .returned (.tuple #[.slice a m c, .int .i64 (P : Int), .int .i64 (E : Int)]) ∧ Own w' w.heap.size (.slice a m c) m L ∧ Below w.heap.size w w' := by
  subst hz
  have := readFrame_in hr ht k hk h47
  rw [h] at this
  exact this
theorem uint_at (z : Int) (v : Nat) (hz : z = (v : Int)) (hv : v < 18446744073709551616) (w : World) {L : List Nat} (hL : uintL v = L) :
    Calls Tryd.prog 32 #[.int .u64 z] w fun e w' => ∃ a m c, e = .returned (.slice a m c) ∧ Own w' w.heap.size (.slice a m c) m L ∧ Below w.heap.size w w' := by
  subst hz hL
  exact handed (uint_any v hv w)
theorem bys7 : Bys [7] := by intro x hx; simp at hx; omega

set_option maxRecDepth 100000 in
set_option maxHeartbeats 1000000 in
theorem started_any {w : World} (ht : Tab w) :
    Calls Tryd.prog 8 #[] w fun e w' => e = .returned (.bool true) ∧ Below w.heap.size w w' := by
  have b1 := (Below.refl w.heap.size w).alloc (Nat.le_refl _) (.cells #[.int .u8 9, .int .u8 172, .int .u8 2] 5)
  have b2 := b1.alloc b1.size (.cells #[.int .u8 7] 5)
  go_enter Tryd.func8, Tryd.ntmps8
  go_wp2_with fail
  refine (readUint_at (rd_new w _ rfl [9, 172, 2] [.int .u8 9, .int .u8 172, .int .u8 2] rfl (by intro x hx; simp at hx; omega) (by simp) 3 rfl) 1 1 rfl (by simp) st1).mono ?_
  rintro e w1 ⟨rfl, rfl⟩
  go_wp2_with fail
  refine (frame_ok (rd_new (w.alloc (.cells #[.int .u8 9, .int .u8 172, .int .u8 2] 5)) _ (by simp) [7] [.int .u8 7] rfl bys7 (by simp) 1 rfl) (ht.later b2) (by simp)).mono ?_
  rintro e w3 ⟨a3, m3, c3, rfl, own3, hb3⟩
  have hm3 : m3 = 13 := own3.1.trans st2
  subst hm3
  have hb3' := b2.trans (hb3.mono b2.size)
  have r3 : Rd w3 (.slice a3 13 c3) (frameL [7]) := own3.rd (frameL_bys _ bys7 (by simp)) (by omega)
  clear own3 hb3 b1 b2
  go_wp2_with fail
  refine (readFrame_at r3 (ht.later hb3') 0 0 rfl (Nat.zero_le _) (by rw [st2]; omega) st3).mono ?_
  rintro e w4 ⟨a4, m4, c4, rfl, own4, hb4⟩
  have hb4' := hb3'.trans (hb4.mono hb3'.size)
  have r4 := own4.rd bys7 (by rw [own4.1]; simp)
  have hs4 := hb4'.size
  clear own4 hb4 hb3' r3
  go_wp2_with fail
  refine (num_any _ _).mono ?_
  rintro e w5 ⟨rfl, rfl⟩
  go_wp2_with fail
  refine (num_any _ _).mono ?_
  rintro e w6 ⟨rfl, rfl⟩
  go_wp2_with fail
  have hb7 := hb4'.alloc hs4 (.cells #[.int .u8 7] 5)
  refine (same_any (r4.later ((Below.refl _ _).alloc (Nat.le_refl _) _)) (rd_new w6 _ rfl [7] [.int .u8 7] rfl bys7 (by simp) 1 rfl)).mono ?_
  rintro e w7 ⟨rfl, rfl⟩
  rw [show decide ([7] = [7]) = true from rfl]
  go_wp2_with fail
  refine (num_any _ _).mono ?_
  rintro e w8 ⟨rfl, rfl⟩
  go_wp2_with fail
  refine (uint_at 300 300 rfl (by omega) _ st4).mono ?_
  rintro e w9 ⟨a9, m9, c9, rfl, own9, hb9⟩
  have hb9' := hb7.trans (hb9.mono hb7.size)
  have b172 : Bys [172, 2] := by intro x hx; simp at hx; omega
  have r9 := own9.rd b172 (by rw [own9.1]; simp)
  have hs9 := hb9'.size
  clear own9 hb9 r4 hb7
  go_wp2_with fail
  refine (same_any (r9.later ((Below.refl _ _).alloc (Nat.le_refl _) _)) (rd_new w9 _ rfl [172, 2] [.int .u8 172, .int .u8 2] rfl b172 (by simp) 2 rfl)).mono ?_
  rintro e w10 ⟨rfl, rfl⟩
  rw [show decide ([172, 2] = [172, 2]) = true from rfl]
  have hb10 := hb9'.alloc hs9 (.cells #[.int .u8 172, .int .u8 2] 5)
  go_wp2
  go_ret
  exact ⟨rfl, hb10⟩

end Go.Proofs.YtncbiohmogmcpaaDoor
