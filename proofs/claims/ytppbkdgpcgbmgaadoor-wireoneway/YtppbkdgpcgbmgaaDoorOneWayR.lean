import Derived.Test.YtppbkdgpcgbmgaaDoorOneWayM
namespace Go.Proofs.YtppbkdgpcgbmgaaDoor
open Go.RowKit
set_option linter.unusedVariables false

/-- What was read up to P from the place z on, is what would be written. -/
def Got (bs : List Nat) (z : Int) (P : Nat) (L : List Nat) : Prop := ∃ k : Nat, z = (k : Int) ∧ k < P ∧ P ≤ bs.length ∧ L = (bs.take P).drop k

theorem in_or_out (bs : List Nat) (z : Int) : (z < 0 ∨ (bs.length : Int) < z) ∨ ∃ k : Nat, z = (k : Int) ∧ k ≤ bs.length := by
  by_cases h : z < 0 ∨ (bs.length : Int) < z
  · exact .inl h
  · exact .inr ⟨z.toNat, by omega, by omega⟩
theorem Bys.part {bs : List Nat} (h : Bys bs) (i j : Nat) : Bys ((bs.take j).drop i) := fun x hx => h x (List.mem_of_mem_take (List.mem_of_mem_drop hx))
theorem part_len (bs : List Nat) (i j : Nat) : ((bs.take j).drop i).length ≤ bs.length := by simp; omega
theorem mem_esc {x : Nat} : ∀ {L : List Nat}, x ∈ L → x ∈ escL L
  | y :: r, h => by
    rcases List.mem_cons.1 h with rfl | h
    · unfold escL; split <;> simp_all
    · have := mem_esc h
      unfold escL; split <;> simp_all

theorem readUint_z {v : Value} {bs : List Nat} {w : World} (hr : Rd w v bs) (z : Int) :
    Calls Tryd.prog 7 #[v, .int .i64 z] w fun e w' => ∃ V P E : Nat, e = .returned (.tuple #[.int .u64 (V : Int), .int .i64 (P : Int), .int .i64 (E : Int)]) ∧ w' = w ∧ (E = 0 → V < 18446744073709551616 ∧ Got bs z P (uintL V)) := by
  rcases in_or_out bs z with h | ⟨k, rfl, hk⟩
  · refine (readUint_out hr z h).mono ?_
    rintro e w' ⟨rfl, rfl⟩
    exact ⟨0, 0, 1, rfl, rfl, by omega⟩
  · refine (readUint_in hr k hk).mono ?_
    rintro e w' ⟨rfl, rfl⟩
    refine ⟨_, _, _, rfl, rfl, fun h0 => ?_⟩
    have e : uintR bs k = ((uintR bs k).1, (uintR bs k).2.1, 0) := Prod.ext rfl (Prod.ext rfl h0)
    obtain ⟨h1, h2, h3⟩ := uintR_ok e hk
    exact ⟨h3, k, rfl, h1, h2, uint_back hr.1 e⟩

theorem readBytes_z {v : Value} {bs : List Nat} {w : World} (hr : Rd w v bs) (z : Int) (most : Nat) (hmost : most < 9223372036854775808) (h47 : bs.length ≤ 140737488355328) :
    Calls Tryd.prog 11 #[v, .int .i64 z, .int .i64 (most : Int)] w fun e w' => ∃ (L : List Nat) (P E : Nat) (a : Option Addr) (m c : Nat), e = .returned (.tuple #[.slice a m c, .int .i64 (P : Int), .int .i64 (E : Int)]) ∧ Own w' w.heap.size (.slice a m c) m L ∧ Below w.heap.size w w' ∧ (E = 0 → Got bs z P (bytesL L) ∧ Bys L ∧ L.length ≤ bs.length) := by
  rcases in_or_out bs z with h | ⟨k, rfl, hk⟩
  · refine (readBytes_out hr z most (by omega)).mono ?_
    rintro e w' ⟨rfl, rfl⟩
    exact ⟨[], 0, 1, none, 0, 0, rfl, ⟨rfl, World.ownsRow_nil _ _ _ _⟩, Below.refl _ _, by omega⟩
  · refine (readBytes_in hr k most hk hmost h47).mono ?_
    rintro e w' ⟨a, m, c, rfl, own, hb⟩
    refine ⟨_, _, _, a, m, c, rfl, own, hb, fun h0 => ?_⟩
    have e : bytesR bs k most = ((bytesR bs k most).1, (bytesR bs k most).2.1, 0) := Prod.ext rfl (Prod.ext rfl h0)
    obtain ⟨h1, h2, h3, h4⟩ := bytes_back hr.1 hk e
    refine ⟨⟨k, rfl, h2, h3, h1⟩, fun x hx => ?_, h4⟩
    have : x ∈ bytesL (bytesR bs k most).1 := List.mem_append_right _ hx
    rw [h1] at this
    exact hr.1.part _ _ x this

theorem readOrdered_z {v : Value} {bs : List Nat} {w : World} (hr : Rd w v bs) (z : Int) (h47 : bs.length ≤ 140737488355328) :
    Calls Tryd.prog 13 #[v, .int .i64 z] w fun e w' => ∃ (L : List Nat) (P E : Nat) (a : Option Addr) (m c : Nat), e = .returned (.tuple #[.slice a m c, .int .i64 (P : Int), .int .i64 (E : Int)]) ∧ Own w' w.heap.size (.slice a m c) m L ∧ Below w.heap.size w w' ∧ (E = 0 → Got bs z P (ordL L) ∧ Bys L ∧ (ordL L).length ≤ bs.length ∧ L.length ≤ bs.length) := by
  rcases in_or_out bs z with h | ⟨k, rfl, hk⟩
  · refine (readOrdered_out hr z h).mono ?_
    rintro e w' ⟨rfl, rfl⟩
    exact ⟨[], 0, 1, none, 0, 0, rfl, ⟨rfl, World.ownsRow_nil _ _ _ _⟩, Below.refl _ _, by omega⟩
  · refine (readOrdered_in hr k hk h47).mono ?_
    rintro e w' ⟨a, m, c, rfl, own, hb⟩
    refine ⟨_, _, _, a, m, c, rfl, own, hb, fun h0 => ?_⟩
    have e : ordR bs k = ((ordR bs k).1, (ordR bs k).2.1, 0) := Prod.ext rfl (Prod.ext rfl h0)
    obtain ⟨h1, h2, h3⟩ := ord_back hk e
    have hl : (ordL (ordR bs k).1).length ≤ bs.length := by rw [h1]; exact part_len _ _ _
    refine ⟨⟨k, rfl, h2, h3, h1⟩, fun x hx => ?_, hl, by have := ordL_len (ordR bs k).1; omega⟩
    have : x ∈ ordL (ordR bs k).1 := List.mem_append_left _ (mem_esc hx)
    rw [h1] at this
    exact hr.1.part _ _ x this

theorem readRising_z {v : Value} {bs : List Nat} {w : World} (hr : Rd w v bs) (z : Int) :
    Calls Tryd.prog 15 #[v, .int .i64 z] w fun e w' => ∃ V P E : Nat, e = .returned (.tuple #[.int .i64 (V : Int), .int .i64 (P : Int), .int .i64 (E : Int)]) ∧ w' = w ∧ (E = 0 → V < 9223372036854775808 ∧ Got bs z P (be8 V)) := by
  rcases in_or_out bs z with h | ⟨k, rfl, hk⟩
  · refine (readRising_out hr z h).mono ?_
    rintro e w' ⟨rfl, rfl⟩
    exact ⟨0, 0, 1, rfl, rfl, by omega⟩
  · refine (readRising_in hr k hk).mono ?_
    rintro e w' ⟨rfl, rfl⟩
    refine ⟨_, _, _, rfl, rfl, fun h0 => ?_⟩
    have e : riseR bs k = ((riseR bs k).1, (riseR bs k).2.1, 0) := Prod.ext rfl (Prod.ext rfl h0)
    obtain ⟨h1, h2, h3, h4⟩ := rise_back hr.1 e
    exact ⟨h4, k, rfl, h2, h3, h1⟩

theorem readFalling_z {v : Value} {bs : List Nat} {w : World} (hr : Rd w v bs) (z : Int) :
    Calls Tryd.prog 17 #[v, .int .i64 z] w fun e w' => ∃ V P E : Nat, e = .returned (.tuple #[.int .i64 (V : Int), .int .i64 (P : Int), .int .i64 (E : Int)]) ∧ w' = w ∧ (E = 0 → V < 9223372036854775808 ∧ Got bs z P (be8 (9223372036854775807 - V))) := by
  rcases in_or_out bs z with h | ⟨k, rfl, hk⟩
  · refine (readFalling_out hr z h).mono ?_
    rintro e w' ⟨rfl, rfl⟩
    exact ⟨0, 0, 1, rfl, rfl, by omega⟩
  · refine (readFalling_in hr k hk).mono ?_
    rintro e w' ⟨rfl, rfl⟩
    refine ⟨_, _, _, rfl, rfl, fun h0 => ?_⟩
    unfold fallR at h0 ⊢
    split at h0
    · rename_i hh
      exact absurd h0 hh
    · rename_i hh
      have e : riseR bs k = ((riseR bs k).1, (riseR bs k).2.1, 0) := Prod.ext rfl (Prod.ext rfl (by simpa using hh))
      obtain ⟨h1, h2, h3, h4⟩ := rise_back hr.1 e
      rw [if_neg hh]
      refine ⟨by simp only; omega, k, rfl, h2, h3, ?_⟩
      simp only
      rw [show 9223372036854775807 - (9223372036854775807 - (riseR bs k).1) = (riseR bs k).1 by omega]
      exact h1

theorem readFrame_z {v : Value} {bs : List Nat} {w : World} (hr : Rd w v bs) (ht : Tab w) (z : Int) (h47 : bs.length ≤ 140737488355328) :
    Calls Tryd.prog 19 #[v, .int .i64 z] w fun e w' => ∃ (L : List Nat) (P E : Nat) (a : Option Addr) (m c : Nat), e = .returned (.tuple #[.slice a m c, .int .i64 (P : Int), .int .i64 (E : Int)]) ∧ Own w' w.heap.size (.slice a m c) m L ∧ Below w.heap.size w w' ∧ (E = 0 → Got bs z P (frameL L) ∧ Bys L ∧ L.length ≤ 1048576) := by
  rcases in_or_out bs z with h | ⟨k, rfl, hk⟩
  · refine (readFrame_out hr z h).mono ?_
    rintro e w' ⟨rfl, rfl⟩
    exact ⟨[], 0, 1, none, 0, 0, rfl, ⟨rfl, World.ownsRow_nil _ _ _ _⟩, Below.refl _ _, by omega⟩
  · refine (readFrame_in hr ht k hk h47).mono ?_
    rintro e w' ⟨a, m, c, rfl, own, hb⟩
    refine ⟨_, _, _, a, m, c, rfl, own, hb, fun h0 => ?_⟩
    have e : frameR bs k = ((frameR bs k).1, (frameR bs k).2.1, 0) := Prod.ext rfl (Prod.ext rfl h0)
    obtain ⟨h1, h2, h3, h4⟩ := frame_back hr.1 hk e
    refine ⟨⟨k, rfl, h2, h3, h1⟩, fun x hx => ?_, h4⟩
    have : x ∈ frameL (frameR bs k).1 := by unfold frameL; exact List.mem_append_left _ (List.mem_append_right _ hx)
    rw [h1] at this
    exact hr.1.part _ _ x this

end Go.Proofs.YtppbkdgpcgbmgaaDoor
