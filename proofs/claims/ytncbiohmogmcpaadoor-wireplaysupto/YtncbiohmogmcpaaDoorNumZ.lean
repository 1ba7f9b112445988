import Derived.Test.YtncbiohmogmcpaaDoorRefNum2
import Derived.Test.YtncbiohmogmcpaaDoorStrOrd
import Derived.Deep.RegionHeld3
namespace Go.Proofs.YtncbiohmogmcpaaDoor
open Go.RowKit
set_option linter.unusedVariables false

def uintZ (bs : List Nat) (z : Int) : Nat × Nat × Nat := if z < 0 ∨ (bs.length : Int) < z then (0, 0, 1) else uintR bs z.toNat
def riseZ (bs : List Nat) (z : Int) : Nat × Nat × Nat := if z < 0 ∨ (bs.length : Int) < z then (0, 0, 1) else riseR bs z.toNat
def fallZ (bs : List Nat) (z : Int) : Nat × Nat × Nat := if z < 0 ∨ (bs.length : Int) < z then (0, 0, 1) else fallR bs z.toNat
def bytesZ (bs : List Nat) (z most : Int) : List Nat × Nat × Nat := if z < 0 ∨ (bs.length : Int) < z ∨ most < 0 then ([], 0, 1) else bytesR bs z.toNat most.toNat

theorem readUint_p {v : Value} {bs : List Nat} {w : World} (hr : Rd w v bs) (z : Int) {V P E : Nat} (h : uintZ bs z = (V, P, E)) :
    Calls Tryd.prog 28 #[v, .int .i64 z] w fun e w' => e = .returned (.tuple #[.int .u64 (V : Int), .int .i64 (P : Int), .int .i64 (E : Int)]) ∧ w' = w := by
  rcases place bs z with h0 | ⟨k, rfl, hk, h0⟩
  · rw [uintZ, if_pos h0] at h
    cases h
    refine (readUint_out hr z h0).mono ?_
    rintro e w' ⟨rfl, rfl⟩
    exact ⟨rfl, rfl⟩
  · rw [uintZ, if_neg h0, Int.toNat_natCast] at h
    refine (readUint_in hr k hk).mono ?_
    rintro e w' ⟨rfl, rfl⟩
    rw [h]
    exact ⟨rfl, rfl⟩
theorem refReadUint_p {v : Value} {bs : List Nat} {w : World} (hr : Rd w v bs) (z : Int) {V P E : Nat} (h : uintZ bs z = (V, P, E)) :
    Calls Tryd.prog 61 #[v, .int .i64 z] w fun e w' => e = .returned (.tuple #[.int .u64 (V : Int), .int .i64 (P : Int), .int .i64 (E : Int)]) ∧ w' = w := by
  rcases place bs z with h0 | ⟨k, rfl, hk, h0⟩
  · rw [uintZ, if_pos h0] at h
    cases h
    refine (refReadUint_out hr z h0).mono ?_
    rintro e w' ⟨rfl, rfl⟩
    exact ⟨rfl, rfl⟩
  · rw [uintZ, if_neg h0, Int.toNat_natCast] at h
    refine (refReadUint_in hr k hk).mono ?_
    rintro e w' ⟨rfl, rfl⟩
    rw [h]
    exact ⟨rfl, rfl⟩
theorem readRising_p {v : Value} {bs : List Nat} {w : World} (hr : Rd w v bs) (z : Int) {V P E : Nat} (h : riseZ bs z = (V, P, E)) :
    Calls Tryd.prog 63 #[v, .int .i64 z] w fun e w' => e = .returned (.tuple #[.int .i64 (V : Int), .int .i64 (P : Int), .int .i64 (E : Int)]) ∧ w' = w := by
  rcases place bs z with h0 | ⟨k, rfl, hk, h0⟩
  · rw [riseZ, if_pos h0] at h
    cases h
    refine (readRising_out hr z h0).mono ?_
    rintro e w' ⟨rfl, rfl⟩
    exact ⟨rfl, rfl⟩
  · rw [riseZ, if_neg h0, Int.toNat_natCast] at h
    refine (readRising_in hr k hk).mono ?_
    rintro e w' ⟨rfl, rfl⟩
    rw [h]
    exact ⟨rfl, rfl⟩
theorem refReadRising_p {v : Value} {bs : List Nat} {w : World} (hr : Rd w v bs) (z : Int) {V P E : Nat} (h : riseZ bs z = (V, P, E)) :
    Calls Tryd.prog 64 #[v, .int .i64 z] w fun e w' => e = .returned (.tuple #[.int .i64 (V : Int), .int .i64 (P : Int), .int .i64 (E : Int)]) ∧ w' = w := by
  rcases place bs z with h0 | ⟨k, rfl, hk, h0⟩
  · rw [riseZ, if_pos h0] at h
    cases h
    refine (refReadRising_out hr z h0).mono ?_
    rintro e w' ⟨rfl, rfl⟩
    exact ⟨rfl, rfl⟩
  · rw [riseZ, if_neg h0, Int.toNat_natCast] at h
    refine (refReadRising_in hr k hk).mono ?_
    rintro e w' ⟨rfl, rfl⟩
    rw [h]
    exact ⟨rfl, rfl⟩
theorem readFalling_p {v : Value} {bs : List Nat} {w : World} (hr : Rd w v bs) (z : Int) {V P E : Nat} (h : fallZ bs z = (V, P, E)) :
    Calls Tryd.prog 66 #[v, .int .i64 z] w fun e w' => e = .returned (.tuple #[.int .i64 (V : Int), .int .i64 (P : Int), .int .i64 (E : Int)]) ∧ w' = w := by
  rcases place bs z with h0 | ⟨k, rfl, hk, h0⟩
  · rw [fallZ, if_pos h0] at h
    cases h
    refine (readFalling_out hr z h0).mono ?_
    rintro e w' ⟨rfl, rfl⟩
    exact ⟨rfl, rfl⟩
  · rw [fallZ, if_neg h0, Int.toNat_natCast] at h
    refine (readFalling_in hr k hk).mono ?_
    rintro e w' ⟨rfl, rfl⟩
    rw [h]
    exact ⟨rfl, rfl⟩
theorem refReadFalling_p {v : Value} {bs : List Nat} {w : World} (hr : Rd w v bs) (z : Int) {V P E : Nat} (h : fallZ bs z = (V, P, E)) :
    Calls Tryd.prog 67 #[v, .int .i64 z] w fun e w' => e = .returned (.tuple #[.int .i64 (V : Int), .int .i64 (P : Int), .int .i64 (E : Int)]) ∧ w' = w := by
  rcases place bs z with h0 | ⟨k, rfl, hk, h0⟩
  · rw [fallZ, if_pos h0] at h
    cases h
    refine (refReadFalling_out hr z h0).mono ?_
    rintro e w' ⟨rfl, rfl⟩
    exact ⟨rfl, rfl⟩
  · rw [fallZ, if_neg h0, Int.toNat_natCast] at h
    refine (refReadFalling_in hr k hk).mono ?_
    rintro e w' ⟨rfl, rfl⟩
    rw [h]
    exact ⟨rfl, rfl⟩
theorem bytesR_ok (bs : List Nat) (k most : Nat) (hb : Bys bs) : Bys (bytesR bs k most).1 ∧ (bytesR bs k most).1.length ≤ bs.length := by
  have hn : Bys ([] : List Nat) ∧ ([] : List Nat).length ≤ bs.length := ⟨fun x hx => by simp at hx, by simp⟩
  unfold bytesR
  split
  · exact hn
  · split
    · exact hn
    · split
      · exact hn
      · exact ⟨fun x hx => hb x (List.mem_of_mem_drop (List.mem_of_mem_take hx)), by simp; omega⟩
theorem readBytes_p {v : Value} {bs : List Nat} {w : World} (hr : Rd w v bs) (z most : Int) (hm : most ≤ 9223372036854775807) (h47 : bs.length ≤ 140737488355328) {L : List Nat} {P E : Nat} (h : bytesZ bs z most = (L, P, E)) :
    Calls Tryd.prog 47 #[v, .int .i64 z, .int .i64 most] w fun e w' => ∃ a m c, e = .returned (.tuple #[.slice a m c, .int .i64 (P : Int), .int .i64 (E : Int)]) ∧ Rd w' (.slice a m c) L ∧ Below w.heap.size w w' := by
  by_cases h0 : z < 0 ∨ (bs.length : Int) < z ∨ most < 0
  · rw [bytesZ, if_pos h0] at h
    cases h
    refine (readBytes_out hr z most h0).mono ?_
    rintro e w' ⟨rfl, rfl⟩
    exact ⟨none, 0, 0, rfl, Rd.nil _, Below.refl _ _⟩
  · rw [bytesZ, if_neg h0] at h
    obtain ⟨k, rfl⟩ := Int.eq_ofNat_of_zero_le (show 0 ≤ z by omega)
    obtain ⟨q, rfl⟩ := Int.eq_ofNat_of_zero_le (show 0 ≤ most by omega)
    simp only [Int.toNat_natCast] at h
    have hok := bytesR_ok bs k q hr.1
    refine (readBytes_in hr k q (by omega) (by omega) h47).mono ?_
    rintro e w' ⟨a, m, c, rfl, own, hb⟩
    rw [h] at own hok ⊢
    exact ⟨a, m, c, rfl, own.rd hok.1 (by rw [own.1]; have := hok.2; simp at this; omega), hb⟩
theorem refReadBytes_p {v : Value} {bs : List Nat} {w : World} (hr : Rd w v bs) (z most : Int) (hm : most ≤ 9223372036854775807) (h47 : bs.length ≤ 140737488355328) {L : List Nat} {P E : Nat} (h : bytesZ bs z most = (L, P, E)) :
    Calls Tryd.prog 43 #[v, .int .i64 z, .int .i64 most] w fun e w' => ∃ a m c, e = .returned (.tuple #[.slice a m c, .int .i64 (P : Int), .int .i64 (E : Int)]) ∧ Rd w' (.slice a m c) L ∧ Below w.heap.size w w' := by
  by_cases h0 : z < 0 ∨ (bs.length : Int) < z ∨ most < 0
  · rw [bytesZ, if_pos h0] at h
    cases h
    refine (refReadBytes_out hr z most h0).mono ?_
    rintro e w' ⟨rfl, rfl⟩
    exact ⟨none, 0, 0, rfl, Rd.nil _, Below.refl _ _⟩
  · rw [bytesZ, if_neg h0] at h
    obtain ⟨k, rfl⟩ := Int.eq_ofNat_of_zero_le (show 0 ≤ z by omega)
    obtain ⟨q, rfl⟩ := Int.eq_ofNat_of_zero_le (show 0 ≤ most by omega)
    simp only [Int.toNat_natCast] at h
    have hok := bytesR_ok bs k q hr.1
    refine (refReadBytes_in hr k q (by omega) (by omega) h47).mono ?_
    rintro e w' ⟨a, m, c, rfl, own, hb⟩
    rw [h] at own hok ⊢
    exact ⟨a, m, c, rfl, own.rd hok.1 (by rw [own.1]; have := hok.2; simp at this; omega), hb⟩

end Go.Proofs.YtncbiohmogmcpaaDoor
