import Derived.Test.YthpdlclgiggekaaCell2
import Derived.Test.YthpdlclgiggekaaOrder
import Derived.Lib.Bytealg
namespace Go.Proofs.Ythpdlclgiggekaa
open Go.RowKit
set_option linter.unusedVariables false

theorem bytesOf_rd {w : World} {v : Value} {bs : List Nat} (h : Rd w v bs) : (Extern.Bytes.bytesOf v).run Try.prog w = .ok ⟨(Lib.bytesOf (bs.map fun n : Nat => (n : Int))).toArray⟩ w := by
  obtain ⟨hby, a, cap, rfl, hle, hm, hl48, hnone, hat⟩ := h
  cases a with
  | none =>
    have hb0 : bs = [] := by
      rcases hnone with h | ⟨b, off, h⟩
      · exact List.eq_nil_of_length_eq_zero (by omega)
      · cases h
    subst hb0
    rfl
  | some x =>
    have hi := ints_at hat
    have := Lib.run_loadBytesX (P := Try.prog) w (bs.map fun n : Nat => (n : Int)) x .empty (fun j y hj => by
      have hjl : j < bs.length := by
        have := (List.getElem?_eq_some_iff.1 hj).1
        simpa using this
      rw [hi j hjl]
      simp [List.getD, hj])
    simp only [List.length_map] at this
    show (Extern.Bytes.loadBytes x bs.length .empty).run Try.prog w = _
    rw [this]
    simp
theorem compare_ordC : ∀ (xs ys : List Nat), Bys xs → Bys ys → Lib.compareBytes (Lib.bytesOf (xs.map fun n : Nat => (n : Int))) (Lib.bytesOf (ys.map fun n : Nat => (n : Int))) = ordC xs ys
  | [], [], _, _ => rfl
  | [], _ :: _, _, _ => rfl
  | _ :: _, [], _, _ => rfl
  | a :: r1, b :: r2, ha, hb => by
    have ih := compare_ordC r1 r2 (fun x hx => ha x (by simp [hx])) (fun x hx => hb x (by simp [hx]))
    have h1 := ha a (by simp)
    have h2 := hb b (by simp)
    have e1 : ∀ c : Nat, c < 256 → ∀ d : Nat, d < 256 → ((c : Int).toNat.toUInt8 < (d : Int).toNat.toUInt8 ↔ c < d) := by
      intro c hc d hd
      simp [UInt8.lt_iff_toNat_lt, Nat.toUInt8, Nat.mod_eq_of_lt hc, Nat.mod_eq_of_lt hd]
    show (if (a : Int).toNat.toUInt8 < (b : Int).toNat.toUInt8 then -1 else if (b : Int).toNat.toUInt8 < (a : Int).toNat.toUInt8 then 1 else Lib.compareBytes (Lib.bytesOf (r1.map fun n : Nat => (n : Int))) (Lib.bytesOf (r2.map fun n : Nat => (n : Int)))) = ordC (a :: r1) (b :: r2)
    rw [ih]
    simp only [e1 a h1 b h2, e1 b h2 a h1]
    rfl

set_option maxRecDepth 100000 in
set_option maxHeartbeats 1000000 in
theorem bytesCompare_any {va vb : Value} {xs ys : List Nat} {w : World} (ha : Rd w va xs) (hb : Rd w vb ys) :
    Calls Try.prog 76 #[va, vb] w fun e w' => e = .returned (.int .i64 (ordC xs ys)) ∧ w' = w := by
  have h1 := bytesOf_rd ha
  have h2 := bytesOf_rd hb
  have hcmp : (Extern.BytealgCompare.compare #[va, vb]).run Try.prog w = .ok (.int .i64 (ordC xs ys)) w := by
    change Sem.run Try.prog (do pure (goInt (Extern.BytealgCompare.cmp (← Extern.Bytes.bytesOf va) (← Extern.Bytes.bytesOf vb)))) w = _
    simp only [Sem.run_bind, h1, h2, Sem.run_pure, Result.andThen]
    rw [Lib.cmp_eq, ← compare_ordC xs ys ha.1 hb.1]
    rfl
  have HCMP : Hid ((Extern.BytealgCompare.compare #[va, vb]).run Try.prog w = .ok (.int .i64 (ordC xs ys)) w) := hcmp
  clear h1 h2 hcmp
  go_enter Try.func76, Try.ntmps76
  go_wp2
  rw [run_callFunc_extern Try.func103 (by kernel_rfl) (by kernel_rfl) (by kernel_rfl) (e := Extern.BytealgCompare.compare) (by kernel_rfl), HCMP.out]
  simp only [Result.andThen]
  rw [Oper.upon_value]
  go_wp2
  go_ret
  exact ⟨rfl, rfl⟩

def cmpI (a b : Int) : Int := if a < b then -1 else if b < a then 1 else 0
theorem isNaN_int (a : Int) (w : World) : Calls Try.prog 104 #[.int .i64 a] w fun e w' => e = .returned (.bool false) ∧ w' = w := by
  go_enter Try.func104, Try.ntmps104
  go_wp2
  go_ret
  exact ⟨by simp, rfl⟩
theorem isNaN_byte (a : Int) (w : World) : Calls Try.prog 115 #[.int .u8 a] w fun e w' => e = .returned (.bool false) ∧ w' = w := by
  go_enter Try.func115, Try.ntmps115
  go_wp2
  go_ret
  exact ⟨by simp, rfl⟩
set_option maxHeartbeats 1000000 in
theorem cmpInt_any (a b : Int) (w : World) : Calls Try.prog 78 #[.int .i64 a, .int .i64 b] w fun e w' => e = .returned (.int .i64 (cmpI a b)) ∧ w' = w := by
  by_cases h1 : a < b
  · have HE : Hid (cmpI a b = -1) := by unfold Hid cmpI; rw [if_pos h1]
    go_enter Try.func78, Try.ntmps78
    go_wp2_with (go_at_call 104; refine (isNaN_int _ _).mono ?_; rintro e1 w1 ⟨rfl, rfl⟩)
    go_ret
    exact ⟨by rw [HE.out]; rfl, rfl⟩
  · by_cases h2 : b < a
    · have HE : Hid (cmpI a b = 1) := by unfold Hid cmpI; rw [if_neg h1, if_pos h2]
      have h3 : b ≤ a := by omega
      clear h1
      go_enter Try.func78, Try.ntmps78
      go_wp2_with (go_at_call 104; refine (isNaN_int _ _).mono ?_; rintro e1 w1 ⟨rfl, rfl⟩)
      go_ret
      exact ⟨by rw [HE.out]; rfl, rfl⟩
    · have HE : Hid (cmpI a b = 0) := by unfold Hid cmpI; rw [if_neg h1, if_neg h2]
      obtain rfl : a = b := by omega
      clear h1 h2
      go_enter Try.func78, Try.ntmps78
      go_wp2_with (go_at_call 104; refine (isNaN_int _ _).mono ?_; rintro e1 w1 ⟨rfl, rfl⟩)
      go_ret
      exact ⟨by rw [HE.out]; rfl, rfl⟩
set_option maxHeartbeats 1000000 in
theorem cmpByte_any (a b : Int) (w : World) : Calls Try.prog 105 #[.int .u8 a, .int .u8 b] w fun e w' => e = .returned (.int .i64 (cmpI a b)) ∧ w' = w := by
  by_cases h1 : a < b
  · have HE : Hid (cmpI a b = -1) := by unfold Hid cmpI; rw [if_pos h1]
    go_enter Try.func105, Try.ntmps105
    go_wp2_with (go_at_call 115; refine (isNaN_byte _ _).mono ?_; rintro e1 w1 ⟨rfl, rfl⟩)
    go_ret
    exact ⟨by rw [HE.out]; rfl, rfl⟩
  · by_cases h2 : b < a
    · have HE : Hid (cmpI a b = 1) := by unfold Hid cmpI; rw [if_neg h1, if_pos h2]
      have h3 : b ≤ a := by omega
      clear h1
      go_enter Try.func105, Try.ntmps105
      go_wp2_with (go_at_call 115; refine (isNaN_byte _ _).mono ?_; rintro e1 w1 ⟨rfl, rfl⟩)
      go_ret
      exact ⟨by rw [HE.out]; rfl, rfl⟩
    · have HE : Hid (cmpI a b = 0) := by unfold Hid cmpI; rw [if_neg h1, if_neg h2]
      obtain rfl : a = b := by omega
      clear h1 h2
      go_enter Try.func105, Try.ntmps105
      go_wp2_with (go_at_call 115; refine (isNaN_byte _ _).mono ?_; rintro e1 w1 ⟨rfl, rfl⟩)
      go_ret
      exact ⟨by rw [HE.out]; rfl, rfl⟩

end Go.Proofs.Ythpdlclgiggekaa
