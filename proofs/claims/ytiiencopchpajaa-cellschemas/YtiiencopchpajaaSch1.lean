import Derived.Test.YtiiencopchpajaaCell24
import Derived.Lib.Hide
namespace Go.Proofs.Ytiiencopchpajaa
open Go.RowKit
set_option linter.unusedVariables false

/-- A string's byte. -/
def byt (s : ByteArray) (i : Nat) : Nat := if h : i < s.size then (s[i]'h).toNat else 0
theorem byt_in {s : ByteArray} {i : Nat} (h : i < s.size) : byt s i = (s[i]'h).toNat := by unfold byt; rw [dif_pos h]
def Letter (c : Nat) : Prop := 97 ≤ c ∧ c ≤ 122
def Digit (c : Nat) : Prop := 48 ≤ c ∧ c ≤ 57
instance (c : Nat) : Decidable (Letter c) := by unfold Letter; infer_instance
instance (c : Nat) : Decidable (Digit c) := by unfold Digit; infer_instance
def ByteOk (i c : Nat) : Prop := Letter c ∨ (i ≠ 0 ∧ (c = 95 ∨ Digit c))
def NameOk (s : ByteArray) : Prop := 1 ≤ s.size ∧ s.size ≤ 32 ∧ ∀ i, i < s.size → ByteOk i (byt s i)

set_option maxRecDepth 100000 in
theorem isLetter_any (c : Nat) (w : World) : Calls Try.prog 91 #[.int .u8 (c : Int)] w fun e w' => e = .returned (.bool (decide (Letter c))) ∧ w' = w := by
  by_cases h1 : 97 ≤ c
  · have d1 : decide ((97 : Int) ≤ (c : Int)) = true := decide_eq_true (by omega)
    by_cases h2 : c ≤ 122
    · have d2 : decide ((c : Int) ≤ 122) = true := decide_eq_true (by omega)
      have e : decide (Letter c) = true := decide_eq_true ⟨h1, h2⟩
      rw [e]
      clear e
      go_enter Try.func91, Try.ntmps91
      go_wp2
      go_ret
      exact ⟨by first | rfl | simp [d1, d2], rfl⟩
    · have d2 : decide ((c : Int) ≤ 122) = false := decide_eq_false (by omega)
      have e : decide (Letter c) = false := decide_eq_false (fun h => h2 h.2)
      rw [e]
      clear e
      go_enter Try.func91, Try.ntmps91
      go_wp2
      go_ret
      exact ⟨by first | rfl | simp [d1, d2], rfl⟩
  · have d1 : decide ((97 : Int) ≤ (c : Int)) = false := decide_eq_false (by omega)
    have e : decide (Letter c) = false := decide_eq_false (fun h => h1 h.1)
    rw [e]
    clear e
    go_enter Try.func91, Try.ntmps91
    go_wp2
    go_ret
    exact ⟨by first | rfl | simp [d1], rfl⟩
set_option maxRecDepth 100000 in
theorem isDigit_any (c : Nat) (w : World) : Calls Try.prog 92 #[.int .u8 (c : Int)] w fun e w' => e = .returned (.bool (decide (Digit c))) ∧ w' = w := by
  by_cases h1 : 48 ≤ c
  · have d1 : decide ((48 : Int) ≤ (c : Int)) = true := decide_eq_true (by omega)
    by_cases h2 : c ≤ 57
    · have d2 : decide ((c : Int) ≤ 57) = true := decide_eq_true (by omega)
      have e : decide (Digit c) = true := decide_eq_true ⟨h1, h2⟩
      rw [e]
      clear e
      go_enter Try.func92, Try.ntmps92
      go_wp2
      go_ret
      exact ⟨by first | rfl | simp [d1, d2], rfl⟩
    · have d2 : decide ((c : Int) ≤ 57) = false := decide_eq_false (by omega)
      have e : decide (Digit c) = false := decide_eq_false (fun h => h2 h.2)
      rw [e]
      clear e
      go_enter Try.func92, Try.ntmps92
      go_wp2
      go_ret
      exact ⟨by first | rfl | simp [d1, d2], rfl⟩
  · have d1 : decide ((48 : Int) ≤ (c : Int)) = false := decide_eq_false (by omega)
    have e : decide (Digit c) = false := decide_eq_false (fun h => h1 h.1)
    rw [e]
    clear e
    go_enter Try.func92, Try.ntmps92
    go_wp2
    go_ret
    exact ⟨by first | rfl | simp [d1], rfl⟩
theorem letter_y {c : Nat} (h : Letter c) (w : World) : Calls Try.prog 91 #[.int .u8 (c : Int)] w fun e w' => e = .returned (.bool true) ∧ w' = w := by have k := isLetter_any c w; rw [decide_eq_true h] at k; exact k
theorem letter_n {c : Nat} (h : ¬ Letter c) (w : World) : Calls Try.prog 91 #[.int .u8 (c : Int)] w fun e w' => e = .returned (.bool false) ∧ w' = w := by have k := isLetter_any c w; rw [decide_eq_false h] at k; exact k
theorem digit_y {c : Nat} (h : Digit c) (w : World) : Calls Try.prog 92 #[.int .u8 (c : Int)] w fun e w' => e = .returned (.bool true) ∧ w' = w := by have k := isDigit_any c w; rw [decide_eq_true h] at k; exact k
theorem digit_n {c : Nat} (h : ¬ Digit c) (w : World) : Calls Try.prog 92 #[.int .u8 (c : Int)] w fun e w' => e = .returned (.bool false) ∧ w' = w := by have k := isDigit_any c w; rw [decide_eq_false h] at k; exact k


theorem letter_95 (w : World) : Calls Try.prog 91 #[.int .u8 95] w fun e w' => e = .returned (.bool false) ∧ w' = w := letter_n (c := 95) (by decide) w
theorem digit_95 (w : World) : Calls Try.prog 92 #[.int .u8 95] w fun e w' => e = .returned (.bool false) ∧ w' = w := digit_n (c := 95) (by decide) w
set_option maxRecDepth 100000 in
theorem famName_len {s : ByteArray} (h : s.size < 1 ∨ 32 < s.size) (w : World) : Calls Try.prog 64 #[.string s] w fun e w' => e = .returned (.bool false) ∧ w' = w := by
  by_cases h1 : s.size < 1
  · have d1 : decide ((s.size : Int) < 1) = true := decide_eq_true (by omega)
    have i1 : (s.size : Int) < 1 := by omega
    clear h
    go_enter Try.func64, Try.ntmps64
    go_wp2
    go_ret
    exact ⟨rfl, rfl⟩
  · have d1 : decide ((s.size : Int) < 1) = false := decide_eq_false (by omega)
    have d2 : decide ((32 : Int) < (s.size : Int)) = true := decide_eq_true (by omega)
    have i1 : (1 : Int) ≤ (s.size : Int) := by omega
    have i2 : (32 : Int) < (s.size : Int) := by omega
    clear h
    go_enter Try.func64, Try.ntmps64
    go_wp2
    go_ret
    exact ⟨rfl, rfl⟩

set_option maxRecDepth 100000 in
set_option maxHeartbeats 4000000 in
theorem famName_in {s : ByteArray} (h1 : 1 ≤ s.size) (h2 : s.size ≤ 32) (w : World) (R : Bool) (hR : R = true ↔ ∀ i, i < s.size → ByteOk i (byt s i)) : Calls Try.prog 64 #[.string s] w fun e w' => e = .returned (.bool R) ∧ w' = w := by
  have HR : Hid (R = true ↔ ∀ i, i < s.size → ByteOk i (byt s i)) := hR
  have i1 : (1 : Int) ≤ (s.size : Int) := by omega
  have i2 : (s.size : Int) ≤ 32 := by omega
  have d1 : decide ((s.size : Int) < 1) = false := decide_eq_false (by omega)
  have d2 : decide ((32 : Int) < (s.size : Int)) = false := decide_eq_false (by omega)
  have i3 : 0 < s.size := by omega
  clear hR
  by_cases hl : Letter (s[0]'i3).toNat
  · have HL : Hid (Letter (s[0]'i3).toNat) := hl
    have HB0 : Hid (Letter (byt s 0)) := by unfold Hid; rw [byt_in i3]; exact hl
    clear hl
    go_enter Try.func64, Try.ntmps64
    go_wp2_with fail
    refine (letter_y HL.out _).mono ?_
    rintro e w1 ⟨rfl, rfl⟩
    go_wp2
    go_loopw [3, 4, 21] (fun _ _ i wr => ∃ t : Nat, t ≤ s.size ∧ i = .int .i64 (t : Int) ∧ wr = w1 ∧ ∀ j, j < t → ByteOk j (byt s j)) (fun _ _ i _ => s.size - (intOf i).toNat)
    case atStart => exact ⟨0, by omega, rfl, rfl, fun j hj => absurd hj (by omega)⟩
    case round =>
      obtain ⟨t, ht, rfl, rfl, hj⟩ := hrel
      have HJ : Hid (∀ j, j < t → ByteOk j (byt s j)) := hj
      clear hj
      by_cases hlt : t < s.size
      · have j1 : (t : Int) < (s.size : Int) := by omega
        have j2 : (0 : Int) ≤ (t : Int) := by omega
        have HBY : Hid (byt s t = (s[t]'hlt).toNat) := byt_in hlt
        have step : ∀ (h : ByteOk t (byt s t)), ∀ j, j < t + 1 → ByteOk j (byt s j) := fun h j hj => by
          by_cases e : j = t
          · rw [e]; exact h
          · exact HJ.out j (by omega)
        have HST := Lib.hid step
        clear step
        by_cases hle : Letter (s[t]'hlt).toNat
        · have HLE : Hid (Letter (s[t]'hlt).toNat) := hle
          clear hle
          go_wp2_with fail
          refine (letter_y HLE.out _).mono ?_
          rintro e w2 ⟨rfl, rfl⟩
          go_wp2
          go_roundw
          case rel => exact ⟨t + 1, by omega, by go_num, trivial, HST.out (.inl (by rw [HBY.out]; exact HLE.out))⟩
          case measure => simp [intOf]; omega
        · have HLE : Hid (¬ Letter (s[t]'hlt).toNat) := hle
          have ht1 : t ≠ 0 := by
            rintro rfl
            exact hle HL.out
          have HT0 : Hid (t ≠ 0) := ht1
          clear hle ht1
          by_cases hdi : Digit (s[t]'hlt).toNat
          · have HDI : Hid (Digit (s[t]'hlt).toNat) := hdi
            clear hdi
            go_wp2_with fail
            refine (letter_n HLE.out _).mono ?_
            rintro e w2 ⟨rfl, rfl⟩
            go_wp2_with fail
            refine (digit_y HDI.out _).mono ?_
            rintro e w2 ⟨rfl, rfl⟩
            go_wp2
            go_roundw
            case rel => exact ⟨t + 1, by omega, by go_num, trivial, HST.out (.inr ⟨HT0.out, .inr (by rw [HBY.out]; exact HDI.out)⟩)⟩
            case measure => simp [intOf]; omega
          · have HDI : Hid (¬ Digit (s[t]'hlt).toNat) := hdi
            clear hdi
            obtain ⟨c, hc⟩ : ∃ c, c = (s[t]'hlt).toNat := ⟨_, rfl⟩
            by_cases h95 : c = 95
            · subst h95
              have k95 : (((s[t]'hlt).toNat : Nat) : Int) = 95 := by rw [← hc]; rfl
              have HC : Hid (byt s t = 95) := by unfold Hid; rw [HBY.out, ← hc]
              clear hc
              go_wp2_with fail
              refine (letter_95 _).mono ?_
              rintro e w2 ⟨rfl, rfl⟩
              go_wp2_with fail
              refine (digit_95 _).mono ?_
              rintro e w2 ⟨rfl, rfl⟩
              go_wp2
              go_roundw
              case rel => exact ⟨t + 1, by omega, by go_num, trivial, HST.out (.inr ⟨HT0.out, .inl HC.out⟩)⟩
              case measure => simp [intOf]; omega
            · have k95 : ¬ ((((s[t]'hlt).toNat : Nat) : Int) = 95) := by rw [← hc]; omega
              have hRf : R = false := by
                cases hr : R with
                | false => rfl
                | true =>
                  exfalso
                  rcases (HR.out.1 hr) t hlt with k | ⟨_, k | k⟩
                  · rw [HBY.out] at k; exact HLE.out k
                  · rw [HBY.out, ← hc] at k; exact h95 k
                  · rw [HBY.out] at k; exact HDI.out k
              subst hRf
              clear hc
              go_wp2_with fail
              refine (letter_n HLE.out _).mono ?_
              rintro e w2 ⟨rfl, rfl⟩
              go_wp2_with fail
              refine (digit_n HDI.out _).mono ?_
              rintro e w2 ⟨rfl, rfl⟩
              go_wp2
              go_ret
              exact ⟨rfl, rfl⟩
      · have j1 : (s.size : Int) ≤ (t : Int) := by omega
        have hRt : R = true := HR.out.2 (fun i hi => HJ.out i (by omega))
        subst hRt
        go_wp2
        go_ret
        exact ⟨rfl, rfl⟩
  · have HL : Hid (¬ Letter (s[0]'i3).toNat) := hl
    have hRf : R = false := by
      cases hr : R with
      | false => rfl
      | true =>
        exfalso
        rcases (HR.out.1 hr) 0 i3 with k | ⟨k, _⟩
        · rw [byt_in i3] at k; exact hl k
        · exact k rfl
    subst hRf
    clear hl
    go_enter Try.func64, Try.ntmps64
    go_wp2_with fail
    refine (letter_n HL.out _).mono ?_
    rintro e w1 ⟨rfl, rfl⟩
    go_wp2
    go_ret
    exact ⟨rfl, rfl⟩
open Classical in
theorem famName_any (s : ByteArray) (w : World) : Calls Try.prog 64 #[.string s] w fun e w' => e = .returned (.bool (decide (NameOk s))) ∧ w' = w := by
  by_cases h : s.size < 1 ∨ 32 < s.size
  · rw [decide_eq_false (fun k : NameOk s => by have := k.1; have := k.2.1; omega)]
    exact famName_len h w
  · refine famName_in (by omega) (by omega) w _ ?_
    rw [decide_eq_true_iff]
    exact ⟨fun k => k.2.2, fun k => ⟨by omega, by omega, k⟩⟩
end Go.Proofs.Ytiiencopchpajaa
