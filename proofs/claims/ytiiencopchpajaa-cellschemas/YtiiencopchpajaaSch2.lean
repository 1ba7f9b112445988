import Derived.Test.YtiiencopchpajaaSch1
namespace Go.Proofs.Ytiiencopchpajaa
open Go.RowKit
set_option linter.unusedVariables false

theorem nok0 {c : Nat} (h : ¬ Letter c) : ¬ ByteOk 0 c := fun k => by
  rcases k with k | ⟨k, _⟩
  · exact h k
  · exact k rfl
theorem nok2 {t c : Nat} (h : ¬ Letter c) (b : c ≠ 95) (d : ¬ Digit c) : ¬ ByteOk t c := fun k => by
  rcases k with k | ⟨_, k | k⟩
  · exact h k
  · exact b k
  · exact d k
set_option maxRecDepth 100000 in
theorem refName_len {s : ByteArray} (h : s.size < 1 ∨ 32 < s.size) (w : World) : Calls Try.prog 45 #[.string s] w fun e w' => e = .returned (.bool false) ∧ w' = w := by
  have HI : Hid ((s.size : Int) < 1 ∨ (32 : Int) < (s.size : Int)) := by unfold Hid; omega
  clear h
  go_enter Try.func45, Try.ntmps45
  go_wp2_with fail
  refine (refOut_out _ _ _ _ HI.out).mono ?_
  rintro e w1 ⟨rfl, rfl⟩
  go_wp2
  go_ret
  exact ⟨rfl, rfl⟩

set_option maxRecDepth 100000 in
set_option maxHeartbeats 8000000 in
theorem refName_in {s : ByteArray} (h1 : 1 ≤ s.size) (h2 : s.size ≤ 32) (w : World) (R : Bool) (hR : R = true ↔ ∀ i, i < s.size → ByteOk i (byt s i)) : Calls Try.prog 45 #[.string s] w fun e w' => e = .returned (.bool R) ∧ w' = w := by
  have HR : Hid (R = true ↔ ∀ i, i < s.size → ByteOk i (byt s i)) := hR
  have i1 : (1 : Int) ≤ (s.size : Int) := by omega
  have i2 : (s.size : Int) ≤ 32 := by omega
  clear hR
  go_enter Try.func45, Try.ntmps45
  go_wp2_with fail
  refine (refOut_in _ _ _ _ i1 i2).mono ?_
  rintro e w1 ⟨rfl, rfl⟩
  go_wp2
  go_loopw [3, 4, 5] (fun i _ _ wr => ∃ t : Nat, t ≤ s.size ∧ i = .int .i64 (t : Int) ∧ wr = w1 ∧ ∀ j, j < t → ByteOk j (byt s j)) (fun i _ _ _ => s.size - (intOf i).toNat)
  case atStart => exact ⟨0, by omega, rfl, rfl, fun j hj => absurd hj (by omega)⟩
  case round =>
    obtain ⟨t, ht, rfl, rfl, hj⟩ := hrel
    have HJ : Hid (∀ j, j < t → ByteOk j (byt s j)) := hj
    clear hj
    by_cases hlt : t < s.size
    · have j1 : (t : Int) < (s.size : Int) := by omega
      have j2 : (0 : Int) ≤ (t : Int) := by omega
      have HBY : Hid (byt s t = (s[t]'hlt).toNat) := byt_in hlt
      have step : ∀ (h : ByteOk t (byt s t)), ∀ j, j < t + 1 → ByteOk j (byt s j) := fun h j hj => by
        by_cases e : j = t
        · rw [e]; exact h
        · exact HJ.out j (by omega)
      have HST := Lib.hid step
      have bad : ¬ ByteOk t (byt s t) → R = false := fun h => by
        cases hr : R with
        | false => rfl
        | true => exact absurd ((HR.out.1 hr) t hlt) h
      have HBD := Lib.hid bad
      clear step bad HJ
      obtain ⟨c, hc⟩ : ∃ c, c = (s[t]'hlt).toNat := ⟨_, rfl⟩
      have HBC : Hid (byt s t = c) := by unfold Hid; rw [hc]; exact HBY.out
      clear HBY
      by_cases a1 : 97 ≤ c
      · by_cases a2 : c ≤ 122
        · have f2 : (97 : Int) ≤ (((s[t]'hlt).toNat : Nat) : Int) := by rw [← hc]; omega
          have f2d : decide ((97 : Int) ≤ (((s[t]'hlt).toNat : Nat) : Int)) = true := decide_eq_true f2
          have f3 : (((s[t]'hlt).toNat : Nat) : Int) ≤ 122 := by rw [← hc]; omega
          have f3d : decide ((((s[t]'hlt).toNat : Nat) : Int) ≤ 122) = true := decide_eq_true f3
          clear hc
          go_wp2
          go_roundw
          case rel => exact ⟨t + 1, by omega, by go_num, trivial, HST.out (by rw [HBC.out]; exact .inl ⟨a1, a2⟩)⟩
          case measure => simp [intOf]; omega
        · by_cases b0 : t = 0
          · subst b0
            have f4 : (97 : Int) ≤ (((s[0]'hlt).toNat : Nat) : Int) := by rw [← hc]; omega
            have f4d : decide ((97 : Int) ≤ (((s[0]'hlt).toNat : Nat) : Int)) = true := decide_eq_true f4
            have f5d : decide ((((s[0]'hlt).toNat : Nat) : Int) ≤ 122) = false := decide_eq_false (by rw [← hc]; omega)
            have hRf := HBD.out (by rw [HBC.out]; exact (nok0 (fun k : Letter c => by have := k.1; have := k.2; omega)))
            subst hRf
            clear hc
            go_wp2
            go_ret
            exact ⟨rfl, rfl⟩
          · have f0 : ¬ ((t : Int) = 0) := by omega
            have f0b : ((t : Int) == 0) = false := by simp; omega
            by_cases b1 : c = 95
            · exact absurd a1 (by omega)
            · have f9 : ¬ ((((s[t]'hlt).toNat : Nat) : Int) = 95) := by rw [← hc]; omega
              by_cases b2 : c < 48
              · exact absurd a1 (by omega)
              · by_cases b3 : 57 < c
                · have f6d : decide ((((s[t]'hlt).toNat : Nat) : Int) < 48) = false := decide_eq_false (by rw [← hc]; omega)
                  have f7 : (57 : Int) < (((s[t]'hlt).toNat : Nat) : Int) := by rw [← hc]; omega
                  have f7d : decide ((57 : Int) < (((s[t]'hlt).toNat : Nat) : Int)) = true := decide_eq_true f7
                  have f8 : (97 : Int) ≤ (((s[t]'hlt).toNat : Nat) : Int) := by rw [← hc]; omega
                  have f8d : decide ((97 : Int) ≤ (((s[t]'hlt).toNat : Nat) : Int)) = true := decide_eq_true f8
                  have f9d : decide ((((s[t]'hlt).toNat : Nat) : Int) ≤ 122) = false := decide_eq_false (by rw [← hc]; omega)
                  have hRf := HBD.out (by rw [HBC.out]; exact (nok2 (fun k : Letter c => by have := k.1; have := k.2; omega) b1 (fun k => by have := k.1; have := k.2; omega)))
                  subst hRf
                  clear hc
                  go_wp2
                  go_ret
                  exact ⟨rfl, rfl⟩
                · exact absurd a1 (by omega)
      · by_cases b0 : t = 0
        · subst b0
          have f10d : decide ((97 : Int) ≤ (((s[0]'hlt).toNat : Nat) : Int)) = false := decide_eq_false (by rw [← hc]; omega)
          have hRf := HBD.out (by rw [HBC.out]; exact (nok0 (fun k : Letter c => by have := k.1; have := k.2; omega)))
          subst hRf
          clear hc
          go_wp2
          go_ret
          exact ⟨rfl, rfl⟩
        · have f0 : ¬ ((t : Int) = 0) := by omega
          have f0b : ((t : Int) == 0) = false := by simp; omega
          by_cases b1 : c = 95
          · have f9 : (((s[t]'hlt).toNat : Nat) : Int) = 95 := by rw [← hc]; omega
            have f11d : decide ((97 : Int) ≤ (((s[t]'hlt).toNat : Nat) : Int)) = false := decide_eq_false (by rw [← hc]; omega)
            clear hc
            go_wp2
            go_roundw
            case rel => exact ⟨t + 1, by omega, by go_num, trivial, HST.out (by rw [HBC.out]; exact .inr ⟨b0, .inl b1⟩)⟩
            case measure => simp [intOf]; omega
          · have f9 : ¬ ((((s[t]'hlt).toNat : Nat) : Int) = 95) := by rw [← hc]; omega
            by_cases b2 : c < 48
            · have f12 : (((s[t]'hlt).toNat : Nat) : Int) < 48 := by rw [← hc]; omega
              have f12d : decide ((((s[t]'hlt).toNat : Nat) : Int) < 48) = true := decide_eq_true f12
              have f13d : decide ((97 : Int) ≤ (((s[t]'hlt).toNat : Nat) : Int)) = false := decide_eq_false (by rw [← hc]; omega)
              have hRf := HBD.out (by rw [HBC.out]; exact (nok2 (fun k : Letter c => by have := k.1; have := k.2; omega) b1 (fun k => by have := k.1; have := k.2; omega)))
              subst hRf
              clear hc
              go_wp2
              go_ret
              exact ⟨rfl, rfl⟩
            · by_cases b3 : 57 < c
              · have f14d : decide ((((s[t]'hlt).toNat : Nat) : Int) < 48) = false := decide_eq_false (by rw [← hc]; omega)
                have f15 : (57 : Int) < (((s[t]'hlt).toNat : Nat) : Int) := by rw [← hc]; omega
                have f15d : decide ((57 : Int) < (((s[t]'hlt).toNat : Nat) : Int)) = true := decide_eq_true f15
                have f16d : decide ((97 : Int) ≤ (((s[t]'hlt).toNat : Nat) : Int)) = false := decide_eq_false (by rw [← hc]; omega)
                have hRf := HBD.out (by rw [HBC.out]; exact (nok2 (fun k : Letter c => by have := k.1; have := k.2; omega) b1 (fun k => by have := k.1; have := k.2; omega)))
                subst hRf
                clear hc
                go_wp2
                go_ret
                exact ⟨rfl, rfl⟩
              · have f17d : decide ((((s[t]'hlt).toNat : Nat) : Int) < 48) = false := decide_eq_false (by rw [← hc]; omega)
                have f18d : decide ((57 : Int) < (((s[t]'hlt).toNat : Nat) : Int)) = false := decide_eq_false (by rw [← hc]; omega)
                have f19d : decide ((97 : Int) ≤ (((s[t]'hlt).toNat : Nat) : Int)) = false := decide_eq_false (by rw [← hc]; omega)
                clear hc
                go_wp2
                go_roundw
                case rel => exact ⟨t + 1, by omega, by go_num, trivial, HST.out (by rw [HBC.out]; exact .inr ⟨b0, .inr ⟨by omega, by omega⟩⟩)⟩
                case measure => simp [intOf]; omega
    · have j1 : (s.size : Int) ≤ (t : Int) := by omega
      have hRt : R = true := HR.out.2 (fun i hi => HJ.out i (by omega))
      subst hRt
      go_wp2
      go_ret
      exact ⟨rfl, rfl⟩
open Classical in
theorem refName_any (s : ByteArray) (w : World) : Calls Try.prog 45 #[.string s] w fun e w' => e = .returned (.bool (decide (NameOk s))) ∧ w' = w := by
  by_cases h : s.size < 1 ∨ 32 < s.size
  · rw [decide_eq_false (fun k : NameOk s => by have := k.1; have := k.2.1; omega)]
    exact refName_len h w
  · refine refName_in (by omega) (by omega) w _ ?_
    rw [decide_eq_true_iff]
    exact ⟨fun k => k.2.2, fun k => ⟨by omega, by omega, k⟩⟩

end Go.Proofs.Ytiiencopchpajaa
