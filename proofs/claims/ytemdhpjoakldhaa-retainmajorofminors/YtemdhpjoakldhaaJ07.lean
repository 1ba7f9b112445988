import Derived.Test.YtemdhpjoakldhaaJ06
import Derived.Test.YtemdhpjoakldhaaJ04
import Derived.Test.YtemdhpjoakldhaaJ03
import Derived.Deep.QuietTactic
import Derived.BigQuiet
import Derived.Lib.Hide
namespace Go.Proofs.Ytemdhpjoakldhaa
open Go.RowKit
set_option linter.unusedVariables false

/-- May a row be that long? -/
def RowOk (bs : List Nat) : Prop := 1 ≤ bs.length ∧ bs.length ≤ 256
theorem rowOk_ord {bs : List Nat} (h : RowOk bs) : (ordL bs).length ≤ 514 := by
  have := ordL_len bs
  have c : bs.count 0 ≤ bs.length := List.count_le_length
  have := h.2
  omega

theorem ordC_prefix (a x : List Nat) : ordC a (a ++ x) = if x = [] then 0 else -1 := by
  induction a with
  | nil => cases x <;> simp [ordC]
  | cons c a ih => simp [ordC, ih]
theorem ordC_app (a x y : List Nat) : ordC (a ++ x) (a ++ y) = ordC x y := by
  induction a with
  | nil => rfl
  | cons c a ih => simp [ordC, ih]
/-- A key's bytes behind its row. -/
theorem key_rest {e : EntD} (hc : checkS e = 0) : ∃ f r, keyL e = ordL e.row ++ f :: r ∧ f < 255 := by
  have := (check_facts hc).2.1
  refine ⟨e.fam.toNat, _, by rw [keyL_parts]; rfl, by omega⟩
theorem own_begins {e : EntD} (hc : checkS e = 0) (r : List Nat) : (e.row = r) ↔ ((ordL r).length ≤ (keyL e).length ∧ (keyL e).take (ordL r).length = ordL r) := by
  obtain ⟨f, q, hk, hf⟩ := key_rest hc
  constructor
  · rintro rfl
    rw [hk]
    simp
  · rintro ⟨h1, h2⟩
    by_cases h : ordC r e.row = 0
    · exact (ordC_eq _ _ h).symm
    · exfalso
      have e1 : keyL e = ordL r ++ (keyL e).drop (ordL r).length := by
        conv => lhs; rw [← List.take_append_drop (ordL r).length (keyL e)]
        rw [h2]
      have e2 := ordC_ordL r e.row ((keyL e).drop (ordL r).length) (f :: q) h
      rw [← hk, ← e1, ordC_self] at e2
      exact h e2.symm
theorem own_inside {e : EntD} (hc : checkS e = 0) (r : List Nat) : (e.row = r) ↔ (ordC (ordL r) (keyL e) ≤ 0 ∧ ordC (keyL e) (ordL r ++ [255]) < 0) := by
  obtain ⟨f, q, hk, hf⟩ := key_rest hc
  constructor
  · rintro rfl
    rw [hk, ordC_prefix, ordC_app]
    constructor
    · simp
    · simp only [ordC]; rw [if_pos hf]; decide
  · rintro ⟨h1, h2⟩
    by_cases h : ordC r e.row = 0
    · exact (ordC_eq _ _ h).symm
    · exfalso
      have e1 := ordC_ordL r e.row [] (f :: q) h
      have e2 := ordC_ordL e.row r (f :: q) [255] (by rw [ordC_swap]; omega)
      rw [List.append_nil, ← hk] at e1
      have e3 := ordC_swap r e.row
      rw [← hk, e3] at e2
      rw [e1] at h1
      rw [e2] at h2
      omega
end Go.Proofs.Ytemdhpjoakldhaa

namespace Go.Proofs.Ytemdhpjoakldhaa
open Go.RowKit
set_option linter.unusedVariables false

/-- A string's byte. -/
def byt (s : ByteArray) (i : Nat) : Nat := if h : i < s.size then (s[i]'h).toNat else 0
theorem byt_in {s : ByteArray} {i : Nat} (h : i < s.size) : byt s i = (s[i]'h).toNat := by unfold byt; rw [dif_pos h]
def Letter (c : Nat) : Prop := 97 ≤ c ∧ c ≤ 122
def Digit (c : Nat) : Prop := 48 ≤ c ∧ c ≤ 57
instance (c : Nat) : Decidable (Letter c) := by unfold Letter; infer_instance
instance (c : Nat) : Decidable (Digit c) := by unfold Digit; infer_instance
def ByteOk (i c : Nat) : Prop := Letter c ∨ (i ≠ 0 ∧ (c = 95 ∨ Digit c))
def NameOk (s : ByteArray) : Prop := 1 ≤ s.size ∧ s.size ≤ 32 ∧ ∀ i, i < s.size → ByteOk i (byt s i)

set_option maxRecDepth 100000 in
theorem isLetter_any (c : Nat) (w : World) : Calls Try.prog 103 #[.int .u8 (c : Int)] w fun e w' => e = .returned (.bool (decide (Letter c))) ∧ w' = w := by
  by_cases h1 : 97 ≤ c
  · have d1 : decide ((97 : Int) ≤ (c : Int)) = true := decide_eq_true (by omega)
    by_cases h2 : c ≤ 122
    · have d2 : decide ((c : Int) ≤ 122) = true := decide_eq_true (by omega)
      have e : decide (Letter c) = true := decide_eq_true ⟨h1, h2⟩
      rw [e]
      clear e
      go_enter Try.func103, Try.ntmps103
      go_wp2
      go_ret
      exact ⟨by first | rfl | simp [d1, d2], rfl⟩
    · have d2 : decide ((c : Int) ≤ 122) = false := decide_eq_false (by omega)
      have e : decide (Letter c) = false := decide_eq_false (fun h => h2 h.2)
      rw [e]
      clear e
      go_enter Try.func103, Try.ntmps103
      go_wp2
      go_ret
      exact ⟨by first | rfl | simp [d1, d2], rfl⟩
  · have d1 : decide ((97 : Int) ≤ (c : Int)) = false := decide_eq_false (by omega)
    have e : decide (Letter c) = false := decide_eq_false (fun h => h1 h.1)
    rw [e]
    clear e
    go_enter Try.func103, Try.ntmps103
    go_wp2
    go_ret
    exact ⟨by first | rfl | simp [d1], rfl⟩
set_option maxRecDepth 100000 in
theorem isDigit_any (c : Nat) (w : World) : Calls Try.prog 104 #[.int .u8 (c : Int)] w fun e w' => e = .returned (.bool (decide (Digit c))) ∧ w' = w := by
  by_cases h1 : 48 ≤ c
  · have d1 : decide ((48 : Int) ≤ (c : Int)) = true := decide_eq_true (by omega)
    by_cases h2 : c ≤ 57
    · have d2 : decide ((c : Int) ≤ 57) = true := decide_eq_true (by omega)
      have e : decide (Digit c) = true := decide_eq_true ⟨h1, h2⟩
      rw [e]
      clear e
      go_enter Try.func104, Try.ntmps104
      go_wp2
      go_ret
      exact ⟨by first | rfl | simp [d1, d2], rfl⟩
    · have d2 : decide ((c : Int) ≤ 57) = false := decide_eq_false (by omega)
      have e : decide (Digit c) = false := decide_eq_false (fun h => h2 h.2)
      rw [e]
      clear e
      go_enter Try.func104, Try.ntmps104
      go_wp2
      go_ret
      exact ⟨by first | rfl | simp [d1, d2], rfl⟩
  · have d1 : decide ((48 : Int) ≤ (c : Int)) = false := decide_eq_false (by omega)
    have e : decide (Digit c) = false := decide_eq_false (fun h => h1 h.1)
    rw [e]
    clear e
    go_enter Try.func104, Try.ntmps104
    go_wp2
    go_ret
    exact ⟨by first | rfl | simp [d1], rfl⟩
theorem letter_y {c : Nat} (h : Letter c) (w : World) : Calls Try.prog 103 #[.int .u8 (c : Int)] w fun e w' => e = .returned (.bool true) ∧ w' = w := by have k := isLetter_any c w; rw [decide_eq_true h] at k; exact k
theorem letter_n {c : Nat} (h : ¬ Letter c) (w : World) : Calls Try.prog 103 #[.int .u8 (c : Int)] w fun e w' => e = .returned (.bool false) ∧ w' = w := by have k := isLetter_any c w; rw [decide_eq_false h] at k; exact k
theorem digit_y {c : Nat} (h : Digit c) (w : World) : Calls Try.prog 104 #[.int .u8 (c : Int)] w fun e w' => e = .returned (.bool true) ∧ w' = w := by have k := isDigit_any c w; rw [decide_eq_true h] at k; exact k
theorem digit_n {c : Nat} (h : ¬ Digit c) (w : World) : Calls Try.prog 104 #[.int .u8 (c : Int)] w fun e w' => e = .returned (.bool false) ∧ w' = w := by have k := isDigit_any c w; rw [decide_eq_false h] at k; exact k


theorem letter_95 (w : World) : Calls Try.prog 103 #[.int .u8 95] w fun e w' => e = .returned (.bool false) ∧ w' = w := letter_n (c := 95) (by decide) w
theorem digit_95 (w : World) : Calls Try.prog 104 #[.int .u8 95] w fun e w' => e = .returned (.bool false) ∧ w' = w := digit_n (c := 95) (by decide) w
set_option maxRecDepth 100000 in
theorem famName_len {s : ByteArray} (h : s.size < 1 ∨ 32 < s.size) (w : World) : Calls Try.prog 93 #[.string s] w fun e w' => e = .returned (.bool false) ∧ w' = w := by
  by_cases h1 : s.size < 1
  · have d1 : decide ((s.size : Int) < 1) = true := decide_eq_true (by omega)
    have i1 : (s.size : Int) < 1 := by omega
    clear h
    go_enter Try.func93, Try.ntmps93
    go_wp2
    go_ret
    exact ⟨rfl, rfl⟩
  · have d1 : decide ((s.size : Int) < 1) = false := decide_eq_false (by omega)
    have d2 : decide ((32 : Int) < (s.size : Int)) = true := decide_eq_true (by omega)
    have i1 : (1 : Int) ≤ (s.size : Int) := by omega
    have i2 : (32 : Int) < (s.size : Int) := by omega
    clear h
    go_enter Try.func93, Try.ntmps93
    go_wp2
    go_ret
    exact ⟨rfl, rfl⟩

set_option maxRecDepth 100000 in
set_option maxHeartbeats 4000000 in
theorem famName_in {s : ByteArray} (h1 : 1 ≤ s.size) (h2 : s.size ≤ 32) (w : World) (R : Bool) (hR : R = true ↔ ∀ i, i < s.size → ByteOk i (byt s i)) : Calls Try.prog 93 #[.string s] w fun e w' => e = .returned (.bool R) ∧ w' = w := by
  have HR : Hid (R = true ↔ ∀ i, i < s.size → ByteOk i (byt s i)) := hR
  have i1 : (1 : Int) ≤ (s.size : Int) := by omega
  have i2 : (s.size : Int) ≤ 32 := by omega
  have d1 : decide ((s.size : Int) < 1) = false := decide_eq_false (by omega)
  have d2 : decide ((32 : Int) < (s.size : Int)) = false := decide_eq_false (by omega)
  have i3 : 0 < s.size := by omega
  clear hR
  by_cases hl : Letter (s[0]'i3).toNat
  · have HL : Hid (Letter (s[0]'i3).toNat) := hl
    have HB0 : Hid (Letter (byt s 0)) := by unfold Hid; rw [byt_in i3]; exact hl
    clear hl
    go_enter Try.func93, Try.ntmps93
    go_wp2_with fail
    refine (letter_y HL.out _).mono ?_
    rintro e w1 ⟨rfl, rfl⟩
    go_wp2
    go_loopw [3, 4, 21] (fun _ _ i wr => ∃ t : Nat, t ≤ s.size ∧ i = .int .i64 (t : Int) ∧ wr = w1 ∧ ∀ j, j < t → ByteOk j (byt s j)) (fun _ _ i _ => s.size - (intOf i).toNat)
    case atStart => exact ⟨0, by omega, rfl, rfl, fun j hj => absurd hj (by omega)⟩
    case round =>
      obtain ⟨t, ht, rfl, rfl, hj⟩ := hrel
      have HJ : Hid (∀ j, j < t → ByteOk j (byt s j)) := hj
      clear hj
      by_cases hlt : t < s.size
      · have j1 : (t : Int) < (s.size : Int) := by omega
        have j2 : (0 : Int) ≤ (t : Int) := by omega
        have HBY : Hid (byt s t = (s[t]'hlt).toNat) := byt_in hlt
        have step : ∀ (h : ByteOk t (byt s t)), ∀ j, j < t + 1 → ByteOk j (byt s j) := fun h j hj => by
          by_cases e : j = t
          · rw [e]; exact h
          · exact HJ.out j (by omega)
        have HST := Lib.hid step
        clear step
        by_cases hle : Letter (s[t]'hlt).toNat
        · have HLE : Hid (Letter (s[t]'hlt).toNat) := hle
          clear hle
          go_wp2_with fail
          refine (letter_y HLE.out _).mono ?_
          rintro e w2 ⟨rfl, rfl⟩
          go_wp2
          go_roundw
          case rel => exact ⟨t + 1, by omega, by go_num, trivial, HST.out (.inl (by rw [HBY.out]; exact HLE.out))⟩
          case measure => simp [intOf]; omega
        · have HLE : Hid (¬ Letter (s[t]'hlt).toNat) := hle
          have ht1 : t ≠ 0 := by
            rintro rfl
            exact hle HL.out
          have HT0 : Hid (t ≠ 0) := ht1
          clear hle ht1
          by_cases hdi : Digit (s[t]'hlt).toNat
          · have HDI : Hid (Digit (s[t]'hlt).toNat) := hdi
            clear hdi
            go_wp2_with fail
            refine (letter_n HLE.out _).mono ?_
            rintro e w2 ⟨rfl, rfl⟩
            go_wp2_with fail
            refine (digit_y HDI.out _).mono ?_
            rintro e w2 ⟨rfl, rfl⟩
            go_wp2
            go_roundw
            case rel => exact ⟨t + 1, by omega, by go_num, trivial, HST.out (.inr ⟨HT0.out, .inr (by rw [HBY.out]; exact HDI.out)⟩)⟩
            case measure => simp [intOf]; omega
          · have HDI : Hid (¬ Digit (s[t]'hlt).toNat) := hdi
            clear hdi
            obtain ⟨c, hc⟩ : ∃ c, c = (s[t]'hlt).toNat := ⟨_, rfl⟩
            by_cases h95 : c = 95
            · subst h95
              have k95 : (((s[t]'hlt).toNat : Nat) : Int) = 95 := by rw [← hc]; rfl
              have HC : Hid (byt s t = 95) := by unfold Hid; rw [HBY.out, ← hc]
              clear hc
              go_wp2_with fail
              refine (letter_95 _).mono ?_
              rintro e w2 ⟨rfl, rfl⟩
              go_wp2_with fail
              refine (digit_95 _).mono ?_
              rintro e w2 ⟨rfl, rfl⟩
              go_wp2
              go_roundw
              case rel => exact ⟨t + 1, by omega, by go_num, trivial, HST.out (.inr ⟨HT0.out, .inl HC.out⟩)⟩
              case measure => simp [intOf]; omega
            · have k95 : ¬ ((((s[t]'hlt).toNat : Nat) : Int) = 95) := by rw [← hc]; omega
              have hRf : R = false := by
                cases hr : R with
                | false => rfl
                | true =>
                  exfalso
                  rcases (HR.out.1 hr) t hlt with k | ⟨_, k | k⟩
                  · rw [HBY.out] at k; exact HLE.out k
                  · rw [HBY.out, ← hc] at k; exact h95 k
                  · rw [HBY.out] at k; exact HDI.out k
              subst hRf
              clear hc
              go_wp2_with fail
              refine (letter_n HLE.out _).mono ?_
              rintro e w2 ⟨rfl, rfl⟩
              go_wp2_with fail
              refine (digit_n HDI.out _).mono ?_
              rintro e w2 ⟨rfl, rfl⟩
              go_wp2
              go_ret
              exact ⟨rfl, rfl⟩
      · have j1 : (s.size : Int) ≤ (t : Int) := by omega
        have hRt : R = true := HR.out.2 (fun i hi => HJ.out i (by omega))
        subst hRt
        go_wp2
        go_ret
        exact ⟨rfl, rfl⟩
  · have HL : Hid (¬ Letter (s[0]'i3).toNat) := hl
    have hRf : R = false := by
      cases hr : R with
      | false => rfl
      | true =>
        exfalso
        rcases (HR.out.1 hr) 0 i3 with k | ⟨k, _⟩
        · rw [byt_in i3] at k; exact hl k
        · exact k rfl
    subst hRf
    clear hl
    go_enter Try.func93, Try.ntmps93
    go_wp2_with fail
    refine (letter_n HL.out _).mono ?_
    rintro e w1 ⟨rfl, rfl⟩
    go_wp2
    go_ret
    exact ⟨rfl, rfl⟩
open Classical in
theorem famName_any (s : ByteArray) (w : World) : Calls Try.prog 93 #[.string s] w fun e w' => e = .returned (.bool (decide (NameOk s))) ∧ w' = w := by
  by_cases h : s.size < 1 ∨ 32 < s.size
  · rw [decide_eq_false (fun k : NameOk s => by have := k.1; have := k.2.1; omega)]
    exact famName_len h w
  · refine famName_in (by omega) (by omega) w _ ?_
    rw [decide_eq_true_iff]
    exact ⟨fun k => k.2.2, fun k => ⟨by omega, by omega, k⟩⟩
end Go.Proofs.Ytemdhpjoakldhaa

namespace Go.Proofs.Ytemdhpjoakldhaa
open Go.RowKit
set_option linter.unusedVariables false

theorem nok0 {c : Nat} (h : ¬ Letter c) : ¬ ByteOk 0 c := fun k => by
  rcases k with k | ⟨k, _⟩
  · exact h k
  · exact k rfl
theorem nok2 {t c : Nat} (h : ¬ Letter c) (b : c ≠ 95) (d : ¬ Digit c) : ¬ ByteOk t c := fun k => by
  rcases k with k | ⟨_, k | k⟩
  · exact h k
  · exact b k
  · exact d k
end Go.Proofs.Ytemdhpjoakldhaa

namespace Go.Proofs.Ytemdhpjoakldhaa
open Go.RowKit
set_option linter.unusedVariables false

structure FamD where
  nm : ByteArray
  mx : Int
  tl : Int
/-- A list of families reads as these. -/
def RdF (w : World) (v : Value) (fs : List FamD) : Prop := ∃ a cap, v = .slice a fs.length cap ∧ fs.length ≤ cap ∧ cap ≤ maxLen ∧ fs.length ≤ 281474976710656 ∧ (fs = [] ∨ ∃ b off, a = some ⟨b, off, none⟩ ∧ ∀ i f, fs[i]? = some f → w.cell? ⟨b, off + i * 3, none⟩ = some (.string f.nm) ∧ w.cell? ⟨b, off + i * 3 + 1, none⟩ = some (.int .i64 f.mx) ∧ w.cell? ⟨b, off + i * 3 + 2, none⟩ = some (.int .i64 f.tl))
theorem RdF.later {w w' : World} {v : Value} {fs : List FamD} (h : RdF w v fs) (hb : Below w.heap.size w w') : RdF w' v fs := by
  obtain ⟨a, cap, h1, h2, h3, h4, h5⟩ := h
  refine ⟨a, cap, h1, h2, h3, h4, ?_⟩
  rcases h5 with h5 | ⟨b, off, rfl, hc⟩
  · exact .inl h5
  · refine .inr ⟨b, off, rfl, fun i f hf => ?_⟩
    obtain ⟨c0, c1, c2⟩ := hc i f hf
    exact ⟨by rw [hb.cell (p := ⟨b, off + i * 3, none⟩) (World.block_lt_of_cell? w _ c0)]; exact c0, by rw [hb.cell (p := ⟨b, off + i * 3 + 1, none⟩) (World.block_lt_of_cell? w _ c1)]; exact c1, by rw [hb.cell (p := ⟨b, off + i * 3 + 2, none⟩) (World.block_lt_of_cell? w _ c2)]; exact c2⟩
theorem bytes_ne {a b : ByteArray} (h : ¬ a = b) : (a.toList == b.toList) = false := by
  rw [ByteArray.toList_eq, ByteArray.toList_eq]
  have h2 : a.data.toList ≠ b.data.toList := fun e => h (by
    have := Array.toList_inj.1 e
    cases a; cases b
    simp_all)
  simpa using h2
def famIx : List FamD → ByteArray → Nat → Int
  | [], _, _ => -1
  | f :: r, n, i => if f.nm = n then (i : Int) else famIx r n (i + 1)
theorem famIx_at {fs : List FamD} {n : ByteArray} : ∀ {t k : Nat} {f : FamD}, fs[t]? = some f → (∀ j g, j < t → fs[j]? = some g → g.nm ≠ n) → f.nm = n → famIx fs n k = ((k + t : Nat) : Int) := by
  induction fs with
  | nil => intro t k f h; simp at h
  | cons x r ih =>
    intro t k f h hj he
    cases t with
    | zero =>
      simp at h
      subst h
      unfold famIx
      rw [if_pos he]
      rfl
    | succ t =>
      unfold famIx
      rw [if_neg (hj 0 x (by omega) rfl), ih (t := t) (k := k + 1) (f := f) (by simpa using h) (fun j g hjt hg => hj (j + 1) g (by omega) (by simpa using hg)) he]
      congr 1
      omega
theorem famIx_none {fs : List FamD} {n : ByteArray} : ∀ {k : Nat}, (∀ g, g ∈ fs → g.nm ≠ n) → famIx fs n k = -1 := by
  induction fs with
  | nil => intro k _; rfl
  | cons x r ih =>
    intro k h
    unfold famIx
    rw [if_neg (h x (by simp)), ih (fun g hg => h g (by simp [hg]))]

set_option maxRecDepth 100000 in
set_option maxHeartbeats 4000000 in
theorem family_any {v : Value} {fs : List FamD} {w : World} (hr : RdF w v fs) (n : ByteArray) :
    Calls Try.prog 65 #[.agg #[v], .string n] w fun e w' => e = .returned (.int .i64 (famIx fs n 0)) ∧ Below w.heap.size w w' := by
  obtain ⟨a, cap, rfl, h2, h3, h4, h5⟩ := hr
  obtain ⟨k, hk⟩ : ∃ k, k = fs.length := ⟨_, rfl⟩
  rw [← hk] at h2 h4 ⊢
  have HK : Hid (k = fs.length) := hk
  have HC : Hid (fs = [] ∨ ∃ b off, a = some ⟨b, off, none⟩ ∧ ∀ i f, fs[i]? = some f → w.cell? ⟨b, off + i * 3, none⟩ = some (.string f.nm) ∧ w.cell? ⟨b, off + i * 3 + 1, none⟩ = some (.int .i64 f.mx) ∧ w.cell? ⟨b, off + i * 3 + 2, none⟩ = some (.int .i64 f.tl)) := h5
  have A1 := (Below.refl w.heap.size w).alloc (Nat.le_refl _) (.cells #[.slice a k cap] 24)
  clear hk h5
  go_enter Try.func65, Try.ntmps65
  go_wp2
  go_loopw [5, 6, 10] (fun _ _ i wr => ∃ t : Nat, t ≤ k ∧ i = .int .i64 (t : Int) ∧ Below w.heap.size w wr ∧ ∀ j g, j < t → fs[j]? = some g → g.nm ≠ n) (fun _ _ i _ => k - (intOf i).toNat)
  case atStart => exact ⟨0, by omega, rfl, A1, fun j g hj _ => absurd hj (by omega)⟩
  case round =>
    obtain ⟨t, ht, rfl, B1, hj⟩ := hrel
    have HJ : Hid (∀ j g, j < t → fs[j]? = some g → g.nm ≠ n) := hj
    clear hj A1
    by_cases hlt : t < k
    · have j1 : (t : Int) < (k : Int) := by omega
      have j2 : (0 : Int) ≤ (t : Int) := by omega
      rcases HC.out with h0 | ⟨b, off, rfl, hc⟩
      · have := HK.out; rw [h0] at this; simp at this; omega
      obtain ⟨f, hf⟩ : ∃ f, fs[t]? = some f := ⟨fs[t]'(by rw [← HK.out]; exact hlt), List.getElem?_eq_getElem _⟩
      obtain ⟨c0, c1, c2⟩ := hc t f hf
      have d0 : wr.cell? ⟨b, off + t * 3, none⟩ = some (.string f.nm) := by rw [B1.cell (p := ⟨b, off + t * 3, none⟩) (World.block_lt_of_cell? w _ c0)]; exact c0
      have d1 : wr.cell? ⟨b, off + t * 3 + 1, none⟩ = some (.int .i64 f.mx) := by rw [B1.cell (p := ⟨b, off + t * 3 + 1, none⟩) (World.block_lt_of_cell? w _ c1)]; exact c1
      have d2 : wr.cell? ⟨b, off + t * 3 + 2, none⟩ = some (.int .i64 f.tl) := by rw [B1.cell (p := ⟨b, off + t * 3 + 2, none⟩) (World.block_lt_of_cell? w _ c2)]; exact c2
      have HF : Hid (fs[t]? = some f) := hf
      clear hc c0 c1 c2 hf
      have A2 := B1.alloc B1.size (.cells #[.string f.nm, .int .i64 f.mx, .int .i64 f.tl] 47)
      by_cases he : f.nm = n
      · have HV : Hid (famIx fs n 0 = (t : Int)) := by
          unfold Hid
          rw [famIx_at HF.out HJ.out he]
          simp
        go_wp2
        go_ret
        rw [HV.out]
        exact ⟨rfl, B1.alloc B1.size _⟩
      · have he2 := bytes_ne he
        have HNE : Hid (∀ j g, j < t + 1 → fs[j]? = some g → g.nm ≠ n) := fun j g hj hg => by
          by_cases e : j = t
          · subst e
            rw [HF.out] at hg
            simp at hg
            rw [← hg]; exact he
          · exact HJ.out j g (by omega) hg
        go_wp2
        go_roundw
        case rel => exact ⟨t + 1, by omega, by go_num, B1.alloc B1.size _, HNE.out⟩
        case measure => simp [intOf]; omega
    · have j1 : (k : Int) ≤ (t : Int) := by omega
      have HV : Hid (famIx fs n 0 = -1) := famIx_none (fun g hg => by
        obtain ⟨i, hi⟩ := List.getElem?_of_mem hg
        have := (List.getElem?_eq_some_iff.1 hi).1
        exact HJ.out i g (by have := HK.out; omega) hi)
      go_wp2
      go_ret
      rw [HV.out]
      exact ⟨rfl, B1⟩

end Go.Proofs.Ytemdhpjoakldhaa
