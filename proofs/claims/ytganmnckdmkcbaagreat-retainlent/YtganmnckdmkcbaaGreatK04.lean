import Derived.Test.YtganmnckdmkcbaaGreatK03
namespace Go.Proofs.YtganmnckdmkcbaaGreat
open Go.RowKit
set_option linter.unusedVariables false

def marks5 : List Nat := [201, 202, 203, 204, 205]
theorem marks5_bys : Bys marks5 := by
  have h : ∀ x ∈ marks5, x < 256 := by decide
  exact h
theorem rep_bys (n m : Nat) (h : m < 256) : Bys (List.replicate n m) := by intro x hx; rw [List.eq_of_mem_replicate hx]; exact h

def Laid (w : World) (B : Nat) (u : Value) (bs : List Nat) : Prop := ∃ g c, u = .slice (some ⟨g, 0, none⟩) bs.length c ∧ bs.length + 75 ≤ c ∧ c ≤ maxLen ∧ Own w B (.slice (some ⟨g, 0, none⟩) (bs.length + 75) c) (bs.length + 75) ((bs ++ marks5) ++ List.replicate 70 206)
theorem Laid.later {w w' : World} {B : Nat} {u : Value} {bs : List Nat} (h : Laid w B u bs) (hb : Below w.heap.size w w') : Laid w' B u bs := by
  obtain ⟨g, c, h1, h2, h3, h4⟩ := h
  exact ⟨g, c, h1, h2, h3, h4.later hb⟩
theorem Laid.all {w : World} {B g c : Nat} {bs : List Nat} (h4 : Own w B (.slice (some ⟨g, 0, none⟩) (bs.length + 75) c) (bs.length + 75) ((bs ++ marks5) ++ List.replicate 70 206)) (hb : Bys bs) (hl : bs.length ≤ 140737488355328) : Rd w (.slice (some ⟨g, 0, none⟩) (bs.length + 75) c) ((bs ++ marks5) ++ List.replicate 70 206) :=
  h4.rd (Bys.app (Bys.app hb marks5_bys) (rep_bys _ _ (by decide))) (by omega)
theorem Laid.rd {w : World} {B : Nat} {u : Value} {bs : List Nat} (h : Laid w B u bs) (hb : Bys bs) (hl : bs.length ≤ 140737488355328) : Rd w u bs := by
  obtain ⟨g, c, rfl, h2, h3, h4⟩ := h
  have := (Laid.all h4 hb hl).upto bs.length (by omega)
  simpa using this

end Go.Proofs.YtganmnckdmkcbaaGreat

namespace Go.Proofs.YtganmnckdmkcbaaGreat
open Go.RowKit
set_option linter.unusedVariables false

def RowOk (bs : List Nat) : Prop := 1 ≤ bs.length ∧ bs.length ≤ 256
theorem rowOk_ord {bs : List Nat} (h : RowOk bs) : (ordL bs).length ≤ 514 := by
  have := ordL_len bs
  have c : bs.count 0 ≤ bs.length := List.count_le_length
  have := h.2
  omega

set_option maxRecDepth 100000 in
theorem refOut_out (n lo hi : Int) (w : World) (h : n < lo ∨ hi < n) : Calls Tryz.prog 112 #[.int .i64 n, .int .i64 lo, .int .i64 hi] w fun e w' => e = .returned (.bool true) ∧ w' = w := by
  by_cases h1 : n < lo
  · have d1 : decide (n < lo) = true := by simpa using h1
    clear h
    go_enter Tryz.func112, Tryz.ntmps112
    go_wp2
    go_ret
    exact ⟨by first | rfl | simp [d1], rfl⟩
  · have d1 : decide (n < lo) = false := by simpa using h1
    have h2 : hi < n := by omega
    have d2 : decide (hi < n) = true := by simpa using h2
    clear h
    go_enter Tryz.func112, Tryz.ntmps112
    go_wp2
    go_ret
    exact ⟨by first | rfl | simp [d1, d2], rfl⟩
set_option maxRecDepth 100000 in
theorem refNumber_any (a b : Int) (w : World) : Calls Tryz.prog 114 #[.int .i64 a, .int .i64 b] w fun e w' => e = .returned (.int .i64 (cmpI a b)) ∧ w' = w := by
  by_cases h1 : a < b
  · go_enter Tryz.func114, Tryz.ntmps114
    go_wp2
    go_ret
    exact ⟨by unfold cmpI; rw [if_pos (by omega)]; rfl, rfl⟩
  · have h1' : b ≤ a := by omega
    by_cases h2 : b < a
    · go_enter Tryz.func114, Tryz.ntmps114
      go_wp2
      go_ret
      exact ⟨by unfold cmpI; rw [if_neg (by omega), if_pos (by omega)]; rfl, rfl⟩
    · have h2' : a ≤ b := by omega
      go_enter Tryz.func114, Tryz.ntmps114
      go_wp2
      go_ret
      exact ⟨by unfold cmpI; rw [if_neg (by omega), if_neg (by omega)]; rfl, rfl⟩
set_option maxRecDepth 100000 in
set_option maxHeartbeats 1000000 in
theorem refBytesOrd_any {va vb : Value} {xs ys : List Nat} {w : World} (ha : Rd w va xs) (hb : Rd w vb ys) :
    Calls Tryz.prog 113 #[va, vb] w fun e w' => e = .returned (.int .i64 (ordC xs ys)) ∧ Below w.heap.size w w' := by
  obtain ⟨a, n, cap, rfl⟩ := rd_slice ha
  obtain ⟨b, m, capb, rfl⟩ := rd_slice hb
  obtain ⟨hn, _, _, hn48⟩ := rd_lens ha
  obtain ⟨hm, _, _, hm48⟩ := rd_lens hb
  have HN : Hid (n = xs.length) := hn
  have HM : Hid (m = ys.length) := hm
  clear hn hm
  go_enter Tryz.func113, Tryz.ntmps113
  go_wp2
  go_loopw [5] (fun i wr => ∃ t : Nat, t ≤ n ∧ t ≤ m ∧ i = .int .i64 (t : Int) ∧ ordC xs ys = ordC (xs.drop t) (ys.drop t) ∧ Below w.heap.size w wr) (fun i _ => n - (intOf i).toNat)
  case atStart => exact ⟨0, by omega, by omega, rfl, rfl, Below.refl _ _⟩
  case round =>
    obtain ⟨t, htn, htm, rfl, hord, hbk⟩ := hrel
    have HO : Hid (ordC xs ys = ordC (xs.drop t) (ys.drop t)) := hord
    clear hord
    by_cases hin : t < n ∧ t < m
    · obtain ⟨h1, h2⟩ := hin
      have h1' : (t : Int) < (n : Int) := by omega
      have h2' : (t : Int) < (m : Int) := by omega
      rcases rd_some ha with ⟨_, h0, _⟩ | ⟨ba, oa, rfl⟩
      · omega
      rcases rd_some hb with ⟨_, h0, _⟩ | ⟨bb, ob, rfl⟩
      · omega
      obtain ⟨ca0, cal⟩ := rd_cell ha t h1
      obtain ⟨cb0, cbl⟩ := rd_cell hb t h2
      have ca : wr.cell? ⟨ba, oa + t, none⟩ = some (.int .u8 ((xs.getD t 0 : Nat) : Int)) := by
        rw [hbk.cell (p := ⟨ba, oa + t, none⟩) (World.block_lt_of_cell? w _ ca0)]; exact ca0
      have cb : wr.cell? ⟨bb, ob + t, none⟩ = some (.int .u8 ((ys.getD t 0 : Nat) : Int)) := by
        rw [hbk.cell (p := ⟨bb, ob + t, none⟩) (World.block_lt_of_cell? w _ cb0)]; exact cb0
      have da := drop_cons xs t (by rw [← HN.out]; exact h1)
      have db := drop_cons ys t (by rw [← HM.out]; exact h2)
      obtain ⟨x, hx⟩ : ∃ x, x = xs.getD t 0 := ⟨_, rfl⟩
      obtain ⟨y, hy⟩ : ∃ y, y = ys.getD t 0 := ⟨_, rfl⟩
      rw [← hx] at ca cal da
      rw [← hy] at cb cbl db
      have HOO : Hid (ordC xs ys = if x < y then -1 else if y < x then 1 else ordC (xs.drop (t + 1)) (ys.drop (t + 1))) := by
        unfold Hid; rw [HO.out, da, db]; rfl
      clear hx hy da db ca0 cb0
      have ht0 : (0 : Int) ≤ (t : Int) := by omega
      by_cases hxy : x < y
      · have hxy' : (x : Int) < (y : Int) := by omega
        have HR : Hid (ordC xs ys = -1) := by unfold Hid; rw [HOO.out, if_pos hxy]
        go_wp2
        go_quiet (fail)
        go_wp2
        go_ret
        rw [HR.out]
        exact ⟨rfl, below_drewN hbk _⟩
      · have hxy' : (y : Int) ≤ (x : Int) := by omega
        by_cases hyx : y < x
        · have hyx' : (y : Int) < (x : Int) := by omega
          have HR : Hid (ordC xs ys = 1) := by unfold Hid; rw [HOO.out, if_neg hxy, if_pos hyx]
          go_wp2
          go_quiet (fail)
          go_wp2
          go_quiet (fail)
          go_wp2
          go_ret
          rw [HR.out]
          exact ⟨rfl, below_drewN (below_drewN hbk _) _⟩
        · have hyx' : (x : Int) ≤ (y : Int) := by omega
          have HR : Hid (ordC xs ys = ordC (xs.drop (t + 1)) (ys.drop (t + 1))) := by unfold Hid; rw [HOO.out, if_neg hxy, if_neg hyx]
          go_wp2
          go_quiet (fail)
          go_wp2
          go_quiet (fail)
          go_wp2
          go_roundw
          case rel => exact ⟨t + 1, by omega, by omega, by go_num, HR.out, below_drewN hbk _⟩
          case measure => simp [intOf]; omega
    · have HR : Hid (ordC xs ys = if n < m then -1 else if m < n then 1 else 0) := by
        unfold Hid
        rw [HO.out]
        by_cases h1 : t < n
        · have h2 : m = t := by
            by_cases h : t < m
            · exact absurd ⟨h1, h⟩ hin
            · omega
          have e1 : ys.drop t = [] := by rw [← h2, HM.out]; simp
          rw [e1, drop_cons xs t (by rw [← HN.out]; exact h1), if_neg (by omega), if_pos (by omega)]
          rfl
        · have h1' : n = t := by omega
          have e1 : xs.drop t = [] := by rw [← h1', HN.out]; simp
          rw [e1]
          by_cases h2 : t < m
          · rw [drop_cons ys t (by rw [← HM.out]; exact h2), if_pos (by omega)]
            rfl
          · have e2 : ys.drop t = [] := by rw [show t = m by omega, HM.out]; simp
            rw [e2, if_neg (by omega), if_neg (by omega)]
            rfl
      by_cases h1 : t < n
      · have h1' : (t : Int) < (n : Int) := by omega
        have h2' : (m : Int) ≤ (t : Int) := by
          by_cases h : t < m
          · exact absurd ⟨h1, h⟩ hin
          · omega
        have hR := HR.out
        rw [if_neg (by omega), if_pos (by omega)] at hR
        have HR2 : Hid (ordC xs ys = 1) := hR
        clear hR hin
        have hd2 : decide ((t : Int) < (m : Int)) = false := by simp; omega
        go_wp2_with fail
        refine (refNumber_any _ _ _).mono ?_
        rintro e w9 ⟨rfl, rfl⟩
        rw [show cmpI (n : Int) (m : Int) = 1 by unfold cmpI; rw [if_neg (by omega), if_pos (by omega)]]
        go_wp2
        go_ret
        rw [HR2.out]
        exact ⟨rfl, hbk⟩
      · have h1' : (n : Int) ≤ (t : Int) := by omega
        have hd : decide ((t : Int) < (n : Int)) = false := by simp; omega
        clear hin
        by_cases hnm : n < m
        · have hnm' : (n : Int) < (m : Int) := by omega
          have hR := HR.out
          rw [if_pos hnm] at hR
          have HR2 : Hid (ordC xs ys = -1) := hR
          clear hR
          go_wp2_with fail
          refine (refNumber_any _ _ _).mono ?_
          rintro e w9 ⟨rfl, rfl⟩
          rw [show cmpI (n : Int) (m : Int) = -1 by unfold cmpI; rw [if_pos (by omega)]]
          go_wp2
          go_ret
          rw [HR2.out]
          exact ⟨rfl, hbk⟩
        · have hnm' : (m : Int) ≤ (n : Int) := by omega
          have hmn' : (n : Int) ≤ (m : Int) := by omega
          have hR := HR.out
          rw [if_neg hnm, if_neg (by omega)] at hR
          have HR2 : Hid (ordC xs ys = 0) := hR
          clear hR
          go_wp2_with fail
          refine (refNumber_any _ _ _).mono ?_
          rintro e w9 ⟨rfl, rfl⟩
          rw [show cmpI (n : Int) (m : Int) = 0 by unfold cmpI; rw [if_neg (by omega), if_neg (by omega)]]
          go_wp2
          go_ret
          rw [HR2.out]
          exact ⟨rfl, hbk⟩


theorem ordC_prefix (a x : List Nat) : ordC a (a ++ x) = if x = [] then 0 else -1 := by
  induction a with
  | nil => cases x <;> simp [ordC]
  | cons c a ih => simp [ordC, ih]
theorem ordC_app (a x y : List Nat) : ordC (a ++ x) (a ++ y) = ordC x y := by
  induction a with
  | nil => rfl
  | cons c a ih => simp [ordC, ih]
theorem key_rest {e : EntD} (hc : checkS e = 0) : ∃ f r, keyL e = ordL e.row ++ f :: r ∧ f < 255 := by
  have := (check_facts hc).2.1
  refine ⟨e.fam.toNat, _, by rw [keyL_parts]; rfl, by omega⟩
theorem own_begins {e : EntD} (hc : checkS e = 0) (r : List Nat) : (e.row = r) ↔ ((ordL r).length ≤ (keyL e).length ∧ (keyL e).take (ordL r).length = ordL r) := by
  obtain ⟨f, q, hk, hf⟩ := key_rest hc
  constructor
  · rintro rfl
    rw [hk]
    simp
  · rintro ⟨h1, h2⟩
    by_cases h : ordC r e.row = 0
    · exact (ordC_eq _ _ h).symm
    · exfalso
      have e1 : keyL e = ordL r ++ (keyL e).drop (ordL r).length := by
        conv => lhs; rw [← List.take_append_drop (ordL r).length (keyL e)]
        rw [h2]
      have e2 := ordC_ordL r e.row ((keyL e).drop (ordL r).length) (f :: q) h
      rw [← hk, ← e1, ordC_self] at e2
      exact h e2.symm
theorem own_inside {e : EntD} (hc : checkS e = 0) (r : List Nat) : (e.row = r) ↔ (ordC (ordL r) (keyL e) ≤ 0 ∧ ordC (keyL e) (ordL r ++ [255]) < 0) := by
  obtain ⟨f, q, hk, hf⟩ := key_rest hc
  constructor
  · rintro rfl
    rw [hk, ordC_prefix, ordC_app]
    constructor
    · simp
    · simp only [ordC]; rw [if_pos hf]; decide
  · rintro ⟨h1, h2⟩
    by_cases h : ordC r e.row = 0
    · exact (ordC_eq _ _ h).symm
    · exfalso
      have e1 := ordC_ordL r e.row [] (f :: q) h
      have e2 := ordC_ordL e.row r (f :: q) [255] (by rw [ordC_swap]; omega)
      rw [List.append_nil, ← hk] at e1
      have e3 := ordC_swap r e.row
      rw [← hk, e3] at e2
      rw [e1] at h1
      rw [e2] at h2
      omega
end Go.Proofs.YtganmnckdmkcbaaGreat

namespace Go.Proofs.YtganmnckdmkcbaaGreat
open Go.RowKit
set_option linter.unusedVariables false

def byt (s : ByteArray) (i : Nat) : Nat := if h : i < s.size then (s[i]'h).toNat else 0
theorem byt_in {s : ByteArray} {i : Nat} (h : i < s.size) : byt s i = (s[i]'h).toNat := by unfold byt; rw [dif_pos h]
def Letter (c : Nat) : Prop := 97 ≤ c ∧ c ≤ 122
def Digit (c : Nat) : Prop := 48 ≤ c ∧ c ≤ 57
instance (c : Nat) : Decidable (Letter c) := by unfold Letter; infer_instance
instance (c : Nat) : Decidable (Digit c) := by unfold Digit; infer_instance
def ByteOk (i c : Nat) : Prop := Letter c ∨ (i ≠ 0 ∧ (c = 95 ∨ Digit c))
def NameOk (s : ByteArray) : Prop := 1 ≤ s.size ∧ s.size ≤ 32 ∧ ∀ i, i < s.size → ByteOk i (byt s i)

set_option maxRecDepth 100000 in
theorem isLetter_any (c : Nat) (w : World) : Calls Tryz.prog 158 #[.int .u8 (c : Int)] w fun e w' => e = .returned (.bool (decide (Letter c))) ∧ w' = w := by
  by_cases h1 : 97 ≤ c
  · have d1 : decide ((97 : Int) ≤ (c : Int)) = true := decide_eq_true (by omega)
    by_cases h2 : c ≤ 122
    · have d2 : decide ((c : Int) ≤ 122) = true := decide_eq_true (by omega)
      have e : decide (Letter c) = true := decide_eq_true ⟨h1, h2⟩
      rw [e]
      clear e
      go_enter Tryz.func158, Tryz.ntmps158
      go_wp2
      go_ret
      exact ⟨by first | rfl | simp [d1, d2], rfl⟩
    · have d2 : decide ((c : Int) ≤ 122) = false := decide_eq_false (by omega)
      have e : decide (Letter c) = false := decide_eq_false (fun h => h2 h.2)
      rw [e]
      clear e
      go_enter Tryz.func158, Tryz.ntmps158
      go_wp2
      go_ret
      exact ⟨by first | rfl | simp [d1, d2], rfl⟩
  · have d1 : decide ((97 : Int) ≤ (c : Int)) = false := decide_eq_false (by omega)
    have e : decide (Letter c) = false := decide_eq_false (fun h => h1 h.1)
    rw [e]
    clear e
    go_enter Tryz.func158, Tryz.ntmps158
    go_wp2
    go_ret
    exact ⟨by first | rfl | simp [d1], rfl⟩
set_option maxRecDepth 100000 in
theorem isDigit_any (c : Nat) (w : World) : Calls Tryz.prog 159 #[.int .u8 (c : Int)] w fun e w' => e = .returned (.bool (decide (Digit c))) ∧ w' = w := by
  by_cases h1 : 48 ≤ c
  · have d1 : decide ((48 : Int) ≤ (c : Int)) = true := decide_eq_true (by omega)
    by_cases h2 : c ≤ 57
    · have d2 : decide ((c : Int) ≤ 57) = true := decide_eq_true (by omega)
      have e : decide (Digit c) = true := decide_eq_true ⟨h1, h2⟩
      rw [e]
      clear e
      go_enter Tryz.func159, Tryz.ntmps159
      go_wp2
      go_ret
      exact ⟨by first | rfl | simp [d1, d2], rfl⟩
    · have d2 : decide ((c : Int) ≤ 57) = false := decide_eq_false (by omega)
      have e : decide (Digit c) = false := decide_eq_false (fun h => h2 h.2)
      rw [e]
      clear e
      go_enter Tryz.func159, Tryz.ntmps159
      go_wp2
      go_ret
      exact ⟨by first | rfl | simp [d1, d2], rfl⟩
  · have d1 : decide ((48 : Int) ≤ (c : Int)) = false := decide_eq_false (by omega)
    have e : decide (Digit c) = false := decide_eq_false (fun h => h1 h.1)
    rw [e]
    clear e
    go_enter Tryz.func159, Tryz.ntmps159
    go_wp2
    go_ret
    exact ⟨by first | rfl | simp [d1], rfl⟩
theorem letter_y {c : Nat} (h : Letter c) (w : World) : Calls Tryz.prog 158 #[.int .u8 (c : Int)] w fun e w' => e = .returned (.bool true) ∧ w' = w := by have k := isLetter_any c w; rw [decide_eq_true h] at k; exact k
theorem letter_n {c : Nat} (h : ¬ Letter c) (w : World) : Calls Tryz.prog 158 #[.int .u8 (c : Int)] w fun e w' => e = .returned (.bool false) ∧ w' = w := by have k := isLetter_any c w; rw [decide_eq_false h] at k; exact k
theorem digit_y {c : Nat} (h : Digit c) (w : World) : Calls Tryz.prog 159 #[.int .u8 (c : Int)] w fun e w' => e = .returned (.bool true) ∧ w' = w := by have k := isDigit_any c w; rw [decide_eq_true h] at k; exact k
theorem digit_n {c : Nat} (h : ¬ Digit c) (w : World) : Calls Tryz.prog 159 #[.int .u8 (c : Int)] w fun e w' => e = .returned (.bool false) ∧ w' = w := by have k := isDigit_any c w; rw [decide_eq_false h] at k; exact k


theorem letter_95 (w : World) : Calls Tryz.prog 158 #[.int .u8 95] w fun e w' => e = .returned (.bool false) ∧ w' = w := letter_n (c := 95) (by decide) w
theorem digit_95 (w : World) : Calls Tryz.prog 159 #[.int .u8 95] w fun e w' => e = .returned (.bool false) ∧ w' = w := digit_n (c := 95) (by decide) w
set_option maxRecDepth 100000 in
theorem famName_len {s : ByteArray} (h : s.size < 1 ∨ 32 < s.size) (w : World) : Calls Tryz.prog 148 #[.string s] w fun e w' => e = .returned (.bool false) ∧ w' = w := by
  by_cases h1 : s.size < 1
  · have d1 : decide ((s.size : Int) < 1) = true := decide_eq_true (by omega)
    have i1 : (s.size : Int) < 1 := by omega
    clear h
    go_enter Tryz.func148, Tryz.ntmps148
    go_wp2
    go_ret
    exact ⟨rfl, rfl⟩
  · have d1 : decide ((s.size : Int) < 1) = false := decide_eq_false (by omega)
    have d2 : decide ((32 : Int) < (s.size : Int)) = true := decide_eq_true (by omega)
    have i1 : (1 : Int) ≤ (s.size : Int) := by omega
    have i2 : (32 : Int) < (s.size : Int) := by omega
    clear h
    go_enter Tryz.func148, Tryz.ntmps148
    go_wp2
    go_ret
    exact ⟨rfl, rfl⟩

set_option maxRecDepth 100000 in
set_option maxHeartbeats 4000000 in
theorem famName_in {s : ByteArray} (h1 : 1 ≤ s.size) (h2 : s.size ≤ 32) (w : World) (R : Bool) (hR : R = true ↔ ∀ i, i < s.size → ByteOk i (byt s i)) : Calls Tryz.prog 148 #[.string s] w fun e w' => e = .returned (.bool R) ∧ w' = w := by
  have HR : Hid (R = true ↔ ∀ i, i < s.size → ByteOk i (byt s i)) := hR
  have i1 : (1 : Int) ≤ (s.size : Int) := by omega
  have i2 : (s.size : Int) ≤ 32 := by omega
  have d1 : decide ((s.size : Int) < 1) = false := decide_eq_false (by omega)
  have d2 : decide ((32 : Int) < (s.size : Int)) = false := decide_eq_false (by omega)
  have i3 : 0 < s.size := by omega
  clear hR
  by_cases hl : Letter (s[0]'i3).toNat
  · have HL : Hid (Letter (s[0]'i3).toNat) := hl
    have HB0 : Hid (Letter (byt s 0)) := by unfold Hid; rw [byt_in i3]; exact hl
    clear hl
    go_enter Tryz.func148, Tryz.ntmps148
    go_wp2_with fail
    refine (letter_y HL.out _).mono ?_
    rintro e w1 ⟨rfl, rfl⟩
    go_wp2
    go_loopw [3, 4, 21] (fun _ _ i wr => ∃ t : Nat, t ≤ s.size ∧ i = .int .i64 (t : Int) ∧ wr = w1 ∧ ∀ j, j < t → ByteOk j (byt s j)) (fun _ _ i _ => s.size - (intOf i).toNat)
    case atStart => exact ⟨0, by omega, rfl, rfl, fun j hj => absurd hj (by omega)⟩
    case round =>
      obtain ⟨t, ht, rfl, rfl, hj⟩ := hrel
      have HJ : Hid (∀ j, j < t → ByteOk j (byt s j)) := hj
      clear hj
      by_cases hlt : t < s.size
      · have j1 : (t : Int) < (s.size : Int) := by omega
        have j2 : (0 : Int) ≤ (t : Int) := by omega
        have HBY : Hid (byt s t = (s[t]'hlt).toNat) := byt_in hlt
        have step : ∀ (h : ByteOk t (byt s t)), ∀ j, j < t + 1 → ByteOk j (byt s j) := fun h j hj => by
          by_cases e : j = t
          · rw [e]; exact h
          · exact HJ.out j (by omega)
        have HST := Lib.hid step
        clear step
        by_cases hle : Letter (s[t]'hlt).toNat
        · have HLE : Hid (Letter (s[t]'hlt).toNat) := hle
          clear hle
          go_wp2_with fail
          refine (letter_y HLE.out _).mono ?_
          rintro e w2 ⟨rfl, rfl⟩
          go_wp2
          go_roundw
          case rel => exact ⟨t + 1, by omega, by go_num, trivial, HST.out (.inl (by rw [HBY.out]; exact HLE.out))⟩
          case measure => simp [intOf]; omega
        · have HLE : Hid (¬ Letter (s[t]'hlt).toNat) := hle
          have ht1 : t ≠ 0 := by
            rintro rfl
            exact hle HL.out
          have HT0 : Hid (t ≠ 0) := ht1
          clear hle ht1
          by_cases hdi : Digit (s[t]'hlt).toNat
          · have HDI : Hid (Digit (s[t]'hlt).toNat) := hdi
            clear hdi
            go_wp2_with fail
            refine (letter_n HLE.out _).mono ?_
            rintro e w2 ⟨rfl, rfl⟩
            go_wp2_with fail
            refine (digit_y HDI.out _).mono ?_
            rintro e w2 ⟨rfl, rfl⟩
            go_wp2
            go_roundw
            case rel => exact ⟨t + 1, by omega, by go_num, trivial, HST.out (.inr ⟨HT0.out, .inr (by rw [HBY.out]; exact HDI.out)⟩)⟩
            case measure => simp [intOf]; omega
          · have HDI : Hid (¬ Digit (s[t]'hlt).toNat) := hdi
            clear hdi
            obtain ⟨c, hc⟩ : ∃ c, c = (s[t]'hlt).toNat := ⟨_, rfl⟩
            by_cases h95 : c = 95
            · subst h95
              have k95 : (((s[t]'hlt).toNat : Nat) : Int) = 95 := by rw [← hc]; rfl
              have HC : Hid (byt s t = 95) := by unfold Hid; rw [HBY.out, ← hc]
              clear hc
              go_wp2_with fail
              refine (letter_95 _).mono ?_
              rintro e w2 ⟨rfl, rfl⟩
              go_wp2_with fail
              refine (digit_95 _).mono ?_
              rintro e w2 ⟨rfl, rfl⟩
              go_wp2
              go_roundw
              case rel => exact ⟨t + 1, by omega, by go_num, trivial, HST.out (.inr ⟨HT0.out, .inl HC.out⟩)⟩
              case measure => simp [intOf]; omega
            · have k95 : ¬ ((((s[t]'hlt).toNat : Nat) : Int) = 95) := by rw [← hc]; omega
              have hRf : R = false := by
                cases hr : R with
                | false => rfl
                | true =>
                  exfalso
                  rcases (HR.out.1 hr) t hlt with k | ⟨_, k | k⟩
                  · rw [HBY.out] at k; exact HLE.out k
                  · rw [HBY.out, ← hc] at k; exact h95 k
                  · rw [HBY.out] at k; exact HDI.out k
              subst hRf
              clear hc
              go_wp2_with fail
              refine (letter_n HLE.out _).mono ?_
              rintro e w2 ⟨rfl, rfl⟩
              go_wp2_with fail
              refine (digit_n HDI.out _).mono ?_
              rintro e w2 ⟨rfl, rfl⟩
              go_wp2
              go_ret
              exact ⟨rfl, rfl⟩
      · have j1 : (s.size : Int) ≤ (t : Int) := by omega
        have hRt : R = true := HR.out.2 (fun i hi => HJ.out i (by omega))
        subst hRt
        go_wp2
        go_ret
        exact ⟨rfl, rfl⟩
  · have HL : Hid (¬ Letter (s[0]'i3).toNat) := hl
    have hRf : R = false := by
      cases hr : R with
      | false => rfl
      | true =>
        exfalso
        rcases (HR.out.1 hr) 0 i3 with k | ⟨k, _⟩
        · rw [byt_in i3] at k; exact hl k
        · exact k rfl
    subst hRf
    clear hl
    go_enter Tryz.func148, Tryz.ntmps148
    go_wp2_with fail
    refine (letter_n HL.out _).mono ?_
    rintro e w1 ⟨rfl, rfl⟩
    go_wp2
    go_ret
    exact ⟨rfl, rfl⟩
open Classical in
theorem famName_any (s : ByteArray) (w : World) : Calls Tryz.prog 148 #[.string s] w fun e w' => e = .returned (.bool (decide (NameOk s))) ∧ w' = w := by
  by_cases h : s.size < 1 ∨ 32 < s.size
  · rw [decide_eq_false (fun k : NameOk s => by have := k.1; have := k.2.1; omega)]
    exact famName_len h w
  · refine famName_in (by omega) (by omega) w _ ?_
    rw [decide_eq_true_iff]
    exact ⟨fun k => k.2.2, fun k => ⟨by omega, by omega, k⟩⟩
end Go.Proofs.YtganmnckdmkcbaaGreat

namespace Go.Proofs.YtganmnckdmkcbaaGreat
open Go.RowKit
set_option linter.unusedVariables false

theorem nok0 {c : Nat} (h : ¬ Letter c) : ¬ ByteOk 0 c := fun k => by
  rcases k with k | ⟨k, _⟩
  · exact h k
  · exact k rfl
theorem nok2 {t c : Nat} (h : ¬ Letter c) (b : c ≠ 95) (d : ¬ Digit c) : ¬ ByteOk t c := fun k => by
  rcases k with k | ⟨_, k | k⟩
  · exact h k
  · exact b k
  · exact d k
set_option maxRecDepth 100000 in
theorem refName_len {s : ByteArray} (h : s.size < 1 ∨ 32 < s.size) (w : World) : Calls Tryz.prog 116 #[.string s] w fun e w' => e = .returned (.bool false) ∧ w' = w := by
  have HI : Hid ((s.size : Int) < 1 ∨ (32 : Int) < (s.size : Int)) := by unfold Hid; omega
  clear h
  go_enter Tryz.func116, Tryz.ntmps116
  go_wp2_with fail
  refine (refOut_out _ _ _ _ HI.out).mono ?_
  rintro e w1 ⟨rfl, rfl⟩
  go_wp2
  go_ret
  exact ⟨rfl, rfl⟩

set_option maxRecDepth 100000 in
set_option maxHeartbeats 8000000 in
theorem refName_in {s : ByteArray} (h1 : 1 ≤ s.size) (h2 : s.size ≤ 32) (w : World) (R : Bool) (hR : R = true ↔ ∀ i, i < s.size → ByteOk i (byt s i)) : Calls Tryz.prog 116 #[.string s] w fun e w' => e = .returned (.bool R) ∧ w' = w := by
  have HR : Hid (R = true ↔ ∀ i, i < s.size → ByteOk i (byt s i)) := hR
  have i1 : (1 : Int) ≤ (s.size : Int) := by omega
  have i2 : (s.size : Int) ≤ 32 := by omega
  clear hR
  go_enter Tryz.func116, Tryz.ntmps116
  go_wp2_with fail
  refine (refOut_in _ _ _ _ i1 i2).mono ?_
  rintro e w1 ⟨rfl, rfl⟩
  go_wp2
  go_loopw [3, 4, 5] (fun i _ _ wr => ∃ t : Nat, t ≤ s.size ∧ i = .int .i64 (t : Int) ∧ wr = w1 ∧ ∀ j, j < t → ByteOk j (byt s j)) (fun i _ _ _ => s.size - (intOf i).toNat)
  case atStart => exact ⟨0, by omega, rfl, rfl, fun j hj => absurd hj (by omega)⟩
  case round =>
    obtain ⟨t, ht, rfl, rfl, hj⟩ := hrel
    have HJ : Hid (∀ j, j < t → ByteOk j (byt s j)) := hj
    clear hj
    by_cases hlt : t < s.size
    · have j1 : (t : Int) < (s.size : Int) := by omega
      have j2 : (0 : Int) ≤ (t : Int) := by omega
      have HBY : Hid (byt s t = (s[t]'hlt).toNat) := byt_in hlt
      have step : ∀ (h : ByteOk t (byt s t)), ∀ j, j < t + 1 → ByteOk j (byt s j) := fun h j hj => by
        by_cases e : j = t
        · rw [e]; exact h
        · exact HJ.out j (by omega)
      have HST := Lib.hid step
      have bad : ¬ ByteOk t (byt s t) → R = false := fun h => by
        cases hr : R with
        | false => rfl
        | true => exact absurd ((HR.out.1 hr) t hlt) h
      have HBD := Lib.hid bad
      clear step bad HJ
      obtain ⟨c, hc⟩ : ∃ c, c = (s[t]'hlt).toNat := ⟨_, rfl⟩
      have HBC : Hid (byt s t = c) := by unfold Hid; rw [hc]; exact HBY.out
      clear HBY
      by_cases a1 : 97 ≤ c
      · by_cases a2 : c ≤ 122
        · have f2 : (97 : Int) ≤ (((s[t]'hlt).toNat : Nat) : Int) := by rw [← hc]; omega
          have f2d : decide ((97 : Int) ≤ (((s[t]'hlt).toNat : Nat) : Int)) = true := decide_eq_true f2
          have f3 : (((s[t]'hlt).toNat : Nat) : Int) ≤ 122 := by rw [← hc]; omega
          have f3d : decide ((((s[t]'hlt).toNat : Nat) : Int) ≤ 122) = true := decide_eq_true f3
          clear hc
          go_wp2
          go_roundw
          case rel => exact ⟨t + 1, by omega, by go_num, trivial, HST.out (by rw [HBC.out]; exact .inl ⟨a1, a2⟩)⟩
          case measure => simp [intOf]; omega
        · by_cases b0 : t = 0
          · subst b0
            have f4 : (97 : Int) ≤ (((s[0]'hlt).toNat : Nat) : Int) := by rw [← hc]; omega
            have f4d : decide ((97 : Int) ≤ (((s[0]'hlt).toNat : Nat) : Int)) = true := decide_eq_true f4
            have f5d : decide ((((s[0]'hlt).toNat : Nat) : Int) ≤ 122) = false := decide_eq_false (by rw [← hc]; omega)
            have hRf := HBD.out (by rw [HBC.out]; exact (nok0 (fun k : Letter c => by have := k.1; have := k.2; omega)))
            subst hRf
            clear hc
            go_wp2
            go_ret
            exact ⟨rfl, rfl⟩
          · have f0 : ¬ ((t : Int) = 0) := by omega
            have f0b : ((t : Int) == 0) = false := by simp; omega
            by_cases b1 : c = 95
            · exact absurd a1 (by omega)
            · have f9 : ¬ ((((s[t]'hlt).toNat : Nat) : Int) = 95) := by rw [← hc]; omega
              by_cases b2 : c < 48
              · exact absurd a1 (by omega)
              · by_cases b3 : 57 < c
                · have f6d : decide ((((s[t]'hlt).toNat : Nat) : Int) < 48) = false := decide_eq_false (by rw [← hc]; omega)
                  have f7 : (57 : Int) < (((s[t]'hlt).toNat : Nat) : Int) := by rw [← hc]; omega
                  have f7d : decide ((57 : Int) < (((s[t]'hlt).toNat : Nat) : Int)) = true := decide_eq_true f7
                  have f8 : (97 : Int) ≤ (((s[t]'hlt).toNat : Nat) : Int) := by rw [← hc]; omega
                  have f8d : decide ((97 : Int) ≤ (((s[t]'hlt).toNat : Nat) : Int)) = true := decide_eq_true f8
                  have f9d : decide ((((s[t]'hlt).toNat : Nat) : Int) ≤ 122) = false := decide_eq_false (by rw [← hc]; omega)
                  have hRf := HBD.out (by rw [HBC.out]; exact (nok2 (fun k : Letter c => by have := k.1; have := k.2; omega) b1 (fun k => by have := k.1; have := k.2; omega)))
                  subst hRf
                  clear hc
                  go_wp2
                  go_ret
                  exact ⟨rfl, rfl⟩
                · exact absurd a1 (by omega)
      · by_cases b0 : t = 0
        · subst b0
          have f10d : decide ((97 : Int) ≤ (((s[0]'hlt).toNat : Nat) : Int)) = false := decide_eq_false (by rw [← hc]; omega)
          have hRf := HBD.out (by rw [HBC.out]; exact (nok0 (fun k : Letter c => by have := k.1; have := k.2; omega)))
          subst hRf
          clear hc
          go_wp2
          go_ret
          exact ⟨rfl, rfl⟩
        · have f0 : ¬ ((t : Int) = 0) := by omega
          have f0b : ((t : Int) == 0) = false := by simp; omega
          by_cases b1 : c = 95
          · have f9 : (((s[t]'hlt).toNat : Nat) : Int) = 95 := by rw [← hc]; omega
            have f11d : decide ((97 : Int) ≤ (((s[t]'hlt).toNat : Nat) : Int)) = false := decide_eq_false (by rw [← hc]; omega)
            clear hc
            go_wp2
            go_roundw
            case rel => exact ⟨t + 1, by omega, by go_num, trivial, HST.out (by rw [HBC.out]; exact .inr ⟨b0, .inl b1⟩)⟩
            case measure => simp [intOf]; omega
          · have f9 : ¬ ((((s[t]'hlt).toNat : Nat) : Int) = 95) := by rw [← hc]; omega
            by_cases b2 : c < 48
            · have f12 : (((s[t]'hlt).toNat : Nat) : Int) < 48 := by rw [← hc]; omega
              have f12d : decide ((((s[t]'hlt).toNat : Nat) : Int) < 48) = true := decide_eq_true f12
              have f13d : decide ((97 : Int) ≤ (((s[t]'hlt).toNat : Nat) : Int)) = false := decide_eq_false (by rw [← hc]; omega)
              have hRf := HBD.out (by rw [HBC.out]; exact (nok2 (fun k : Letter c => by have := k.1; have := k.2; omega) b1 (fun k => by have := k.1; have := k.2; omega)))
              subst hRf
              clear hc
              go_wp2
              go_ret
              exact ⟨rfl, rfl⟩
            · by_cases b3 : 57 < c
              · have f14d : decide ((((s[t]'hlt).toNat : Nat) : Int) < 48) = false := decide_eq_false (by rw [← hc]; omega)
                have f15 : (57 : Int) < (((s[t]'hlt).toNat : Nat) : Int) := by rw [← hc]; omega
                have f15d : decide ((57 : Int) < (((s[t]'hlt).toNat : Nat) : Int)) = true := decide_eq_true f15
                have f16d : decide ((97 : Int) ≤ (((s[t]'hlt).toNat : Nat) : Int)) = false := decide_eq_false (by rw [← hc]; omega)
                have hRf := HBD.out (by rw [HBC.out]; exact (nok2 (fun k : Letter c => by have := k.1; have := k.2; omega) b1 (fun k => by have := k.1; have := k.2; omega)))
                subst hRf
                clear hc
                go_wp2
                go_ret
                exact ⟨rfl, rfl⟩
              · have f17d : decide ((((s[t]'hlt).toNat : Nat) : Int) < 48) = false := decide_eq_false (by rw [← hc]; omega)
                have f18d : decide ((57 : Int) < (((s[t]'hlt).toNat : Nat) : Int)) = false := decide_eq_false (by rw [← hc]; omega)
                have f19d : decide ((97 : Int) ≤ (((s[t]'hlt).toNat : Nat) : Int)) = false := decide_eq_false (by rw [← hc]; omega)
                clear hc
                go_wp2
                go_roundw
                case rel => exact ⟨t + 1, by omega, by go_num, trivial, HST.out (by rw [HBC.out]; exact .inr ⟨b0, .inr ⟨by omega, by omega⟩⟩)⟩
                case measure => simp [intOf]; omega
    · have j1 : (s.size : Int) ≤ (t : Int) := by omega
      have hRt : R = true := HR.out.2 (fun i hi => HJ.out i (by omega))
      subst hRt
      go_wp2
      go_ret
      exact ⟨rfl, rfl⟩
open Classical in
theorem refName_any (s : ByteArray) (w : World) : Calls Tryz.prog 116 #[.string s] w fun e w' => e = .returned (.bool (decide (NameOk s))) ∧ w' = w := by
  by_cases h : s.size < 1 ∨ 32 < s.size
  · rw [decide_eq_false (fun k : NameOk s => by have := k.1; have := k.2.1; omega)]
    exact refName_len h w
  · refine refName_in (by omega) (by omega) w _ ?_
    rw [decide_eq_true_iff]
    exact ⟨fun k => k.2.2, fun k => ⟨by omega, by omega, k⟩⟩

end Go.Proofs.YtganmnckdmkcbaaGreat

namespace Go.Proofs.YtganmnckdmkcbaaGreat
open Go.RowKit
set_option linter.unusedVariables false

structure FamD where
  nm : ByteArray
  mx : Int
  tl : Int
def RdF (w : World) (v : Value) (fs : List FamD) : Prop := ∃ a cap, v = .slice a fs.length cap ∧ fs.length ≤ cap ∧ cap ≤ maxLen ∧ fs.length ≤ 281474976710656 ∧ (fs = [] ∨ ∃ b off, a = some ⟨b, off, none⟩ ∧ ∀ i f, fs[i]? = some f → w.cell? ⟨b, off + i * 3, none⟩ = some (.string f.nm) ∧ w.cell? ⟨b, off + i * 3 + 1, none⟩ = some (.int .i64 f.mx) ∧ w.cell? ⟨b, off + i * 3 + 2, none⟩ = some (.int .i64 f.tl))
theorem RdF.later {w w' : World} {v : Value} {fs : List FamD} (h : RdF w v fs) (hb : Below w.heap.size w w') : RdF w' v fs := by
  obtain ⟨a, cap, h1, h2, h3, h4, h5⟩ := h
  refine ⟨a, cap, h1, h2, h3, h4, ?_⟩
  rcases h5 with h5 | ⟨b, off, rfl, hc⟩
  · exact .inl h5
  · refine .inr ⟨b, off, rfl, fun i f hf => ?_⟩
    obtain ⟨c0, c1, c2⟩ := hc i f hf
    exact ⟨by rw [hb.cell (p := ⟨b, off + i * 3, none⟩) (World.block_lt_of_cell? w _ c0)]; exact c0, by rw [hb.cell (p := ⟨b, off + i * 3 + 1, none⟩) (World.block_lt_of_cell? w _ c1)]; exact c1, by rw [hb.cell (p := ⟨b, off + i * 3 + 2, none⟩) (World.block_lt_of_cell? w _ c2)]; exact c2⟩
theorem bytes_ne {a b : ByteArray} (h : ¬ a = b) : (a.toList == b.toList) = false := by
  rw [ByteArray.toList_eq, ByteArray.toList_eq]
  have h2 : a.data.toList ≠ b.data.toList := fun e => h (by
    have := Array.toList_inj.1 e
    cases a; cases b
    simp_all)
  simpa using h2
def famIx : List FamD → ByteArray → Nat → Int
  | [], _, _ => -1
  | f :: r, n, i => if f.nm = n then (i : Int) else famIx r n (i + 1)
theorem famIx_at {fs : List FamD} {n : ByteArray} : ∀ {t k : Nat} {f : FamD}, fs[t]? = some f → (∀ j g, j < t → fs[j]? = some g → g.nm ≠ n) → f.nm = n → famIx fs n k = ((k + t : Nat) : Int) := by
  induction fs with
  | nil => intro t k f h; simp at h
  | cons x r ih =>
    intro t k f h hj he
    cases t with
    | zero =>
      simp at h
      subst h
      unfold famIx
      rw [if_pos he]
      rfl
    | succ t =>
      unfold famIx
      rw [if_neg (hj 0 x (by omega) rfl), ih (t := t) (k := k + 1) (f := f) (by simpa using h) (fun j g hjt hg => hj (j + 1) g (by omega) (by simpa using hg)) he]
      congr 1
      omega
theorem famIx_none {fs : List FamD} {n : ByteArray} : ∀ {k : Nat}, (∀ g, g ∈ fs → g.nm ≠ n) → famIx fs n k = -1 := by
  induction fs with
  | nil => intro k _; rfl
  | cons x r ih =>
    intro k h
    unfold famIx
    rw [if_neg (h x (by simp)), ih (fun g hg => h g (by simp [hg]))]

set_option maxRecDepth 100000 in
set_option maxHeartbeats 4000000 in
theorem family_any {v : Value} {fs : List FamD} {w : World} (hr : RdF w v fs) (n : ByteArray) :
    Calls Tryz.prog 119 #[.agg #[v], .string n] w fun e w' => e = .returned (.int .i64 (famIx fs n 0)) ∧ Below w.heap.size w w' := by
  obtain ⟨a, cap, rfl, h2, h3, h4, h5⟩ := hr
  obtain ⟨k, hk⟩ : ∃ k, k = fs.length := ⟨_, rfl⟩
  rw [← hk] at h2 h4 ⊢
  have HK : Hid (k = fs.length) := hk
  have HC : Hid (fs = [] ∨ ∃ b off, a = some ⟨b, off, none⟩ ∧ ∀ i f, fs[i]? = some f → w.cell? ⟨b, off + i * 3, none⟩ = some (.string f.nm) ∧ w.cell? ⟨b, off + i * 3 + 1, none⟩ = some (.int .i64 f.mx) ∧ w.cell? ⟨b, off + i * 3 + 2, none⟩ = some (.int .i64 f.tl)) := h5
  have A1 := (Below.refl w.heap.size w).alloc (Nat.le_refl _) (.cells #[.slice a k cap] 27)
  clear hk h5
  go_enter Tryz.func119, Tryz.ntmps119
  go_wp2
  go_loopw [5, 6, 10] (fun _ _ i wr => ∃ t : Nat, t ≤ k ∧ i = .int .i64 (t : Int) ∧ Below w.heap.size w wr ∧ ∀ j g, j < t → fs[j]? = some g → g.nm ≠ n) (fun _ _ i _ => k - (intOf i).toNat)
  case atStart => exact ⟨0, by omega, rfl, A1, fun j g hj _ => absurd hj (by omega)⟩
  case round =>
    obtain ⟨t, ht, rfl, B1, hj⟩ := hrel
    have HJ : Hid (∀ j g, j < t → fs[j]? = some g → g.nm ≠ n) := hj
    clear hj A1
    by_cases hlt : t < k
    · have j1 : (t : Int) < (k : Int) := by omega
      have j2 : (0 : Int) ≤ (t : Int) := by omega
      rcases HC.out with h0 | ⟨b, off, rfl, hc⟩
      · have := HK.out; rw [h0] at this; simp at this; omega
      obtain ⟨f, hf⟩ : ∃ f, fs[t]? = some f := ⟨fs[t]'(by rw [← HK.out]; exact hlt), List.getElem?_eq_getElem _⟩
      obtain ⟨c0, c1, c2⟩ := hc t f hf
      have d0 : wr.cell? ⟨b, off + t * 3, none⟩ = some (.string f.nm) := by rw [B1.cell (p := ⟨b, off + t * 3, none⟩) (World.block_lt_of_cell? w _ c0)]; exact c0
      have d1 : wr.cell? ⟨b, off + t * 3 + 1, none⟩ = some (.int .i64 f.mx) := by rw [B1.cell (p := ⟨b, off + t * 3 + 1, none⟩) (World.block_lt_of_cell? w _ c1)]; exact c1
      have d2 : wr.cell? ⟨b, off + t * 3 + 2, none⟩ = some (.int .i64 f.tl) := by rw [B1.cell (p := ⟨b, off + t * 3 + 2, none⟩) (World.block_lt_of_cell? w _ c2)]; exact c2
      have HF : Hid (fs[t]? = some f) := hf
      clear hc c0 c1 c2 hf
      have A2 := B1.alloc B1.size (.cells #[.string f.nm, .int .i64 f.mx, .int .i64 f.tl] 132)
      by_cases he : f.nm = n
      · have HV : Hid (famIx fs n 0 = (t : Int)) := by
          unfold Hid
          rw [famIx_at HF.out HJ.out he]
          simp
        go_wp2
        go_ret
        rw [HV.out]
        exact ⟨rfl, B1.alloc B1.size _⟩
      · have he2 := bytes_ne he
        have HNE : Hid (∀ j g, j < t + 1 → fs[j]? = some g → g.nm ≠ n) := fun j g hj hg => by
          by_cases e : j = t
          · subst e
            rw [HF.out] at hg
            simp at hg
            rw [← hg]; exact he
          · exact HJ.out j g (by omega) hg
        go_wp2
        go_roundw
        case rel => exact ⟨t + 1, by omega, by go_num, B1.alloc B1.size _, HNE.out⟩
        case measure => simp [intOf]; omega
    · have j1 : (k : Int) ≤ (t : Int) := by omega
      have HV : Hid (famIx fs n 0 = -1) := famIx_none (fun g hg => by
        obtain ⟨i, hi⟩ := List.getElem?_of_mem hg
        have := (List.getElem?_eq_some_iff.1 hi).1
        exact HJ.out i g (by have := HK.out; omega) hi)
      go_wp2
      go_ret
      rw [HV.out]
      exact ⟨rfl, B1⟩

set_option maxRecDepth 100000 in
set_option maxHeartbeats 4000000 in
theorem refFamily_any {v : Value} {fs : List FamD} {w : World} (hr : RdF w v fs) (n : ByteArray) :
    Calls Tryz.prog 117 #[.agg #[v], .string n] w fun e w' => e = .returned (.int .i64 (famIx fs n 0)) ∧ Below w.heap.size w w' := by
  obtain ⟨a, cap, rfl, h2, h3, h4, h5⟩ := hr
  obtain ⟨k, hk⟩ : ∃ k, k = fs.length := ⟨_, rfl⟩
  rw [← hk] at h2 h4 ⊢
  have HK : Hid (k = fs.length) := hk
  have HC : Hid (fs = [] ∨ ∃ b off, a = some ⟨b, off, none⟩ ∧ ∀ i f, fs[i]? = some f → w.cell? ⟨b, off + i * 3, none⟩ = some (.string f.nm) ∧ w.cell? ⟨b, off + i * 3 + 1, none⟩ = some (.int .i64 f.mx) ∧ w.cell? ⟨b, off + i * 3 + 2, none⟩ = some (.int .i64 f.tl)) := h5
  have A1 := (Below.refl w.heap.size w).alloc (Nat.le_refl _) (.cells #[.slice a k cap] 27)
  clear hk h5
  go_enter Tryz.func117, Tryz.ntmps117
  go_wp2
  go_loopw [5] (fun i wr => ∃ t : Nat, t ≤ k ∧ i = .int .i64 (t : Int) ∧ (Below w.heap.size w wr ∧ wr.cell? ⟨w.heap.size, 0, none⟩ = some (.slice a k cap)) ∧ ∀ j g, j < t → fs[j]? = some g → g.nm ≠ n) (fun i _ => k - (intOf i).toNat)
  case atStart => exact ⟨0, by omega, rfl, ⟨A1, by simp⟩, fun j g hj _ => absurd hj (by omega)⟩
  case round =>
    obtain ⟨t, ht, rfl, ⟨B1, hbx⟩, hj⟩ := hrel
    have HJ : Hid (∀ j g, j < t → fs[j]? = some g → g.nm ≠ n) := hj
    clear hj A1
    by_cases hlt : t < k
    · have j1 : (t : Int) < (k : Int) := by omega
      have j2 : (0 : Int) ≤ (t : Int) := by omega
      rcases HC.out with h0 | ⟨b, off, rfl, hc⟩
      · have := HK.out; rw [h0] at this; simp at this; omega
      obtain ⟨f, hf⟩ : ∃ f, fs[t]? = some f := ⟨fs[t]'(by rw [← HK.out]; exact hlt), List.getElem?_eq_getElem _⟩
      obtain ⟨c0, c1, c2⟩ := hc t f hf
      have d0 : wr.cell? ⟨b, off + t * 3, none⟩ = some (.string f.nm) := by rw [B1.cell (p := ⟨b, off + t * 3, none⟩) (World.block_lt_of_cell? w _ c0)]; exact c0
      have d1 : wr.cell? ⟨b, off + t * 3 + 1, none⟩ = some (.int .i64 f.mx) := by rw [B1.cell (p := ⟨b, off + t * 3 + 1, none⟩) (World.block_lt_of_cell? w _ c1)]; exact c1
      have d2 : wr.cell? ⟨b, off + t * 3 + 2, none⟩ = some (.int .i64 f.tl) := by rw [B1.cell (p := ⟨b, off + t * 3 + 2, none⟩) (World.block_lt_of_cell? w _ c2)]; exact c2
      have HF : Hid (fs[t]? = some f) := hf
      clear hc c0 c1 c2 hf
      by_cases he : f.nm = n
      · have HV : Hid (famIx fs n 0 = (t : Int)) := by
          unfold Hid
          rw [famIx_at HF.out HJ.out he]
          simp
        go_wp2
        go_ret
        rw [HV.out]
        exact ⟨rfl, B1⟩
      · have he2 := bytes_ne he
        have HNE : Hid (∀ j g, j < t + 1 → fs[j]? = some g → g.nm ≠ n) := fun j g hj hg => by
          by_cases e : j = t
          · subst e
            rw [HF.out] at hg
            simp at hg
            rw [← hg]; exact he
          · exact HJ.out j g (by omega) hg
        go_wp2
        go_roundw
        case rel => exact ⟨t + 1, by omega, by go_num, ⟨B1, hbx⟩, HNE.out⟩
        case measure => simp [intOf]; omega
    · have j1 : (k : Int) ≤ (t : Int) := by omega
      have HV : Hid (famIx fs n 0 = -1) := famIx_none (fun g hg => by
        obtain ⟨i, hi⟩ := List.getElem?_of_mem hg
        have := (List.getElem?_eq_some_iff.1 hi).1
        exact HJ.out i g (by have := HK.out; omega) hi)
      go_wp2
      go_ret
      rw [HV.out]
      exact ⟨rfl, B1⟩

end Go.Proofs.YtganmnckdmkcbaaGreat
