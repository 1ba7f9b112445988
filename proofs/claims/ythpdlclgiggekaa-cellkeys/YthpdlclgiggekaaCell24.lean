import Derived.Test.YthpdlclgiggekaaCell23
import Derived.Test.YthpdlclgiggekaaCell14
import Derived.Test.YthpdlclgiggekaaRefOrd
import Derived.Deep.QuietTactic
import Derived.BigQuiet
namespace Go.Proofs.Ythpdlclgiggekaa
open Go.RowKit
set_option linter.unusedVariables false

/-- May a row be that long? -/
def RowOk (bs : List Nat) : Prop := 1 ≤ bs.length ∧ bs.length ≤ 256
theorem rowOk_ord {bs : List Nat} (h : RowOk bs) : (ordL bs).length ≤ 514 := by
  have := ordL_len bs
  have c : bs.count 0 ≤ bs.length := List.count_le_length
  have := h.2
  omega

set_option maxRecDepth 100000 in
theorem start_ok {v : Value} {bs : List Nat} {w : World} (hr : Rd w v bs) (h : RowOk bs) :
    Calls Try.prog 32 #[v] w fun e w' => ∃ a m c, e = .returned (.tuple #[.slice a m c, .int .i64 0]) ∧ Own w' w.heap.size (.slice a m c) m (ordL bs) ∧ Below w.heap.size w w' := by
  have hol := rowOk_ord h
  obtain ⟨a, n, cap, rfl⟩ := rd_slice hr
  obtain ⟨hn, _, _, hl48⟩ := rd_lens hr
  have d : decide (0 < n ∧ n ≤ 256) = true := by have := h.1; have := h.2; simp; omega
  have HC : Hid (∀ w, Calls Try.prog 62 #[.slice a n cap] w fun e w' => e = .returned (.bool true) ∧ w' = w) := fun w => by rw [← d]; exact isRow_any hl48
  clear d hn
  go_enter Try.func32, Try.ntmps32
  go_wp2_with fail
  refine (HC.out _).mono ?_
  rintro e w1 ⟨rfl, rfl⟩
  go_wp2_with fail
  refine (ordered_any hr (by omega)).mono ?_
  rintro e w2 ⟨a2, m2, c2, rfl, own2, hb2⟩
  go_wp2
  go_ret2
  exact ⟨a2, m2, c2, rfl, own2, hb2⟩
set_option maxRecDepth 100000 in
theorem start_bad {v : Value} {bs : List Nat} {w : World} (hr : Rd w v bs) (h : ¬ RowOk bs) :
    Calls Try.prog 32 #[v] w fun e w' => e = .returned (.tuple #[.slice none 0 0, .int .i64 20]) ∧ w' = w := by
  obtain ⟨a, n, cap, rfl⟩ := rd_slice hr
  obtain ⟨hn, _, _, hl48⟩ := rd_lens hr
  have d : decide (0 < n ∧ n ≤ 256) = false := by
    have : ¬ (0 < n ∧ n ≤ 256) := fun k => h ⟨by omega, by omega⟩
    simpa using this
  have HC : Hid (∀ w, Calls Try.prog 62 #[.slice a n cap] w fun e w' => e = .returned (.bool false) ∧ w' = w) := fun w => by rw [← d]; exact isRow_any hl48
  clear d hn h
  go_enter Try.func32, Try.ntmps32
  go_wp2_with fail
  refine (HC.out _).mono ?_
  rintro e w1 ⟨rfl, rfl⟩
  go_wp2
  go_ret2
  exact ⟨rfl, rfl⟩
set_option maxRecDepth 100000 in
theorem behind_ok {v : Value} {bs : List Nat} {w : World} (hr : Rd w v bs) (h : RowOk bs) :
    Calls Try.prog 33 #[v] w fun e w' => ∃ a m c, e = .returned (.tuple #[.slice a m c, .int .i64 0]) ∧ Own w' w.heap.size (.slice a m c) m (ordL bs ++ [255]) ∧ Below w.heap.size w w' := by
  have HO : Hid ((ordL bs).length ≤ 514) := rowOk_ord h
  have HS : Hid (Calls _ _ _ _ _) := start_ok hr h
  obtain ⟨a, n, cap, rfl⟩ := rd_slice hr
  clear hr h
  go_enter Try.func33, Try.ntmps33
  go_wp2_with fail
  refine HS.out.mono ?_
  rintro e w2 ⟨a2, m2, c2, rfl, own2, hb2⟩
  have hm2 : m2 ≤ 514 := by rw [own2.1]; exact HO.out
  go_wp2_with (at_builtin; refine wpList_append_new rfl _ _ rfl w.heap.size a2 m2 c2 _ rfl own2 [_] 1 rfl [255] rfl rfl (by omega) hb2.size ?_; intro a3 m3 c3 w3 own3 hb3)
  go_ret2
  exact ⟨a3, m3, c3, rfl, own3, hb2.trans hb3⟩
set_option maxRecDepth 100000 in
theorem behind_bad {v : Value} {bs : List Nat} {w : World} (hr : Rd w v bs) (h : ¬ RowOk bs) :
    Calls Try.prog 33 #[v] w fun e w' => e = .returned (.tuple #[.slice none 0 0, .int .i64 20]) ∧ w' = w := by
  have HS : Hid (Calls _ _ _ _ _) := start_bad hr h
  obtain ⟨a, n, cap, rfl⟩ := rd_slice hr
  clear hr h
  go_enter Try.func33, Try.ntmps33
  go_wp2_with fail
  refine HS.out.mono ?_
  rintro e w2 ⟨rfl, rfl⟩
  go_wp2
  go_ret2
  exact ⟨rfl, rfl⟩

set_option maxRecDepth 100000 in
theorem refOut_out (n lo hi : Int) (w : World) (h : n < lo ∨ hi < n) : Calls Try.prog 53 #[.int .i64 n, .int .i64 lo, .int .i64 hi] w fun e w' => e = .returned (.bool true) ∧ w' = w := by
  by_cases h1 : n < lo
  · have d1 : decide (n < lo) = true := by simpa using h1
    clear h
    go_enter Try.func53, Try.ntmps53
    go_wp2
    go_ret
    exact ⟨by first | rfl | simp [d1], rfl⟩
  · have d1 : decide (n < lo) = false := by simpa using h1
    have h2 : hi < n := by omega
    have d2 : decide (hi < n) = true := by simpa using h2
    clear h
    go_enter Try.func53, Try.ntmps53
    go_wp2
    go_ret
    exact ⟨by first | rfl | simp [d1, d2], rfl⟩
set_option maxRecDepth 100000 in
theorem refStart_ok {v : Value} {bs : List Nat} {w : World} (hr : Rd w v bs) (h : RowOk bs) :
    Calls Try.prog 34 #[v] w fun e w' => ∃ a m c, e = .returned (.tuple #[.slice a m c, .int .i64 0]) ∧ Own w' w.heap.size (.slice a m c) m (ordL bs) ∧ Below w.heap.size w w' := by
  have hol := rowOk_ord h
  obtain ⟨a, n, cap, rfl⟩ := rd_slice hr
  obtain ⟨hn, _, _, hl48⟩ := rd_lens hr
  have i1 : (1 : Int) ≤ (n : Int) := by have := h.1; omega
  have i2 : (n : Int) ≤ 256 := by have := h.2; omega
  clear hn h
  go_enter Try.func34, Try.ntmps34
  go_wp2_with fail
  refine (refOut_in _ _ _ _ i1 i2).mono ?_
  rintro e w1 ⟨rfl, rfl⟩
  go_wp2_with fail
  refine (refOrdered_any hr (by omega)).mono ?_
  rintro e w2 ⟨a2, m2, c2, rfl, own2, hb2⟩
  go_wp2
  go_ret2
  exact ⟨a2, m2, c2, rfl, own2, hb2⟩
set_option maxRecDepth 100000 in
theorem refStart_bad {v : Value} {bs : List Nat} {w : World} (hr : Rd w v bs) (h : ¬ RowOk bs) :
    Calls Try.prog 34 #[v] w fun e w' => e = .returned (.tuple #[.slice none 0 0, .int .i64 20]) ∧ w' = w := by
  obtain ⟨a, n, cap, rfl⟩ := rd_slice hr
  obtain ⟨hn, _, _, hl48⟩ := rd_lens hr
  have i1 : (n : Int) < 1 ∨ (256 : Int) < (n : Int) := by
    by_cases k : n < 1
    · left; omega
    · right
      have : ¬ (n ≤ 256) := fun k2 => h ⟨by omega, by omega⟩
      omega
  have HI : Hid ((n : Int) < 1 ∨ (256 : Int) < (n : Int)) := i1
  clear hn h i1
  go_enter Try.func34, Try.ntmps34
  go_wp2_with fail
  refine (refOut_out _ _ _ _ HI.out).mono ?_
  rintro e w1 ⟨rfl, rfl⟩
  go_wp2
  go_ret2
  exact ⟨rfl, rfl⟩
set_option maxRecDepth 100000 in
theorem refBehind_ok {v : Value} {bs : List Nat} {w : World} (hr : Rd w v bs) (h : RowOk bs) :
    Calls Try.prog 35 #[v] w fun e w' => ∃ a m c, e = .returned (.tuple #[.slice a m c, .int .i64 0]) ∧ Own w' w.heap.size (.slice a m c) m (ordL bs ++ [255]) ∧ Below w.heap.size w w' := by
  have HO : Hid ((ordL bs).length ≤ 514) := rowOk_ord h
  have HS : Hid (Calls _ _ _ _ _) := refStart_ok hr h
  obtain ⟨a, n, cap, rfl⟩ := rd_slice hr
  clear hr h
  go_enter Try.func35, Try.ntmps35
  go_wp2_with fail
  refine HS.out.mono ?_
  rintro e w2 ⟨a2, m2, c2, rfl, own2, hb2⟩
  have hm2 : m2 ≤ 514 := by rw [own2.1]; exact HO.out
  go_wp2_with (at_builtin; refine wpList_append_new rfl _ _ rfl w.heap.size a2 m2 c2 _ rfl own2 [_] 1 rfl [255] rfl rfl (by omega) hb2.size ?_; intro a3 m3 c3 w3 own3 hb3)
  go_ret2
  exact ⟨a3, m3, c3, rfl, own3, hb2.trans hb3⟩
set_option maxRecDepth 100000 in
theorem refBehind_bad {v : Value} {bs : List Nat} {w : World} (hr : Rd w v bs) (h : ¬ RowOk bs) :
    Calls Try.prog 35 #[v] w fun e w' => e = .returned (.tuple #[.slice none 0 0, .int .i64 20]) ∧ w' = w := by
  have HS : Hid (Calls _ _ _ _ _) := refStart_bad hr h
  obtain ⟨a, n, cap, rfl⟩ := rd_slice hr
  clear hr h
  go_enter Try.func35, Try.ntmps35
  go_wp2_with fail
  refine HS.out.mono ?_
  rintro e w2 ⟨rfl, rfl⟩
  go_wp2
  go_ret2
  exact ⟨rfl, rfl⟩
set_option maxRecDepth 100000 in
theorem refNumber_any (a b : Int) (w : World) : Calls Try.prog 57 #[.int .i64 a, .int .i64 b] w fun e w' => e = .returned (.int .i64 (cmpI a b)) ∧ w' = w := by
  by_cases h1 : a < b
  · go_enter Try.func57, Try.ntmps57
    go_wp2
    go_ret
    exact ⟨by unfold cmpI; rw [if_pos (by omega)]; rfl, rfl⟩
  · have h1' : b ≤ a := by omega
    by_cases h2 : b < a
    · go_enter Try.func57, Try.ntmps57
      go_wp2
      go_ret
      exact ⟨by unfold cmpI; rw [if_neg (by omega), if_pos (by omega)]; rfl, rfl⟩
    · have h2' : a ≤ b := by omega
      go_enter Try.func57, Try.ntmps57
      go_wp2
      go_ret
      exact ⟨by unfold cmpI; rw [if_neg (by omega), if_neg (by omega)]; rfl, rfl⟩
set_option maxRecDepth 100000 in
set_option maxHeartbeats 1000000 in
theorem refBytesOrd_any {va vb : Value} {xs ys : List Nat} {w : World} (ha : Rd w va xs) (hb : Rd w vb ys) :
    Calls Try.prog 37 #[va, vb] w fun e w' => e = .returned (.int .i64 (ordC xs ys)) ∧ Below w.heap.size w w' := by
  obtain ⟨a, n, cap, rfl⟩ := rd_slice ha
  obtain ⟨b, m, capb, rfl⟩ := rd_slice hb
  obtain ⟨hn, _, _, hn48⟩ := rd_lens ha
  obtain ⟨hm, _, _, hm48⟩ := rd_lens hb
  have HN : Hid (n = xs.length) := hn
  have HM : Hid (m = ys.length) := hm
  clear hn hm
  go_enter Try.func37, Try.ntmps37
  go_wp2
  go_loopw [5] (fun i wr => ∃ t : Nat, t ≤ n ∧ t ≤ m ∧ i = .int .i64 (t : Int) ∧ ordC xs ys = ordC (xs.drop t) (ys.drop t) ∧ Below w.heap.size w wr) (fun i _ => n - (intOf i).toNat)
  case atStart => exact ⟨0, by omega, by omega, rfl, rfl, Below.refl _ _⟩
  case round =>
    obtain ⟨t, htn, htm, rfl, hord, hbk⟩ := hrel
    have HO : Hid (ordC xs ys = ordC (xs.drop t) (ys.drop t)) := hord
    clear hord
    by_cases hin : t < n ∧ t < m
    · obtain ⟨h1, h2⟩ := hin
      have h1' : (t : Int) < (n : Int) := by omega
      have h2' : (t : Int) < (m : Int) := by omega
      rcases rd_some ha with ⟨_, h0, _⟩ | ⟨ba, oa, rfl⟩
      · omega
      rcases rd_some hb with ⟨_, h0, _⟩ | ⟨bb, ob, rfl⟩
      · omega
      obtain ⟨ca0, cal⟩ := rd_cell ha t h1
      obtain ⟨cb0, cbl⟩ := rd_cell hb t h2
      have ca : wr.cell? ⟨ba, oa + t, none⟩ = some (.int .u8 ((xs.getD t 0 : Nat) : Int)) := by
        rw [hbk.cell (p := ⟨ba, oa + t, none⟩) (World.block_lt_of_cell? w _ ca0)]; exact ca0
      have cb : wr.cell? ⟨bb, ob + t, none⟩ = some (.int .u8 ((ys.getD t 0 : Nat) : Int)) := by
        rw [hbk.cell (p := ⟨bb, ob + t, none⟩) (World.block_lt_of_cell? w _ cb0)]; exact cb0
      have da := drop_cons xs t (by rw [← HN.out]; exact h1)
      have db := drop_cons ys t (by rw [← HM.out]; exact h2)
      obtain ⟨x, hx⟩ : ∃ x, x = xs.getD t 0 := ⟨_, rfl⟩
      obtain ⟨y, hy⟩ : ∃ y, y = ys.getD t 0 := ⟨_, rfl⟩
      rw [← hx] at ca cal da
      rw [← hy] at cb cbl db
      have HOO : Hid (ordC xs ys = if x < y then -1 else if y < x then 1 else ordC (xs.drop (t + 1)) (ys.drop (t + 1))) := by
        unfold Hid; rw [HO.out, da, db]; rfl
      clear hx hy da db ca0 cb0
      have ht0 : (0 : Int) ≤ (t : Int) := by omega
      by_cases hxy : x < y
      · have hxy' : (x : Int) < (y : Int) := by omega
        have HR : Hid (ordC xs ys = -1) := by unfold Hid; rw [HOO.out, if_pos hxy]
        go_wp2
        go_quiet (fail)
        go_wp2
        go_ret
        rw [HR.out]
        exact ⟨rfl, below_drewN hbk _⟩
      · have hxy' : (y : Int) ≤ (x : Int) := by omega
        by_cases hyx : y < x
        · have hyx' : (y : Int) < (x : Int) := by omega
          have HR : Hid (ordC xs ys = 1) := by unfold Hid; rw [HOO.out, if_neg hxy, if_pos hyx]
          go_wp2
          go_quiet (fail)
          go_wp2
          go_quiet (fail)
          go_wp2
          go_ret
          rw [HR.out]
          exact ⟨rfl, below_drewN (below_drewN hbk _) _⟩
        · have hyx' : (x : Int) ≤ (y : Int) := by omega
          have HR : Hid (ordC xs ys = ordC (xs.drop (t + 1)) (ys.drop (t + 1))) := by unfold Hid; rw [HOO.out, if_neg hxy, if_neg hyx]
          go_wp2
          go_quiet (fail)
          go_wp2
          go_quiet (fail)
          go_wp2
          go_roundw
          case rel => exact ⟨t + 1, by omega, by omega, by go_num, HR.out, below_drewN hbk _⟩
          case measure => simp [intOf]; omega
    · have HR : Hid (ordC xs ys = if n < m then -1 else if m < n then 1 else 0) := by
        unfold Hid
        rw [HO.out]
        by_cases h1 : t < n
        · have h2 : m = t := by
            by_cases h : t < m
            · exact absurd ⟨h1, h⟩ hin
            · omega
          have e1 : ys.drop t = [] := by rw [← h2, HM.out]; simp
          rw [e1, drop_cons xs t (by rw [← HN.out]; exact h1), if_neg (by omega), if_pos (by omega)]
          rfl
        · have h1' : n = t := by omega
          have e1 : xs.drop t = [] := by rw [← h1', HN.out]; simp
          rw [e1]
          by_cases h2 : t < m
          · rw [drop_cons ys t (by rw [← HM.out]; exact h2), if_pos (by omega)]
            rfl
          · have e2 : ys.drop t = [] := by rw [show t = m by omega, HM.out]; simp
            rw [e2, if_neg (by omega), if_neg (by omega)]
            rfl
      by_cases h1 : t < n
      · have h1' : (t : Int) < (n : Int) := by omega
        have h2' : (m : Int) ≤ (t : Int) := by
          by_cases h : t < m
          · exact absurd ⟨h1, h⟩ hin
          · omega
        have hR := HR.out
        rw [if_neg (by omega), if_pos (by omega)] at hR
        have HR2 : Hid (ordC xs ys = 1) := hR
        clear hR hin
        have hd2 : decide ((t : Int) < (m : Int)) = false := by simp; omega
        go_wp2_with fail
        refine (refNumber_any _ _ _).mono ?_
        rintro e w9 ⟨rfl, rfl⟩
        rw [show cmpI (n : Int) (m : Int) = 1 by unfold cmpI; rw [if_neg (by omega), if_pos (by omega)]]
        go_wp2
        go_ret
        rw [HR2.out]
        exact ⟨rfl, hbk⟩
      · have h1' : (n : Int) ≤ (t : Int) := by omega
        have hd : decide ((t : Int) < (n : Int)) = false := by simp; omega
        clear hin
        by_cases hnm : n < m
        · have hnm' : (n : Int) < (m : Int) := by omega
          have hR := HR.out
          rw [if_pos hnm] at hR
          have HR2 : Hid (ordC xs ys = -1) := hR
          clear hR
          go_wp2_with fail
          refine (refNumber_any _ _ _).mono ?_
          rintro e w9 ⟨rfl, rfl⟩
          rw [show cmpI (n : Int) (m : Int) = -1 by unfold cmpI; rw [if_pos (by omega)]]
          go_wp2
          go_ret
          rw [HR2.out]
          exact ⟨rfl, hbk⟩
        · have hnm' : (m : Int) ≤ (n : Int) := by omega
          have hmn' : (n : Int) ≤ (m : Int) := by omega
          have hR := HR.out
          rw [if_neg hnm, if_neg (by omega)] at hR
          have HR2 : Hid (ordC xs ys = 0) := hR
          clear hR
          go_wp2_with fail
          refine (refNumber_any _ _ _).mono ?_
          rintro e w9 ⟨rfl, rfl⟩
          rw [show cmpI (n : Int) (m : Int) = 0 by unfold cmpI; rw [if_neg (by omega), if_neg (by omega)]]
          go_wp2
          go_ret
          rw [HR2.out]
          exact ⟨rfl, hbk⟩


theorem ordC_prefix (a x : List Nat) : ordC a (a ++ x) = if x = [] then 0 else -1 := by
  induction a with
  | nil => cases x <;> simp [ordC]
  | cons c a ih => simp [ordC, ih]
theorem ordC_app (a x y : List Nat) : ordC (a ++ x) (a ++ y) = ordC x y := by
  induction a with
  | nil => rfl
  | cons c a ih => simp [ordC, ih]
/-- A key's bytes behind its row. -/
theorem key_rest {e : EntD} (hc : checkS e = 0) : ∃ f r, keyL e = ordL e.row ++ f :: r ∧ f < 255 := by
  have := (check_facts hc).2.1
  refine ⟨e.fam.toNat, _, by rw [keyL_parts]; rfl, by omega⟩
theorem own_begins {e : EntD} (hc : checkS e = 0) (r : List Nat) : (e.row = r) ↔ ((ordL r).length ≤ (keyL e).length ∧ (keyL e).take (ordL r).length = ordL r) := by
  obtain ⟨f, q, hk, hf⟩ := key_rest hc
  constructor
  · rintro rfl
    rw [hk]
    simp
  · rintro ⟨h1, h2⟩
    by_cases h : ordC r e.row = 0
    · exact (ordC_eq _ _ h).symm
    · exfalso
      have e1 : keyL e = ordL r ++ (keyL e).drop (ordL r).length := by
        conv => lhs; rw [← List.take_append_drop (ordL r).length (keyL e)]
        rw [h2]
      have e2 := ordC_ordL r e.row ((keyL e).drop (ordL r).length) (f :: q) h
      rw [← hk, ← e1, ordC_self] at e2
      exact h e2.symm
theorem own_inside {e : EntD} (hc : checkS e = 0) (r : List Nat) : (e.row = r) ↔ (ordC (ordL r) (keyL e) ≤ 0 ∧ ordC (keyL e) (ordL r ++ [255]) < 0) := by
  obtain ⟨f, q, hk, hf⟩ := key_rest hc
  constructor
  · rintro rfl
    rw [hk, ordC_prefix, ordC_app]
    constructor
    · simp
    · simp only [ordC]; rw [if_pos hf]; decide
  · rintro ⟨h1, h2⟩
    by_cases h : ordC r e.row = 0
    · exact (ordC_eq _ _ h).symm
    · exfalso
      have e1 := ordC_ordL r e.row [] (f :: q) h
      have e2 := ordC_ordL e.row r (f :: q) [255] (by rw [ordC_swap]; omega)
      rw [List.append_nil, ← hk] at e1
      have e3 := ordC_swap r e.row
      rw [← hk, e3] at e2
      rw [e1] at h1
      rw [e2] at h2
      omega
end Go.Proofs.Ythpdlclgiggekaa
