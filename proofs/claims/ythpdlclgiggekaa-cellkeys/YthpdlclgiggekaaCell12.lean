import Derived.Test.YthpdlclgiggekaaCell11
import Derived.Deep.QuietTactic
import Derived.BigQuiet
namespace Go.Proofs.Ythpdlclgiggekaa
open Go.RowKit
set_option linter.unusedVariables false

theorem ordR_a : ordR plainK 0 = ([114], 3, 0) := by simp [ordR, plainK, rord]
theorem ordR_b : ordR plainK 5 = ([113], 8, 0) := by simp [ordR, plainK, rord]
theorem fallR_a : fallR plainK 9 = (5, 17, 0) := by decide +kernel
theorem fallR_b : fallR plainK 17 = (32, 25, 0) := by decide +kernel
theorem oneR_3 : oneR plainK 3 = (1, 4, false) := rfl
theorem oneR_4 : oneR plainK 4 = (1, 5, false) := rfl
theorem oneR_8 : oneR plainK 8 = (1, 9, false) := rfl
theorem oneR_25 : oneR plainK 25 = (1, 26, false) := rfl
theorem check_plain : checkS ⟨.slice none 0 0, ((1 : Nat) : Int), .slice none 0 0, ((5 : Nat) : Int), ((32 : Nat) : Int), ((1 : Nat) : Int), .slice none 0 0, [114], [113], []⟩ = 0 := by simp [checkS]
theorem parse_plain {w : World} {m c : Nat} {a : Option Addr} (hr : Rd w (.slice a m c) plainK) :
    Calls Try.prog 25 #[.slice a m c] w fun e w' => ∃ ar mr cr aq mq cq, e = .returned (.tuple #[.agg #[.slice ar mr cr, .int .i64 1, .slice aq mq cq, .int .i64 5, .int .i64 32, .int .i64 1, .slice none 0 0], .int .i64 0]) ∧ Below w.heap.size w w' := by
  obtain rfl : m = 26 := (rd_lens hr).1
  refine (parse_read (row := [114]) (qual := [113]) (fam := 1) (ts := 5) (sq := 32) (kd := 1) (p := 26) hr ⟨by intro x hx; simp at hx; omega, by simp⟩ ⟨by intro x hx; simp at hx; omega, by simp⟩
    (fun W g rb rd => entry_plain (fm := 1) (cm := 1) rb rd (by decide) ordR_a oneR_3 oneR_4 (by decide) ordR_b oneR_8 fallR_a fallR_b oneR_25)).mono ?_
  rintro e w1 ⟨_, h2, h3⟩
  obtain ⟨vr, vq, h4, o1, B, _, o2, _⟩ := h2 ⟨by simp [mark], rfl, check_plain⟩
  obtain ⟨ar, cr, rfl⟩ := own_form o1.2
  obtain ⟨aq, cq, rfl⟩ := own_form o2.2
  exact ⟨ar, _, cr, aq, _, cq, h4, h3⟩

theorem take_eq {xs ys : List Nat} {t : Nat} (h1 : t < xs.length) (h2 : t < ys.length) (h : xs.take t = ys.take t) (he : xs.getD t 0 = ys.getD t 0) : xs.take (t + 1) = ys.take (t + 1) := by
  rw [List.take_add_one, List.take_add_one, h, List.getElem?_eq_getElem h1, List.getElem?_eq_getElem h2]
  simp [List.getD, List.getElem?_eq_getElem h1, List.getElem?_eq_getElem h2] at he
  simp [he]

set_option maxRecDepth 100000 in
set_option maxHeartbeats 1000000 in
/-- The law's own comparison, by a loop. -/
theorem alike_any {va vb : Value} {xs ys : List Nat} {w : World} (ha : Rd w va xs) (hb : Rd w vb ys) :
    Calls Try.prog 29 #[va, vb] w fun e w' => e = .returned (.bool (decide (xs = ys))) ∧ Below w.heap.size w w' := by
  obtain ⟨a, n, cap, rfl⟩ := rd_slice ha
  obtain ⟨b, m, capb, rfl⟩ := rd_slice hb
  obtain ⟨hn, _, _, hn48⟩ := rd_lens ha
  obtain ⟨hm, _, _, hm48⟩ := rd_lens hb
  have HN : Hid (n = xs.length) := hn
  have HM : Hid (m = ys.length) := hm
  clear hn hm
  by_cases hnm : n = m
  · subst hnm
    go_enter Try.func29, Try.ntmps29
    go_wp2
    go_loopw [5] (fun i wr => ∃ t : Nat, t ≤ n ∧ i = .int .i64 (t : Int) ∧ xs.take t = ys.take t ∧ Below w.heap.size w wr) (fun i _ => n - (intOf i).toNat)
    case atStart => exact ⟨0, by omega, rfl, rfl, Below.refl _ _⟩
    case round =>
      obtain ⟨t, htn, rfl, heq, hbk⟩ := hrel
      have HQ : Hid (xs.take t = ys.take t) := heq
      clear heq
      by_cases h1 : t < n
      · have h1' : (t : Int) < (n : Int) := by omega
        have ht0 : (0 : Int) ≤ (t : Int) := by omega
        rcases rd_some ha with ⟨_, h0, _⟩ | ⟨ba, oa, rfl⟩
        · omega
        rcases rd_some hb with ⟨_, h0, _⟩ | ⟨bb, ob, rfl⟩
        · omega
        obtain ⟨ca0, cal⟩ := rd_cell ha t h1
        obtain ⟨cb0, cbl⟩ := rd_cell hb t h1
        have ca : wr.cell? ⟨ba, oa + t, none⟩ = some (.int .u8 ((xs.getD t 0 : Nat) : Int)) := by
          rw [hbk.cell (p := ⟨ba, oa + t, none⟩) (World.block_lt_of_cell? w _ ca0)]; exact ca0
        have cb : wr.cell? ⟨bb, ob + t, none⟩ = some (.int .u8 ((ys.getD t 0 : Nat) : Int)) := by
          rw [hbk.cell (p := ⟨bb, ob + t, none⟩) (World.block_lt_of_cell? w _ cb0)]; exact cb0
        have HTE : Hid (xs.getD t 0 = ys.getD t 0 → xs.take (t + 1) = ys.take (t + 1)) := fun e => take_eq (by rw [← HN.out]; exact h1) (by rw [← HM.out]; exact h1) HQ.out e
        have HNE : Hid (xs.getD t 0 ≠ ys.getD t 0 → xs ≠ ys) := fun e h => e (by rw [h])
        obtain ⟨x, hx⟩ : ∃ x, x = xs.getD t 0 := ⟨_, rfl⟩
        obtain ⟨y, hy⟩ : ∃ y, y = ys.getD t 0 := ⟨_, rfl⟩
        rw [← hx] at ca cal HTE HNE
        rw [← hy] at cb cbl HTE HNE
        clear hx hy ca0 cb0
        by_cases hxy : x = y
        · subst hxy
          go_wp2
          go_quiet (fail)
          go_wp2
          go_roundw
          case rel => exact ⟨t + 1, by omega, by go_num, HTE.out trivial, below_drewN hbk _⟩
          case measure => simp [intOf]; omega
        · have hxy' : ¬ ((x : Int) = (y : Int)) := by omega
          go_wp2
          go_quiet (fail)
          go_wp2
          go_ret
          rw [decide_eq_false (HNE.out hxy)]
          exact ⟨rfl, below_drewN hbk _⟩
      · have h1' : (n : Int) ≤ (t : Int) := by omega
        go_wp2
        go_ret
        have e : xs = ys := by
          have := HQ.out
          rw [List.take_of_length_le (by rw [← HN.out]; omega), List.take_of_length_le (by rw [← HM.out]; omega)] at this
          exact this
        rw [decide_eq_true e]
        exact ⟨rfl, hbk⟩
  · have hnm' : ¬ ((n : Int) = (m : Int)) := by omega
    go_enter Try.func29, Try.ntmps29
    go_wp2
    go_ret
    rw [decide_eq_false (fun e => hnm (by rw [HN.out, HM.out, e]))]
    exact ⟨rfl, Below.refl _ _⟩

end Go.Proofs.Ythpdlclgiggekaa
