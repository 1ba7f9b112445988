import Derived.Test.YtjcpjpjccoeakaaJ05
import Derived.Test.YtjcpjpjccoeakaaJ10
import Derived.Test.YtjcpjpjccoeakaaJ07
import Derived.Deep.QuietTactic
import Derived.BigQuiet
import Derived.Deep.DeepAppendRoom
import Derived.Maps.AppendAt
namespace Go.Proofs.Ytjcpjpjccoeakaa
open Go.RowKit
set_option linter.unusedVariables false

/-- Two lists are told apart at one place, or are the same. -/
def Dif (xs ys : List Nat) (c : Int) : Prop :=
  (c = 0 ∧ xs = ys) ∨ (c = -1 ∧ ∃ p x y r s, xs = p ++ x :: r ∧ ys = p ++ y :: s ∧ x < y) ∨ (c = 1 ∧ ∃ p x y r s, xs = p ++ x :: r ∧ ys = p ++ y :: s ∧ y < x)
theorem Dif.more {xs ys : List Nat} {c : Int} (h : Dif xs ys c) (hc : c ≠ 0) (u v : List Nat) : Dif (xs ++ u) (ys ++ v) c := by
  rcases h with ⟨h, _⟩ | ⟨h, p, x, y, r, s, rfl, rfl, hx⟩ | ⟨h, p, x, y, r, s, rfl, rfl, hx⟩
  · exact absurd h hc
  · exact .inr (.inl ⟨h, p, x, y, r ++ u, s ++ v, by simp, by simp, hx⟩)
  · exact .inr (.inr ⟨h, p, x, y, r ++ u, s ++ v, by simp, by simp, hx⟩)
theorem Dif.ahead {u v : List Nat} {c : Int} (h : Dif u v c) (xs : List Nat) : Dif (xs ++ u) (xs ++ v) c := by
  rcases h with ⟨h, rfl⟩ | ⟨h, p, x, y, r, s, rfl, rfl, hx⟩ | ⟨h, p, x, y, r, s, rfl, rfl, hx⟩
  · exact .inl ⟨h, rfl⟩
  · exact .inr (.inl ⟨h, xs ++ p, x, y, r, s, by simp, by simp, hx⟩)
  · exact .inr (.inr ⟨h, xs ++ p, x, y, r, s, by simp, by simp, hx⟩)
theorem Dif.cons {xs ys u v : List Nat} {c : Int} {l : List Int} (h : Dif xs ys c) (k : c = 0 → Dif u v (firstNZ l)) : Dif (xs ++ u) (ys ++ v) (firstNZ (c :: l)) := by
  unfold firstNZ
  by_cases hc : c = 0
  · rw [if_pos hc]
    rcases h with ⟨_, rfl⟩ | ⟨h, _⟩ | ⟨h, _⟩
    · exact (k hc).ahead xs
    · omega
    · omega
  · rw [if_neg hc]
    exact h.more hc u v
theorem dif_ordC : ∀ (xs ys : List Nat), (¬ xs <+: ys ∧ ¬ ys <+: xs) ∨ xs = ys → Dif xs ys (ordC xs ys)
  | [], ys, h => by
    rcases h with h | rfl
    · exact absurd (List.nil_prefix) h.1
    · exact .inl ⟨ordC_self _, rfl⟩
  | x :: xs, [], h => by
    rcases h with h | h
    · exact absurd (List.nil_prefix) h.2
    · cases h
  | x :: xs, y :: ys, h => by
    unfold ordC
    by_cases h1 : x < y
    · rw [if_pos h1]
      exact .inr (.inl ⟨rfl, [], x, y, xs, ys, rfl, rfl, h1⟩)
    · rw [if_neg h1]
      by_cases h2 : y < x
      · rw [if_pos h2]
        exact .inr (.inr ⟨rfl, [], x, y, xs, ys, rfl, rfl, h2⟩)
      · rw [if_neg h2]
        obtain rfl : x = y := by omega
        have := dif_ordC xs ys (by
          rcases h with ⟨h3, h4⟩ | h
          · exact .inl ⟨fun k => h3 (List.cons_prefix_cons.2 ⟨rfl, k⟩), fun k => h4 (List.cons_prefix_cons.2 ⟨rfl, k⟩)⟩
          · exact .inr (by simpa using h))
        exact this.ahead [x]
theorem dif_len {xs ys : List Nat} (h : xs.length = ys.length) : Dif xs ys (ordC xs ys) := by
  refine dif_ordC xs ys ?_
  by_cases e : xs = ys
  · exact .inr e
  · exact .inl ⟨fun k => e (k.eq_of_length h), fun k => e (k.eq_of_length h.symm).symm⟩
theorem dif_ordL (a b : List Nat) : Dif (ordL a) (ordL b) (ordC a b) := by
  rw [← ordC_ordL0]
  refine dif_ordC _ _ ?_
  by_cases e : ordC a b = 0
  · exact .inr (by rw [ordC_eq a b e])
  · have e2 : ordC b a ≠ 0 := by rw [ordC_swap]; omega
    exact .inl ⟨fun k => ordL_free a b e ⟨k.length_le, (List.prefix_iff_eq_take.1 k)⟩, fun k => ordL_free b a e2 ⟨k.length_le, (List.prefix_iff_eq_take.1 k)⟩⟩
theorem dif_one (m n : Nat) : Dif [m] [n] (cmpI (m : Int) (n : Int)) := by
  have e : ordC [m] [n] = cmpI (m : Int) (n : Int) := by
    simp only [ordC, cmpI]
    repeat' split
    all_goals omega
  rw [← e]
  exact dif_len rfl
theorem dif_fall (m n : Nat) (hm : m < 9223372036854775808) (hn : n < 9223372036854775808) : Dif (be8 (9223372036854775807 - m)) (be8 (9223372036854775807 - n)) (cmpI (n : Int) (m : Int)) := by
  have e : ordC (be8 (9223372036854775807 - m)) (be8 (9223372036854775807 - n)) = cmpI (n : Int) (m : Int) := by
    rw [ordC_be8 _ _ (by omega) (by omega)]
    simp only [cmpN, cmpI]
    repeat' split
    all_goals omega
  rw [← e]
  exact dif_len rfl

theorem keyL_parts (e : EntD) : keyL e = ordL e.row ++ ([e.fam.toNat] ++ ([mark e.kind 5] ++ ((if e.kind = 5 then [] else ordL e.qual ++ [mark e.kind 4]) ++ (be8 (9223372036854775807 - e.ts.toNat) ++ (be8 (9223372036854775807 - e.seq.toNat) ++ ([e.kind.toNat] ++ [])))))) := by
  simp [keyL]

theorem key_dif {a b : EntD} (ha : checkS a = 0) (hb : checkS b = 0) : Dif (keyL a) (keyL b) (compareS a b) := by
  obtain ⟨_, fa, _, qa, ta, sa, ka, _⟩ := check_facts ha
  obtain ⟨_, fb, _, qb, tb, sb, kb, _⟩ := check_facts hb
  rw [keyL_parts, keyL_parts]
  unfold compareS cmpsS
  have tail : Dif (be8 (9223372036854775807 - a.ts.toNat) ++ (be8 (9223372036854775807 - a.seq.toNat) ++ ([a.kind.toNat] ++ []))) (be8 (9223372036854775807 - b.ts.toNat) ++ (be8 (9223372036854775807 - b.seq.toNat) ++ ([b.kind.toNat] ++ []))) (firstNZ [cmpI b.ts a.ts, cmpI b.seq a.seq, cmpI a.kind b.kind]) := by
    have d1 := dif_fall a.ts.toNat b.ts.toNat (by omega) (by omega)
    have d2 := dif_fall a.seq.toNat b.seq.toNat (by omega) (by omega)
    have d3 := dif_one a.kind.toNat b.kind.toNat
    rw [Int.toNat_of_nonneg (by omega), Int.toNat_of_nonneg (by omega)] at d1 d2 d3
    exact d1.cons fun _ => d2.cons fun _ => d3.cons fun _ => .inl ⟨rfl, rfl⟩
  have dm := dif_one a.fam.toNat b.fam.toNat
  rw [Int.toNat_of_nonneg (by omega), Int.toNat_of_nonneg (by omega)] at dm
  refine (dif_ordL a.row b.row).cons fun _ => dm.cons fun _ => (dif_one _ _).cons fun h5 => ?_
  by_cases k5 : a.kind = 5
  · by_cases l5 : b.kind = 5
    · rw [if_pos k5, if_pos l5, qa k5, qb l5]
      have e : aheadS a b 4 = 0 := by simp [aheadS, mark, k5, l5, cmpI]
      rw [e]
      simpa [firstNZ, ordC] using tail
    · exfalso
      simp [mark, k5, l5, cmpI] at h5
  · by_cases l5 : b.kind = 5
    · exfalso
      simp [mark, k5, l5, cmpI] at h5
    · rw [if_neg k5, if_neg l5, List.append_assoc, List.append_assoc]
      exact (dif_ordL a.qual b.qual).cons fun _ => (dif_one _ _).cons fun _ => tail

theorem dif_end {xs ys : List Nat} {c : Int} {t : Nat} (h : Dif xs ys c) (ht : xs.take t = ys.take t) (h1 : t ≤ xs.length) (h2 : t ≤ ys.length) (h3 : t = xs.length ∨ t = ys.length) : c = 0 ∧ xs.length = ys.length := by
  have key : ∀ (p r s : List Nat) (x y : Nat), xs = p ++ x :: r → ys = p ++ y :: s → x ≠ y → False := by
    intro p r s x y e1 e2 hne
    have hp : p.length < t := by
      rcases h3 with h | h
      · rw [h, e1]; simp
      · rw [h, e2]; simp
    have e3 : (xs.take t)[p.length]? = (ys.take t)[p.length]? := by rw [ht]
    rw [List.getElem?_take_of_lt hp, List.getElem?_take_of_lt hp, e1, e2] at e3
    simp at e3
    exact hne e3
  rcases h with ⟨h, rfl⟩ | ⟨h, p, x, y, r, s, e1, e2, hx⟩ | ⟨h, p, x, y, r, s, e1, e2, hx⟩
  · exact ⟨h, rfl⟩
  · exact (key p r s x y e1 e2 (by omega)).elim
  · exact (key p r s x y e1 e2 (by omega)).elim
theorem dif_at {xs ys : List Nat} {c : Int} {t : Nat} (h : Dif xs ys c) (ht : xs.take t = ys.take t) (h1 : t < xs.length) (h2 : t < ys.length) (hne : xs.getD t 0 ≠ ys.getD t 0) : (c = -1 ∧ xs.getD t 0 < ys.getD t 0) ∨ (c = 1 ∧ ys.getD t 0 < xs.getD t 0) := by
  have key : ∀ (p r s : List Nat) (x y : Nat), xs = p ++ x :: r → ys = p ++ y :: s → x ≠ y → xs.getD t 0 = x ∧ ys.getD t 0 = y := by
    intro p r s x y e1 e2 hxy
    have hp : p.length = t := by
      rcases Nat.lt_trichotomy p.length t with h | h | h
      · have e3 : (xs.take t)[p.length]? = (ys.take t)[p.length]? := by rw [ht]
        rw [List.getElem?_take_of_lt h, List.getElem?_take_of_lt h, e1, e2] at e3
        simp at e3
        exact absurd e3 hxy
      · exact h
      · exfalso
        apply hne
        rw [e1, e2]
        simp [List.getD, List.getElem?_append_left h]
    subst hp
    rw [e1, e2]
    simp [List.getD]
  rcases h with ⟨h, rfl⟩ | ⟨h, p, x, y, r, s, e1, e2, hx⟩ | ⟨h, p, x, y, r, s, e1, e2, hx⟩
  · exact absurd rfl hne
  · obtain ⟨g1, g2⟩ := key p r s x y e1 e2 (by omega)
    exact .inl ⟨h, by omega⟩
  · obtain ⟨g1, g2⟩ := key p r s x y e1 e2 (by omega)
    exact .inr ⟨h, by omega⟩

end Go.Proofs.Ytjcpjpjccoeakaa

namespace Go.Proofs.Ytjcpjpjccoeakaa
open Go.RowKit
set_option linter.unusedVariables false

/-- May a row be that long? -/
def RowOk (bs : List Nat) : Prop := 1 ≤ bs.length ∧ bs.length ≤ 256
theorem rowOk_ord {bs : List Nat} (h : RowOk bs) : (ordL bs).length ≤ 514 := by
  have := ordL_len bs
  have c : bs.count 0 ≤ bs.length := List.count_le_length
  have := h.2
  omega

set_option maxRecDepth 100000 in
theorem start_ok {v : Value} {bs : List Nat} {w : World} (hr : Rd w v bs) (h : RowOk bs) :
    Calls Try.prog 32 #[v] w fun e w' => ∃ a m c, e = .returned (.tuple #[.slice a m c, .int .i64 0]) ∧ Own w' w.heap.size (.slice a m c) m (ordL bs) ∧ Below w.heap.size w w' := by
  have hol := rowOk_ord h
  obtain ⟨a, n, cap, rfl⟩ := rd_slice hr
  obtain ⟨hn, _, _, hl48⟩ := rd_lens hr
  have d : decide (0 < n ∧ n ≤ 256) = true := by have := h.1; have := h.2; simp; omega
  have HC : Hid (∀ w, Calls Try.prog 62 #[.slice a n cap] w fun e w' => e = .returned (.bool true) ∧ w' = w) := fun w => by rw [← d]; exact isRow_any hl48
  clear d hn
  go_enter Try.func32, Try.ntmps32
  go_wp2_with fail
  refine (HC.out _).mono ?_
  rintro e w1 ⟨rfl, rfl⟩
  go_wp2_with fail
  refine (ordered_any hr (by omega)).mono ?_
  rintro e w2 ⟨a2, m2, c2, rfl, own2, hb2⟩
  go_wp2
  go_ret2
  exact ⟨a2, m2, c2, rfl, own2, hb2⟩
set_option maxRecDepth 100000 in
theorem start_bad {v : Value} {bs : List Nat} {w : World} (hr : Rd w v bs) (h : ¬ RowOk bs) :
    Calls Try.prog 32 #[v] w fun e w' => e = .returned (.tuple #[.slice none 0 0, .int .i64 20]) ∧ w' = w := by
  obtain ⟨a, n, cap, rfl⟩ := rd_slice hr
  obtain ⟨hn, _, _, hl48⟩ := rd_lens hr
  have d : decide (0 < n ∧ n ≤ 256) = false := by
    have : ¬ (0 < n ∧ n ≤ 256) := fun k => h ⟨by omega, by omega⟩
    simpa using this
  have HC : Hid (∀ w, Calls Try.prog 62 #[.slice a n cap] w fun e w' => e = .returned (.bool false) ∧ w' = w) := fun w => by rw [← d]; exact isRow_any hl48
  clear d hn h
  go_enter Try.func32, Try.ntmps32
  go_wp2_with fail
  refine (HC.out _).mono ?_
  rintro e w1 ⟨rfl, rfl⟩
  go_wp2
  go_ret2
  exact ⟨rfl, rfl⟩
set_option maxRecDepth 100000 in
theorem behind_ok {v : Value} {bs : List Nat} {w : World} (hr : Rd w v bs) (h : RowOk bs) :
    Calls Try.prog 33 #[v] w fun e w' => ∃ a m c, e = .returned (.tuple #[.slice a m c, .int .i64 0]) ∧ Own w' w.heap.size (.slice a m c) m (ordL bs ++ [255]) ∧ Below w.heap.size w w' := by
  have HO : Hid ((ordL bs).length ≤ 514) := rowOk_ord h
  have HS : Hid (Calls _ _ _ _ _) := start_ok hr h
  obtain ⟨a, n, cap, rfl⟩ := rd_slice hr
  clear hr h
  go_enter Try.func33, Try.ntmps33
  go_wp2_with fail
  refine HS.out.mono ?_
  rintro e w2 ⟨a2, m2, c2, rfl, own2, hb2⟩
  have hm2 : m2 ≤ 514 := by rw [own2.1]; exact HO.out
  go_wp2_with (at_builtin; refine wpList_append_new rfl _ _ rfl w.heap.size a2 m2 c2 _ rfl own2 [_] 1 rfl [255] rfl rfl (by omega) hb2.size ?_; intro a3 m3 c3 w3 own3 hb3)
  go_ret2
  exact ⟨a3, m3, c3, rfl, own3, hb2.trans hb3⟩
set_option maxRecDepth 100000 in
theorem behind_bad {v : Value} {bs : List Nat} {w : World} (hr : Rd w v bs) (h : ¬ RowOk bs) :
    Calls Try.prog 33 #[v] w fun e w' => e = .returned (.tuple #[.slice none 0 0, .int .i64 20]) ∧ w' = w := by
  have HS : Hid (Calls _ _ _ _ _) := start_bad hr h
  obtain ⟨a, n, cap, rfl⟩ := rd_slice hr
  clear hr h
  go_enter Try.func33, Try.ntmps33
  go_wp2_with fail
  refine HS.out.mono ?_
  rintro e w2 ⟨rfl, rfl⟩
  go_wp2
  go_ret2
  exact ⟨rfl, rfl⟩

set_option maxRecDepth 100000 in
theorem refOut_out (n lo hi : Int) (w : World) (h : n < lo ∨ hi < n) : Calls Try.prog 53 #[.int .i64 n, .int .i64 lo, .int .i64 hi] w fun e w' => e = .returned (.bool true) ∧ w' = w := by
  by_cases h1 : n < lo
  · have d1 : decide (n < lo) = true := by simpa using h1
    clear h
    go_enter Try.func53, Try.ntmps53
    go_wp2
    go_ret
    exact ⟨by first | rfl | simp [d1], rfl⟩
  · have d1 : decide (n < lo) = false := by simpa using h1
    have h2 : hi < n := by omega
    have d2 : decide (hi < n) = true := by simpa using h2
    clear h
    go_enter Try.func53, Try.ntmps53
    go_wp2
    go_ret
    exact ⟨by first | rfl | simp [d1, d2], rfl⟩
set_option maxRecDepth 100000 in
theorem refStart_ok {v : Value} {bs : List Nat} {w : World} (hr : Rd w v bs) (h : RowOk bs) :
    Calls Try.prog 34 #[v] w fun e w' => ∃ a m c, e = .returned (.tuple #[.slice a m c, .int .i64 0]) ∧ Own w' w.heap.size (.slice a m c) m (ordL bs) ∧ Below w.heap.size w w' := by
  have hol := rowOk_ord h
  obtain ⟨a, n, cap, rfl⟩ := rd_slice hr
  obtain ⟨hn, _, _, hl48⟩ := rd_lens hr
  have i1 : (1 : Int) ≤ (n : Int) := by have := h.1; omega
  have i2 : (n : Int) ≤ 256 := by have := h.2; omega
  clear hn h
  go_enter Try.func34, Try.ntmps34
  go_wp2_with fail
  refine (refOut_in _ _ _ _ i1 i2).mono ?_
  rintro e w1 ⟨rfl, rfl⟩
  go_wp2_with fail
  refine (refOrdered_any hr (by omega)).mono ?_
  rintro e w2 ⟨a2, m2, c2, rfl, own2, hb2⟩
  go_wp2
  go_ret2
  exact ⟨a2, m2, c2, rfl, own2, hb2⟩
set_option maxRecDepth 100000 in
theorem refStart_bad {v : Value} {bs : List Nat} {w : World} (hr : Rd w v bs) (h : ¬ RowOk bs) :
    Calls Try.prog 34 #[v] w fun e w' => e = .returned (.tuple #[.slice none 0 0, .int .i64 20]) ∧ w' = w := by
  obtain ⟨a, n, cap, rfl⟩ := rd_slice hr
  obtain ⟨hn, _, _, hl48⟩ := rd_lens hr
  have i1 : (n : Int) < 1 ∨ (256 : Int) < (n : Int) := by
    by_cases k : n < 1
    · left; omega
    · right
      have : ¬ (n ≤ 256) := fun k2 => h ⟨by omega, by omega⟩
      omega
  have HI : Hid ((n : Int) < 1 ∨ (256 : Int) < (n : Int)) := i1
  clear hn h i1
  go_enter Try.func34, Try.ntmps34
  go_wp2_with fail
  refine (refOut_out _ _ _ _ HI.out).mono ?_
  rintro e w1 ⟨rfl, rfl⟩
  go_wp2
  go_ret2
  exact ⟨rfl, rfl⟩
set_option maxRecDepth 100000 in
theorem refBehind_ok {v : Value} {bs : List Nat} {w : World} (hr : Rd w v bs) (h : RowOk bs) :
    Calls Try.prog 35 #[v] w fun e w' => ∃ a m c, e = .returned (.tuple #[.slice a m c, .int .i64 0]) ∧ Own w' w.heap.size (.slice a m c) m (ordL bs ++ [255]) ∧ Below w.heap.size w w' := by
  have HO : Hid ((ordL bs).length ≤ 514) := rowOk_ord h
  have HS : Hid (Calls _ _ _ _ _) := refStart_ok hr h
  obtain ⟨a, n, cap, rfl⟩ := rd_slice hr
  clear hr h
  go_enter Try.func35, Try.ntmps35
  go_wp2_with fail
  refine HS.out.mono ?_
  rintro e w2 ⟨a2, m2, c2, rfl, own2, hb2⟩
  have hm2 : m2 ≤ 514 := by rw [own2.1]; exact HO.out
  go_wp2_with (at_builtin; refine wpList_append_new rfl _ _ rfl w.heap.size a2 m2 c2 _ rfl own2 [_] 1 rfl [255] rfl rfl (by omega) hb2.size ?_; intro a3 m3 c3 w3 own3 hb3)
  go_ret2
  exact ⟨a3, m3, c3, rfl, own3, hb2.trans hb3⟩
set_option maxRecDepth 100000 in
theorem refBehind_bad {v : Value} {bs : List Nat} {w : World} (hr : Rd w v bs) (h : ¬ RowOk bs) :
    Calls Try.prog 35 #[v] w fun e w' => e = .returned (.tuple #[.slice none 0 0, .int .i64 20]) ∧ w' = w := by
  have HS : Hid (Calls _ _ _ _ _) := refStart_bad hr h
  obtain ⟨a, n, cap, rfl⟩ := rd_slice hr
  clear hr h
  go_enter Try.func35, Try.ntmps35
  go_wp2_with fail
  refine HS.out.mono ?_
  rintro e w2 ⟨rfl, rfl⟩
  go_wp2
  go_ret2
  exact ⟨rfl, rfl⟩
set_option maxRecDepth 100000 in
theorem refNumber_any (a b : Int) (w : World) : Calls Try.prog 57 #[.int .i64 a, .int .i64 b] w fun e w' => e = .returned (.int .i64 (cmpI a b)) ∧ w' = w := by
  by_cases h1 : a < b
  · go_enter Try.func57, Try.ntmps57
    go_wp2
    go_ret
    exact ⟨by unfold cmpI; rw [if_pos (by omega)]; rfl, rfl⟩
  · have h1' : b ≤ a := by omega
    by_cases h2 : b < a
    · go_enter Try.func57, Try.ntmps57
      go_wp2
      go_ret
      exact ⟨by unfold cmpI; rw [if_neg (by omega), if_pos (by omega)]; rfl, rfl⟩
    · have h2' : a ≤ b := by omega
      go_enter Try.func57, Try.ntmps57
      go_wp2
      go_ret
      exact ⟨by unfold cmpI; rw [if_neg (by omega), if_neg (by omega)]; rfl, rfl⟩
set_option maxRecDepth 100000 in
set_option maxHeartbeats 1000000 in
theorem refBytesOrd_any {va vb : Value} {xs ys : List Nat} {w : World} (ha : Rd w va xs) (hb : Rd w vb ys) :
    Calls Try.prog 37 #[va, vb] w fun e w' => e = .returned (.int .i64 (ordC xs ys)) ∧ Below w.heap.size w w' := by
  obtain ⟨a, n, cap, rfl⟩ := rd_slice ha
  obtain ⟨b, m, capb, rfl⟩ := rd_slice hb
  obtain ⟨hn, _, _, hn48⟩ := rd_lens ha
  obtain ⟨hm, _, _, hm48⟩ := rd_lens hb
  have HN : Hid (n = xs.length) := hn
  have HM : Hid (m = ys.length) := hm
  clear hn hm
  go_enter Try.func37, Try.ntmps37
  go_wp2
  go_loopw [5] (fun i wr => ∃ t : Nat, t ≤ n ∧ t ≤ m ∧ i = .int .i64 (t : Int) ∧ ordC xs ys = ordC (xs.drop t) (ys.drop t) ∧ Below w.heap.size w wr) (fun i _ => n - (intOf i).toNat)
  case atStart => exact ⟨0, by omega, by omega, rfl, rfl, Below.refl _ _⟩
  case round =>
    obtain ⟨t, htn, htm, rfl, hord, hbk⟩ := hrel
    have HO : Hid (ordC xs ys = ordC (xs.drop t) (ys.drop t)) := hord
    clear hord
    by_cases hin : t < n ∧ t < m
    · obtain ⟨h1, h2⟩ := hin
      have h1' : (t : Int) < (n : Int) := by omega
      have h2' : (t : Int) < (m : Int) := by omega
      rcases rd_some ha with ⟨_, h0, _⟩ | ⟨ba, oa, rfl⟩
      · omega
      rcases rd_some hb with ⟨_, h0, _⟩ | ⟨bb, ob, rfl⟩
      · omega
      obtain ⟨ca0, cal⟩ := rd_cell ha t h1
      obtain ⟨cb0, cbl⟩ := rd_cell hb t h2
      have ca : wr.cell? ⟨ba, oa + t, none⟩ = some (.int .u8 ((xs.getD t 0 : Nat) : Int)) := by
        rw [hbk.cell (p := ⟨ba, oa + t, none⟩) (World.block_lt_of_cell? w _ ca0)]; exact ca0
      have cb : wr.cell? ⟨bb, ob + t, none⟩ = some (.int .u8 ((ys.getD t 0 : Nat) : Int)) := by
        rw [hbk.cell (p := ⟨bb, ob + t, none⟩) (World.block_lt_of_cell? w _ cb0)]; exact cb0
      have da := drop_cons xs t (by rw [← HN.out]; exact h1)
      have db := drop_cons ys t (by rw [← HM.out]; exact h2)
      obtain ⟨x, hx⟩ : ∃ x, x = xs.getD t 0 := ⟨_, rfl⟩
      obtain ⟨y, hy⟩ : ∃ y, y = ys.getD t 0 := ⟨_, rfl⟩
      rw [← hx] at ca cal da
      rw [← hy] at cb cbl db
      have HOO : Hid (ordC xs ys = if x < y then -1 else if y < x then 1 else ordC (xs.drop (t + 1)) (ys.drop (t + 1))) := by
        unfold Hid; rw [HO.out, da, db]; rfl
      clear hx hy da db ca0 cb0
      have ht0 : (0 : Int) ≤ (t : Int) := by omega
      by_cases hxy : x < y
      · have hxy' : (x : Int) < (y : Int) := by omega
        have HR : Hid (ordC xs ys = -1) := by unfold Hid; rw [HOO.out, if_pos hxy]
        go_wp2
        go_quiet (fail)
        go_wp2
        go_ret
        rw [HR.out]
        exact ⟨rfl, below_drewN hbk _⟩
      · have hxy' : (y : Int) ≤ (x : Int) := by omega
        by_cases hyx : y < x
        · have hyx' : (y : Int) < (x : Int) := by omega
          have HR : Hid (ordC xs ys = 1) := by unfold Hid; rw [HOO.out, if_neg hxy, if_pos hyx]
          go_wp2
          go_quiet (fail)
          go_wp2
          go_quiet (fail)
          go_wp2
          go_ret
          rw [HR.out]
          exact ⟨rfl, below_drewN (below_drewN hbk _) _⟩
        · have hyx' : (x : Int) ≤ (y : Int) := by omega
          have HR : Hid (ordC xs ys = ordC (xs.drop (t + 1)) (ys.drop (t + 1))) := by unfold Hid; rw [HOO.out, if_neg hxy, if_neg hyx]
          go_wp2
          go_quiet (fail)
          go_wp2
          go_quiet (fail)
          go_wp2
          go_roundw
          case rel => exact ⟨t + 1, by omega, by omega, by go_num, HR.out, below_drewN hbk _⟩
          case measure => simp [intOf]; omega
    · have HR : Hid (ordC xs ys = if n < m then -1 else if m < n then 1 else 0) := by
        unfold Hid
        rw [HO.out]
        by_cases h1 : t < n
        · have h2 : m = t := by
            by_cases h : t < m
            · exact absurd ⟨h1, h⟩ hin
            · omega
          have e1 : ys.drop t = [] := by rw [← h2, HM.out]; simp
          rw [e1, drop_cons xs t (by rw [← HN.out]; exact h1), if_neg (by omega), if_pos (by omega)]
          rfl
        · have h1' : n = t := by omega
          have e1 : xs.drop t = [] := by rw [← h1', HN.out]; simp
          rw [e1]
          by_cases h2 : t < m
          · rw [drop_cons ys t (by rw [← HM.out]; exact h2), if_pos (by omega)]
            rfl
          · have e2 : ys.drop t = [] := by rw [show t = m by omega, HM.out]; simp
            rw [e2, if_neg (by omega), if_neg (by omega)]
            rfl
      by_cases h1 : t < n
      · have h1' : (t : Int) < (n : Int) := by omega
        have h2' : (m : Int) ≤ (t : Int) := by
          by_cases h : t < m
          · exact absurd ⟨h1, h⟩ hin
          · omega
        have hR := HR.out
        rw [if_neg (by omega), if_pos (by omega)] at hR
        have HR2 : Hid (ordC xs ys = 1) := hR
        clear hR hin
        have hd2 : decide ((t : Int) < (m : Int)) = false := by simp; omega
        go_wp2_with fail
        refine (refNumber_any _ _ _).mono ?_
        rintro e w9 ⟨rfl, rfl⟩
        rw [show cmpI (n : Int) (m : Int) = 1 by unfold cmpI; rw [if_neg (by omega), if_pos (by omega)]]
        go_wp2
        go_ret
        rw [HR2.out]
        exact ⟨rfl, hbk⟩
      · have h1' : (n : Int) ≤ (t : Int) := by omega
        have hd : decide ((t : Int) < (n : Int)) = false := by simp; omega
        clear hin
        by_cases hnm : n < m
        · have hnm' : (n : Int) < (m : Int) := by omega
          have hR := HR.out
          rw [if_pos hnm] at hR
          have HR2 : Hid (ordC xs ys = -1) := hR
          clear hR
          go_wp2_with fail
          refine (refNumber_any _ _ _).mono ?_
          rintro e w9 ⟨rfl, rfl⟩
          rw [show cmpI (n : Int) (m : Int) = -1 by unfold cmpI; rw [if_pos (by omega)]]
          go_wp2
          go_ret
          rw [HR2.out]
          exact ⟨rfl, hbk⟩
        · have hnm' : (m : Int) ≤ (n : Int) := by omega
          have hmn' : (n : Int) ≤ (m : Int) := by omega
          have hR := HR.out
          rw [if_neg hnm, if_neg (by omega)] at hR
          have HR2 : Hid (ordC xs ys = 0) := hR
          clear hR
          go_wp2_with fail
          refine (refNumber_any _ _ _).mono ?_
          rintro e w9 ⟨rfl, rfl⟩
          rw [show cmpI (n : Int) (m : Int) = 0 by unfold cmpI; rw [if_neg (by omega), if_neg (by omega)]]
          go_wp2
          go_ret
          rw [HR2.out]
          exact ⟨rfl, hbk⟩


theorem ordC_prefix (a x : List Nat) : ordC a (a ++ x) = if x = [] then 0 else -1 := by
  induction a with
  | nil => cases x <;> simp [ordC]
  | cons c a ih => simp [ordC, ih]
theorem ordC_app (a x y : List Nat) : ordC (a ++ x) (a ++ y) = ordC x y := by
  induction a with
  | nil => rfl
  | cons c a ih => simp [ordC, ih]
/-- A key's bytes behind its row. -/
theorem key_rest {e : EntD} (hc : checkS e = 0) : ∃ f r, keyL e = ordL e.row ++ f :: r ∧ f < 255 := by
  have := (check_facts hc).2.1
  refine ⟨e.fam.toNat, _, by rw [keyL_parts]; rfl, by omega⟩
theorem own_begins {e : EntD} (hc : checkS e = 0) (r : List Nat) : (e.row = r) ↔ ((ordL r).length ≤ (keyL e).length ∧ (keyL e).take (ordL r).length = ordL r) := by
  obtain ⟨f, q, hk, hf⟩ := key_rest hc
  constructor
  · rintro rfl
    rw [hk]
    simp
  · rintro ⟨h1, h2⟩
    by_cases h : ordC r e.row = 0
    · exact (ordC_eq _ _ h).symm
    · exfalso
      have e1 : keyL e = ordL r ++ (keyL e).drop (ordL r).length := by
        conv => lhs; rw [← List.take_append_drop (ordL r).length (keyL e)]
        rw [h2]
      have e2 := ordC_ordL r e.row ((keyL e).drop (ordL r).length) (f :: q) h
      rw [← hk, ← e1, ordC_self] at e2
      exact h e2.symm
theorem own_inside {e : EntD} (hc : checkS e = 0) (r : List Nat) : (e.row = r) ↔ (ordC (ordL r) (keyL e) ≤ 0 ∧ ordC (keyL e) (ordL r ++ [255]) < 0) := by
  obtain ⟨f, q, hk, hf⟩ := key_rest hc
  constructor
  · rintro rfl
    rw [hk, ordC_prefix, ordC_app]
    constructor
    · simp
    · simp only [ordC]; rw [if_pos hf]; decide
  · rintro ⟨h1, h2⟩
    by_cases h : ordC r e.row = 0
    · exact (ordC_eq _ _ h).symm
    · exfalso
      have e1 := ordC_ordL r e.row [] (f :: q) h
      have e2 := ordC_ordL e.row r (f :: q) [255] (by rw [ordC_swap]; omega)
      rw [List.append_nil, ← hk] at e1
      have e3 := ordC_swap r e.row
      rw [← hk, e3] at e2
      rw [e1] at h1
      rw [e2] at h2
      omega
end Go.Proofs.Ytjcpjpjccoeakaa

namespace Go.Proofs.Ytjcpjpjccoeakaa
open Go.RowKit
set_option linter.unusedVariables false

/-- append to what is owned, by bytes that lie somewhere: the old list stays as it was. -/
theorem append_keep {w : World} {B n m c : Nat} {v : Value} {xs bs : List Nat} (ty : TypeId) (hown : Own w B v n xs) (ad : Addr) (hm : m = bs.length) (hnews : ∀ j u, (bv bs)[j]? = some u → w.cell? (ad.add j) = some u) (hp : 0 < m) (hbytes : n + m ≤ 140737488355328) (hB : B ≤ w.heap.size) :
    ∃ v' w', (Builtin.append_ #[33, 33] ty #[v, .slice (some ad) m c]).run Try.prog w = .ok v' w' ∧ Own w' B v' (n + m) (xs ++ bs) ∧ w.grownBy w' v.ownBlock ∧ Own w' B v n xs ∧ (v'.ownBlock = v.ownBlock ∨ v'.ownBlock = some w.heap.size) := by
  obtain ⟨i0, hi, hz0, hz1, hz2⟩ := info_parts info_byte
  have hl : (bv bs).length = m * 1 := by simp [bv, hm]
  obtain ⟨v', w', hr, h2, h3, _⟩ := run_append_own (P := Try.prog) w B 33 ty 5 i0 (.int .u8 0) 1 1 und_bytes hi hz0 hz1 hz2 rfl (by decide) v n (bv xs) hown.2 ad m c (bv bs) hl hnews (bv_oneCell bs) (by unfold maxLen; omega) (by omega) hB
  have o2 : Own w' B v' (n + m) (xs ++ bs) := ⟨by rw [hown.1, hm]; simp, by simpa [bv] using h2⟩
  refine ⟨v', w', hr, o2, h3, ?_⟩
  rcases hown.2.2 with ⟨rfl, h0⟩ | ⟨g, cap, cur, rfl, hg1, hg2, hg3, hg4, hg5, hg6⟩
  · have hx : xs = [] := List.eq_nil_of_length_eq_zero (by rw [← hown.1]; exact h0)
    subst hx h0
    have hr2 := run_append_nil (P := Try.prog) w 33 ty 5 i0 (.int .u8 0) und_bytes hi hz0 ad m c (bv bs) (by rw [hz1]; exact hl) hnews hp (by omega) (by rw [hz2]; omega)
    rw [hr] at hr2
    injection hr2 with e1 e2
    subst e1
    exact ⟨own_nil _ _, .inr rfl⟩
  · by_cases hroom : n + m ≤ cap
    · obtain ⟨w2, hr2, k2, _⟩ := run_append_own_spare (P := Try.prog) w B 33 ty 5 i0 1 und_bytes hi hz1 g n cap (bv xs) hown.2 ad m c (bv bs) hl hnews (bv_oneCell bs) hroom
      rw [hr] at hr2
      injection hr2 with e1 e2
      subst e1 e2
      refine ⟨⟨hown.1, hown.2.1, ?_⟩, .inl rfl⟩
      rcases o2.2.2 with ⟨h5, _⟩ | ⟨g2, cap2, cur2, h5, h6, h7, h8, h9, h10, h11⟩
      · cases h5
      · simp only [Value.slice.injEq, Option.some.injEq] at h5
        obtain ⟨e3, _, rfl⟩ := h5
        obtain rfl : g = g2 := by injection e3
        refine .inr ⟨g, cap, cur2, rfl, h6, h7, hg3, hg4, h10, ?_⟩
        have e4 : cur2.toList.take (n * 1) = (cur2.toList.take ((n + m) * 1)).take (n * 1) := by
          rw [List.take_take, Nat.min_eq_left (by omega)]
        rw [e4, h11, bv_append, List.take_append_of_le_length (by rw [bv_length, ← hown.1]; omega), List.take_of_length_le (by rw [bv_length, ← hown.1]; omega)]
    · have holds : ∀ j u, (bv xs)[j]? = some u → w.cell? ((⟨g, 0, none⟩ : Addr).add j) = some u := hown.2.cells (g := g) rfl
      have hr2 := run_append_grow (P := Try.prog) w 33 ty 5 i0 (.int .u8 0) und_bytes hi hz0 ⟨g, 0, none⟩ n cap (bv xs) (by rw [hz1, bv_length, ← hown.1]; omega) holds ad m c (bv bs) (by rw [hz1]; exact hl) hnews (by omega) (by omega) (by rw [hz2]; exact growslice_fits (by omega) (by omega))
      rw [hr] at hr2
      injection hr2 with e1 e2
      subst e1
      refine ⟨?_, .inr rfl⟩
      refine ⟨hown.1, hown.2.1, .inr ⟨g, cap, cur, rfl, hg1, ?_, hg3, hg4, hg5, hg6⟩⟩
      rw [e2, heap_alloc_old w.drew _ (Array.getElem?_eq_some_iff.1 hg2).1]
      exact hg2


/-- What holds a mark goes on holding it. -/
def Keeps (mk : Nat) (w w' : World) : Prop := ∀ p : Addr, w.cell? p = some (.int .u8 (mk : Int)) → w'.cell? p = some (.int .u8 (mk : Int))
theorem Keeps.refl (mk : Nat) (w : World) : Keeps mk w w := fun _ h => h
theorem Keeps.trans {mk : Nat} {a b c : World} (h : Keeps mk a b) (k : Keeps mk b c) : Keeps mk a c := fun p hp => k p (h p hp)
theorem Keeps.alloc (mk : Nat) (w : World) (o : Obj) : Keeps mk w (w.alloc o) := fun p hp => by
  have hb : Below w.heap.size w (w.alloc o) := (Below.refl _ _).alloc (Nat.le_refl _) o
  rw [hb.cell (World.block_lt_of_cell? w _ hp)]; exact hp
theorem Keeps.below {mk : Nat} {w w' : World} (hb : Below w.heap.size w w') : Keeps mk w w' := fun p hp => by
  rw [hb.cell (World.block_lt_of_cell? w _ hp)]; exact hp
theorem Keeps.rd {mk k : Nat} {w w' : World} {v : Value} (h : Keeps mk w w') (hr : Rd w v (List.replicate k mk)) : Rd w' v (List.replicate k mk) := by
  obtain ⟨h1, a, cap, h2, h3, h4, h5, h6, h7⟩ := hr
  refine ⟨h1, a, cap, h2, h3, h4, h5, h6, ?_⟩
  rcases h7 with h7 | ⟨b, off, rfl, hc⟩
  · exact .inl h7
  · refine .inr ⟨b, off, rfl, fun i hi => ?_⟩
    have e : (List.replicate k mk).getD i 0 = mk := by
      have hi2 : i < k := by simpa using hi
      simp [List.getD, hi2]
    have := hc i hi
    rw [e] at this ⊢
    exact h _ this
theorem grown_trans {a b c : World} {o p : Option Nat} (h : a.grownBy b o) (k : b.grownBy c p) (hp : p = o ∨ ∀ g, p = some g → a.heap.size ≤ g) : a.grownBy c o :=
  ⟨k.os.trans h.os, k.tape.trans h.tape, k.output.trans h.output, Nat.le_trans h.size k.size, fun i hi hne => by
    rw [k.block i (Nat.lt_of_lt_of_le hi h.size) ?_, h.block i hi hne]
    rcases hp with rfl | hp
    · exact hne
    · intro e
      have := hp i e.symm
      omega⟩
theorem grown_alloc (w : World) (o : Obj) (p : Option Nat) : w.grownBy (w.alloc o) p := ⟨rfl, rfl, rfl, by simp, fun k hk _ => by
  have hb : Below w.heap.size w (w.alloc o) := (Below.refl _ _).alloc (Nat.le_refl _) o
  exact hb.block k hk⟩
theorem grown_below {w w' : World} (h : Below w.heap.size w w') (p : Option Nat) : w.grownBy w' p := ⟨h.os, h.tape, h.output, h.size, fun k hk _ => h.block k hk⟩
theorem below_grown {w w' : World} (h : w.grownBy w' none) : Below w.heap.size w w' := ⟨h.os, h.tape, h.output, h.size, fun k hk => h.block k hk (by simp)⟩

/-- append of marks: what held the mark holds it. -/
theorem append_marks {w w' : World} {B n m c mk : Nat} {v v' : Value} {xs : List Nat} (ty : TypeId) (hown : Own w B v n xs) (ad : Addr) (hnews : ∀ j u, (bv (List.replicate m mk))[j]? = some u → w.cell? (ad.add j) = some u) (hp : 0 < m) (hbytes : n + m ≤ 140737488355328)
    (hr : (Builtin.append_ #[33, 33] ty #[v, .slice (some ad) m c]).run Try.prog w = .ok v' w') : Keeps mk w w' := by
  obtain ⟨i0, hi, hz0, hz1, hz2⟩ := info_parts info_byte
  have hl : (bv (List.replicate m mk)).length = m * 1 := by simp [bv]
  rcases hown.2.2 with ⟨rfl, h0⟩ | ⟨g, cap, cur, rfl, hg1, hg2, hg3, hg4, hg5, hg6⟩
  · have hx : xs = [] := List.eq_nil_of_length_eq_zero (by rw [← hown.1]; exact h0)
    subst hx h0
    have hr2 := run_append_nil (P := Try.prog) w 33 ty 5 i0 (.int .u8 0) und_bytes hi hz0 ad m c _ (by rw [hz1]; exact hl) hnews hp (by omega) (by rw [hz2]; omega)
    rw [hr] at hr2
    injection hr2 with e1 e2
    rw [e2]
    exact Keeps.below (((Below.refl w.heap.size w).drew).alloc (Nat.le_refl _) _)
  · by_cases hroom : n + m ≤ cap
    · have hfit : n * i0.size + (bv (List.replicate m mk)).length ≤ cur.size := by rw [hz1, hl, hg5]; omega
      have hr2 := run_append_room (P := Try.prog) w 33 ty 5 i0 und_bytes hi g n cap cur hg2 ad m c _ (by rw [hz1]; exact hl) hnews (bv_oneCell _) hroom hfit
      rw [hr] at hr2
      injection hr2 with e1 e2
      rw [e2]
      intro p hc
      obtain ⟨pb, po, ps⟩ := p
      obtain rfl : ps = none := World.cell?_spot hc
      by_cases hb : pb = g
      · subst hb
        rw [cell_setRow_same w pb po cur _ _ _ hg2]
        have hcur : cur[po]? = some (.int .u8 (mk : Int)) := by simpa [World.cell?, hg2] using hc
        have hlt : po < cur.size := (Array.getElem?_eq_some_iff.1 hcur).1
        have hcl : cur.toList[po]? = some (.int .u8 (mk : Int)) := by simpa using hcur
        simp only [hz1, Nat.mul_one, List.getElem?_toArray, hl] at *
        by_cases h1 : po < n
        · rw [List.append_assoc, List.getElem?_append_left (by simp; omega), List.getElem?_take_of_lt h1]
          exact hcl
        · by_cases h2 : po < n + m
          · rw [List.getElem?_append_left (by simp [bv]; omega), List.getElem?_append_right (by simp; omega)]
            have e : (List.take n cur.toList).length = n := by simp; omega
            rw [e]
            simp [bv, List.getElem?_replicate]
            omega
          · rw [List.getElem?_append_right (by simp [bv]; omega), List.getElem?_drop]
            have e : n + m + (po - (List.take n cur.toList ++ bv (List.replicate m mk)).length) = po := by simp [bv]; omega
            rw [e]
            exact hcl
      · rw [cell_setRow_other w g _ ⟨pb, po, none⟩ hb]
        exact hc
    · have holds : ∀ j u, (bv xs)[j]? = some u → w.cell? ((⟨g, 0, none⟩ : Addr).add j) = some u := hown.2.cells (g := g) rfl
      have hr2 := run_append_grow (P := Try.prog) w 33 ty 5 i0 (.int .u8 0) und_bytes hi hz0 ⟨g, 0, none⟩ n cap (bv xs) (by rw [hz1, bv_length, ← hown.1]; omega) holds ad m c _ (by rw [hz1]; exact hl) hnews (by omega) (by omega) (by rw [hz2]; exact growslice_fits (by omega) (by omega))
      rw [hr] at hr2
      injection hr2 with e1 e2
      rw [e2]
      exact Keeps.below (((Below.refl w.heap.size w).drew).alloc (Nat.le_refl _) _)

/-- append(own, mark, ..): all that is wanted of it. -/
theorem wpList_append_mark {w : World} {ops : Array Oper} {rest : List Oper} {o : Oper} {a : Act} {Q : Exit → Act → World → Prop} (hgd : o.guard = none) (s x : Operand)
    (ho : o.op = .call { callee := .builtin .append, args := #[s, x], argTypes := #[33, 33] })
    (B : Nat) (a0 : Option Addr) (m0 c0 mk : Nat) (acc : List Nat) (hs : a.eval s = .slice a0 m0 c0) (hown : Own w B (.slice a0 m0 c0) m0 acc)
    (vs : List Value) (m : Nat) (hx : a.eval x = .slice (some ⟨w.heap.size, 0, none⟩) m m) (hvs : vs = bv (List.replicate m mk)) (hp : 0 < m)
    (hbytes : m0 + m ≤ 140737488355328) (hB : B ≤ w.heap.size)
    (h : ∀ a' m' c' w', Hid (m' = m0 + m) → Own w' B (.slice a' m' c') m' (acc ++ List.replicate m mk) → w.grownBy w' (Value.slice a0 m0 c0).ownBlock → Own w' B (.slice a0 m0 c0) m0 acc → ((Value.slice a' m' c').ownBlock = (Value.slice a0 m0 c0).ownBlock ∨ ∀ g, (Value.slice a' m' c').ownBlock = some g → w.heap.size ≤ g) → Keeps mk w w' → wpList Try.prog ops Q rest (a.put o.dst (.slice a' m' c')) w') : wpList Try.prog ops Q (o :: rest) a (w.alloc (.cells vs.toArray 5)) := by
  subst hvs
  have ho2 : Own (w.alloc (.cells (bv (List.replicate m mk)).toArray 5)) B (.slice a0 m0 c0) m0 acc := ⟨hown.1, hown.2.alloc _⟩
  obtain ⟨v', w', hr, h1, h2, h3, h4⟩ := append_keep (w := w.alloc (.cells (bv (List.replicate m mk)).toArray 5)) (B := B) (c := m) (bs := List.replicate m mk) o.type ho2 ⟨w.heap.size, 0, none⟩ (by simp) (news_new _ _ _) hp hbytes (by simp; omega)
  have hk := append_marks o.type ho2 ⟨w.heap.size, 0, none⟩ (news_new _ _ _) hp hbytes hr
  obtain ⟨a', c', rfl⟩ := own_form h1.2
  refine wpList_plain hgd fun K hK => ?_
  unfold Oper.wp execOp
  simp only [ho, resolve, invoke, builtin, Sem.run_bind, Sem.run_pure, Result.andThen_ok, List.map_toArray, List.map_cons, List.map_nil, hs, hx, hr]
  refine hK _ _ (h a' _ c' w' (by unfold Hid; rfl) h1 (grown_trans (grown_alloc w _ _) h2 (.inl rfl)) h3 ?_ ((Keeps.alloc mk w _).trans hk))
  rcases h4 with h4 | h4
  · exact .inl h4
  · refine .inr fun g hg => ?_
    rw [h4] at hg
    simp at hg
    omega

end Go.Proofs.Ytjcpjpjccoeakaa
