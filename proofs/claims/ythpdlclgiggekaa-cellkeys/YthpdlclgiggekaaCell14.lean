import Derived.Test.YthpdlclgiggekaaCell5
namespace Go.Proofs.Ythpdlclgiggekaa
open Go.RowKit
set_option linter.unusedVariables false

/-- Two lists are told apart at one place, or are the same. -/
def Dif (xs ys : List Nat) (c : Int) : Prop :=
  (c = 0 ∧ xs = ys) ∨ (c = -1 ∧ ∃ p x y r s, xs = p ++ x :: r ∧ ys = p ++ y :: s ∧ x < y) ∨ (c = 1 ∧ ∃ p x y r s, xs = p ++ x :: r ∧ ys = p ++ y :: s ∧ y < x)
theorem Dif.more {xs ys : List Nat} {c : Int} (h : Dif xs ys c) (hc : c ≠ 0) (u v : List Nat) : Dif (xs ++ u) (ys ++ v) c := by
  rcases h with ⟨h, _⟩ | ⟨h, p, x, y, r, s, rfl, rfl, hx⟩ | ⟨h, p, x, y, r, s, rfl, rfl, hx⟩
  · exact absurd h hc
  · exact .inr (.inl ⟨h, p, x, y, r ++ u, s ++ v, by simp, by simp, hx⟩)
  · exact .inr (.inr ⟨h, p, x, y, r ++ u, s ++ v, by simp, by simp, hx⟩)
theorem Dif.ahead {u v : List Nat} {c : Int} (h : Dif u v c) (xs : List Nat) : Dif (xs ++ u) (xs ++ v) c := by
  rcases h with ⟨h, rfl⟩ | ⟨h, p, x, y, r, s, rfl, rfl, hx⟩ | ⟨h, p, x, y, r, s, rfl, rfl, hx⟩
  · exact .inl ⟨h, rfl⟩
  · exact .inr (.inl ⟨h, xs ++ p, x, y, r, s, by simp, by simp, hx⟩)
  · exact .inr (.inr ⟨h, xs ++ p, x, y, r, s, by simp, by simp, hx⟩)
theorem Dif.cons {xs ys u v : List Nat} {c : Int} {l : List Int} (h : Dif xs ys c) (k : c = 0 → Dif u v (firstNZ l)) : Dif (xs ++ u) (ys ++ v) (firstNZ (c :: l)) := by
  unfold firstNZ
  by_cases hc : c = 0
  · rw [if_pos hc]
    rcases h with ⟨_, rfl⟩ | ⟨h, _⟩ | ⟨h, _⟩
    · exact (k hc).ahead xs
    · omega
    · omega
  · rw [if_neg hc]
    exact h.more hc u v
theorem dif_ordC : ∀ (xs ys : List Nat), (¬ xs <+: ys ∧ ¬ ys <+: xs) ∨ xs = ys → Dif xs ys (ordC xs ys)
  | [], ys, h => by
    rcases h with h | rfl
    · exact absurd (List.nil_prefix) h.1
    · exact .inl ⟨ordC_self _, rfl⟩
  | x :: xs, [], h => by
    rcases h with h | h
    · exact absurd (List.nil_prefix) h.2
    · cases h
  | x :: xs, y :: ys, h => by
    unfold ordC
    by_cases h1 : x < y
    · rw [if_pos h1]
      exact .inr (.inl ⟨rfl, [], x, y, xs, ys, rfl, rfl, h1⟩)
    · rw [if_neg h1]
      by_cases h2 : y < x
      · rw [if_pos h2]
        exact .inr (.inr ⟨rfl, [], x, y, xs, ys, rfl, rfl, h2⟩)
      · rw [if_neg h2]
        obtain rfl : x = y := by omega
        have := dif_ordC xs ys (by
          rcases h with ⟨h3, h4⟩ | h
          · exact .inl ⟨fun k => h3 (List.cons_prefix_cons.2 ⟨rfl, k⟩), fun k => h4 (List.cons_prefix_cons.2 ⟨rfl, k⟩)⟩
          · exact .inr (by simpa using h))
        exact this.ahead [x]
theorem dif_len {xs ys : List Nat} (h : xs.length = ys.length) : Dif xs ys (ordC xs ys) := by
  refine dif_ordC xs ys ?_
  by_cases e : xs = ys
  · exact .inr e
  · exact .inl ⟨fun k => e (k.eq_of_length h), fun k => e (k.eq_of_length h.symm).symm⟩
theorem dif_ordL (a b : List Nat) : Dif (ordL a) (ordL b) (ordC a b) := by
  rw [← ordC_ordL0]
  refine dif_ordC _ _ ?_
  by_cases e : ordC a b = 0
  · exact .inr (by rw [ordC_eq a b e])
  · have e2 : ordC b a ≠ 0 := by rw [ordC_swap]; omega
    exact .inl ⟨fun k => ordL_free a b e ⟨k.length_le, (List.prefix_iff_eq_take.1 k)⟩, fun k => ordL_free b a e2 ⟨k.length_le, (List.prefix_iff_eq_take.1 k)⟩⟩
theorem dif_one (m n : Nat) : Dif [m] [n] (cmpI (m : Int) (n : Int)) := by
  have e : ordC [m] [n] = cmpI (m : Int) (n : Int) := by
    simp only [ordC, cmpI]
    repeat' split
    all_goals omega
  rw [← e]
  exact dif_len rfl
theorem dif_fall (m n : Nat) (hm : m < 9223372036854775808) (hn : n < 9223372036854775808) : Dif (be8 (9223372036854775807 - m)) (be8 (9223372036854775807 - n)) (cmpI (n : Int) (m : Int)) := by
  have e : ordC (be8 (9223372036854775807 - m)) (be8 (9223372036854775807 - n)) = cmpI (n : Int) (m : Int) := by
    rw [ordC_be8 _ _ (by omega) (by omega)]
    simp only [cmpN, cmpI]
    repeat' split
    all_goals omega
  rw [← e]
  exact dif_len rfl

theorem keyL_parts (e : EntD) : keyL e = ordL e.row ++ ([e.fam.toNat] ++ ([mark e.kind 5] ++ ((if e.kind = 5 then [] else ordL e.qual ++ [mark e.kind 4]) ++ (be8 (9223372036854775807 - e.ts.toNat) ++ (be8 (9223372036854775807 - e.seq.toNat) ++ ([e.kind.toNat] ++ [])))))) := by
  simp [keyL]

theorem key_dif {a b : EntD} (ha : checkS a = 0) (hb : checkS b = 0) : Dif (keyL a) (keyL b) (compareS a b) := by
  obtain ⟨_, fa, _, qa, ta, sa, ka, _⟩ := check_facts ha
  obtain ⟨_, fb, _, qb, tb, sb, kb, _⟩ := check_facts hb
  rw [keyL_parts, keyL_parts]
  unfold compareS cmpsS
  have tail : Dif (be8 (9223372036854775807 - a.ts.toNat) ++ (be8 (9223372036854775807 - a.seq.toNat) ++ ([a.kind.toNat] ++ []))) (be8 (9223372036854775807 - b.ts.toNat) ++ (be8 (9223372036854775807 - b.seq.toNat) ++ ([b.kind.toNat] ++ []))) (firstNZ [cmpI b.ts a.ts, cmpI b.seq a.seq, cmpI a.kind b.kind]) := by
    have d1 := dif_fall a.ts.toNat b.ts.toNat (by omega) (by omega)
    have d2 := dif_fall a.seq.toNat b.seq.toNat (by omega) (by omega)
    have d3 := dif_one a.kind.toNat b.kind.toNat
    rw [Int.toNat_of_nonneg (by omega), Int.toNat_of_nonneg (by omega)] at d1 d2 d3
    exact d1.cons fun _ => d2.cons fun _ => d3.cons fun _ => .inl ⟨rfl, rfl⟩
  have dm := dif_one a.fam.toNat b.fam.toNat
  rw [Int.toNat_of_nonneg (by omega), Int.toNat_of_nonneg (by omega)] at dm
  refine (dif_ordL a.row b.row).cons fun _ => dm.cons fun _ => (dif_one _ _).cons fun h5 => ?_
  by_cases k5 : a.kind = 5
  · by_cases l5 : b.kind = 5
    · rw [if_pos k5, if_pos l5, qa k5, qb l5]
      have e : aheadS a b 4 = 0 := by simp [aheadS, mark, k5, l5, cmpI]
      rw [e]
      simpa [firstNZ, ordC] using tail
    · exfalso
      simp [mark, k5, l5, cmpI] at h5
  · by_cases l5 : b.kind = 5
    · exfalso
      simp [mark, k5, l5, cmpI] at h5
    · rw [if_neg k5, if_neg l5, List.append_assoc, List.append_assoc]
      exact (dif_ordL a.qual b.qual).cons fun _ => (dif_one _ _).cons fun _ => tail

theorem dif_end {xs ys : List Nat} {c : Int} {t : Nat} (h : Dif xs ys c) (ht : xs.take t = ys.take t) (h1 : t ≤ xs.length) (h2 : t ≤ ys.length) (h3 : t = xs.length ∨ t = ys.length) : c = 0 ∧ xs.length = ys.length := by
  have key : ∀ (p r s : List Nat) (x y : Nat), xs = p ++ x :: r → ys = p ++ y :: s → x ≠ y → False := by
    intro p r s x y e1 e2 hne
    have hp : p.length < t := by
      rcases h3 with h | h
      · rw [h, e1]; simp
      · rw [h, e2]; simp
    have e3 : (xs.take t)[p.length]? = (ys.take t)[p.length]? := by rw [ht]
    rw [List.getElem?_take_of_lt hp, List.getElem?_take_of_lt hp, e1, e2] at e3
    simp at e3
    exact hne e3
  rcases h with ⟨h, rfl⟩ | ⟨h, p, x, y, r, s, e1, e2, hx⟩ | ⟨h, p, x, y, r, s, e1, e2, hx⟩
  · exact ⟨h, rfl⟩
  · exact (key p r s x y e1 e2 (by omega)).elim
  · exact (key p r s x y e1 e2 (by omega)).elim
theorem dif_at {xs ys : List Nat} {c : Int} {t : Nat} (h : Dif xs ys c) (ht : xs.take t = ys.take t) (h1 : t < xs.length) (h2 : t < ys.length) (hne : xs.getD t 0 ≠ ys.getD t 0) : (c = -1 ∧ xs.getD t 0 < ys.getD t 0) ∨ (c = 1 ∧ ys.getD t 0 < xs.getD t 0) := by
  have key : ∀ (p r s : List Nat) (x y : Nat), xs = p ++ x :: r → ys = p ++ y :: s → x ≠ y → xs.getD t 0 = x ∧ ys.getD t 0 = y := by
    intro p r s x y e1 e2 hxy
    have hp : p.length = t := by
      rcases Nat.lt_trichotomy p.length t with h | h | h
      · have e3 : (xs.take t)[p.length]? = (ys.take t)[p.length]? := by rw [ht]
        rw [List.getElem?_take_of_lt h, List.getElem?_take_of_lt h, e1, e2] at e3
        simp at e3
        exact absurd e3 hxy
      · exact h
      · exfalso
        apply hne
        rw [e1, e2]
        simp [List.getD, List.getElem?_append_left h]
    subst hp
    rw [e1, e2]
    simp [List.getD]
  rcases h with ⟨h, rfl⟩ | ⟨h, p, x, y, r, s, e1, e2, hx⟩ | ⟨h, p, x, y, r, s, e1, e2, hx⟩
  · exact absurd rfl hne
  · obtain ⟨g1, g2⟩ := key p r s x y e1 e2 (by omega)
    exact .inl ⟨h, by omega⟩
  · obtain ⟨g1, g2⟩ := key p r s x y e1 e2 (by omega)
    exact .inr ⟨h, by omega⟩

end Go.Proofs.Ythpdlclgiggekaa
