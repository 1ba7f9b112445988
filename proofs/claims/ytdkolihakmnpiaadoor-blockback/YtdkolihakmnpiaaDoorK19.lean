import Derived.Test.YtdkolihakmnpiaaDoorK18
namespace Go.Proofs.YtdkolihakmnpiaaDoor
open Go.RowKit Go.Shelf
set_option linter.unusedVariables false

theorem com_split : ∀ (a b : List Nat), ∃ c a' b', a = c ++ a' ∧ b = c ++ b' ∧ c.length = comL a b ∧ ∀ x t y u, a' = x :: t → b' = y :: u → x ≠ y
  | [], b => ⟨[], [], b, rfl, rfl, by cases b <;> rfl, fun x t y u h => by cases h⟩
  | x :: a, [] => ⟨[], x :: a, [], rfl, rfl, rfl, fun _ _ _ _ _ h => by cases h⟩
  | x :: a, y :: b => by
    by_cases h : x = y
    · subst h
      obtain ⟨c, a', b', h1, h2, h3, h4⟩ := com_split a b
      exact ⟨x :: c, a', b', by rw [h1]; rfl, by rw [h2]; rfl, by simp [comL, h3], h4⟩
    · refine ⟨[], x :: a, y :: b, rfl, rfl, ?_, fun x' t y' u h1 h2 => ?_⟩
      · simp [comL, h]
      · cases h1; cases h2; exact h
theorem com_pre : ∀ (c a b : List Nat), comL (c ++ a) (c ++ b) = c.length + comL a b
  | [], a, b => by simp
  | x :: c, a, b => by simp [comL, com_pre c a b]; omega
theorem lt_cons {x : Nat} {t b : List Nat} (h : ordC (x :: t) b < 0) (hn : ∀ y u, b = y :: u → x ≠ y) : ∃ y u, b = y :: u ∧ x < y := by
  cases b with
  | nil => simp [ordC] at h
  | cons y u =>
    have := hn y u rfl
    refine ⟨y, u, rfl, ?_⟩
    simp only [ordC] at h
    split at h
    · assumption
    · split at h
      · omega
      · omega
theorem seek_more {p k key : List Nat} (hlt : ordC p key < 0) (h : comL p key < comL p k) : ordC k key < 0 ∧ comL k key = comL p key := by
  obtain ⟨c, p1, y1, e1, e2, e3, e4⟩ := com_split p key
  obtain ⟨d, p2, k2, f1, f2, f3, f4⟩ := com_split p k
  have hcd : ∃ x d', d = c ++ x :: d' := by
    have h1 : c ++ p1 = d ++ p2 := e1.symm.trans f1
    rcases List.append_eq_append_iff.1 h1 with ⟨q, h2, h3⟩ | ⟨q, h2, h3⟩
    · cases q with
      | nil => rw [List.append_nil] at h2; rw [h2] at f3; omega
      | cons x q => exact ⟨x, q, h2⟩
    · rw [h2, List.length_append] at e3; omega
  obtain ⟨x, d', hd⟩ := hcd
  have hp1 : p1 = x :: (d' ++ p2) := by
    have : c ++ p1 = c ++ (x :: (d' ++ p2)) := by rw [← e1, f1, hd]; simp
    exact List.append_cancel_left this
  have hl : ordC p1 y1 < 0 := by
    rw [e1, e2, ordC_pre] at hlt
    exact hlt
  rw [hp1] at hl
  obtain ⟨y, u, hy, hxy⟩ := lt_cons hl (fun y u hy => e4 x _ y u hp1 hy)
  have hk : k = c ++ (x :: (d' ++ k2)) := by rw [f2, hd]; simp
  refine ⟨?_, ?_⟩
  · rw [hk, e2, ordC_pre, hy]
    simp [ordC, hxy]
  · rw [← e3]
    conv => lhs; rw [hk, e2, com_pre, hy]
    simp [comL]
    omega
theorem seek_less {p k key : List Nat} (hpk : ordC p k < 0) (h : comL p k < comL p key) : 0 < ordC k key := by
  obtain ⟨d, y1, k1, e1, e2, e3, e4⟩ := com_split p k
  obtain ⟨c, p2, y2, f1, f2, f3, f4⟩ := com_split p key
  have hcd : ∃ x c', c = d ++ x :: c' := by
    have h1 : d ++ y1 = c ++ p2 := e1.symm.trans f1
    rcases List.append_eq_append_iff.1 h1 with ⟨q, h2, h3⟩ | ⟨q, h2, h3⟩
    · cases q with
      | nil => rw [List.append_nil] at h2; rw [h2] at f3; omega
      | cons x q => exact ⟨x, q, h2⟩
    · rw [h2, List.length_append] at e3; omega
  obtain ⟨x, c', hc⟩ := hcd
  have hp1 : y1 = x :: (c' ++ p2) := by
    have : d ++ y1 = d ++ (x :: (c' ++ p2)) := by rw [← e1, f1, hc]; simp
    exact List.append_cancel_left this
  have hl : ordC y1 k1 < 0 := by
    rw [e1, e2, ordC_pre] at hpk
    exact hpk
  rw [hp1] at hl
  obtain ⟨y, u, hy, hxy⟩ := lt_cons hl (fun y u hy => e4 x _ y u hp1 hy)
  have hkey : key = d ++ (x :: (c' ++ y2)) := by rw [f2, hc]; simp
  rw [hkey, e2, ordC_pre, hy]
  simp only [ordC]
  rw [if_neg (by omega), if_pos hxy]
  omega
theorem seek_same {p k key : List Nat} {n : Nat} (h1 : n = comL p k ∨ n = 0) (h2 : n = comL p key ∨ n = 0) : ordC k key = ordC (k.drop n) (key.drop n) ∧ comL k key = n + comL (k.drop n) (key.drop n) ∧ n ≤ key.length ∧ n ≤ k.length := by
  have ht : k.take n = key.take n := by
    rcases h1 with h1 | h1
    · rcases h2 with h2 | h2
      · have := com_take p k
        have := com_take p key
        rw [← h1] at *
        rw [← h2] at this
        simp_all
      · rw [h2]; simp
    · rw [h1]; simp
  have hl : n ≤ k.length ∧ n ≤ key.length := by
    rcases h1 with h1 | h1
    · rcases h2 with h2 | h2
      · exact ⟨by rw [h1]; exact (comL_le _ _).2, by rw [h2]; exact (comL_le _ _).2⟩
      · omega
    · omega
  refine ⟨?_, ?_, hl.2, hl.1⟩
  · conv => lhs; rw [← List.take_append_drop n k, ← List.take_append_drop n key, ht]
    rw [ordC_pre]
  · conv => lhs; rw [← List.take_append_drop n k, ← List.take_append_drop n key, ht]
    rw [com_pre, List.length_take]
    omega
end Go.Proofs.YtdkolihakmnpiaaDoor

namespace Go.Proofs.YtdkolihakmnpiaaDoor
open Go.RowKit Go.Shelf
set_option linter.unusedVariables false

theorem take_next {l : List (List Nat × List Nat)} {j : Nat} {kv : List Nat × List Nat} (h : l[j]? = some kv) : l.take (j + 1) = l.take j ++ [kv] := by
  rw [List.take_add_one, h]; rfl
theorem fold_next (r : Nat) {l : List (List Nat × List Nat)} {j : Nat} {kv : List Nat × List Nat} (h : l[j]? = some kv) : foldB r Bs.zero (l.take (j + 1)) = addB r (foldB r Bs.zero (l.take j)) kv.1 kv.2 := by
  rw [take_next h, foldB_app]; rfl
structure SkI (r q : Nat) (l : List (List Nat × List Nat)) (key : List Nat) (j sm : Nat) : Prop where
  lo : ∀ x kv, x < j → l[x]? = some kv → ordC kv.1 key < 0
  at_ : (j = q * r ∧ sm = 0) ∨ (q * r < j ∧ sm = comL (foldB r Bs.zero (l.take j)).la key ∧ ordC (foldB r Bs.zero (l.take j)).la key < 0)
  le : sm ≤ key.length
theorem SkI.next {r q : Nat} {l : List (List Nat × List Nat)} {key : List Nat} {j sm sn : Nat} {kv : List Nat × List Nat} (h : SkI r q l key j sm) (hk : l[j]? = some kv) (hlt : ordC kv.1 key < 0) (hn : comL kv.1 key = sn) : SkI r q l key (j + 1) sn := by
  refine ⟨fun x kv' hx hq => ?_, .inr ⟨?_, ?_, ?_⟩, ?_⟩
  · by_cases hxj : x = j
    · subst hxj; rw [hk] at hq; cases hq; exact hlt
    · exact h.lo x kv' (by omega) hq
  · rcases h.at_ with k | k <;> omega
  · rw [fold_next r hk]; simp only [addB]; exact hn.symm
  · rw [fold_next r hk]; exact hlt
  · rw [← hn]; exact (comL_le _ _).2
theorem skI_step {r q : Nat} {l : List (List Nat × List Nat)} {E P key : List Nat} {j sm : Nat} {kv : List Nat × List Nat} (hL : Blad r l E P) (h : SkI r q l key j sm) (hj : j < (q + 1) * r) (hk : l[j]? = some kv) (sh : Nat) (hsh : shOf r (foldB r Bs.zero (l.take j)) kv.1 = sh) :
    (sm < sh → SkI r q l key (j + 1) sm ∧ ordC kv.1 key < 0) ∧ (sh < sm → 0 < ordC kv.1 key) ∧ (sh = sm → ordC kv.1 key = ordC (kv.1.drop sh) (key.drop sm) ∧ (ordC (kv.1.drop sh) (key.drop sm) < 0 → SkI r q l key (j + 1) (sm + comL (kv.1.drop sh) (key.drop sm)))) := by
  have hjl := (List.getElem?_eq_some_iff.1 hk).1
  have hn : (foldB r Bs.zero (l.take j)).n = j := by rw [foldB_n]; simp [Bs.zero]; omega
  have hup : ordC (foldB r Bs.zero (l.take j)).la kv.1 < 0 := by rw [fold_last]; exact up_at hL.up hk
  have hr1 := hL.r1
  rw [Nat.add_mul, Nat.one_mul] at hj
  rcases h.at_ with ⟨h1, h2⟩ | ⟨h1, h2, h3⟩
  · have h0 : sh = 0 := by
      rw [← hsh]; unfold shOf; rw [hn, h1, if_pos (Nat.mul_mod_left _ _)]
    subst h0 h2
    refine ⟨fun k => absurd k (by omega), fun k => absurd k (by omega), fun _ => ?_⟩
    simp only [List.drop_zero, Nat.zero_add]
    exact ⟨trivial, fun k => h.next hk k rfl⟩
  · have hne : j % r ≠ 0 := by
      obtain ⟨d, rfl⟩ : ∃ d, j = q * r + d := ⟨j - q * r, by omega⟩
      rw [Nat.add_comm, Nat.add_mul_mod_self_right, Nat.mod_eq_of_lt (by omega)]
      omega
    have hs : sh = comL (foldB r Bs.zero (l.take j)).la kv.1 := by
      rw [← hsh]; unfold shOf; rw [hn, if_neg hne]
    refine ⟨fun k => ?_, fun k => ?_, fun k => ?_⟩
    · obtain ⟨a, b⟩ := seek_more h3 (k := kv.1) (by omega)
      exact ⟨h.next hk a (by omega), a⟩
    · exact seek_less hup (by omega)
    · obtain ⟨a, b, c, d⟩ := seek_same (p := (foldB r Bs.zero (l.take j)).la) (k := kv.1) (key := key) (n := sh) (.inl hs) (.inl (by omega))
      subst k
      exact ⟨a, fun k => h.next hk (by rw [a]; exact k) b⟩
structure SkA (l : List (List Nat × List Nat)) (key : List Nat) (n : Nat) : Prop where
  le : n ≤ l.length
  lo : ∀ x kv, l[x]? = some kv → x < n → ordC kv.1 key < 0
  hi : ∀ x kv, l[x]? = some kv → n ≤ x → 0 ≤ ordC kv.1 key
theorem up_hi {l : List (List Nat × List Nat)} (hu : Up [] l) {key : List Nat} {n : Nat} {kn : List Nat × List Nat} (hn : l[n]? = some kn) (h : 0 ≤ ordC kn.1 key) (x : Nat) (kv : List Nat × List Nat) (hx : l[x]? = some kv) (hle : n ≤ x) : 0 ≤ ordC kv.1 key := by
  by_cases e : n = x
  · subst e; rw [hn] at hx; cases hx; exact h
  · have h1 := up_lt l [] n x kn kv hu (by omega) hn hx
    by_cases hc : 0 ≤ ordC kv.1 key
    · exact hc
    · have := tri_ordC kn.1 kv.1 key
      unfold Tri at this
      have := ordC_small kn.1 kv.1
      have := ordC_small kv.1 key
      have := ordC_small kn.1 key
      omega
theorem up_lo {l : List (List Nat × List Nat)} (hu : Up [] l) {key : List Nat} {n : Nat} {kn : List Nat × List Nat} (hn : l[n]? = some kn) (h : ordC kn.1 key < 0) (x : Nat) (kv : List Nat × List Nat) (hx : l[x]? = some kv) (hle : x ≤ n) : ordC kv.1 key < 0 := by
  by_cases e : x = n
  · subst e; rw [hn] at hx; cases hx; exact h
  · have h1 := up_lt l [] x n kv kn hu (by omega) hx hn
    have := tri_ordC kv.1 kn.1 key
    unfold Tri at this
    have := ordC_small kv.1 kn.1
    have := ordC_small kv.1 key
    have := ordC_small kn.1 key
    omega
theorem skI_first {r : Nat} {l : List (List Nat × List Nat)} {E P key : List Nat} (hL : Blad r l E P) (q : Nat) (hq : q * r < l.length) (h : notLow r l key q = false) : SkI r q l key (q * r) 0 := by
  refine ⟨fun x kv hx hk => ?_, .inl ⟨rfl, rfl⟩, Nat.zero_le _⟩
  unfold notLow at h
  rw [List.getElem?_eq_getElem hq] at h
  simp only [Option.getD_some, decide_eq_false_iff_not] at h
  exact up_lo hL.up (List.getElem?_eq_getElem hq) (by omega) x kv hk (by omega)
theorem skA_end {r : Nat} {l : List (List Nat × List Nat)} {E P key : List Nat} {q j sm : Nat} (hL : Blad r l E P) (h : SkI r q l key j sm) (hj : j = min ((q + 1) * r) l.length) (hf : ∀ k, q + 1 ≤ k → k * r < l.length → notLow r l key k = true) : SkA l key j := by
  refine ⟨by omega, fun x kv hk hx => h.lo x kv hx hk, fun x kv hk hx => ?_⟩
  have hxl := (List.getElem?_eq_some_iff.1 hk).1
  have hlt : (q + 1) * r < l.length := by omega
  have := hf (q + 1) (Nat.le_refl _) hlt
  unfold notLow at this
  rw [List.getElem?_eq_getElem hlt] at this
  simp only [Option.getD_some, decide_eq_true_eq] at this
  exact up_hi hL.up (List.getElem?_eq_getElem hlt) this x kv hk (by omega)
theorem skA_here {r : Nat} {l : List (List Nat × List Nat)} {E P key : List Nat} {q j sm : Nat} {kv : List Nat × List Nat} (hL : Blad r l E P) (h : SkI r q l key j sm) (hk : l[j]? = some kv) (h0 : 0 ≤ ordC kv.1 key) : SkA l key j :=
  ⟨by have := (List.getElem?_eq_some_iff.1 hk).1; omega, fun x kv hx hl => h.lo x kv hl hx, fun x kv hx hl => up_hi hL.up hk h0 x kv hx hl⟩
end Go.Proofs.YtdkolihakmnpiaaDoor
