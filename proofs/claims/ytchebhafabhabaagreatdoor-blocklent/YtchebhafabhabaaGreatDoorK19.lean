import Derived.Test.YtchebhafabhabaaGreatDoorK18
namespace Go.Proofs.YtchebhafabhabaaGreatDoor
open Go.RowKit Go.Shelf
set_option linter.unusedVariables false

theorem com_split : ∀ (a b : List Nat), ∃ c a' b', a = c ++ a' ∧ b = c ++ b' ∧ c.length = comL a b ∧ ∀ x t y u, a' = x :: t → b' = y :: u → x ≠ y
 | [], b => ⟨[], [], b, rfl, rfl, by cases b <;> rfl, fun x t y u h => by cases h⟩
 | x :: a, [] => ⟨[], x :: a, [], rfl, rfl, rfl, fun _ _ _ _ _ h => by cases h⟩
 | x :: a, y :: b => by
  by_cases h : x = y
  ·subst h
   obtain ⟨c, a', b', h1, h2, h3, h4⟩ := com_split a b
   exact ⟨x :: c, a', b', by rw [h1]; rfl, by rw [h2]; rfl, by simp [comL, h3], h4⟩
  ·refine ⟨[], x :: a, y :: b, rfl, rfl, ?_, fun x' t y' u h1 h2 => ?_⟩
   ·simp [comL, h]
   ·cases h1; cases h2; exact h
theorem com_pre : ∀ (c a b : List Nat), comL (c ++ a) (c ++ b) = c.length + comL a b
 | [], a, b => by simp
 | x :: c, a, b => by simp [comL, com_pre c a b]; omega
theorem lt_cons {x : Nat} {t b : List Nat} (h : ordC (x :: t) b < 0) (hn : ∀ y u, b = y :: u → x ≠ y) : ∃ y u, b = y :: u ∧ x < y := by
 cases b with
 | nil => simp [ordC] at h
 | cons y u =>
  have := hn y u rfl
  refine ⟨y, u, rfl, ?_⟩
  simp only [ordC] at h
  split at h
  ·assumption
  ·split at h
   ·omega
   ·omega
theorem seek_more {p k key : List Nat} (hlt : ordC p key < 0) (h : comL p key < comL p k) : ordC k key < 0 ∧ comL k key = comL p key := by
 obtain ⟨c, p1, y1, e1, e2, e3, e4⟩ := com_split p key
 obtain ⟨d, p2, k2, f1, f2, f3, f4⟩ := com_split p k
 have hcd : ∃ x d', d = c ++ x :: d' := by
  have h1 : c ++ p1 = d ++ p2 := e1.symm.trans f1
  rcases List.append_eq_append_iff.1 h1 with ⟨q, h2, h3⟩ | ⟨q, h2, h3⟩
  ·cases q with
   | nil => rw [List.append_nil] at h2; rw [h2] at f3; omega
   | cons x q => exact ⟨x, q, h2⟩
  ·rw [h2, List.length_append] at e3; omega
 obtain ⟨x, d', hd⟩ := hcd
 have hp1 : p1 = x :: (d' ++ p2) := by
  have : c ++ p1 = c ++ (x :: (d' ++ p2)) := by rw [← e1, f1, hd]; simp
  exact List.append_cancel_left this
 have hl : ordC p1 y1 < 0 := by
  rw [e1, e2, ordC_pre] at hlt
  exact hlt
 rw [hp1] at hl
 obtain ⟨y, u, hy, hxy⟩ := lt_cons hl (fun y u hy => e4 x _ y u hp1 hy)
 have hk : k = c ++ (x :: (d' ++ k2)) := by rw [f2, hd]; simp
 refine ⟨?_, ?_⟩
 ·rw [hk, e2, ordC_pre, hy]
  simp [ordC, hxy]
 ·rw [← e3]
  conv => lhs; rw [hk, e2, com_pre, hy]
  simp [comL]
  omega
theorem seek_less {p k key : List Nat} (hpk : ordC p k < 0) (h : comL p k < comL p key) : 0 < ordC k key := by
 obtain ⟨d, y1, k1, e1, e2, e3, e4⟩ := com_split p k
 obtain ⟨c, p2, y2, f1, f2, f3, f4⟩ := com_split p key
 have hcd : ∃ x c', c = d ++ x :: c' := by
  have h1 : d ++ y1 = c ++ p2 := e1.symm.trans f1
  rcases List.append_eq_append_iff.1 h1 with ⟨q, h2, h3⟩ | ⟨q, h2, h3⟩
  ·cases q with
   | nil => rw [List.append_nil] at h2; rw [h2] at f3; omega
   | cons x q => exact ⟨x, q, h2⟩
  ·rw [h2, List.length_append] at e3; omega
 obtain ⟨x, c', hc⟩ := hcd
 have hp1 : y1 = x :: (c' ++ p2) := by
  have : d ++ y1 = d ++ (x :: (c' ++ p2)) := by rw [← e1, f1, hc]; simp
  exact List.append_cancel_left this
 have hl : ordC y1 k1 < 0 := by
  rw [e1, e2, ordC_pre] at hpk
  exact hpk
 rw [hp1] at hl
 obtain ⟨y, u, hy, hxy⟩ := lt_cons hl (fun y u hy => e4 x _ y u hp1 hy)
 have hkey : key = d ++ (x :: (c' ++ y2)) := by rw [f2, hc]; simp
 rw [hkey, e2, ordC_pre, hy]
 simp only [ordC]
 rw [if_neg (by omega), if_pos hxy]
 omega
theorem seek_same {p k key : List Nat} {n : Nat} (h1 : n = comL p k ∨ n = 0) (h2 : n = comL p key ∨ n = 0) : ordC k key = ordC (k.drop n) (key.drop n) ∧ comL k key = n + comL (k.drop n) (key.drop n) ∧ n ≤ key.length ∧ n ≤ k.length := by
 have ht : k.take n = key.take n := by
  rcases h1 with h1 | h1
  ·rcases h2 with h2 | h2
   ·have := com_take p k
    have := com_take p key
    rw [← h1] at *
    rw [← h2] at this
    simp_all
   ·rw [h2]; simp
  ·rw [h1]; simp
 have hl : n ≤ k.length ∧ n ≤ key.length := by
  rcases h1 with h1 | h1
  ·rcases h2 with h2 | h2
   ·exact ⟨by rw [h1]; exact (comL_le _ _).2, by rw [h2]; exact (comL_le _ _).2⟩
   ·omega
  ·omega
 refine ⟨?_, ?_, hl.2, hl.1⟩
 ·conv => lhs; rw [← List.take_append_drop n k, ← List.take_append_drop n key, ht]
  rw [ordC_pre]
 ·conv => lhs; rw [← List.take_append_drop n k, ← List.take_append_drop n key, ht]
  rw [com_pre, List.length_take]
  omega
end Go.Proofs.YtchebhafabhabaaGreatDoor

namespace Go.Proofs.YtchebhafabhabaaGreatDoor
open Go.RowKit Go.Shelf
set_option linter.unusedVariables false

theorem take_next {l : List (List Nat × List Nat)} {j : Nat} {kv : List Nat × List Nat} (h : l[j]? = some kv) : l.take (j + 1) = l.take j ++ [kv] := by
 rw [List.take_add_one, h]; rfl
theorem fold_next (r : Nat) {l : List (List Nat × List Nat)} {j : Nat} {kv : List Nat × List Nat} (h : l[j]? = some kv) : foldB r Bs.zero (l.take (j + 1)) = addB r (foldB r Bs.zero (l.take j)) kv.1 kv.2 := by
 rw [take_next h, foldB_app]; rfl
structure SkI (r q : Nat) (l : List (List Nat × List Nat)) (key : List Nat) (j sm : Nat) : Prop where
 lo : ∀ x kv, x < j → l[x]? = some kv → ordC kv.1 key < 0
 at_ : (j = q * r ∧ sm = 0) ∨ (q * r < j ∧ sm = comL (foldB r Bs.zero (l.take j)).la key ∧ ordC (foldB r Bs.zero (l.take j)).la key < 0)
 le : sm ≤ key.length
theorem SkI.next {r q : Nat} {l : List (List Nat × List Nat)} {key : List Nat} {j sm sn : Nat} {kv : List Nat × List Nat} (h : SkI r q l key j sm) (hk : l[j]? = some kv) (hlt : ordC kv.1 key < 0) (hn : comL kv.1 key = sn) : SkI r q l key (j + 1) sn := by
 refine ⟨fun x kv' hx hq => ?_, .inr ⟨?_, ?_, ?_⟩, ?_⟩
 ·by_cases hxj : x = j
  ·subst hxj; rw [hk] at hq; cases hq; exact hlt
  ·exact h.lo x kv' (by omega) hq
 ·rcases h.at_ with k | k <;> omega
 ·rw [fold_next r hk]; simp only [addB]; exact hn.symm
 ·rw [fold_next r hk]; exact hlt
 ·rw [← hn]; exact (comL_le _ _).2
theorem skI_step {r q : Nat} {l : List (List Nat × List Nat)} {E P key : List Nat} {j sm : Nat} {kv : List Nat × List Nat} (hL : Blad r l E P) (h : SkI r q l key j sm) (hj : j < (q + 1) * r) (hk : l[j]? = some kv) (sh : Nat) (hsh : shOf r (foldB r Bs.zero (l.take j)) kv.1 = sh) :
  (sm < sh → SkI r q l key (j + 1) sm ∧ ordC kv.1 key < 0) ∧ (sh < sm → 0 < ordC kv.1 key) ∧ (sh = sm → ordC kv.1 key = ordC (kv.1.drop sh) (key.drop sm) ∧ (ordC (kv.1.drop sh) (key.drop sm) < 0 → SkI r q l key (j + 1) (sm + comL (kv.1.drop sh) (key.drop sm)))) := by
 have hjl := (List.getElem?_eq_some_iff.1 hk).1
 have hn : (foldB r Bs.zero (l.take j)).n = j := by rw [foldB_n]; simp [Bs.zero]; omega
 have hup : ordC (foldB r Bs.zero (l.take j)).la kv.1 < 0 := by rw [fold_last]; exact up_at hL.up hk
 have hr1 := hL.r1
 rw [Nat.add_mul, Nat.one_mul] at hj
 rcases h.at_ with ⟨h1, h2⟩ | ⟨h1, h2, h3⟩
 ·have h0 : sh = 0 := by
   rw [← hsh]; unfold shOf; rw [hn, h1, if_pos (Nat.mul_mod_left _ _)]
  subst h0 h2
  refine ⟨fun k => absurd k (by omega), fun k => absurd k (by omega), fun _ => ?_⟩
  simp only [List.drop_zero, Nat.zero_add]
  exact ⟨trivial, fun k => h.next hk k rfl⟩
 ·have hne : j % r ≠ 0 := by
   obtain ⟨d, rfl⟩ : ∃ d, j = q * r + d := ⟨j - q * r, by omega⟩
   rw [Nat.add_comm, Nat.add_mul_mod_self_right, Nat.mod_eq_of_lt (by omega)]
   omega
  have hs : sh = comL (foldB r Bs.zero (l.take j)).la kv.1 := by
   rw [← hsh]; unfold shOf; rw [hn, if_neg hne]
  refine ⟨fun k => ?_, fun k => ?_, fun k => ?_⟩
  ·obtain ⟨a, b⟩ := seek_more h3 (k := kv.1) (by omega)
   exact ⟨h.next hk a (by omega), a⟩
  ·exact seek_less hup (by omega)
  ·obtain ⟨a, b, c, d⟩ := seek_same (p := (foldB r Bs.zero (l.take j)).la) (k := kv.1) (key := key) (n := sh) (.inl hs) (.inl (by omega))
   subst k
   exact ⟨a, fun k => h.next hk (by rw [a]; exact k) b⟩
structure SkA (l : List (List Nat × List Nat)) (key : List Nat) (n : Nat) : Prop where
 le : n ≤ l.length
 lo : ∀ x kv, l[x]? = some kv → x < n → ordC kv.1 key < 0
 hi : ∀ x kv, l[x]? = some kv → n ≤ x → 0 ≤ ordC kv.1 key
theorem up_hi {l : List (List Nat × List Nat)} (hu : Up [] l) {key : List Nat} {n : Nat} {kn : List Nat × List Nat} (hn : l[n]? = some kn) (h : 0 ≤ ordC kn.1 key) (x : Nat) (kv : List Nat × List Nat) (hx : l[x]? = some kv) (hle : n ≤ x) : 0 ≤ ordC kv.1 key := by
 by_cases e : n = x
 ·subst e; rw [hn] at hx; cases hx; exact h
 ·have h1 := up_lt l [] n x kn kv hu (by omega) hn hx
  by_cases hc : 0 ≤ ordC kv.1 key
  ·exact hc
  ·have := tri_ordC kn.1 kv.1 key
   unfold Tri at this
   have := ordC_small kn.1 kv.1
   have := ordC_small kv.1 key
   have := ordC_small kn.1 key
   omega
theorem up_lo {l : List (List Nat × List Nat)} (hu : Up [] l) {key : List Nat} {n : Nat} {kn : List Nat × List Nat} (hn : l[n]? = some kn) (h : ordC kn.1 key < 0) (x : Nat) (kv : List Nat × List Nat) (hx : l[x]? = some kv) (hle : x ≤ n) : ordC kv.1 key < 0 := by
 by_cases e : x = n
 ·subst e; rw [hn] at hx; cases hx; exact h
 ·have h1 := up_lt l [] x n kv kn hu (by omega) hx hn
  have := tri_ordC kv.1 kn.1 key
  unfold Tri at this
  have := ordC_small kv.1 kn.1
  have := ordC_small kv.1 key
  have := ordC_small kn.1 key
  omega
theorem skI_first {r : Nat} {l : List (List Nat × List Nat)} {E P key : List Nat} (hL : Blad r l E P) (q : Nat) (hq : q * r < l.length) (h : notLow r l key q = false) : SkI r q l key (q * r) 0 := by
 refine ⟨fun x kv hx hk => ?_, .inl ⟨rfl, rfl⟩, Nat.zero_le _⟩
 unfold notLow at h
 rw [List.getElem?_eq_getElem hq] at h
 simp only [Option.getD_some, decide_eq_false_iff_not] at h
 exact up_lo hL.up (List.getElem?_eq_getElem hq) (by omega) x kv hk (by omega)
theorem skA_end {r : Nat} {l : List (List Nat × List Nat)} {E P key : List Nat} {q j sm : Nat} (hL : Blad r l E P) (h : SkI r q l key j sm) (hj : j = min ((q + 1) * r) l.length) (hf : ∀ k, q + 1 ≤ k → k * r < l.length → notLow r l key k = true) : SkA l key j := by
 refine ⟨by omega, fun x kv hk hx => h.lo x kv hx hk, fun x kv hk hx => ?_⟩
 have hxl := (List.getElem?_eq_some_iff.1 hk).1
 have hlt : (q + 1) * r < l.length := by omega
 have := hf (q + 1) (Nat.le_refl _) hlt
 unfold notLow at this
 rw [List.getElem?_eq_getElem hlt] at this
 simp only [Option.getD_some, decide_eq_true_eq] at this
 exact up_hi hL.up (List.getElem?_eq_getElem hlt) this x kv hk (by omega)
theorem skA_here {r : Nat} {l : List (List Nat × List Nat)} {E P key : List Nat} {q j sm : Nat} {kv : List Nat × List Nat} (hL : Blad r l E P) (h : SkI r q l key j sm) (hk : l[j]? = some kv) (h0 : 0 ≤ ordC kv.1 key) : SkA l key j :=
 ⟨by have := (List.getElem?_eq_some_iff.1 hk).1; omega, fun x kv hx hl => h.lo x kv hl hx, fun x kv hx hl => up_hi hL.up hk h0 x kv hx hl⟩
end Go.Proofs.YtchebhafabhabaaGreatDoor

namespace Go.Proofs.YtchebhafabhabaaGreatDoor
open Go.RowKit Go.Shelf
set_option linter.unusedVariables false

theorem wrapI_ok (z : Int) (h0 : 0 ≤ z) (h1 : z < 9223372036854775808) : IntKind.i64.wrap z = z := by
 exact IntWalk.i64_in _ ⟨by omega, by omega⟩
set_option maxRecDepth 100000 in
set_option maxHeartbeats 4000000 in
theorem seek_any {W : World} {g r b ne ce np cp B : Nat} {E P key : List Nat} {l : List (List Nat × List Nat)} {ak : Option Addr} {kn kc : Nat} (hL : Blad r l E P) (hk : Lk W B g r l.length b ne ce E P np cp) (hkey : Rd W (.slice ak kn kc) key) :
  Calls Tryz.prog 30 #[.pointer (some ⟨g, 0, none⟩), .slice ak kn kc] W fun e w' => (∃ n : Nat, e = .returned (.int .i64 (n : Int)) ∧ SkA l key n) ∧ Below W.heap.size W w' := by
 have HS := Lib.hid (seekRestart_any hL hk hkey)
 have HL := Lib.hid hL
 have HKy := Lib.hid hkey
 have HLk := Lib.hid hk
 have hr1 := hL.r1
 have hr16 := hL.r16
 obtain ⟨L, hLl⟩ : ∃ L, l.length = L := ⟨_, rfl⟩
 have HLl := Lib.hid hLl
 have hL17 : L ≤ 131072 := by rw [← hLl]; have := hL.few; have := hL.size; omega
 have hkn := (rd_lens hkey).1
 have HKn := Lib.hid hkn
 have hk48 := (rd_lens hkey).2
 clear hL hk hkey hLl hkn
 go_enter Tryz.func30, Tryz.ntmps30
 go_wp2
 go_step3
 go_wp2_with fail
 refine Calls.mono HS.out ?_
 rintro z Y ⟨⟨i, rfl, hf⟩, bY⟩
 have HB := Lib.hid bY
 have HF := Lib.hid hf
 by_cases hi : i = 0
 ·subst hi
  have hA : Hid (SkA l key 0) := by
   refine ⟨Nat.zero_le _, fun x kv _ hx => absurd hx (by omega), fun x kv hx _ => ?_⟩
   have hp : 0 < l.length := by have := (List.getElem?_eq_some_iff.1 hx).1; omega
   have h1 : 0 < (l.length + r - 1) / r := Nat.div_pos (by omega) (by omega)
   have h2 := hf.hi 0 (Nat.le_refl _) h1
   unfold notLow at h2
   rw [Nat.zero_mul, List.getElem?_eq_getElem hp] at h2
   simp only [Option.getD_some, decide_eq_true_eq] at h2
   exact up_hi HL.out.up (List.getElem?_eq_getElem hp) h2 x kv hx (Nat.zero_le _)
  clear HS hf bY
  go_wp2
  try rw [Exit.noGoto_ret]
  go_ret
  exact ⟨⟨0, rfl, hA.out⟩, HB.out⟩
 ·have hi0 : ((i : Int) == 0) = false := by rw [beq_eq_false_iff_ne]; omega
  obtain ⟨q, rfl⟩ : ∃ q, i = q + 1 := ⟨i - 1, by omega⟩
  have hqn := hf.le
  have hqr : q * r < L := by
   rw [← HLl.out]
   have h1 : q + 1 ≤ (l.length + r - 1) / r := by omega
   rw [Nat.le_div_iff_mul_le (by omega), Nat.add_mul] at h1
   omega
  have HI := Lib.hid (skI_first (key := key) HL.out q (by rw [HLl.out]; exact hqr) (hf.lo q (by omega)))
  obtain ⟨kv0, hkv0⟩ : ∃ kv, l[q * r]? = some kv := ⟨_, List.getElem?_eq_getElem (by rw [HLl.out]; exact hqr)⟩
  obtain ⟨w0, w1, -⟩ := rec_from HL.out q kv0 hkv0
  have hqP : q * 4 + 4 ≤ P.length := by rw [HL.out.psl]; omega
  have hPl : P.length ≤ 131072 := by have := HL.out.size; omega
  have HPc := Lib.hid (fun (wx : World) (hx : Below W.heap.size W wx) => place_any (HLk.out.box.later hx) (HLk.out.pls.later hx) q hqP hPl)
  obtain ⟨pq, hpq⟩ : ∃ pq, wordAt P q = pq := ⟨_, rfl⟩
  rw [hpq] at HPc w0
  have HPq := Lib.hid w0
  clear hqn hkv0 w0 w1 hqP hPl hpq hf bY HS hi
  have hqi : (q : Int) + 1 - 1 = (q : Int) := by omega
  have hqL : q ≤ 131072 := by
   have : q * 1 ≤ q * r := Nat.mul_le_mul_left q hr1
   omega
  obtain ⟨qr, hqr2⟩ : ∃ qr, q * r = qr := ⟨_, rfl⟩
  have hqri : (q : Int) * (r : Int) = (qr : Int) := by rw [← hqr2]; simp
  have hqr17 : qr ≤ 131072 := by omega
  rw [hqr2] at hqr
  have HQr := Lib.hid hqr2
  have hwq : IntKind.i64.wrap (q : Int) = (q : Int) := wrapI_ok _ (by omega) (by omega)
  have hwqr : IntKind.i64.wrap (qr : Int) = (qr : Int) := wrapI_ok _ (by omega) (by omega)
  have hwqe : IntKind.i64.wrap ((qr : Int) + (r : Int)) = (qr : Int) + (r : Int) := wrapI_ok _ (by omega) (by omega)
  clear hqr2
  go_upto_region 4 with fail
  have BD : Below W.heap.size W Y.drew := HB.out.drew
  refine wp_region_noPanic ?_
  refine wp_region_held_drew (S := fun wx => Below W.heap.size W wx) (by kernel_rfl) BD (fun hHeld => ?_)
  refine wpAnyH_take (i := 0) (oi := { dst := some 17, op := _, type := _, pos := _, after := _, guard := _ }) (v := .int .i64 ((q : Int) + 1)) rfl (by kernel_rfl) (by kernel_rfl) (by kernel_rfl) (fun _ _ _ h => h) (Or.inl ⟨by kernel_rfl, fun wy hy => by (go_simp; first | done | omega)⟩) (by assumption) ?_
  try simp only [Act.put, List.setIfInBounds_toArray, List.set_cons_zero, List.set_cons_succ]
  refine wpAnyH_take (i := 1) (oi := { dst := some 18, op := _, type := _, pos := _, after := _, guard := _ }) (v := .int .i64 (q : Int)) rfl (by kernel_rfl) (by kernel_rfl) (by kernel_rfl) (fun _ _ _ h => h) (Or.inl ⟨by kernel_rfl, fun wy hy => by (go_simp; first | done | omega)⟩) (by assumption) ?_
  try simp only [Act.put, List.setIfInBounds_toArray, List.set_cons_zero, List.set_cons_succ]
  refine wpAnyH_take (i := 2) (oi := { dst := some 19, op := _, type := _, pos := _, after := _, guard := _ }) (v := .pointer (some ⟨g, 0, none⟩)) rfl (by kernel_rfl) (by kernel_rfl) (by kernel_rfl) (fun _ _ _ h => h) (Or.inl ⟨by kernel_rfl, fun wy hy => by (go_simp; first | done | omega)⟩) (by assumption) ?_
  try simp only [Act.put, List.setIfInBounds_toArray, List.set_cons_zero, List.set_cons_succ]
  refine wpAnyH_take (i := 3) (oi := { dst := some 20, op := _, type := _, pos := _, after := _, guard := _ }) (v := .pointer (some ⟨g, 0, none⟩)) rfl (by kernel_rfl) (by kernel_rfl) (by kernel_rfl) (fun _ _ _ h => h) (Or.inl ⟨by kernel_rfl, fun wy hy => by (go_simp; first | done | omega)⟩) (by assumption) ?_
  try simp only [Act.put, List.setIfInBounds_toArray, List.set_cons_zero, List.set_cons_succ]
  refine wpAnyH_take (i := 4) (oi := { dst := some 21, op := _, type := _, pos := _, after := _, guard := _ }) (v := .pointer (some ⟨g, 0, none⟩)) rfl (by kernel_rfl) (by kernel_rfl) (by kernel_rfl) (fun _ _ _ h => h) (Or.inl ⟨by kernel_rfl, fun wy hy => by (go_simp; first | done | omega)⟩) (by assumption) ?_
  try simp only [Act.put, List.setIfInBounds_toArray, List.set_cons_zero, List.set_cons_succ]
  refine wpAnyH_take (i := 5) (oi := { dst := some 22, op := _, type := _, pos := _, after := _, guard := _ }) (v := .int .i64 (r : Int)) rfl (by kernel_rfl) (by kernel_rfl) (by kernel_rfl) (fun _ _ _ h => h) (Or.inl ⟨by kernel_rfl, fun wy hy => by (obtain ⟨q0, q1, q2, q3⟩ := (HLk.out.box.later hy).cells; go_simp; done)⟩) (by assumption) ?_
  try simp only [Act.put, List.setIfInBounds_toArray, List.set_cons_zero, List.set_cons_succ]
  refine wpAnyH_take (i := 6) (oi := { dst := some 23, op := _, type := _, pos := _, after := _, guard := _ }) (v := .int .i64 (qr : Int)) rfl (by kernel_rfl) (by kernel_rfl) (by kernel_rfl) (fun _ _ _ h => h) (Or.inl ⟨by kernel_rfl, fun wy hy => by (go_simp; first | done | omega)⟩) (by assumption) ?_
  try simp only [Act.put, List.setIfInBounds_toArray, List.set_cons_zero, List.set_cons_succ]
  refine wpAnyH_take (i := 7) (oi := { dst := some 24, op := _, type := _, pos := _, after := _, guard := _ }) (v := .pointer (some ⟨g, 0, none⟩)) rfl (by kernel_rfl) (by kernel_rfl) (by kernel_rfl) (fun _ _ _ h => h) (Or.inl ⟨by kernel_rfl, fun wy hy => by (go_simp; first | done | omega)⟩) (by assumption) ?_
  try simp only [Act.put, List.setIfInBounds_toArray, List.set_cons_zero, List.set_cons_succ]
  refine wpAnyH_take (i := 8) (oi := { dst := some 25, op := _, type := _, pos := _, after := _, guard := _ }) (v := .int .i64 ((q : Int) + 1)) rfl (by kernel_rfl) (by kernel_rfl) (by kernel_rfl) (fun _ _ _ h => h) (Or.inl ⟨by kernel_rfl, fun wy hy => by (go_simp; first | done | omega)⟩) (by assumption) ?_
  try simp only [Act.put, List.setIfInBounds_toArray, List.set_cons_zero, List.set_cons_succ]
  refine wpAnyH_take (i := 9) (oi := { dst := some 26, op := _, type := _, pos := _, after := _, guard := _ }) (v := .int .i64 (q : Int)) rfl (by kernel_rfl) (by kernel_rfl) (by kernel_rfl) (fun _ _ _ h => h) (Or.inl ⟨by kernel_rfl, fun wy hy => by (go_simp; first | done | omega)⟩) (by assumption) ?_
  try simp only [Act.put, List.setIfInBounds_toArray, List.set_cons_zero, List.set_cons_succ]
  refine wpAnyH_ready (rs := [10]) (by kernel_rfl) (by simp) ?_
  refine AllReadyH.cons (o := { dst := some 27, op := _, type := _, pos := _, after := _, guard := _ }) rfl (fun KK hK => ?_) AllReadyH.nil
  go_simp
  go_at_call 70
  refine (HPc.out _ BD).mono ?_
  rintro e1 X1 ⟨rfl, hb1⟩
  have bX1 : Below W.heap.size W X1 := BD.trans (hb1.mono BD.size)
  go_wp2_with fail
  refine hK.out _ _ bX1 (fun hHeld => ?_)
  clear hK
  try simp only [Act.put, List.setIfInBounds_toArray, List.set_cons_zero, List.set_cons_succ]
  refine wpAnyH_take (i := 11) (oi := { dst := some 6, op := _, type := _, pos := _, after := _, guard := _ }) (v := .int .i64 (qr : Int)) rfl (by kernel_rfl) (by kernel_rfl) (by kernel_rfl) (fun _ _ _ h => h) (Or.inl ⟨by kernel_rfl, fun wy hy => by (go_simp; first | done | omega)⟩) (by assumption) ?_
  try simp only [Act.put, List.setIfInBounds_toArray, List.set_cons_zero, List.set_cons_succ]
  refine wpAnyH_take (i := 12) (oi := { dst := some 7, op := _, type := _, pos := _, after := _, guard := _ }) (v := .int .i64 (pq : Int)) rfl (by kernel_rfl) (by kernel_rfl) (by kernel_rfl) (fun _ _ _ h => h) (Or.inl ⟨by kernel_rfl, fun wy hy => by (go_simp; first | done | omega)⟩) (by assumption) ?_
  try simp only [Act.put, List.setIfInBounds_toArray, List.set_cons_zero, List.set_cons_succ]
  refine wpAnyH_take (i := 13) (oi := { dst := some 8, op := _, type := _, pos := _, after := _, guard := _ }) (v := .int .i64 0) rfl (by kernel_rfl) (by kernel_rfl) (by kernel_rfl) (fun _ _ _ h => h) (Or.inl ⟨by kernel_rfl, fun wy hy => by (go_simp; first | done | omega)⟩) (by assumption) ?_
  try simp only [Act.put, List.setIfInBounds_toArray, List.set_cons_zero, List.set_cons_succ]
  refine wpAnyH_done (by kernel_rfl) (NoPanic.normal ?_) _
  have HX1 := Lib.hid bX1
  obtain ⟨q0, q1, q2, q3⟩ := (HLk.out.box.later bX1).cells
  have hqe : (q : Int) * (r : Int) + (r : Int) = (qr : Int) + (r : Int) := by omega
  have hqe2 : ((q : Int) + 1) * (r : Int) = (qr : Int) + (r : Int) := by rw [Int.add_mul, Int.one_mul]; exact hqe
  rw [HLl.out] at q1
  clear hHeld bX1 hb1
  go_simp
  go_upto_region 5 with fail
  go_quiet (fail)
  obtain ⟨en, hen⟩ : ∃ en, min (qr + r) L = en := ⟨_, rfl⟩
  have heni : min ((qr : Int) + (r : Int)) (L : Int) = (en : Int) := by omega
  rw [heni]
  have henL : en ≤ L := by omega
  have hqe3 : qr < en := by omega
  have HEn := Lib.hid hen
  clear hen heni hqe hqe2 q0 q1 q2 q3 hwqe hwq hwqr HPc BD
  go_wp2
  go_step3
  go_wp2
  go_loopw [6, 7, 8, 10, 11] (fun nv av sv _ _ wr => ∃ j at_ sm : Nat, nv = .int .i64 (j : Int) ∧ av = .int .i64 (at_ : Int) ∧ sv = .int .i64 (sm : Int) ∧ j ≤ en ∧ sm ≤ kn ∧ Hid (SkI r q l key j sm ∧ at_ = (foldB r Bs.zero (l.take j)).es.length) ∧ Hid (Below W.heap.size W wr)) (fun nv _ _ _ _ _ => en - (intOf nv).toNat)
  case atStart =>
   refine ⟨qr, pq, 0, rfl, rfl, rfl, by omega, Nat.zero_le _, ⟨?_, ?_⟩, ?_⟩
   ·rw [← HQr.out]; exact HI.out
   ·rw [← HQr.out]; exact HPq.out
   ·first | exact HX1.out | exact below_drewN HX1.out _
  case round =>
   obtain ⟨j, at_, sm, rfl, rfl, rfl, hj, hsm, HU, HBw⟩ := hrel
   clear HI HPq HX1 HB
   rename World => Zz
   by_cases hlt : j < en
   ·have hlt2 : (j : Int) < (en : Int) := by omega
    have hjl : j < l.length := by rw [HLl.out]; omega
    obtain ⟨kv, hkv⟩ : ∃ kv, l[j]? = some kv := ⟨_, List.getElem?_eq_getElem hjl⟩
    have hn : (foldB r Bs.zero (l.take j)).n = j := by rw [foldB_n]; simp [Bs.zero]; omega
    obtain ⟨s, hs⟩ : ∃ s, foldB r Bs.zero (l.take j) = s := ⟨_, rfl⟩
    have hat : at_ = s.es.length := by rw [← hs]; exact HU.out.2
    have hd : l.drop j = kv :: l.drop (j + 1) := by
     rw [List.drop_eq_getElem_cons hjl]
     congr 1
     rw [List.getElem?_eq_getElem hjl] at hkv
     exact Option.some.inj hkv
    have hE : E = (foldB r s (kv :: l.drop (j + 1))).es := by rw [← hd, HL.out.es, ← hs, ← foldB_app, List.take_append_drop]
    have hla : s.la.length ≤ s.es.length := by rw [← hs]; exact fold_la r _ _ (Nat.le_refl _)
    obtain ⟨m, hm⟩ := foldB_es r (kv :: l.drop (j + 1)) s
    have hel : s.es.length ≤ E.length := by rw [hE, hm]; simp
    have hsz := HL.out.size
    obtain ⟨a, b2, hrec, htk, hnx⟩ := rec_lay kv _ s E hE hla (by omega)
    obtain ⟨sh, hsh⟩ : ∃ sh, shOf r s kv.1 = sh := ⟨_, rfl⟩
    rw [hsh] at hrec htk
    obtain ⟨K, hK⟩ : ∃ K, kv.1.drop sh = K := ⟨_, rfl⟩
    rw [hK] at hrec htk
    obtain ⟨kl, hkl⟩ : ∃ kl, K.length = kl := ⟨_, rfl⟩
    rw [hkl] at hrec htk
    obtain ⟨vl, hvl⟩ : ∃ vl, kv.2.length = vl := ⟨_, rfl⟩
    rw [hvl] at hrec hnx
    obtain ⟨nx, hnx2⟩ : ∃ nx, b2 + vl = nx := ⟨_, rfl⟩
    have hnx3 : nx = (foldB r Bs.zero (l.take (j + 1))).es.length := by rw [fold_next r hkv, hs, ← hnx2, hnx]
    have hsh17 : sh ≤ 131072 := by have := (com_la r s kv.1 kv.2 hla).1; omega
    have hst := skI_step HL.out HU.out.1 (by rw [Nat.add_mul, Nat.one_mul, HQr.out]; have := HEn.out; omega) hkv sh (by rw [hs]; exact hsh)
    rw [hK] at hst
    rw [← hat] at hrec hel
    have HRr := Lib.hid (fun (wx : World) (hx : Below W.heap.size W wx) => readRecord_any (HLk.out.ents.later hx) at_ (by rw [(rd_lens HLk.out.ents).1]; exact hel))
    have HRec := Lib.hid (And.intro hrec (And.intro htk hnx2))
    have HSt := Lib.hid hst
    have HNx := Lib.hid hnx3
    have HKv := Lib.hid hkv
    have HIj := Lib.hid HU.out.1
    have hat17 : at_ ≤ 131072 := by omega
    obtain ⟨q0, q1, q2, q3⟩ := (HLk.out.box.later HBw.out).cells
    clear hn hs hat hd hE hla hm hel hsz hrec htk hnx hsh hK hkl hvl hnx2 hnx3 hst hkv hjl HU
    go_upto_region 8 with fail
    go_cut [10] (fun rv wx => ∃ gr o1 o2 d1 d2 : Nat, rv = .pointer (some ⟨gr, 0, none⟩) ∧ Hid (RecB wx gr (.int .i64 (sh : Int)) (.slice (some ⟨b, o1, none⟩) kl d1) (.slice (some ⟨b, o2, none⟩) vl d2) (.int .i64 (nx : Int)) ∧ Rd wx (.slice (some ⟨b, o1, none⟩) kl d1) K ∧ Below W.heap.size W wx))
    case first =>
     go_wp2_with fail
     refine Calls.mono (HRr.out _ HBw.out) ?_
     rintro e1 X2 ⟨hb2, h | h⟩
     ·rw [HRec.out.1] at h
      cases h.1
     obtain ⟨sh', rr, vv, hrc, o1, d1, o2, d2, rfl, rd1, rd2⟩ := h
     have heq := HRec.out.1.symm.trans hrc
     simp only [Option.some.injEq, Prod.mk.injEq] at heq
     obtain ⟨rfl, rfl, rfl⟩ := heq
     have bX2 : Below W.heap.size W X2 := HBw.out.trans (hb2.mono HBw.out.size)
     simp only [HRec.out.2.1] at rd1
     simp only [HRec.out.2.2]
     have HRd := Lib.hid rd1
     have HX2 := Lib.hid bX2
     clear hrc rd1 rd2 hb2 bX2
     go_wp2_with fail
     go_meet
     exact ⟨_, o1, o2, d1, d2, rfl, heap_alloc_new X2 _, HRd.out.later ((Below.refl _ _).alloc (Nat.le_refl _) _), HX2.out.alloc HX2.out.size _⟩
    case rest =>
    obtain ⟨gr, o1, o2, d1, d2, rfl, HCut⟩ := hcut
    rename World => Zy
    have HB2 := Lib.hid HCut.out.2.2
    obtain ⟨x0, x1, x2, x3⟩ := HCut.out.1.cells
    clear HRr HRec q0 q1 q2 q3 HBw
    rcases Nat.lt_trichotomy sm sh with hc | hc | hc
    ·have hci : (sm : Int) < (sh : Int) := by omega
     have HZ := Lib.hid (HSt.out.1 hc).1
     clear HSt
     go_wp2
     refine ⟨⟨j + 1, nx, sm, by simp, rfl, rfl, by omega, hsm, ⟨HZ.out, HNx.out⟩, HB2.out⟩, ?_⟩
     show en - ((j : Int) + 1).toNat < en - (j : Int).toNat
     omega
    ·subst hc
     have HS3 := Lib.hid (HSt.out.2.2 rfl)
     clear HSt
     rcases rd_some HKy.out with hz | hz
     ·obtain ⟨rfl, rfl, hz3⟩ := hz
      obtain rfl : sm = 0 := by omega
      have HKz : Hid (Rd Zy (.slice ak 0 0) (key.drop 0)) := by rw [hz3]; exact Rd.zero _ _
      go_upto_region 12 with fail
      have BD : Below Zy.heap.size Zy Zy.drew := (Below.refl _ _).drew
      refine wp_region_noPanic ?_
      refine wp_region_held_drew (S := fun wx => Below Zy.heap.size Zy wx) (by kernel_rfl) BD (fun hHeld => ?_)
      refine wpAnyH_take (i := 0) (oi := { dst := some 66, op := _, type := _, pos := _, after := _, guard := _ }) (v := .pointer (some ⟨gr, 1, none⟩)) rfl (by kernel_rfl) (by kernel_rfl) (by kernel_rfl) (fun _ _ _ h => h) (Or.inl ⟨by kernel_rfl, fun wy hy => by (go_simp; first | done | omega)⟩) (by assumption) ?_
      try simp only [Act.put, List.setIfInBounds_toArray, List.set_cons_zero, List.set_cons_succ]
      refine wpAnyH_take (i := 1) (oi := { dst := some 67, op := _, type := _, pos := _, after := _, guard := _ }) (v := .slice (some ⟨b, o1, none⟩) kl d1) rfl (by kernel_rfl) (by kernel_rfl) (by kernel_rfl) (fun _ _ _ h => h) (Or.inl ⟨by kernel_rfl, fun wy hy => by (obtain ⟨q0, q1, q2, q3⟩ := (HCut.out.1.later hy).cells; go_simp; done)⟩) (by assumption) ?_
      try simp only [Act.put, List.setIfInBounds_toArray, List.set_cons_zero, List.set_cons_succ]
      refine wpAnyH_take (i := 2) (oi := { dst := some 68, op := _, type := _, pos := _, after := _, guard := _ }) (v := .slice ak 0 0) rfl (by kernel_rfl) (by kernel_rfl) (by kernel_rfl) (fun _ _ _ h => h) (Or.inl ⟨by kernel_rfl, fun wy hy => by (go_simp; first | done | omega)⟩) (by assumption) ?_
      try simp only [Act.put, List.setIfInBounds_toArray, List.set_cons_zero, List.set_cons_succ]
      refine wpAnyH_take (i := 3) (oi := { dst := some 69, op := _, type := _, pos := _, after := _, guard := _ }) (v := .int .i64 (0 : Int)) rfl (by kernel_rfl) (by kernel_rfl) (by kernel_rfl) (fun _ _ _ h => h) (Or.inl ⟨by kernel_rfl, fun wy hy => by (go_simp; first | done | omega)⟩) (by assumption) ?_
      try simp only [Act.put, List.setIfInBounds_toArray, List.set_cons_zero, List.set_cons_succ]
      refine wpAnyH_take (i := 4) (oi := { dst := some 70, op := _, type := _, pos := _, after := _, guard := _ }) (v := .slice ak 0 0) rfl (by kernel_rfl) (by kernel_rfl) (by kernel_rfl) (fun _ _ _ h => h) (Or.inl ⟨by kernel_rfl, fun wy hy => by (go_simp; first | done | omega)⟩) (by assumption) ?_
      try simp only [Act.put, List.setIfInBounds_toArray, List.set_cons_zero, List.set_cons_succ]
      refine wpAnyH_ready (rs := [5]) (by kernel_rfl) (by simp) ?_
      refine AllReadyH.cons (o := { dst := some 71, op := _, type := _, pos := _, after := _, guard := _ }) rfl (fun KK hK => ?_) AllReadyH.nil
      go_simp
      go_at_call 51
      refine (bytesCompare_any (HCut.out.2.1.later BD) (HKz.out.later BD)).mono ?_
      rintro e1 Xc ⟨rfl, rfl⟩
      obtain ⟨cv, hcv⟩ : ∃ cv, ordC K (key.drop 0) = cv := ⟨_, rfl⟩
      rw [hcv]
      go_wp2_with fail
      refine hK.out _ _ BD (fun hHeld => ?_)
      clear hK
      try simp only [Act.put, List.setIfInBounds_toArray, List.set_cons_zero, List.set_cons_succ]
      refine wpAnyH_take (i := 6) (oi := { dst := some 72, op := _, type := _, pos := _, after := _, guard := _ }) (v := .bool (decide (0 ≤ cv))) rfl (by kernel_rfl) (by kernel_rfl) (by kernel_rfl) (fun _ _ _ h => h) (Or.inl ⟨by kernel_rfl, fun wy hy => by (go_simp; first | done | omega)⟩) (by assumption) ?_
      try simp only [Act.put, List.setIfInBounds_toArray, List.set_cons_zero, List.set_cons_succ]
      refine wpAnyH_take (i := 7) (oi := { dst := some 65, op := _, type := _, pos := _, after := _, guard := _ }) (v := .bool (decide (0 ≤ cv))) rfl (by kernel_rfl) (by kernel_rfl) (by kernel_rfl) (fun _ _ _ h => h) (Or.inl ⟨by kernel_rfl, fun wy hy => by (go_simp; first | done | omega)⟩) (by assumption) ?_
      try simp only [Act.put, List.setIfInBounds_toArray, List.set_cons_zero, List.set_cons_succ]
      refine wpAnyH_done (by kernel_rfl) (NoPanic.normal ?_) _
      have HBy := Lib.hid (HB2.out.trans (BD.mono HB2.out.size))
      have HRc := Lib.hid (HCut.out.1.later BD)
      have HKr := Lib.hid (HCut.out.2.1.later BD)
      have HKs := Lib.hid (HKz.out.later BD)
      clear x0 x1 x2 x3 hHeld
      generalize Zy.drew = Zx at *
      clear BD
      go_simp
      by_cases hc0 : 0 ≤ cv
      ·have hA : Hid (SkA l key j) := skA_here HL.out HIj.out HKv.out (by rw [HS3.out.1, hcv]; exact hc0)
       go_wp2
       try rw [Exit.noGoto_ret]
       go_ret
       exact ⟨⟨j, rfl, hA.out⟩, HBy.out⟩
      ·have HZ := Lib.hid (HS3.out.2 (by rw [hcv]; omega))
       obtain ⟨cm, hcm⟩ : ∃ cm, comL K (key.drop 0) = cm := ⟨_, rfl⟩
       rw [hcm] at HZ
       have hle : 0 + cm ≤ 0 := by have h1 := HKn.out; have h2 := HZ.out.le; omega
       have hwc : IntKind.i64.wrap ((0 : Int) + (cm : Int)) = (0 : Int) + (cm : Int) := wrapI_ok _ (by omega) (by omega)
       have hwc2 : IntKind.i64.wrap (cm : Int) = (cm : Int) := wrapI_ok _ (by omega) (by omega)
       go_upto_region 13 with fail
       have BD : Below Zx.heap.size Zx Zx.drew := (Below.refl _ _).drew
       refine wp_region_noPanic ?_
       refine wp_region_held_drew (S := fun wx => Below Zx.heap.size Zx wx) (by kernel_rfl) BD (fun hHeld => ?_)
       refine wpAnyH_take (i := 0) (oi := { dst := some 73, op := _, type := _, pos := _, after := _, guard := _ }) (v := .int .i64 (0 : Int)) rfl (by kernel_rfl) (by kernel_rfl) (by kernel_rfl) (fun _ _ _ h => h) (Or.inl ⟨by kernel_rfl, fun wy hy => by (go_simp; first | done | omega)⟩) (by assumption) ?_
       try simp only [Act.put, List.setIfInBounds_toArray, List.set_cons_zero, List.set_cons_succ]
       refine wpAnyH_take (i := 1) (oi := { dst := some 74, op := _, type := _, pos := _, after := _, guard := _ }) (v := .pointer (some ⟨gr, 1, none⟩)) rfl (by kernel_rfl) (by kernel_rfl) (by kernel_rfl) (fun _ _ _ h => h) (Or.inl ⟨by kernel_rfl, fun wy hy => by (go_simp; first | done | omega)⟩) (by assumption) ?_
       try simp only [Act.put, List.setIfInBounds_toArray, List.set_cons_zero, List.set_cons_succ]
       refine wpAnyH_take (i := 2) (oi := { dst := some 75, op := _, type := _, pos := _, after := _, guard := _ }) (v := .slice (some ⟨b, o1, none⟩) kl d1) rfl (by kernel_rfl) (by kernel_rfl) (by kernel_rfl) (fun _ _ _ h => h) (Or.inl ⟨by kernel_rfl, fun wy hy => by (obtain ⟨q0, q1, q2, q3⟩ := (HRc.out.later hy).cells; go_simp; done)⟩) (by assumption) ?_
       try simp only [Act.put, List.setIfInBounds_toArray, List.set_cons_zero, List.set_cons_succ]
       refine wpAnyH_take (i := 3) (oi := { dst := some 76, op := _, type := _, pos := _, after := _, guard := _ }) (v := .slice ak 0 0) rfl (by kernel_rfl) (by kernel_rfl) (by kernel_rfl) (fun _ _ _ h => h) (Or.inl ⟨by kernel_rfl, fun wy hy => by (go_simp; first | done | omega)⟩) (by assumption) ?_
       try simp only [Act.put, List.setIfInBounds_toArray, List.set_cons_zero, List.set_cons_succ]
       refine wpAnyH_take (i := 4) (oi := { dst := some 77, op := _, type := _, pos := _, after := _, guard := _ }) (v := .int .i64 (0 : Int)) rfl (by kernel_rfl) (by kernel_rfl) (by kernel_rfl) (fun _ _ _ h => h) (Or.inl ⟨by kernel_rfl, fun wy hy => by (go_simp; first | done | omega)⟩) (by assumption) ?_
       try simp only [Act.put, List.setIfInBounds_toArray, List.set_cons_zero, List.set_cons_succ]
       refine wpAnyH_take (i := 5) (oi := { dst := some 78, op := _, type := _, pos := _, after := _, guard := _ }) (v := .slice ak 0 0) rfl (by kernel_rfl) (by kernel_rfl) (by kernel_rfl) (fun _ _ _ h => h) (Or.inl ⟨by kernel_rfl, fun wy hy => by (go_simp; first | done | omega)⟩) (by assumption) ?_
       try simp only [Act.put, List.setIfInBounds_toArray, List.set_cons_zero, List.set_cons_succ]
       refine wpAnyH_ready (rs := [6]) (by kernel_rfl) (by simp) ?_
       refine AllReadyH.cons (o := { dst := some 79, op := _, type := _, pos := _, after := _, guard := _ }) rfl (fun KK hK => ?_) AllReadyH.nil
       go_simp
       go_at_call 52
       refine (common_any (HKr.out.later BD) (HKs.out.later BD)).mono ?_
       rintro e1 Xd ⟨rfl, hbd⟩
       rw [hcm]
       have bD := BD.trans (hbd.mono BD.size)
       go_wp2_with fail
       refine hK.out _ _ bD (fun hHeld => ?_)
       clear hK
       try simp only [Act.put, List.setIfInBounds_toArray, List.set_cons_zero, List.set_cons_succ]
       refine wpAnyH_take (i := 7) (oi := { dst := some 80, op := _, type := _, pos := _, after := _, guard := _ }) (v := .int .i64 ((0 : Int) + (cm : Int))) rfl (by kernel_rfl) (by kernel_rfl) (by kernel_rfl) (fun _ _ _ h => h) (Or.inl ⟨by kernel_rfl, fun wy hy => by (go_simp; first | done | omega)⟩) (by assumption) ?_
       try simp only [Act.put, List.setIfInBounds_toArray, List.set_cons_zero, List.set_cons_succ]
       refine wpAnyH_take (i := 8) (oi := { dst := some 8, op := _, type := _, pos := _, after := _, guard := _ }) (v := .int .i64 ((0 : Int) + (cm : Int))) rfl (by kernel_rfl) (by kernel_rfl) (by kernel_rfl) (fun _ _ _ h => h) (Or.inl ⟨by kernel_rfl, fun wy hy => by (go_simp; first | done | omega)⟩) (by assumption) ?_
       try simp only [Act.put, List.setIfInBounds_toArray, List.set_cons_zero, List.set_cons_succ]
       refine wpAnyH_done (by kernel_rfl) (NoPanic.normal ?_) _
       have HBe := Lib.hid (HBy.out.trans (bD.mono HBy.out.size))
       clear hHeld BD bD hbd
       go_simp
       go_wp2
       refine ⟨⟨j + 1, nx, 0 + cm, by simp, rfl, by simp, by omega, hle, ⟨HZ.out, HNx.out⟩, HBe.out⟩, ?_⟩
       show en - ((j : Int) + 1).toNat < en - (j : Int).toNat
       omega
     ·obtain ⟨bk, ok, rfl⟩ := hz
      by_cases hks : kc = sm
      ·subst hks
       obtain rfl : kn = kc := by omega
       have HKz : Hid (Rd Zy (.slice (some ⟨bk, ok, none⟩) 0 0) (key.drop kn)) := by
        rw [HKn.out, List.drop_length]
        exact Rd.zero _ _
       go_upto_region 12 with fail
       have BD : Below Zy.heap.size Zy Zy.drew := (Below.refl _ _).drew
       refine wp_region_noPanic ?_
       refine wp_region_held_drew (S := fun wx => Below Zy.heap.size Zy wx) (by kernel_rfl) BD (fun hHeld => ?_)
       refine wpAnyH_take (i := 0) (oi := { dst := some 66, op := _, type := _, pos := _, after := _, guard := _ }) (v := .pointer (some ⟨gr, 1, none⟩)) rfl (by kernel_rfl) (by kernel_rfl) (by kernel_rfl) (fun _ _ _ h => h) (Or.inl ⟨by kernel_rfl, fun wy hy => by (go_simp; first | done | omega)⟩) (by assumption) ?_
       try simp only [Act.put, List.setIfInBounds_toArray, List.set_cons_zero, List.set_cons_succ]
       refine wpAnyH_take (i := 1) (oi := { dst := some 67, op := _, type := _, pos := _, after := _, guard := _ }) (v := .slice (some ⟨b, o1, none⟩) kl d1) rfl (by kernel_rfl) (by kernel_rfl) (by kernel_rfl) (fun _ _ _ h => h) (Or.inl ⟨by kernel_rfl, fun wy hy => by (obtain ⟨q0, q1, q2, q3⟩ := (HCut.out.1.later hy).cells; go_simp; done)⟩) (by assumption) ?_
       try simp only [Act.put, List.setIfInBounds_toArray, List.set_cons_zero, List.set_cons_succ]
       refine wpAnyH_take (i := 2) (oi := { dst := some 68, op := _, type := _, pos := _, after := _, guard := _ }) (v := .slice (some ⟨bk, ok, none⟩) kn kn) rfl (by kernel_rfl) (by kernel_rfl) (by kernel_rfl) (fun _ _ _ h => h) (Or.inl ⟨by kernel_rfl, fun wy hy => by (go_simp; first | done | omega)⟩) (by assumption) ?_
       try simp only [Act.put, List.setIfInBounds_toArray, List.set_cons_zero, List.set_cons_succ]
       refine wpAnyH_take (i := 3) (oi := { dst := some 69, op := _, type := _, pos := _, after := _, guard := _ }) (v := .int .i64 (kn : Int)) rfl (by kernel_rfl) (by kernel_rfl) (by kernel_rfl) (fun _ _ _ h => h) (Or.inl ⟨by kernel_rfl, fun wy hy => by (go_simp; first | done | omega)⟩) (by assumption) ?_
       try simp only [Act.put, List.setIfInBounds_toArray, List.set_cons_zero, List.set_cons_succ]
       refine wpAnyH_take (i := 4) (oi := { dst := some 70, op := _, type := _, pos := _, after := _, guard := _ }) (v := .slice (some ⟨bk, ok, none⟩) 0 0) rfl (by kernel_rfl) (by kernel_rfl) (by kernel_rfl) (fun _ _ _ h => h) (Or.inl ⟨by kernel_rfl, fun wy hy => by (have hc3 : kn ≤ maxLen := hk48.2.1; go_simp; first | done | omega)⟩) (by assumption) ?_
       try simp only [Act.put, List.setIfInBounds_toArray, List.set_cons_zero, List.set_cons_succ]
       refine wpAnyH_ready (rs := [5]) (by kernel_rfl) (by simp) ?_
       refine AllReadyH.cons (o := { dst := some 71, op := _, type := _, pos := _, after := _, guard := _ }) rfl (fun KK hK => ?_) AllReadyH.nil
       go_simp
       go_at_call 51
       refine (bytesCompare_any (HCut.out.2.1.later BD) (HKz.out.later BD)).mono ?_
       rintro e1 Xc ⟨rfl, rfl⟩
       obtain ⟨cv, hcv⟩ : ∃ cv, ordC K (key.drop kn) = cv := ⟨_, rfl⟩
       rw [hcv]
       go_wp2_with fail
       refine hK.out _ _ BD (fun hHeld => ?_)
       clear hK
       try simp only [Act.put, List.setIfInBounds_toArray, List.set_cons_zero, List.set_cons_succ]
       refine wpAnyH_take (i := 6) (oi := { dst := some 72, op := _, type := _, pos := _, after := _, guard := _ }) (v := .bool (decide (0 ≤ cv))) rfl (by kernel_rfl) (by kernel_rfl) (by kernel_rfl) (fun _ _ _ h => h) (Or.inl ⟨by kernel_rfl, fun wy hy => by (go_simp; first | done | omega)⟩) (by assumption) ?_
       try simp only [Act.put, List.setIfInBounds_toArray, List.set_cons_zero, List.set_cons_succ]
       refine wpAnyH_take (i := 7) (oi := { dst := some 65, op := _, type := _, pos := _, after := _, guard := _ }) (v := .bool (decide (0 ≤ cv))) rfl (by kernel_rfl) (by kernel_rfl) (by kernel_rfl) (fun _ _ _ h => h) (Or.inl ⟨by kernel_rfl, fun wy hy => by (go_simp; first | done | omega)⟩) (by assumption) ?_
       try simp only [Act.put, List.setIfInBounds_toArray, List.set_cons_zero, List.set_cons_succ]
       refine wpAnyH_done (by kernel_rfl) (NoPanic.normal ?_) _
       have HBy := Lib.hid (HB2.out.trans (BD.mono HB2.out.size))
       have HRc := Lib.hid (HCut.out.1.later BD)
       have HKr := Lib.hid (HCut.out.2.1.later BD)
       have HKs := Lib.hid (HKz.out.later BD)
       clear x0 x1 x2 x3 hHeld
       generalize Zy.drew = Zx at *
       clear BD
       go_simp
       by_cases hc0 : 0 ≤ cv
       ·have hA : Hid (SkA l key j) := skA_here HL.out HIj.out HKv.out (by rw [HS3.out.1, hcv]; exact hc0)
        go_wp2
        try rw [Exit.noGoto_ret]
        go_ret
        exact ⟨⟨j, rfl, hA.out⟩, HBy.out⟩
       ·have HZ := Lib.hid (HS3.out.2 (by rw [hcv]; omega))
        obtain ⟨cm, hcm⟩ : ∃ cm, comL K (key.drop kn) = cm := ⟨_, rfl⟩
        rw [hcm] at HZ
        have hle : kn + cm ≤ kn := by have h1 := HKn.out; have h2 := HZ.out.le; omega
        have hwc : IntKind.i64.wrap ((kn : Int) + (cm : Int)) = (kn : Int) + (cm : Int) := wrapI_ok _ (by omega) (by omega)
        have hwc2 : IntKind.i64.wrap (cm : Int) = (cm : Int) := wrapI_ok _ (by omega) (by omega)
        go_upto_region 13 with fail
        have BD : Below Zx.heap.size Zx Zx.drew := (Below.refl _ _).drew
        refine wp_region_noPanic ?_
        refine wp_region_held_drew (S := fun wx => Below Zx.heap.size Zx wx) (by kernel_rfl) BD (fun hHeld => ?_)
        refine wpAnyH_take (i := 0) (oi := { dst := some 73, op := _, type := _, pos := _, after := _, guard := _ }) (v := .int .i64 (kn : Int)) rfl (by kernel_rfl) (by kernel_rfl) (by kernel_rfl) (fun _ _ _ h => h) (Or.inl ⟨by kernel_rfl, fun wy hy => by (go_simp; first | done | omega)⟩) (by assumption) ?_
        try simp only [Act.put, List.setIfInBounds_toArray, List.set_cons_zero, List.set_cons_succ]
        refine wpAnyH_take (i := 1) (oi := { dst := some 74, op := _, type := _, pos := _, after := _, guard := _ }) (v := .pointer (some ⟨gr, 1, none⟩)) rfl (by kernel_rfl) (by kernel_rfl) (by kernel_rfl) (fun _ _ _ h => h) (Or.inl ⟨by kernel_rfl, fun wy hy => by (go_simp; first | done | omega)⟩) (by assumption) ?_
        try simp only [Act.put, List.setIfInBounds_toArray, List.set_cons_zero, List.set_cons_succ]
        refine wpAnyH_take (i := 2) (oi := { dst := some 75, op := _, type := _, pos := _, after := _, guard := _ }) (v := .slice (some ⟨b, o1, none⟩) kl d1) rfl (by kernel_rfl) (by kernel_rfl) (by kernel_rfl) (fun _ _ _ h => h) (Or.inl ⟨by kernel_rfl, fun wy hy => by (obtain ⟨q0, q1, q2, q3⟩ := (HRc.out.later hy).cells; go_simp; done)⟩) (by assumption) ?_
        try simp only [Act.put, List.setIfInBounds_toArray, List.set_cons_zero, List.set_cons_succ]
        refine wpAnyH_take (i := 3) (oi := { dst := some 76, op := _, type := _, pos := _, after := _, guard := _ }) (v := .slice (some ⟨bk, ok, none⟩) kn kn) rfl (by kernel_rfl) (by kernel_rfl) (by kernel_rfl) (fun _ _ _ h => h) (Or.inl ⟨by kernel_rfl, fun wy hy => by (go_simp; first | done | omega)⟩) (by assumption) ?_
        try simp only [Act.put, List.setIfInBounds_toArray, List.set_cons_zero, List.set_cons_succ]
        refine wpAnyH_take (i := 4) (oi := { dst := some 77, op := _, type := _, pos := _, after := _, guard := _ }) (v := .int .i64 (kn : Int)) rfl (by kernel_rfl) (by kernel_rfl) (by kernel_rfl) (fun _ _ _ h => h) (Or.inl ⟨by kernel_rfl, fun wy hy => by (go_simp; first | done | omega)⟩) (by assumption) ?_
        try simp only [Act.put, List.setIfInBounds_toArray, List.set_cons_zero, List.set_cons_succ]
        refine wpAnyH_take (i := 5) (oi := { dst := some 78, op := _, type := _, pos := _, after := _, guard := _ }) (v := .slice (some ⟨bk, ok, none⟩) 0 0) rfl (by kernel_rfl) (by kernel_rfl) (by kernel_rfl) (fun _ _ _ h => h) (Or.inl ⟨by kernel_rfl, fun wy hy => by (have hc3 : kn ≤ maxLen := hk48.2.1; go_simp; first | done | omega)⟩) (by assumption) ?_
        try simp only [Act.put, List.setIfInBounds_toArray, List.set_cons_zero, List.set_cons_succ]
        refine wpAnyH_ready (rs := [6]) (by kernel_rfl) (by simp) ?_
        refine AllReadyH.cons (o := { dst := some 79, op := _, type := _, pos := _, after := _, guard := _ }) rfl (fun KK hK => ?_) AllReadyH.nil
        go_simp
        go_at_call 52
        refine (common_any (HKr.out.later BD) (HKs.out.later BD)).mono ?_
        rintro e1 Xd ⟨rfl, hbd⟩
        rw [hcm]
        have bD := BD.trans (hbd.mono BD.size)
        go_wp2_with fail
        refine hK.out _ _ bD (fun hHeld => ?_)
        clear hK
        try simp only [Act.put, List.setIfInBounds_toArray, List.set_cons_zero, List.set_cons_succ]
        refine wpAnyH_take (i := 7) (oi := { dst := some 80, op := _, type := _, pos := _, after := _, guard := _ }) (v := .int .i64 ((kn : Int) + (cm : Int))) rfl (by kernel_rfl) (by kernel_rfl) (by kernel_rfl) (fun _ _ _ h => h) (Or.inl ⟨by kernel_rfl, fun wy hy => by (go_simp; first | done | omega)⟩) (by assumption) ?_
        try simp only [Act.put, List.setIfInBounds_toArray, List.set_cons_zero, List.set_cons_succ]
        refine wpAnyH_take (i := 8) (oi := { dst := some 8, op := _, type := _, pos := _, after := _, guard := _ }) (v := .int .i64 ((kn : Int) + (cm : Int))) rfl (by kernel_rfl) (by kernel_rfl) (by kernel_rfl) (fun _ _ _ h => h) (Or.inl ⟨by kernel_rfl, fun wy hy => by (go_simp; first | done | omega)⟩) (by assumption) ?_
        try simp only [Act.put, List.setIfInBounds_toArray, List.set_cons_zero, List.set_cons_succ]
        refine wpAnyH_done (by kernel_rfl) (NoPanic.normal ?_) _
        have HBe := Lib.hid (HBy.out.trans (bD.mono HBy.out.size))
        clear hHeld BD bD hbd
        go_simp
        go_wp2
        refine ⟨⟨j + 1, nx, kn + cm, by simp, rfl, by simp, by omega, hle, ⟨HZ.out, HNx.out⟩, HBe.out⟩, ?_⟩
        show en - ((j : Int) + 1).toNat < en - (j : Int).toNat
        omega
      have HKz : Hid (Rd Zy (.slice (some ⟨bk, ok + sm, none⟩) (kn - sm) (kc - sm)) (key.drop sm)) := (HKy.out.later HB2.out).past sm hsm rfl rfl rfl
      go_upto_region 12 with fail
      have BD : Below Zy.heap.size Zy Zy.drew := (Below.refl _ _).drew
      refine wp_region_noPanic ?_
      refine wp_region_held_drew (S := fun wx => Below Zy.heap.size Zy wx) (by kernel_rfl) BD (fun hHeld => ?_)
      refine wpAnyH_take (i := 0) (oi := { dst := some 66, op := _, type := _, pos := _, after := _, guard := _ }) (v := .pointer (some ⟨gr, 1, none⟩)) rfl (by kernel_rfl) (by kernel_rfl) (by kernel_rfl) (fun _ _ _ h => h) (Or.inl ⟨by kernel_rfl, fun wy hy => by (go_simp; first | done | omega)⟩) (by assumption) ?_
      try simp only [Act.put, List.setIfInBounds_toArray, List.set_cons_zero, List.set_cons_succ]
      refine wpAnyH_take (i := 1) (oi := { dst := some 67, op := _, type := _, pos := _, after := _, guard := _ }) (v := .slice (some ⟨b, o1, none⟩) kl d1) rfl (by kernel_rfl) (by kernel_rfl) (by kernel_rfl) (fun _ _ _ h => h) (Or.inl ⟨by kernel_rfl, fun wy hy => by (obtain ⟨q0, q1, q2, q3⟩ := (HCut.out.1.later hy).cells; go_simp; done)⟩) (by assumption) ?_
      try simp only [Act.put, List.setIfInBounds_toArray, List.set_cons_zero, List.set_cons_succ]
      refine wpAnyH_take (i := 2) (oi := { dst := some 68, op := _, type := _, pos := _, after := _, guard := _ }) (v := .slice (some ⟨bk, ok, none⟩) kn kc) rfl (by kernel_rfl) (by kernel_rfl) (by kernel_rfl) (fun _ _ _ h => h) (Or.inl ⟨by kernel_rfl, fun wy hy => by (go_simp; first | done | omega)⟩) (by assumption) ?_
      try simp only [Act.put, List.setIfInBounds_toArray, List.set_cons_zero, List.set_cons_succ]
      refine wpAnyH_take (i := 3) (oi := { dst := some 69, op := _, type := _, pos := _, after := _, guard := _ }) (v := .int .i64 (sm : Int)) rfl (by kernel_rfl) (by kernel_rfl) (by kernel_rfl) (fun _ _ _ h => h) (Or.inl ⟨by kernel_rfl, fun wy hy => by (go_simp; first | done | omega)⟩) (by assumption) ?_
      try simp only [Act.put, List.setIfInBounds_toArray, List.set_cons_zero, List.set_cons_succ]
      refine wpAnyH_take (i := 4) (oi := { dst := some 70, op := _, type := _, pos := _, after := _, guard := _ }) (v := .slice (some ⟨bk, ok + sm, none⟩) (kn - sm) (kc - sm)) rfl (by kernel_rfl) (by kernel_rfl) (by kernel_rfl) (fun _ _ _ h => h) (Or.inl ⟨by kernel_rfl, fun wy hy => by (have hc1 : sm ≤ kn := hsm; have hc2 : kn ≤ kc := hk48.1; have hc3 : kc ≤ maxLen := hk48.2.1; go_simp; first | done | omega)⟩) (by assumption) ?_
      try simp only [Act.put, List.setIfInBounds_toArray, List.set_cons_zero, List.set_cons_succ]
      refine wpAnyH_ready (rs := [5]) (by kernel_rfl) (by simp) ?_
      refine AllReadyH.cons (o := { dst := some 71, op := _, type := _, pos := _, after := _, guard := _ }) rfl (fun KK hK => ?_) AllReadyH.nil
      go_simp
      go_at_call 51
      refine (bytesCompare_any (HCut.out.2.1.later BD) (HKz.out.later BD)).mono ?_
      rintro e1 Xc ⟨rfl, rfl⟩
      obtain ⟨cv, hcv⟩ : ∃ cv, ordC K (key.drop sm) = cv := ⟨_, rfl⟩
      rw [hcv]
      go_wp2_with fail
      refine hK.out _ _ BD (fun hHeld => ?_)
      clear hK
      try simp only [Act.put, List.setIfInBounds_toArray, List.set_cons_zero, List.set_cons_succ]
      refine wpAnyH_take (i := 6) (oi := { dst := some 72, op := _, type := _, pos := _, after := _, guard := _ }) (v := .bool (decide (0 ≤ cv))) rfl (by kernel_rfl) (by kernel_rfl) (by kernel_rfl) (fun _ _ _ h => h) (Or.inl ⟨by kernel_rfl, fun wy hy => by (go_simp; first | done | omega)⟩) (by assumption) ?_
      try simp only [Act.put, List.setIfInBounds_toArray, List.set_cons_zero, List.set_cons_succ]
      refine wpAnyH_take (i := 7) (oi := { dst := some 65, op := _, type := _, pos := _, after := _, guard := _ }) (v := .bool (decide (0 ≤ cv))) rfl (by kernel_rfl) (by kernel_rfl) (by kernel_rfl) (fun _ _ _ h => h) (Or.inl ⟨by kernel_rfl, fun wy hy => by (go_simp; first | done | omega)⟩) (by assumption) ?_
      try simp only [Act.put, List.setIfInBounds_toArray, List.set_cons_zero, List.set_cons_succ]
      refine wpAnyH_done (by kernel_rfl) (NoPanic.normal ?_) _
      have HBy := Lib.hid (HB2.out.trans (BD.mono HB2.out.size))
      have HRc := Lib.hid (HCut.out.1.later BD)
      have HKr := Lib.hid (HCut.out.2.1.later BD)
      have HKs := Lib.hid (HKz.out.later BD)
      clear x0 x1 x2 x3 hHeld
      generalize Zy.drew = Zx at *
      clear BD
      go_simp
      by_cases hc0 : 0 ≤ cv
      ·have hA : Hid (SkA l key j) := skA_here HL.out HIj.out HKv.out (by rw [HS3.out.1, hcv]; exact hc0)
       go_wp2
       try rw [Exit.noGoto_ret]
       go_ret
       exact ⟨⟨j, rfl, hA.out⟩, HBy.out⟩
      ·have HZ := Lib.hid (HS3.out.2 (by rw [hcv]; omega))
       obtain ⟨cm, hcm⟩ : ∃ cm, comL K (key.drop sm) = cm := ⟨_, rfl⟩
       rw [hcm] at HZ
       have hle : sm + cm ≤ kn := by have h1 := HKn.out; have h2 := HZ.out.le; omega
       have hwc : IntKind.i64.wrap ((sm : Int) + (cm : Int)) = (sm : Int) + (cm : Int) := wrapI_ok _ (by omega) (by omega)
       have hwc2 : IntKind.i64.wrap (cm : Int) = (cm : Int) := wrapI_ok _ (by omega) (by omega)
       go_upto_region 13 with fail
       have BD : Below Zx.heap.size Zx Zx.drew := (Below.refl _ _).drew
       refine wp_region_noPanic ?_
       refine wp_region_held_drew (S := fun wx => Below Zx.heap.size Zx wx) (by kernel_rfl) BD (fun hHeld => ?_)
       refine wpAnyH_take (i := 0) (oi := { dst := some 73, op := _, type := _, pos := _, after := _, guard := _ }) (v := .int .i64 (sm : Int)) rfl (by kernel_rfl) (by kernel_rfl) (by kernel_rfl) (fun _ _ _ h => h) (Or.inl ⟨by kernel_rfl, fun wy hy => by (go_simp; first | done | omega)⟩) (by assumption) ?_
       try simp only [Act.put, List.setIfInBounds_toArray, List.set_cons_zero, List.set_cons_succ]
       refine wpAnyH_take (i := 1) (oi := { dst := some 74, op := _, type := _, pos := _, after := _, guard := _ }) (v := .pointer (some ⟨gr, 1, none⟩)) rfl (by kernel_rfl) (by kernel_rfl) (by kernel_rfl) (fun _ _ _ h => h) (Or.inl ⟨by kernel_rfl, fun wy hy => by (go_simp; first | done | omega)⟩) (by assumption) ?_
       try simp only [Act.put, List.setIfInBounds_toArray, List.set_cons_zero, List.set_cons_succ]
       refine wpAnyH_take (i := 2) (oi := { dst := some 75, op := _, type := _, pos := _, after := _, guard := _ }) (v := .slice (some ⟨b, o1, none⟩) kl d1) rfl (by kernel_rfl) (by kernel_rfl) (by kernel_rfl) (fun _ _ _ h => h) (Or.inl ⟨by kernel_rfl, fun wy hy => by (obtain ⟨q0, q1, q2, q3⟩ := (HRc.out.later hy).cells; go_simp; done)⟩) (by assumption) ?_
       try simp only [Act.put, List.setIfInBounds_toArray, List.set_cons_zero, List.set_cons_succ]
       refine wpAnyH_take (i := 3) (oi := { dst := some 76, op := _, type := _, pos := _, after := _, guard := _ }) (v := .slice (some ⟨bk, ok, none⟩) kn kc) rfl (by kernel_rfl) (by kernel_rfl) (by kernel_rfl) (fun _ _ _ h => h) (Or.inl ⟨by kernel_rfl, fun wy hy => by (go_simp; first | done | omega)⟩) (by assumption) ?_
       try simp only [Act.put, List.setIfInBounds_toArray, List.set_cons_zero, List.set_cons_succ]
       refine wpAnyH_take (i := 4) (oi := { dst := some 77, op := _, type := _, pos := _, after := _, guard := _ }) (v := .int .i64 (sm : Int)) rfl (by kernel_rfl) (by kernel_rfl) (by kernel_rfl) (fun _ _ _ h => h) (Or.inl ⟨by kernel_rfl, fun wy hy => by (go_simp; first | done | omega)⟩) (by assumption) ?_
       try simp only [Act.put, List.setIfInBounds_toArray, List.set_cons_zero, List.set_cons_succ]
       refine wpAnyH_take (i := 5) (oi := { dst := some 78, op := _, type := _, pos := _, after := _, guard := _ }) (v := .slice (some ⟨bk, ok + sm, none⟩) (kn - sm) (kc - sm)) rfl (by kernel_rfl) (by kernel_rfl) (by kernel_rfl) (fun _ _ _ h => h) (Or.inl ⟨by kernel_rfl, fun wy hy => by (have hc1 : sm ≤ kn := hsm; have hc2 : kn ≤ kc := hk48.1; have hc3 : kc ≤ maxLen := hk48.2.1; go_simp; first | done | omega)⟩) (by assumption) ?_
       try simp only [Act.put, List.setIfInBounds_toArray, List.set_cons_zero, List.set_cons_succ]
       refine wpAnyH_ready (rs := [6]) (by kernel_rfl) (by simp) ?_
       refine AllReadyH.cons (o := { dst := some 79, op := _, type := _, pos := _, after := _, guard := _ }) rfl (fun KK hK => ?_) AllReadyH.nil
       go_simp
       go_at_call 52
       refine (common_any (HKr.out.later BD) (HKs.out.later BD)).mono ?_
       rintro e1 Xd ⟨rfl, hbd⟩
       rw [hcm]
       have bD := BD.trans (hbd.mono BD.size)
       go_wp2_with fail
       refine hK.out _ _ bD (fun hHeld => ?_)
       clear hK
       try simp only [Act.put, List.setIfInBounds_toArray, List.set_cons_zero, List.set_cons_succ]
       refine wpAnyH_take (i := 7) (oi := { dst := some 80, op := _, type := _, pos := _, after := _, guard := _ }) (v := .int .i64 ((sm : Int) + (cm : Int))) rfl (by kernel_rfl) (by kernel_rfl) (by kernel_rfl) (fun _ _ _ h => h) (Or.inl ⟨by kernel_rfl, fun wy hy => by (go_simp; first | done | omega)⟩) (by assumption) ?_
       try simp only [Act.put, List.setIfInBounds_toArray, List.set_cons_zero, List.set_cons_succ]
       refine wpAnyH_take (i := 8) (oi := { dst := some 8, op := _, type := _, pos := _, after := _, guard := _ }) (v := .int .i64 ((sm : Int) + (cm : Int))) rfl (by kernel_rfl) (by kernel_rfl) (by kernel_rfl) (fun _ _ _ h => h) (Or.inl ⟨by kernel_rfl, fun wy hy => by (go_simp; first | done | omega)⟩) (by assumption) ?_
       try simp only [Act.put, List.setIfInBounds_toArray, List.set_cons_zero, List.set_cons_succ]
       refine wpAnyH_done (by kernel_rfl) (NoPanic.normal ?_) _
       have HBe := Lib.hid (HBy.out.trans (bD.mono HBy.out.size))
       clear hHeld BD bD hbd
       go_simp
       go_wp2
       refine ⟨⟨j + 1, nx, sm + cm, by simp, rfl, by simp, by omega, hle, ⟨HZ.out, HNx.out⟩, HBe.out⟩, ?_⟩
       show en - ((j : Int) + 1).toNat < en - (j : Int).toNat
       omega
    ·have hci : (sh : Int) < (sm : Int) := by omega
     have HZ := Lib.hid (HSt.out.2.1 hc)
     have hA : Hid (SkA l key j) := skA_here HL.out HIj.out HKv.out (by have := HZ.out; omega)
     clear HSt
     go_wp2
     try rw [Exit.noGoto_ret]
     go_ret
     exact ⟨⟨j, rfl, hA.out⟩, HB2.out⟩
   ·have hge : ¬ (j : Int) < (en : Int) := by omega
    have hA : Hid (SkA l key j) := by
     have h1 := HEn.out
     refine skA_end (q := q) HL.out HU.out.1 ?_ (fun k h1 h2 => HF.out.hi k h1 ?_)
     ·rw [Nat.add_mul, Nat.one_mul, HQr.out, HLl.out]; omega
     ·have : k + 1 ≤ (l.length + r - 1) / r := by
       rw [Nat.le_div_iff_mul_le (by omega), Nat.add_mul]; omega
      omega
    have HBx := Lib.hid HBw.out
    go_wp2
    try rw [Exit.noGoto_ret]
    go_ret
    exact ⟨⟨j, rfl, hA.out⟩, HBx.out⟩
end Go.Proofs.YtchebhafabhabaaGreatDoor

namespace Go.Proofs.YtchebhafabhabaaGreatDoor
open Go.RowKit Go.Shelf
set_option linter.unusedVariables false

theorem kvL_at {zs : List EntD} {i : Nat} {e : EntD} (h : zs[i]? = some e) : (kvL zs)[i]? = some (keyL e, e.val) := by
 unfold kvL
 rw [List.getElem?_map, h]
 rfl
end Go.Proofs.YtchebhafabhabaaGreatDoor
