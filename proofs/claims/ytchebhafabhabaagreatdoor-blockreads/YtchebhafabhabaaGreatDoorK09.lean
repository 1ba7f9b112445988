import Derived.Test.YtchebhafabhabaaGreatDoorK08
namespace Go.Proofs.YtchebhafabhabaaGreatDoor
open Go.RowKit Go.Shelf
set_option linter.unusedVariables false

def foldB (r : Nat) : Bs → List (List Nat × List Nat) → Bs
 | s, [] => s
 | s, kv :: t => foldB r (addB r s kv.1 kv.2) t
def itemsB (r : Nat) : Bs → List (List Nat × List Nat) → List It
 | _, [] => []
 | s, kv :: t => ⟨s.n, s.es.length, shOf r s kv.1, kv.1, kv.2⟩ :: itemsB r (addB r s kv.1 kv.2) t
def askB {S : Type} (A : S → It → Bool × S) (p : Nat) : List It → S → Nat × Bool × S
 | [], st => (p, true, st)
 | it :: t, st => if (A st it).1 = true then askB A p t (A st it).2 else (it.place, false, (A st it).2)
theorem com_take : ∀ (a b : List Nat), a.take (comL a b) = b.take (comL a b)
 | [], [] => rfl
 | [], y :: b => by simp [comL]
 | x :: a, [] => by simp [comL]
 | x :: a, y :: b => by
  simp only [comL]
  split
  ·rename_i h
   have e : x = y := by simpa using h
   rw [e]
   simp only [List.take_succ_cons, com_take a b]
  ·rfl
theorem foldB_es (r : Nat) : ∀ (l : List (List Nat × List Nat)) (s : Bs), ∃ m, (foldB r s l).es = s.es ++ m
 | [], s => ⟨[], by simp [foldB]⟩
 | kv :: t, s => by
  obtain ⟨m, h⟩ := foldB_es r t (addB r s kv.1 kv.2)
  exact ⟨recL (shOf r s kv.1) (kv.1.drop (shOf r s kv.1)) kv.2 ++ m, by simp only [foldB]; rw [h]; simp [addB, esOf]⟩
theorem foldB_ps (r : Nat) : ∀ (l : List (List Nat × List Nat)) (s : Bs), ∃ m, (foldB r s l).ps = s.ps ++ m
 | [], s => ⟨[], by simp [foldB]⟩
 | kv :: t, s => by
  obtain ⟨m, h⟩ := foldB_ps r t (addB r s kv.1 kv.2)
  refine ⟨(if s.n % r = 0 then be4 s.es.length else []) ++ m, ?_⟩
  simp only [foldB]
  rw [h]
  simp only [addB, psOf]
  split <;> simp
theorem foldB_app (r : Nat) : ∀ (a b : List (List Nat × List Nat)) (s : Bs), foldB r s (a ++ b) = foldB r (foldB r s a) b
 | [], b, s => rfl
 | kv :: t, b, s => by simp only [List.cons_append, foldB]; exact foldB_app r t b _
theorem foldB_n (r : Nat) : ∀ (l : List (List Nat × List Nat)) (s : Bs), (foldB r s l).n = s.n + l.length
 | [], s => rfl
 | kv :: t, s => by simp only [foldB]; rw [foldB_n r t]; simp [addB]; omega
theorem piece_at (pre x rest : List Nat) (hx : x.length < 18446744073709551616) : pieceOf (pre ++ (uintL x.length ++ (x ++ rest))) pre.length = some (pre.length + (uintL x.length).length, x.length) := by
 unfold pieceOf
 rw [uint_trip x.length hx pre (x ++ rest)]
 rw [if_pos ⟨rfl, by simp; omega⟩]
theorem record_at (pre rest : List Nat) (sh : Nat) (x v : List Nat) (hs : sh ≤ (pre ++ (recL sh x v ++ rest)).length) (hl : (pre ++ (recL sh x v ++ rest)).length < 18446744073709551616) :
  ∃ a b, recordOf (pre ++ (recL sh x v ++ rest)) pre.length = some (sh, (a, x.length), (b, v.length)) ∧ ((pre ++ (recL sh x v ++ rest)).drop a).take x.length = x ∧ ((pre ++ (recL sh x v ++ rest)).drop b).take v.length = v ∧ b + v.length = pre.length + (recL sh x v).length ∧ pre.length < a ∧ a + x.length < b := by
 have e0 : pre ++ (recL sh x v ++ rest) = pre ++ (uintL sh ++ (uintL x.length ++ (x ++ (uintL v.length ++ (v ++ rest))))) := by simp [recL]
 have e1 : pre ++ (recL sh x v ++ rest) = (pre ++ uintL sh) ++ (uintL x.length ++ (x ++ (uintL v.length ++ (v ++ rest)))) := by rw [e0]; simp
 have e2 : pre ++ (recL sh x v ++ rest) = (pre ++ uintL sh ++ uintL x.length ++ x) ++ (uintL v.length ++ (v ++ rest)) := by rw [e0]; simp
 have e3 : pre ++ (recL sh x v ++ rest) = (pre ++ uintL sh ++ uintL x.length) ++ (x ++ (uintL v.length ++ (v ++ rest))) := by rw [e0]; simp
 have e4 : pre ++ (recL sh x v ++ rest) = (pre ++ uintL sh ++ uintL x.length ++ x ++ uintL v.length) ++ (v ++ rest) := by rw [e0]; simp
 obtain ⟨E, hE⟩ : ∃ E, E = pre ++ (recL sh x v ++ rest) := ⟨_, rfl⟩
 rw [← hE] at hs hl e0 e1 e2 e3 e4 ⊢
 have hlen : E.length = pre.length + (uintL sh).length + (uintL x.length).length + x.length + (uintL v.length).length + v.length + rest.length := by rw [e0]; simp; omega
 have u := uint_trip sh (by omega) pre (uintL x.length ++ (x ++ (uintL v.length ++ (v ++ rest))))
 rw [← e0] at u
 have p1 := piece_at (pre ++ uintL sh) x (uintL v.length ++ (v ++ rest)) (by omega)
 rw [← e1] at p1
 have p2 := piece_at (pre ++ uintL sh ++ uintL x.length ++ x) v rest (by omega)
 rw [← e2] at p2
 have q1 := (uintL_len sh).1
 have q2 := (uintL_len x.length).1
 have q3 := (uintL_len v.length).1
 refine ⟨(pre ++ uintL sh ++ uintL x.length).length, (pre ++ uintL sh ++ uintL x.length ++ x ++ uintL v.length).length, ?_, ?_, ?_, ?_, ?_, ?_⟩
 ·unfold recordOf
  rw [u]
  rw [if_pos ⟨rfl, hs⟩]
  have s1 : pre.length + (uintL sh).length = (pre ++ uintL sh).length := by simp
  simp only [s1, p1]
  have s2 : (pre ++ uintL sh).length + (uintL x.length).length + x.length = (pre ++ uintL sh ++ uintL x.length ++ x).length := by simp; omega
  simp only [s2, p2]
  simp
  omega
 ·rw [e3, List.drop_left, List.take_left]
 ·rw [e4, List.drop_left, List.take_left]
 ·simp [recL]; omega
 ·simp; omega
 ·simp; omega
theorem com_la (r : Nat) (s : Bs) (k v : List Nat) (h : s.la.length ≤ s.es.length) : shOf r s k ≤ s.la.length ∧ shOf r s k ≤ k.length ∧ (addB r s k v).la.length ≤ (addB r s k v).es.length := by
 have c := comL_le s.la k
 have h1 : shOf r s k ≤ s.la.length ∧ shOf r s k ≤ k.length := by unfold shOf; split <;> omega
 refine ⟨h1.1, h1.2, ?_⟩
 simp only [addB, esOf, recL, List.length_append, List.length_drop]
 omega
theorem walk_lay {S : Type} (A : S → It → Bool × S) (r : Nat) : ∀ (l : List (List Nat × List Nat)) (s : Bs) (key : List Nat) (st : S) (E : List Nat), E = (foldB r s l).es → (s.n % r = 0 ∨ key = s.la) → s.la.length ≤ s.es.length → E.length < 18446744073709551616 →
  walkS E A l.length s.n s.es.length key st = askB A E.length (itemsB r s l) st
 | [], s, key, st, E, hE, hk, hla, hl => by simp [walkS, askB, itemsB, hE, foldB]
 | kv :: t, s, key, st, E, hE, hk, hla, hl => by
  obtain ⟨c1, c2, c3⟩ := com_la r s kv.1 kv.2 hla
  obtain ⟨m, hm⟩ := foldB_es r t (addB r s kv.1 kv.2)
  have hE2 : E = s.es ++ (recL (shOf r s kv.1) (kv.1.drop (shOf r s kv.1)) kv.2 ++ m) := by rw [hE]; simp only [foldB]; rw [hm]; simp [addB, esOf]
  obtain ⟨a, b, h1, h2, h3, h4, h5, h6⟩ := record_at s.es m (shOf r s kv.1) (kv.1.drop (shOf r s kv.1)) kv.2 (by simp; omega) (by rw [← hE2]; exact hl)
  rw [← hE2] at h1 h2 h3
  have hkl : ¬ key.length < shOf r s kv.1 := by
   rcases hk with hk | hk
   ·unfold shOf; rw [if_pos hk]; omega
   ·rw [hk]; omega
  have hkk : key.take (shOf r s kv.1) ++ kv.1.drop (shOf r s kv.1) = kv.1 := by
   rcases hk with hk | hk
   ·have : shOf r s kv.1 = 0 := by unfold shOf; rw [if_pos hk]
    rw [this]; simp
   ·rw [hk]
    have : s.la.take (shOf r s kv.1) = kv.1.take (shOf r s kv.1) := by
     unfold shOf
     split
     ·simp
     ·exact com_take _ _
    rw [this, List.take_append_drop]
  simp only [List.length_cons, walkS, h1, hkl, if_false, h2, h3, hkk, itemsB, askB]
  have e5 : b + kv.2.length = (addB r s kv.1 kv.2).es.length := by rw [h4]; simp [addB, esOf]
  rw [e5]
  have ih := walk_lay A r t (addB r s kv.1 kv.2) kv.1 (A st ⟨s.n, s.es.length, shOf r s kv.1, kv.1, kv.2⟩).2 E hE (.inr rfl) c3 hl
  have e6 : (addB r s kv.1 kv.2).n = s.n + 1 := rfl
  rw [e6] at ih
  rw [ih]
def Up : List Nat → List (List Nat × List Nat) → Prop
 | _, [] => True
 | la, kv :: t => ordC la kv.1 < 0 ∧ Up kv.1 t
theorem word_four (A B : List Nat) (x i : Nat) (hx : x < 4294967296) (hA : A.length = i * 4) : wordAt ((A ++ be4 x) ++ B) i = x := by
 unfold wordAt be4
 have g : ∀ k, k < 4 → ((A ++ [x / 16777216, x / 65536 % 256, x / 256 % 256, x % 256]) ++ B).getD (i * 4 + k) 0 = [x / 16777216, x / 65536 % 256, x / 256 % 256, x % 256].getD k 0 := fun k hk => by
  rw [List.getD_eq_getElem?_getD, List.getD_eq_getElem?_getD, List.append_assoc, List.getElem?_append_right (by omega), hA, show i * 4 + k - i * 4 = k by omega, List.getElem?_append_left (by simpa using hk)]
 have g0 := g 0 (by omega)
 rw [Nat.add_zero] at g0
 rw [g0, g 1 (by omega), g 2 (by omega), g 3 (by omega)]
 simp only [List.getD_cons_zero, List.getD_cons_succ]
 unfold rdle
 omega
theorem ceil_now {n r : Nat} (hr : 1 ≤ r) : (n % r = 0 → (n + r - 1) / r = n / r) ∧ (n % r ≠ 0 → (n + r - 1) / r = n / r + 1) ∧ (n + 1 + r - 1) / r = n / r + 1 := by
 have h := Nat.div_add_mod n r
 have hm := Nat.mod_lt n (show 0 < r by omega)
 generalize n / r = q at *
 generalize n % r = m at *
 have p1 : ∀ y, (r * q + y) / r = q + y / r := fun y => Nat.mul_add_div (by omega) q y
 refine ⟨fun h0 => ?_, fun h0 => ?_, ?_⟩
 ·rw [show n + r - 1 = r * q + (r - 1) by omega, p1, Nat.div_eq_of_lt (by omega)]; rfl
 ·rw [show n + r - 1 = r * q + (r + (m - 1)) by omega, p1, Nat.add_div_left _ (by omega), Nat.div_eq_of_lt (by omega)]
 ·rw [show n + 1 + r - 1 = r * q + (r + m) by omega, p1, Nat.add_div_left _ (by omega), Nat.div_eq_of_lt (by omega)]
theorem ps_next {r : Nat} {s : Bs} (k v : List Nat) (hr : 1 ≤ r) (h : s.ps.length = (s.n + r - 1) / r * 4) : (addB r s k v).ps.length = ((addB r s k v).n + r - 1) / r * 4 := by
 obtain ⟨c1, c2, c3⟩ := ceil_now (n := s.n) hr
 simp only [addB, psOf]
 rw [c3]
 split
 ·rename_i h0
  rw [List.length_append, h, c1 h0]
  simp [be4]
  omega
 ·rename_i h0
  rw [h, c2 h0]
theorem ps_fold {r : Nat} (hr : 1 ≤ r) : ∀ (l : List (List Nat × List Nat)) (s : Bs), s.ps.length = (s.n + r - 1) / r * 4 → (foldB r s l).ps.length = ((foldB r s l).n + r - 1) / r * 4
 | [], s, h => h
 | kv :: t, s, h => by simp only [foldB]; exact ps_fold hr t _ (ps_next kv.1 kv.2 hr h)
theorem word_lay {r : Nat} (hr : 1 ≤ r) (kv : List Nat × List Nat) (t : List (List Nat × List Nat)) (s : Bs) (h : s.ps.length = (s.n + r - 1) / r * 4) (h0 : s.n % r = 0) (he : s.es.length < 4294967296) : wordAt (foldB r s (kv :: t)).ps (s.n / r) = s.es.length := by
 obtain ⟨m, hm⟩ := foldB_ps r t (addB r s kv.1 kv.2)
 simp only [foldB]
 rw [hm]
 simp only [addB, psOf, if_pos h0]
 exact word_four _ _ _ _ he (by rw [h, (ceil_now (n := s.n) hr).1 h0])
theorem fitB_iff (r : Nat) (P last : List Nat) (it : It) : fitB r P last it = true ↔ fitP r P last it := by
 unfold fitB
 simp
theorem ask_sound {r : Nat} (hr : 1 ≤ r) : ∀ (l : List (List Nat × List Nat)) (s : Bs) (P : List Nat) (p : Nat), P = (foldB r s l).ps → (∀ kv ∈ l, okIt kv.1 kv.2) → Up s.la l → s.ps.length = (s.n + r - 1) / r * 4 → (foldB r s l).es.length < 4294967296 →
  ∃ st, askB (SdA r P) p (itemsB r s l) s.la = (p, true, st)
 | [], s, P, p, hP, hok, hup, hps, he => ⟨s.la, rfl⟩
 | kv :: t, s, P, p, hP, hok, hup, hps, he => by
  obtain ⟨m, hm⟩ := foldB_es r (kv :: t) s
  have hes : s.es.length < 4294967296 := by rw [hm] at he; simp at he; omega
  have hf : fitB r P s.la ⟨s.n, s.es.length, shOf r s kv.1, kv.1, kv.2⟩ = true := by
   refine (fitB_iff ..).2 ?_
   refine ⟨hup.1, hok kv (by simp), fun h0 => ⟨?_, ?_⟩, fun h0 => ?_⟩
   ·unfold shOf; exact if_pos h0
   ·rw [hP]; exact (word_lay hr kv t s hps h0 hes).symm
   ·unfold shOf; exact if_neg h0
  simp only [itemsB, askB, SdA, hf, if_true]
  exact ask_sound hr t (addB r s kv.1 kv.2) P p hP (fun x hx => hok x (by simp [hx])) hup.2 (ps_next _ _ hr hps) he
theorem sound_lay {r : Nat} (hr : 1 ≤ r) (l : List (List Nat × List Nat)) (hok : ∀ kv ∈ l, okIt kv.1 kv.2) (hup : Up [] l) (he : (foldB r Bs.zero l).es.length < 4294967296) : soundB r l.length (foldB r Bs.zero l).es (foldB r Bs.zero l).ps = true := by
 have hz : Bs.zero.ps.length = (Bs.zero.n + r - 1) / r * 4 := by
  have := (ceil_now (n := 0) hr).1 (by simp)
  simp only [Bs.zero]
  rw [this]
  simp
 obtain ⟨st, h⟩ := ask_sound hr l Bs.zero _ (foldB r Bs.zero l).es.length rfl hok hup hz he
 have hw := walk_lay (SdA r (foldB r Bs.zero l).ps) r l Bs.zero [] [] _ rfl (.inr rfl) (Nat.le_refl _) (by omega)
 unfold soundB
 have e1 : walkS (foldB r Bs.zero l).es (SdA r (foldB r Bs.zero l).ps) l.length 0 0 [] [] = ((foldB r Bs.zero l).es.length, true, st) := by
  rw [← h]; exact hw
 rw [e1]
 simp
def kvL (l : List EntD) : List (List Nat × List Nat) := l.map fun e => (keyL e, e.val)
theorem addE_ok {r : Nat} {s : Bs} {e : EntD} (h : (addE r s e).1 = 0) : checkS e = 0 ∧ ¬ ordC (keyL e) s.la ≤ 0 ∧ fullB r s (keyL e) e.val = false ∧ (addE r s e).2 = addB r s (keyL e) e.val := by
 unfold addE at *
 split at h
 ·rename_i k; exact absurd h k
 ·split at h
  ·cases h
  ·split at h
   ·cases h
   ·rename_i k1 k2 k3
    rw [if_neg k1, if_neg k2, if_neg k3]
    exact ⟨Decidable.not_not.1 k1, k2, by simpa using k3, rfl⟩
theorem bldS_fold (r : Nat) : ∀ (l : List EntD) (s : Bs), (bldS r s l).1 = 0 → (bldS r s l).2 = foldB r s (kvL l) ∧ (∀ e ∈ l, checkS e = 0) ∧ Up s.la (kvL l) ∧ (l = [] ∨ (foldB r s (kvL l)).es.length + (foldB r s (kvL l)).ps.length + 9 ≤ 131072)
 | [], s, h => ⟨rfl, (fun e he => by cases he), trivial, .inl rfl⟩
 | e :: t, s, h => by
  simp only [bldS] at h ⊢
  split at h
  ·rename_i k
   obtain ⟨c1, c2, c3, c4⟩ := addE_ok k
   rw [if_pos k]
   rw [c4] at h ⊢
   obtain ⟨i1, i2, i3, i4⟩ := bldS_fold r t _ h
   refine ⟨i1, ?_, ⟨?_, i3⟩, .inr ?_⟩
   ·intro x hx
    rcases List.mem_cons.1 hx with rfl | hx
    ·exact c1
    ·exact i2 x hx
   ·show ordC s.la (keyL e) < 0
    rw [ordC_swap (keyL e) s.la]
    omega
   ·rcases i4 with rfl | i4
    ·simp only [kvL, List.map_cons, List.map_nil, foldB, addB]
     unfold fullB at c3
     rw [decide_eq_false_iff_not] at c3
     omega
    ·exact i4
  ·rename_i k; exact absurd h k
theorem ok_of_check {e : EntD} (h : checkS e = 0) : okIt (keyL e) e.val := by
 obtain ⟨h1, h2, h3, h4, h5, h6, h7, h8, h9⟩ := check_facts h
 have hD : checkS ⟨e.vr, e.fam, e.vq, e.ts, e.seq, e.kind, e.vv, e.row, e.qual, []⟩ = 0 := by
  unfold checkS
  simp only
  rw [if_neg (by omega), if_neg (by omega), if_neg (fun z => by rcases z with z | z; omega; have := h4 z.2; rw [this] at z; simp at z), if_neg (by omega), if_neg (by omega), if_neg (by omega), if_neg (by simp)]
 have hk : keyL ⟨e.vr, e.fam, e.vq, e.ts, e.seq, e.kind, e.vv, e.row, e.qual, []⟩ = keyL e := rfl
 refine ⟨⟨_, hD, rfl, hk⟩, h8, ?_⟩
 rw [keyL_last]
 by_cases k1 : e.kind = 1
 ·right; rw [k1]; rfl
 ·left; rw [h9 k1]; rfl
end Go.Proofs.YtchebhafabhabaaGreatDoor

namespace Go.Proofs.YtchebhafabhabaaGreatDoor
open Go.RowKit Go.Shelf
set_option linter.unusedVariables false

def cntOf (bs : List Nat) : Nat := rdle (bs.getD (bs.length - 9 + 3) 0) (bs.getD (bs.length - 9 + 2) 0) (bs.getD (bs.length - 9 + 1) 0) (bs.getD (bs.length - 9) 0)
def rstOf (bs : List Nat) : Nat := bs.getD (bs.length - 9 + 4) 0
def nrsOf (bs : List Nat) : Nat := (cntOf bs + rstOf bs - 1) / rstOf bs
def plsOf (bs : List Nat) : Nat := bs.length - 9 - 4 * nrsOf bs
def spOk (bs : List Nat) : Prop := cntOf bs ≠ 0 ∧ (1 ≤ rstOf bs ∧ rstOf bs ≤ 16) ∧ 4 * nrsOf bs ≤ bs.length - 9
def entsOf (bs : List Nat) : List Nat := bs.take (plsOf bs)
def placesOf5 (bs : List Nat) : List Nat := (bs.take (bs.length - 9)).drop (plsOf bs)
structure Lk (w : World) (B g r n b ne ce : Nat) (E P : List Nat) (np cp : Nat) : Prop where
 box : LBox w g (r : Int) (n : Int) (.slice (some ⟨b, 0, none⟩) ne ce) (.slice (some ⟨b, ne, none⟩) np cp)
 ents : Rd w (.slice (some ⟨b, 0, none⟩) ne ce) E
 pls : Rd w (.slice (some ⟨b, ne, none⟩) np cp) P
 bg : B ≤ g
 bb : B ≤ b
 ne : b ≠ g
def SpP (w : World) (bs : List Nat) (x : Ending) (w' : World) : Prop :=
 Below w.heap.size w w' ∧ ((¬ spOk bs ∧ x = .returned (.tuple #[.pointer none, .bool false])) ∨ (spOk bs ∧ ∃ g b ne ce np cp, x = .returned (.tuple #[.pointer (some ⟨g, 0, none⟩), .bool true]) ∧ Lk w' w.heap.size g (rstOf bs) (cntOf bs) b ne ce (entsOf bs) (placesOf5 bs) np cp))
set_option maxRecDepth 100000 in
set_option maxHeartbeats 2000000 in
theorem split_any {w : World} {b off n c : Nat} {bs : List Nat} (hr : Rd w (.slice (some ⟨b, off, none⟩) n c) bs) (h9 : 9 ≤ n) (hl : n ≤ 131072) :
  Calls Tryz.prog 63 #[.slice (some ⟨b, off, none⟩) n c] w fun x w' => SpP w bs x w' := by
 obtain ⟨hn, hle, hm, hl48⟩ := rd_lens hr
 obtain ⟨fo, hfo⟩ : ∃ fo, n - 9 = fo := ⟨_, rfl⟩
 have HFo : Hid (n = fo + 9) := by unfold Hid; omega
 have HN := Lib.hid hn
 have rd1 : Rd w (.slice (some ⟨b, off + fo, none⟩) (n - fo) (c - fo)) (bs.drop fo) := hr.past fo (by omega) rfl rfl rfl
 obtain ⟨cn, hcn⟩ : ∃ cn, cn = cntOf bs := ⟨_, rfl⟩
 obtain ⟨rs, hrs⟩ : ∃ rs, rs = rstOf bs := ⟨_, rfl⟩
 have cl := rd_cell hr (fo + 4) (by omega)
 have hcell : w.cell? ⟨b, off + (fo + 4), none⟩ = some (.int .u8 (rs : Int)) ∧ rs < 256 := by
  have e : rs = bs.getD (fo + 4) 0 := by rw [hrs]; unfold rstOf; rw [← hn, hfo]
  rw [e]; exact cl
 have HW : Hid (∀ wx, Below w.heap.size w wx → Calls Tryz.prog 93 #[.slice (some ⟨b, off + fo, none⟩) (n - fo) (c - fo)] wx fun e w' => e = .returned (.int .i64 (cn : Int)) ∧ Below wx.heap.size wx w') := fun wx hx => by
  have := readWord_any (rd1.later hx) (by rw [List.length_drop, ← hn]; omega)
  have e : rdle ((bs.drop fo).getD 3 0) ((bs.drop fo).getD 2 0) ((bs.drop fo).getD 1 0) ((bs.drop fo).getD 0 0) = cn := by
   rw [hcn]; unfold cntOf
   rw [← hn, hfo]
   simp [List.getD_eq_getElem?_getD, List.getElem?_drop]
  rw [e] at this
  exact this
 have hcl : cn < 4294967296 := by
  rw [hcn]
  exact rdle_lt _ _ _ _ (hr.1.get _) (hr.1.get _) (hr.1.get _) (hr.1.get _)
 have HCell := Lib.hid hcell
 have hrl : rs < 256 := hcell.2
 have HR := Lib.hid hr
 have HCn := Lib.hid hcn
 have HRs := Lib.hid hrs
 have hle2 : (fo : Int) ≤ (n : Int) := by omega
 have hcf : n ≤ c := hle
 clear rd1 cl hcell hr hcn hrs hn
 go_enter Tryz.func63, Tryz.ntmps63
 go_upto_region 2 with fail
 have BD : Below w.heap.size w w.drew := (Below.refl _ _).drew
 refine wp_region_noPanic ?_
 refine wp_region_held_drew (S := fun wx => Below w.heap.size w wx) (by kernel_rfl) BD (fun hHeld => ?_)
 refine wpAnyH_take (i := 0) (oi := { dst := some 13, op := _, type := _, pos := _, after := _, guard := _ }) (v := .slice (some ⟨b, off, none⟩) n c) rfl (by kernel_rfl) (by kernel_rfl) (by kernel_rfl) (fun _ _ _ h => h) (Or.inl ⟨by kernel_rfl, fun wy hy => by (go_simp; first | done | omega | exact IntWalk.i64_in _ ⟨by omega, by omega⟩ | (rw [if_pos ⟨by omega, by omega⟩, show ((fo : Int) + 4).toNat = fo + 4 by omega]))⟩) (by assumption) ?_
 try simp only [Act.put, List.setIfInBounds_toArray, List.set_cons_zero, List.set_cons_succ]
 refine wpAnyH_take (i := 1) (oi := { dst := some 14, op := _, type := _, pos := _, after := _, guard := _ }) (v := .int .i64 (fo : Int)) rfl (by kernel_rfl) (by kernel_rfl) (by kernel_rfl) (fun _ _ _ h => h) (Or.inl ⟨by kernel_rfl, fun wy hy => by (go_simp; first | done | omega | exact IntWalk.i64_in _ ⟨by omega, by omega⟩ | (rw [if_pos ⟨by omega, by omega⟩, show ((fo : Int) + 4).toNat = fo + 4 by omega]))⟩) (by assumption) ?_
 try simp only [Act.put, List.setIfInBounds_toArray, List.set_cons_zero, List.set_cons_succ]
 refine wpAnyH_take (i := 2) (oi := { dst := some 15, op := _, type := _, pos := _, after := _, guard := _ }) (v := .slice (some ⟨b, off + fo, none⟩) (n - fo) (c - fo)) rfl (by kernel_rfl) (by kernel_rfl) (by kernel_rfl) (fun _ _ _ h => h) (Or.inl ⟨by kernel_rfl, fun wy hy => by (go_simp; first | done | omega | exact IntWalk.i64_in _ ⟨by omega, by omega⟩ | (rw [if_pos ⟨by omega, by omega⟩, show ((fo : Int) + 4).toNat = fo + 4 by omega]))⟩) (by assumption) ?_
 try simp only [Act.put, List.setIfInBounds_toArray, List.set_cons_zero, List.set_cons_succ]
 refine wpAnyH_take (i := 4) (oi := { dst := some 17, op := _, type := _, pos := _, after := _, guard := _ }) (v := .slice (some ⟨b, off, none⟩) n c) rfl (by kernel_rfl) (by kernel_rfl) (by kernel_rfl) (fun _ _ _ h => h) (Or.inl ⟨by kernel_rfl, fun wy hy => by (go_simp; first | done | omega | exact IntWalk.i64_in _ ⟨by omega, by omega⟩ | (rw [if_pos ⟨by omega, by omega⟩, show ((fo : Int) + 4).toNat = fo + 4 by omega]))⟩) (by assumption) ?_
 try simp only [Act.put, List.setIfInBounds_toArray, List.set_cons_zero, List.set_cons_succ]
 refine wpAnyH_take (i := 5) (oi := { dst := some 18, op := _, type := _, pos := _, after := _, guard := _ }) (v := .int .i64 (fo : Int)) rfl (by kernel_rfl) (by kernel_rfl) (by kernel_rfl) (fun _ _ _ h => h) (Or.inl ⟨by kernel_rfl, fun wy hy => by (go_simp; first | done | omega | exact IntWalk.i64_in _ ⟨by omega, by omega⟩ | (rw [if_pos ⟨by omega, by omega⟩, show ((fo : Int) + 4).toNat = fo + 4 by omega]))⟩) (by assumption) ?_
 try simp only [Act.put, List.setIfInBounds_toArray, List.set_cons_zero, List.set_cons_succ]
 refine wpAnyH_take (i := 6) (oi := { dst := some 19, op := _, type := _, pos := _, after := _, guard := _ }) (v := .int .i64 ((fo + 4 : Nat) : Int)) rfl (by kernel_rfl) (by kernel_rfl) (by kernel_rfl) (fun _ _ _ h => h) (Or.inl ⟨by kernel_rfl, fun wy hy => by (go_simp; first | done | omega | exact IntWalk.i64_in _ ⟨by omega, by omega⟩ | (rw [if_pos ⟨by omega, by omega⟩, show ((fo : Int) + 4).toNat = fo + 4 by omega]))⟩) (by assumption) ?_
 try simp only [Act.put, List.setIfInBounds_toArray, List.set_cons_zero, List.set_cons_succ]
 refine wpAnyH_take (i := 7) (oi := { dst := some 20, op := _, type := _, pos := _, after := _, guard := _ }) (v := .pointer (some ⟨b, off + (fo + 4), none⟩)) rfl (by kernel_rfl) (by kernel_rfl) (by kernel_rfl) (fun _ _ _ h => h) (Or.inl ⟨by kernel_rfl, fun wy hy => by (go_simp; first | done | omega | exact IntWalk.i64_in _ ⟨by omega, by omega⟩ | (rw [if_pos ⟨by omega, by omega⟩, show ((fo : Int) + 4).toNat = fo + 4 by omega]))⟩) (by assumption) ?_
 try simp only [Act.put, List.setIfInBounds_toArray, List.set_cons_zero, List.set_cons_succ]
 refine wpAnyH_take (i := 8) (oi := { dst := some 21, op := _, type := _, pos := _, after := _, guard := _ }) (v := .int .u8 (rs : Int)) rfl (by kernel_rfl) (by kernel_rfl) (by kernel_rfl) (fun _ _ _ h => h) (Or.inl ⟨by kernel_rfl, fun wy hy => by (have q0 := (hy.cell (p := ⟨b, off + (fo + 4), none⟩) (World.block_lt_of_cell? w _ HCell.out.1)).trans HCell.out.1; go_simp; done)⟩) (by assumption) ?_
 try simp only [Act.put, List.setIfInBounds_toArray, List.set_cons_zero, List.set_cons_succ]
 refine wpAnyH_take (i := 9) (oi := { dst := some 22, op := _, type := _, pos := _, after := _, guard := _ }) (v := .int .i64 (rs : Int)) rfl (by kernel_rfl) (by kernel_rfl) (by kernel_rfl) (fun _ _ _ h => h) (Or.inl ⟨by kernel_rfl, fun wy hy => by (go_simp; first | done | omega | exact IntWalk.i64_in _ ⟨by omega, by omega⟩ | (rw [if_pos ⟨by omega, by omega⟩, show ((fo : Int) + 4).toNat = fo + 4 by omega]))⟩) (by assumption) ?_
 try simp only [Act.put, List.setIfInBounds_toArray, List.set_cons_zero, List.set_cons_succ]
 refine wpAnyH_ready (rs := [3]) (by kernel_rfl) (by simp) ?_
 refine AllReadyH.cons (o := { dst := some 16, op := _, type := _, pos := _, after := _, guard := _ }) rfl (fun KK hK => ?_) AllReadyH.nil
 go_simp
 go_at_call 93
 refine (HW.out _ BD).mono ?_
 rintro e1 X1 ⟨rfl, hb1⟩
 have bX1 : Below w.heap.size w X1 := BD.trans (hb1.mono BD.size)
 clear hb1 BD HW
 go_wp2_with fail
 refine hK.out _ _ bX1 (fun hHeld => ?_)
 clear hK
 try simp only [Act.put, List.setIfInBounds_toArray, List.set_cons_zero, List.set_cons_succ]
 refine wpAnyH_take (i := 10) (oi := { dst := some 5, op := _, type := _, pos := _, after := _, guard := _ }) (v := .int .i64 (cn : Int)) rfl (by kernel_rfl) (by kernel_rfl) (by kernel_rfl) (fun _ _ _ h => h) (Or.inl ⟨by kernel_rfl, fun wy hy => by (go_simp; first | done | omega | exact IntWalk.i64_in _ ⟨by omega, by omega⟩ | (rw [if_pos ⟨by omega, by omega⟩, show ((fo : Int) + 4).toNat = fo + 4 by omega]))⟩) (by assumption) ?_
 try simp only [Act.put, List.setIfInBounds_toArray, List.set_cons_zero, List.set_cons_succ]
 refine wpAnyH_take (i := 11) (oi := { dst := some 6, op := _, type := _, pos := _, after := _, guard := _ }) (v := .int .i64 (rs : Int)) rfl (by kernel_rfl) (by kernel_rfl) (by kernel_rfl) (fun _ _ _ h => h) (Or.inl ⟨by kernel_rfl, fun wy hy => by (go_simp; first | done | omega | exact IntWalk.i64_in _ ⟨by omega, by omega⟩ | (rw [if_pos ⟨by omega, by omega⟩, show ((fo : Int) + 4).toNat = fo + 4 by omega]))⟩) (by assumption) ?_
 try simp only [Act.put, List.setIfInBounds_toArray, List.set_cons_zero, List.set_cons_succ]
 refine wpAnyH_done (by kernel_rfl) (NoPanic.normal ?_) _
 clear hHeld
 go_simp
 go_step
 clear hHeld KK
 have HB1 := Lib.hid bX1
 have hNo : Hid (¬ (cn ≠ 0 ∧ (1 ≤ rs ∧ rs ≤ 16) ∧ 4 * nrsOf bs ≤ fo) → SpP w bs (.returned (.tuple #[.pointer none, .bool false])) X1) := fun h => ⟨HB1.out, .inl ⟨fun k => h (by unfold spOk at k; rw [← HCn.out, ← HRs.out, ← HN.out, hfo] at k; exact k), rfl⟩⟩
 clear bX1
 by_cases hc0 : cn = 0
 ·have hc1 : (cn : Int) = 0 := by omega
  go_wp2
  go_ret2
  exact hNo.out (fun h => h.1 hc0)
 have hc1 : ¬ (cn : Int) = 0 := by omega
 have HM := Lib.hid (mayRestart_any (rs : Int) X1)
 go_wp2_with fail
 refine Calls.mono HM.out ?_
 rintro z X2 ⟨rfl, rfl⟩
 by_cases hr16 : 1 ≤ rs ∧ rs ≤ 16
 ·rw [decide_eq_true (show (1 : Int) ≤ (rs : Int) ∧ (rs : Int) ≤ 16 by omega)]
  go_upto_region 5 with fail
  rw [show (n : Int) - 9 = (fo : Int) by omega]
  have hrs0 : ¬ (rs : Int) = 0 := by omega
  obtain ⟨ns, hns⟩ : ∃ ns, (cn + rs - 1) / rs = ns := ⟨_, rfl⟩
  have hnsb : ns ≤ 4294967312 := by rw [← hns]; exact Nat.le_trans (Nat.div_le_self _ _) (by omega)
  have hnsi : ((cn : Int) + (rs : Int) - 1) / (rs : Int) = (ns : Int) := by
   rw [← hns, show ((cn : Int) + (rs : Int) - 1) = ((cn + rs - 1 : Nat) : Int) by omega]
   exact (Int.natCast_ediv _ _).symm
  have HNs : Hid (nrsOf bs = ns) := by unfold Hid nrsOf; rw [← HCn.out, ← HRs.out]; exact hns
  clear hns
  go_upto_region 6 with fail
  rw [hnsi]
  clear hnsi
  by_cases hpl : 4 * ns ≤ fo
  ·obtain ⟨pl, hpl2⟩ : ∃ pl, fo - 4 * ns = pl := ⟨_, rfl⟩
   have hpi : (fo : Int) - 4 * (ns : Int) = (pl : Int) := by omega
   have hple : pl ≤ fo := by omega
   have hns1 : 1 ≤ ns := by
    have e := HNs.out
    unfold nrsOf at e
    rw [← HCn.out, ← HRs.out] at e
    rw [← e]
    exact Nat.div_pos (by omega) (by omega)
   have rdF : Rd X2 (.slice (some ⟨b, off, none⟩) fo c) (bs.take fo) := (HR.out.later HB1.out).upto fo (by omega)
   have HC := Lib.hid (handed (clone_any rdF (by have := (rd_lens rdF).1; omega)))
   have HF := Lib.hid rdF
   clear rdF
   go_wp2_with fail
   refine Calls.mono HC.out ?_
   rintro z X3 ⟨a3, m3, c3, rfl, own3, b3⟩
   have hm3 : fo = m3 := by rw [own3.1]; exact (rd_lens HF.out).1
   subst hm3
   obtain ⟨g, rfl⟩ : ∃ g, a3 = some ⟨g, 0, none⟩ := by
    rcases ownNonil own3 with ⟨_, h, _⟩ | h
    ·omega
    ·exact h
   have hgl : X2.heap.size ≤ g ∧ g < X3.heap.size := own3.2.lt g rfl
   have rdO : Rd X3 (.slice (some ⟨g, 0, none⟩) fo c3) (bs.take fo) := own3.rd HF.out.1 (by omega)
   have hfc : fo ≤ c3 := (rd_lens rdO).2.1
   have rd1 := rdO.upto pl hple
   have rd2 : Rd X3 (.slice (some ⟨g, pl, none⟩) (fo - pl) (c3 - pl)) ((bs.take fo).drop pl) := rdO.past pl hple (by omega) rfl rfl
   have HRd := Lib.hid (And.intro rd1 rd2)
   have HB3 := Lib.hid (HB1.out.trans (b3.mono HB1.out.size))
   have HG := Lib.hid (show w.heap.size ≤ g ∧ g < X3.heap.size from ⟨Nat.le_trans HB1.out.size hgl.1, hgl.2⟩)
   clear own3 b3 rdO rd1 rd2 HC hgl
   go_upto_region 10 with fail
   have BD : Below X3.heap.size X3 X3.drew := (Below.refl _ _).drew
   refine wp_region_noPanic ?_
   refine wp_region_held_drew (S := fun wx => Below X3.heap.size X3 wx) (by kernel_rfl) BD (fun hHeld => ?_)
   refine wpAnyH_take (i := 0) (oi := { dst := some 46, op := _, type := _, pos := _, after := _, guard := _ }) (v := .int .i64 (rs : Int)) rfl (by kernel_rfl) (by kernel_rfl) (by kernel_rfl) (fun _ _ _ h => h) (Or.inl ⟨by kernel_rfl, fun wy hy => by (go_simp; first | done | omega)⟩) (by assumption) ?_
   try simp only [Act.put, List.setIfInBounds_toArray, List.set_cons_zero, List.set_cons_succ]
   refine wpAnyH_take (i := 1) (oi := { dst := some 47, op := _, type := _, pos := _, after := _, guard := _ }) (v := .int .i64 (cn : Int)) rfl (by kernel_rfl) (by kernel_rfl) (by kernel_rfl) (fun _ _ _ h => h) (Or.inl ⟨by kernel_rfl, fun wy hy => by (go_simp; first | done | omega)⟩) (by assumption) ?_
   try simp only [Act.put, List.setIfInBounds_toArray, List.set_cons_zero, List.set_cons_succ]
   refine wpAnyH_take (i := 2) (oi := { dst := some 48, op := _, type := _, pos := _, after := _, guard := _ }) (v := .slice (some ⟨g, 0, none⟩) fo c3) rfl (by kernel_rfl) (by kernel_rfl) (by kernel_rfl) (fun _ _ _ h => h) (Or.inl ⟨by kernel_rfl, fun wy hy => by (go_simp; first | done | omega)⟩) (by assumption) ?_
   try simp only [Act.put, List.setIfInBounds_toArray, List.set_cons_zero, List.set_cons_succ]
   refine wpAnyH_take (i := 3) (oi := { dst := some 49, op := _, type := _, pos := _, after := _, guard := _ }) (v := .int .i64 (pl : Int)) rfl (by kernel_rfl) (by kernel_rfl) (by kernel_rfl) (fun _ _ _ h => h) (Or.inl ⟨by kernel_rfl, fun wy hy => by (go_simp; first | done | omega)⟩) (by assumption) ?_
   try simp only [Act.put, List.setIfInBounds_toArray, List.set_cons_zero, List.set_cons_succ]
   refine wpAnyH_take (i := 4) (oi := { dst := some 50, op := _, type := _, pos := _, after := _, guard := _ }) (v := .slice (some ⟨g, 0, none⟩) pl c3) rfl (by kernel_rfl) (by kernel_rfl) (by kernel_rfl) (fun _ _ _ h => h) (Or.inl ⟨by kernel_rfl, fun wy hy => by (go_simp; first | done | omega)⟩) (by assumption) ?_
   try simp only [Act.put, List.setIfInBounds_toArray, List.set_cons_zero, List.set_cons_succ]
   refine wpAnyH_take (i := 5) (oi := { dst := some 51, op := _, type := _, pos := _, after := _, guard := _ }) (v := .slice (some ⟨g, 0, none⟩) fo c3) rfl (by kernel_rfl) (by kernel_rfl) (by kernel_rfl) (fun _ _ _ h => h) (Or.inl ⟨by kernel_rfl, fun wy hy => by (go_simp; first | done | omega)⟩) (by assumption) ?_
   try simp only [Act.put, List.setIfInBounds_toArray, List.set_cons_zero, List.set_cons_succ]
   refine wpAnyH_take (i := 6) (oi := { dst := some 52, op := _, type := _, pos := _, after := _, guard := _ }) (v := .int .i64 (pl : Int)) rfl (by kernel_rfl) (by kernel_rfl) (by kernel_rfl) (fun _ _ _ h => h) (Or.inl ⟨by kernel_rfl, fun wy hy => by (go_simp; first | done | omega)⟩) (by assumption) ?_
   try simp only [Act.put, List.setIfInBounds_toArray, List.set_cons_zero, List.set_cons_succ]
   refine wpAnyH_take (i := 7) (oi := { dst := some 53, op := _, type := _, pos := _, after := _, guard := _ }) (v := .slice (some ⟨g, pl, none⟩) (fo - pl) (c3 - pl)) rfl (by kernel_rfl) (by kernel_rfl) (by kernel_rfl) (fun _ _ _ h => h) (Or.inl ⟨by kernel_rfl, fun wy hy => by (go_simp; first | done | omega)⟩) (by assumption) ?_
   try simp only [Act.put, List.setIfInBounds_toArray, List.set_cons_zero, List.set_cons_succ]
   refine wpAnyH_take (i := 8) (oi := { dst := some 54, op := _, type := _, pos := _, after := _, guard := _ }) (v := .agg #[.int .i64 (rs : Int), .int .i64 (cn : Int), .slice (some ⟨g, 0, none⟩) pl c3, .slice (some ⟨g, pl, none⟩) (fo - pl) (c3 - pl)]) rfl (by kernel_rfl) (by kernel_rfl) (by kernel_rfl) (fun _ _ _ h => h) (Or.inl ⟨by kernel_rfl, fun wy hy => by (go_simp; first | done | omega)⟩) (by assumption) ?_
   try simp only [Act.put, List.setIfInBounds_toArray, List.set_cons_zero, List.set_cons_succ]
   refine wpAnyH_ready (rs := [9]) (by kernel_rfl) (by simp) ?_
   refine AllReadyH.cons (o := { dst := some 55, op := _, type := _, pos := _, after := _, guard := _ }) rfl (fun KK hK => ?_) AllReadyH.nil
   go_simp
   have bY : Below X3.heap.size X3 ((X3.alloc (.cells #[.int .i64 (rs : Int), .int .i64 (cn : Int), .slice (some ⟨g, 0, none⟩) pl c3, .slice (some ⟨g, pl, none⟩) (fo - pl) (c3 - pl)] 107)).drew) := ((Below.refl _ _).alloc (Nat.le_refl _) _).drew
   have hbox : LBox ((X3.alloc (.cells #[.int .i64 (rs : Int), .int .i64 (cn : Int), .slice (some ⟨g, 0, none⟩) pl c3, .slice (some ⟨g, pl, none⟩) (fo - pl) (c3 - pl)] 107)).drew) X3.heap.size (rs : Int) (cn : Int) (.slice (some ⟨g, 0, none⟩) pl c3) (.slice (some ⟨g, pl, none⟩) (fo - pl) (c3 - pl)) := heap_alloc_new X3 _
   refine hK.out _ _ bY (fun hHeld => ?_)
   clear hK
   have HEnd : Hid (SpP w bs (.returned (.tuple #[.pointer (some ⟨X3.heap.size, 0, none⟩), .bool true])) ((X3.alloc (.cells #[.int .i64 (rs : Int), .int .i64 (cn : Int), .slice (some ⟨g, 0, none⟩) pl c3, .slice (some ⟨g, pl, none⟩) (fo - pl) (c3 - pl)] 107)).drew)) := by
    refine ⟨HB3.out.trans (bY.mono HB3.out.size), .inr ⟨?_, X3.heap.size, g, pl, c3, fo - pl, c3 - pl, rfl, ?_, ?_, ?_, HB3.out.size, HG.out.1, by have := HG.out.2; omega⟩⟩
    ·unfold spOk
     rw [← HCn.out, ← HRs.out, HNs.out, ← HN.out, hfo]
     exact ⟨hc0, hr16, hpl⟩
    ·rw [← HCn.out, ← HRs.out]; exact hbox
    ·have e : entsOf bs = (bs.take fo).take pl := by
      unfold entsOf plsOf
      rw [HNs.out, ← HN.out, hfo, hpl2, List.take_take, Nat.min_eq_left hple]
     rw [e]; exact HRd.out.1.later bY
    ·have e : placesOf5 bs = (bs.take fo).drop pl := by
      unfold placesOf5 plsOf
      rw [HNs.out, ← HN.out, hfo, hpl2]
     rw [e]; exact HRd.out.2.later bY
   clear hbox bY
   generalize ((X3.alloc (.cells #[.int .i64 (rs : Int), .int .i64 (cn : Int), .slice (some ⟨g, 0, none⟩) pl c3, .slice (some ⟨g, pl, none⟩) (fo - pl) (c3 - pl)] 107)).drew) = Y at *
   try simp only [Act.put, List.setIfInBounds_toArray, List.set_cons_zero, List.set_cons_succ]
   refine wpAnyH_take (i := 10) (oi := { dst := some 2, op := _, type := _, pos := _, after := _, guard := _ }) (v := .pointer (some ⟨X3.heap.size, 0, none⟩)) rfl (by kernel_rfl) (by kernel_rfl) (by kernel_rfl) (fun _ _ _ h => h) (Or.inl ⟨by kernel_rfl, fun wy hy => by (go_simp; first | done | omega)⟩) (by assumption) ?_
   try simp only [Act.put, List.setIfInBounds_toArray, List.set_cons_zero, List.set_cons_succ]
   refine wpAnyH_take (i := 11) (oi := { dst := some 3, op := _, type := _, pos := _, after := _, guard := _ }) (v := .bool true) rfl (by kernel_rfl) (by kernel_rfl) (by kernel_rfl) (fun _ _ _ h => h) (Or.inl ⟨by kernel_rfl, fun wy hy => by (go_simp; first | done | omega)⟩) (by assumption) ?_
   try simp only [Act.put, List.setIfInBounds_toArray, List.set_cons_zero, List.set_cons_succ]
   refine wpAnyH_done (by kernel_rfl) (NoPanic.normal ?_) _
   clear hHeld
   go_simp
   go_step
   go_wp2
   go_ret2
   exact HEnd.out
  ·have hpn : (fo : Int) - 4 * (ns : Int) < 0 := by omega
   go_wp2
   go_ret2
   exact hNo.out (fun h => hpl (by rw [← HNs.out]; exact h.2.2))
 ·rw [decide_eq_false (show ¬ ((1 : Int) ≤ (rs : Int) ∧ (rs : Int) ≤ 16) by omega)]
  go_wp2
  go_ret2
  exact hNo.out (fun h => hr16 h.2.1)
end Go.Proofs.YtchebhafabhabaaGreatDoor

namespace Go.Proofs.YtchebhafabhabaaGreatDoor
open Go.RowKit Go.Shelf
set_option linter.unusedVariables false

def sum4 (bs : List Nat) : Nat := rdle (bs.getD (bs.length - 4) 0) (bs.getD (bs.length - 4 + 1) 0) (bs.getD (bs.length - 4 + 2) 0) (bs.getD (bs.length - 4 + 3) 0)
instance (bs : List Nat) : Decidable (spOk bs) := by unfold spOk; infer_instance
noncomputable def opE (bs : List Nat) : Nat := if 131072 < bs.length then 2 else if bs.length < 9 then 51 else if sum4 bs ≠ sumL (bs.take (bs.length - 4)) then 52 else if spOk bs ∧ soundB (rstOf bs) (cntOf bs) (entsOf bs) (placesOf5 bs) = true then 0 else 51
def OpP (w : World) (bs : List Nat) (x : Ending) (w' : World) : Prop :=
 Below w.heap.size w w' ∧ ((opE bs ≠ 0 ∧ x = .returned (.tuple #[.pointer none, .int .i64 ((opE bs : Nat) : Int)])) ∨ (opE bs = 0 ∧ ∃ g b ne ce np cp, x = .returned (.tuple #[.pointer (some ⟨g, 0, none⟩), .int .i64 0]) ∧ Lk w' w.heap.size g (rstOf bs) (cntOf bs) b ne ce (entsOf bs) (placesOf5 bs) np cp))
theorem spOk_ps {bs : List Nat} (h9 : 9 ≤ bs.length) (h : spOk bs) : (placesOf5 bs).length = 4 * nrsOf bs ∧ ∀ k, k < cntOf bs → k / rstOf bs * 4 + 4 ≤ (placesOf5 bs).length := by
 obtain ⟨h1, h2, h3⟩ := h
 have e : (placesOf5 bs).length = 4 * nrsOf bs := by
  unfold placesOf5 plsOf
  simp only [List.length_drop, List.length_take]
  omega
 refine ⟨e, fun k hk => ?_⟩
 rw [e]
 unfold nrsOf
 have : k / rstOf bs + 1 ≤ (cntOf bs + rstOf bs - 1) / rstOf bs := by
  rw [Nat.le_div_iff_mul_le (by omega)]
  have := Nat.div_mul_le_self k (rstOf bs)
  rw [Nat.add_mul]
  omega
 omega
set_option maxRecDepth 100000 in
set_option maxHeartbeats 4000000 in
theorem open_in {w : World} {b off n c : Nat} {bs : List Nat} (hr : Rd w (.slice (some ⟨b, off, none⟩) n c) bs) (ht : Tab w) (h9 : 9 ≤ n) (hl : n ≤ 131072) :
  Calls Tryz.prog 25 #[.slice (some ⟨b, off, none⟩) n c] w fun x w' => OpP w bs x w' := by
 obtain ⟨hn, hle, hm, hl48⟩ := rd_lens hr
 obtain ⟨sm, hsm⟩ : ∃ sm, n - 4 = sm := ⟨_, rfl⟩
 obtain ⟨sa, hsa⟩ : ∃ sa, sum4 bs = sa := ⟨_, rfl⟩
 obtain ⟨sb, hsb⟩ : ∃ sb, sumL (bs.take sm) = sb := ⟨_, rfl⟩
 have rdT : Rd w (.slice (some ⟨b, off + sm, none⟩) (n - sm) (c - sm)) (bs.drop sm) := hr.past sm (by omega) rfl rfl rfl
 have rdH : Rd w (.slice (some ⟨b, off, none⟩) sm c) (bs.take sm) := hr.upto sm (by omega)
 have HRS : Hid (∀ wx, Below w.heap.size w wx → Calls Tryz.prog 61 #[.slice (some ⟨b, off + sm, none⟩) (n - sm) (c - sm)] wx fun e w' => e = .returned (.int .u32 (sa : Int)) ∧ Below wx.heap.size wx w') := fun wx hx => by
  have := readSumB_any (rdT.later hx) (by rw [List.length_drop, ← hn]; omega)
  have e : rdle ((bs.drop sm).getD 0 0) ((bs.drop sm).getD 1 0) ((bs.drop sm).getD 2 0) ((bs.drop sm).getD 3 0) = sa := by
   rw [← hsa]; unfold sum4
   rw [← hn, hsm]
   simp [List.getD_eq_getElem?_getD, List.getElem?_drop]
  rw [e] at this
  exact this
 have HSu : Hid (∀ (wx : World) (q : Nat), Below w.heap.size w wx → wx.cell? ⟨q, 0, none⟩ = some (.slice (some ⟨b, off, none⟩) sm c) → Calls Tryz.prog 62 #[.slice (some ⟨q, 0, none⟩) 1 1] wx fun e w' => e = .returned (.int .u32 (sb : Int)) ∧ w' = wx) := fun wx q hx hc => by
  have := sum_any (rdp_one hc (rdH.later hx)) (ht.later hx)
  rw [← hsb]
  simpa using this
 have HNe : Hid ((!decide (sa = sb)) = !((sa : Int) == (sb : Int))) := by
  unfold Hid
  congr 1
  rw [Bool.eq_iff_iff]
  simp
  omega
 have HSp := Lib.hid (fun (wx : World) (hx : Below w.heap.size w wx) => split_any (hr.later hx) h9 hl)
 have HN := Lib.hid hn
 have HR := Lib.hid hr
 have HSm := Lib.hid hsm
 have HSa := Lib.hid hsa
 have HSb := Lib.hid hsb
 have h4 : sm + 4 = n := by omega
 have h4i : (n : Int) - 4 = (sm : Int) := by omega
 clear rdT rdH hr hn ht hsa hsb hsm
 go_enter Tryz.func25, Tryz.ntmps25
 go_upto_region 6 with fail
 have BD : Below w.heap.size w w.drew := (Below.refl _ _).drew
 refine wp_region_noPanic ?_
 refine wp_region_held_drew (S := fun wx => Below w.heap.size w wx) (by kernel_rfl) BD (fun hHeld => ?_)
 refine wpAnyH_take (i := 0) (oi := { dst := some 16, op := _, type := _, pos := _, after := _, guard := _ }) (v := .slice (some ⟨b, off, none⟩) n c) rfl (by kernel_rfl) (by kernel_rfl) (by kernel_rfl) (fun _ _ _ h => h) (Or.inl ⟨by kernel_rfl, fun wy hy => by (go_simp; first | done | omega)⟩) (by assumption) ?_
 try simp only [Act.put, List.setIfInBounds_toArray, List.set_cons_zero, List.set_cons_succ]
 refine wpAnyH_take (i := 1) (oi := { dst := some 17, op := _, type := _, pos := _, after := _, guard := _ }) (v := .int .i64 (sm : Int)) rfl (by kernel_rfl) (by kernel_rfl) (by kernel_rfl) (fun _ _ _ h => h) (Or.inl ⟨by kernel_rfl, fun wy hy => by (go_simp; first | done | omega)⟩) (by assumption) ?_
 try simp only [Act.put, List.setIfInBounds_toArray, List.set_cons_zero, List.set_cons_succ]
 refine wpAnyH_take (i := 2) (oi := { dst := some 18, op := _, type := _, pos := _, after := _, guard := _ }) (v := .slice (some ⟨b, off + sm, none⟩) (n - sm) (c - sm)) rfl (by kernel_rfl) (by kernel_rfl) (by kernel_rfl) (fun _ _ _ h => h) (Or.inl ⟨by kernel_rfl, fun wy hy => by (go_simp; first | done | omega | (rw [if_pos (by omega), if_neg (by omega)]))⟩) (by assumption) ?_
 try simp only [Act.put, List.setIfInBounds_toArray, List.set_cons_zero, List.set_cons_succ]
 refine wpAnyH_take (i := 4) (oi := { dst := some 20, op := _, type := _, pos := _, after := _, guard := _ }) (v := .slice (some ⟨b, off, none⟩) n c) rfl (by kernel_rfl) (by kernel_rfl) (by kernel_rfl) (fun _ _ _ h => h) (Or.inl ⟨by kernel_rfl, fun wy hy => by (go_simp; first | done | omega)⟩) (by assumption) ?_
 try simp only [Act.put, List.setIfInBounds_toArray, List.set_cons_zero, List.set_cons_succ]
 refine wpAnyH_take (i := 5) (oi := { dst := some 21, op := _, type := _, pos := _, after := _, guard := _ }) (v := .int .i64 (sm : Int)) rfl (by kernel_rfl) (by kernel_rfl) (by kernel_rfl) (fun _ _ _ h => h) (Or.inl ⟨by kernel_rfl, fun wy hy => by (go_simp; first | done | omega)⟩) (by assumption) ?_
 try simp only [Act.put, List.setIfInBounds_toArray, List.set_cons_zero, List.set_cons_succ]
 refine wpAnyH_take (i := 6) (oi := { dst := some 22, op := _, type := _, pos := _, after := _, guard := _ }) (v := .slice (some ⟨b, off, none⟩) sm c) rfl (by kernel_rfl) (by kernel_rfl) (by kernel_rfl) (fun _ _ _ h => h) (Or.inl ⟨by kernel_rfl, fun wy hy => by (go_simp; first | done | omega | (rw [if_pos (by omega), if_neg (by omega)]))⟩) (by assumption) ?_
 try simp only [Act.put, List.setIfInBounds_toArray, List.set_cons_zero, List.set_cons_succ]
 refine wpAnyH_ready (rs := [3, 7]) (by kernel_rfl) (by simp) ?_
 refine AllReadyH.cons (o := { dst := some 19, op := _, type := _, pos := _, after := _, guard := _ }) rfl (fun KK hK => ?_) (AllReadyH.cons (o := { dst := some 23, op := _, type := _, pos := _, after := _, guard := _ }) rfl (fun KK hK => ?_) AllReadyH.nil)
 ·go_simp
  go_at_call 61
  refine (HRS.out _ BD).mono ?_
  rintro e1 X1 ⟨rfl, hb1⟩
  have bX1 : Below w.heap.size w X1 := BD.trans (hb1.mono BD.size)
  clear hb1 BD
  go_wp2_with fail
  refine hK.out _ _ bX1 (fun hHeld => ?_)
  clear hK
  try simp only [Act.put, List.setIfInBounds_toArray, List.set_cons_zero, List.set_cons_succ]
  refine wpAnyH_ready (rs := [7]) (by kernel_rfl) (by simp) ?_
  refine AllReadyH.cons (o := { dst := some 23, op := _, type := _, pos := _, after := _, guard := _ }) rfl (fun KK hK => ?_) AllReadyH.nil
  go_simp
  have bX3 : Below w.heap.size w (X1.alloc (.cells #[.slice (some ⟨b, off, none⟩) sm c] 36)) := bX1.alloc bX1.size _
  have hc3 : (X1.alloc (.cells #[.slice (some ⟨b, off, none⟩) sm c] 36)).cell? ⟨X1.heap.size, 0, none⟩ = some (.slice (some ⟨b, off, none⟩) sm c) := by simp
  refine hK.out _ _ bX3 (fun hHeld => ?_)
  clear hK
  generalize (X1.alloc (.cells #[.slice (some ⟨b, off, none⟩) sm c] 36)) = X3 at *
  try simp only [Act.put, List.setIfInBounds_toArray, List.set_cons_zero, List.set_cons_succ]
  refine wpAnyH_ready (rs := [8]) (by kernel_rfl) (by simp) ?_
  refine AllReadyH.cons (o := { dst := some 24, op := _, type := _, pos := _, after := _, guard := _ }) rfl (fun KK hK => ?_) AllReadyH.nil
  go_simp
  go_at_call 62
  refine (HSu.out _ _ bX3 hc3).mono ?_
  rintro e1 X4 ⟨rfl, rfl⟩
  go_wp2_with fail
  refine hK.out _ _ bX3 (fun hHeld => ?_)
  clear hK
  try simp only [Act.put, List.setIfInBounds_toArray, List.set_cons_zero, List.set_cons_succ]
  refine wpAnyH_take (i := 9) (oi := { dst := some 25, op := _, type := _, pos := _, after := _, guard := _ }) (v := .bool (!decide (sa = sb))) rfl (by kernel_rfl) (by kernel_rfl) (by kernel_rfl) (fun _ _ _ h => h) (Or.inl ⟨by kernel_rfl, fun wy hy => by (go_simp; first | done | exact HNe.out.symm | exact congrArg (fun z => Result.ok (Next.value (Value.bool z)) _) HNe.out.symm)⟩) (by assumption) ?_
  try simp only [Act.put, List.setIfInBounds_toArray, List.set_cons_zero, List.set_cons_succ]
  refine wpAnyH_done (by kernel_rfl) (NoPanic.normal ?_) _
  clear hHeld HSu HRS
  have HB4 := Lib.hid bX3
  clear bX3 hc3
  go_simp
  go_step
  have hne : ¬ 131072 < bs.length := by rw [← HN.out]; omega
  have hnl : ¬ bs.length < 9 := by rw [← HN.out]; omega
  have he4 : sumL (bs.take (bs.length - 4)) = sb := by rw [← HN.out, HSm.out]; exact HSb.out
  by_cases hss : sa = sb
  ·have HE : Hid (opE bs = if spOk bs ∧ soundB (rstOf bs) (cntOf bs) (entsOf bs) (placesOf5 bs) = true then 0 else 51) := by
    unfold Hid opE
    rw [if_neg hne, if_neg hnl, if_neg (by rw [HSa.out, he4]; exact fun k => k hss)]
   clear hne hnl he4
   rw [decide_eq_true hss]
   have HSp4 := Lib.hid (HSp.out _ HB4.out)
   clear HSp
   go_wp2_with fail
   refine Calls.mono HSp4.out ?_
   rintro z X5 ⟨b5, h | h⟩
   ·obtain ⟨hno, rfl⟩ := h
    have HEnd : Hid (OpP w bs (.returned (.tuple #[.pointer none, .int .i64 51])) X5) := by
     have e : opE bs = 51 := by rw [HE.out, if_neg (fun k => hno k.1)]
     exact ⟨HB4.out.trans (b5.mono HB4.out.size), .inl ⟨by rw [e]; decide, by rw [e]; rfl⟩⟩
    clear hno b5 HSp4
    go_wp2
    go_ret2
    exact HEnd.out
   ·obtain ⟨hsp, g, bo, ne, ce, np, cp, rfl, lk⟩ := h
    have hps := spOk_ps (by rw [← HN.out]; exact h9) hsp
    have hcn : cntOf bs < 4294967296 := rdle_lt _ _ _ _ (HR.out.1.get _) (HR.out.1.get _) (HR.out.1.get _) (HR.out.1.get _)
    have hel : (entsOf bs).length ≤ 131072 := by unfold entsOf; rw [List.length_take, ← HN.out]; omega
    have hpl : (placesOf5 bs).length ≤ 131072 := by unfold placesOf5; rw [List.length_drop, List.length_take, ← HN.out]; omega
    have hbl : bo < X5.heap.size := by
     have hp1 : 0 < (placesOf5 bs).length := by have := hps.2 0 (by have := hsp.1; omega); omega
     have := rd_cell lk.pls 0 (by rw [(rd_lens lk.pls).1]; exact hp1)
     exact World.block_lt_of_cell? X5 _ this.1
    have HSd := Lib.hid (sound_any lk.box lk.ents lk.pls hsp.2.1 hcn hps.2 hpl hel hbl hbl)
    have HLk := Lib.hid lk
    have HB5 := Lib.hid (HB4.out.trans (b5.mono HB4.out.size))
    have HSz : Hid (w.heap.size ≤ _) := HB4.out.size
    have HSpk := Lib.hid hsp
    obtain ⟨sd, hsd⟩ : ∃ sd, soundB (rstOf bs) (cntOf bs) (entsOf bs) (placesOf5 bs) = sd := ⟨_, rfl⟩
    rw [hsd] at HSd HE
    clear lk b5 hps hcn hel hpl hbl hsp HSp4 hsd
    go_wp2_with fail
    refine Calls.mono HSd.out ?_
    rintro z X6 ⟨rfl, b6⟩
    cases sd with
    | false =>
     have HEnd : Hid (OpP w bs (.returned (.tuple #[.pointer none, .int .i64 51])) X6) := by
      have e : opE bs = 51 := by rw [HE.out, if_neg (fun k => by cases k.2)]
      exact ⟨HB5.out.trans (b6.mono HB5.out.size), .inl ⟨by rw [e]; decide, by rw [e]; rfl⟩⟩
     clear b6 HSd
     go_wp2
     go_ret2
     exact HEnd.out
    | true =>
     have HEnd : Hid (OpP w bs (.returned (.tuple #[.pointer (some ⟨g, 0, none⟩), .int .i64 0])) X6) := by
      have e : opE bs = 0 := by rw [HE.out, if_pos ⟨HSpk.out, rfl⟩]
      have l := HLk.out
      exact ⟨HB5.out.trans (b6.mono HB5.out.size), .inr ⟨e, g, bo, ne, ce, np, cp, rfl, l.box.later b6, l.ents.later b6, l.pls.later b6, Nat.le_trans HSz.out l.bg, Nat.le_trans HSz.out l.bb, l.ne⟩⟩
     clear b6 HSd
     go_wp2
     go_ret2
     exact HEnd.out
  ·have HEnd : Hid (∀ X, Below w.heap.size w X → OpP w bs (.returned (.tuple #[.pointer none, .int .i64 52])) X) := by
    have e : opE bs = 52 := by
     unfold opE
     rw [if_neg hne, if_neg hnl, if_pos (by rw [HSa.out, he4]; exact hss)]
    exact fun X hX => ⟨hX, .inl ⟨by rw [e]; decide, by rw [e]; rfl⟩⟩
   clear hne hnl he4
   rw [decide_eq_false hss]
   go_wp2
   go_ret2
   exact HEnd.out _ HB4.out
 ·go_simp
  have bX1 : Below w.heap.size w (w.alloc (.cells #[.slice (some ⟨b, off, none⟩) sm c] 36)).drew := ((Below.refl _ _).alloc (Nat.le_refl _) _).drew
  have hc1 : (w.alloc (.cells #[.slice (some ⟨b, off, none⟩) sm c] 36)).drew.cell? ⟨w.heap.size, 0, none⟩ = some (.slice (some ⟨b, off, none⟩) sm c) := by simp
  refine hK.out _ _ bX1 (fun hHeld => ?_)
  clear hK BD
  generalize (w.alloc (.cells #[.slice (some ⟨b, off, none⟩) sm c] 36)).drew = X1 at *
  try simp only [Act.put, List.setIfInBounds_toArray, List.set_cons_zero, List.set_cons_succ]
  refine wpAnyH_ready (rs := [3]) (by kernel_rfl) (by simp) ?_
  refine AllReadyH.cons (o := { dst := some 19, op := _, type := _, pos := _, after := _, guard := _ }) rfl (fun KK hK => ?_) AllReadyH.nil
  go_simp
  go_at_call 61
  refine (HRS.out _ bX1).mono ?_
  rintro e1 X3 ⟨rfl, hb1⟩
  have bX3 : Below w.heap.size w X3 := bX1.trans (hb1.mono bX1.size)
  have hc3 : X3.cell? ⟨w.heap.size, 0, none⟩ = some (.slice (some ⟨b, off, none⟩) sm c) := by
   rw [hb1.cell (p := ⟨w.heap.size, 0, none⟩) (World.block_lt_of_cell? X1 _ hc1)]; exact hc1
  clear hb1 hc1 bX1
  go_wp2_with fail
  refine hK.out _ _ bX3 (fun hHeld => ?_)
  clear hK
  try simp only [Act.put, List.setIfInBounds_toArray, List.set_cons_zero, List.set_cons_succ]
  refine wpAnyH_ready (rs := [8]) (by kernel_rfl) (by simp) ?_
  refine AllReadyH.cons (o := { dst := some 24, op := _, type := _, pos := _, after := _, guard := _ }) rfl (fun KK hK => ?_) AllReadyH.nil
  go_simp
  go_at_call 62
  refine (HSu.out _ _ bX3 hc3).mono ?_
  rintro e1 X4 ⟨rfl, rfl⟩
  go_wp2_with fail
  refine hK.out _ _ bX3 (fun hHeld => ?_)
  clear hK
  try simp only [Act.put, List.setIfInBounds_toArray, List.set_cons_zero, List.set_cons_succ]
  refine wpAnyH_take (i := 9) (oi := { dst := some 25, op := _, type := _, pos := _, after := _, guard := _ }) (v := .bool (!decide (sa = sb))) rfl (by kernel_rfl) (by kernel_rfl) (by kernel_rfl) (fun _ _ _ h => h) (Or.inl ⟨by kernel_rfl, fun wy hy => by (go_simp; first | done | exact HNe.out.symm | exact congrArg (fun z => Result.ok (Next.value (Value.bool z)) _) HNe.out.symm)⟩) (by assumption) ?_
  try simp only [Act.put, List.setIfInBounds_toArray, List.set_cons_zero, List.set_cons_succ]
  refine wpAnyH_done (by kernel_rfl) (NoPanic.normal ?_) _
  clear hHeld HSu HRS
  have HB4 := Lib.hid bX3
  clear bX3 hc3
  go_simp
  go_step
  have hne : ¬ 131072 < bs.length := by rw [← HN.out]; omega
  have hnl : ¬ bs.length < 9 := by rw [← HN.out]; omega
  have he4 : sumL (bs.take (bs.length - 4)) = sb := by rw [← HN.out, HSm.out]; exact HSb.out
  by_cases hss : sa = sb
  ·have HE : Hid (opE bs = if spOk bs ∧ soundB (rstOf bs) (cntOf bs) (entsOf bs) (placesOf5 bs) = true then 0 else 51) := by
    unfold Hid opE
    rw [if_neg hne, if_neg hnl, if_neg (by rw [HSa.out, he4]; exact fun k => k hss)]
   clear hne hnl he4
   rw [decide_eq_true hss]
   have HSp4 := Lib.hid (HSp.out _ HB4.out)
   clear HSp
   go_wp2_with fail
   refine Calls.mono HSp4.out ?_
   rintro z X5 ⟨b5, h | h⟩
   ·obtain ⟨hno, rfl⟩ := h
    have HEnd : Hid (OpP w bs (.returned (.tuple #[.pointer none, .int .i64 51])) X5) := by
     have e : opE bs = 51 := by rw [HE.out, if_neg (fun k => hno k.1)]
     exact ⟨HB4.out.trans (b5.mono HB4.out.size), .inl ⟨by rw [e]; decide, by rw [e]; rfl⟩⟩
    clear hno b5 HSp4
    go_wp2
    go_ret2
    exact HEnd.out
   ·obtain ⟨hsp, g, bo, ne, ce, np, cp, rfl, lk⟩ := h
    have hps := spOk_ps (by rw [← HN.out]; exact h9) hsp
    have hcn : cntOf bs < 4294967296 := rdle_lt _ _ _ _ (HR.out.1.get _) (HR.out.1.get _) (HR.out.1.get _) (HR.out.1.get _)
    have hel : (entsOf bs).length ≤ 131072 := by unfold entsOf; rw [List.length_take, ← HN.out]; omega
    have hpl : (placesOf5 bs).length ≤ 131072 := by unfold placesOf5; rw [List.length_drop, List.length_take, ← HN.out]; omega
    have hbl : bo < X5.heap.size := by
     have hp1 : 0 < (placesOf5 bs).length := by have := hps.2 0 (by have := hsp.1; omega); omega
     have := rd_cell lk.pls 0 (by rw [(rd_lens lk.pls).1]; exact hp1)
     exact World.block_lt_of_cell? X5 _ this.1
    have HSd := Lib.hid (sound_any lk.box lk.ents lk.pls hsp.2.1 hcn hps.2 hpl hel hbl hbl)
    have HLk := Lib.hid lk
    have HB5 := Lib.hid (HB4.out.trans (b5.mono HB4.out.size))
    have HSz : Hid (w.heap.size ≤ _) := HB4.out.size
    have HSpk := Lib.hid hsp
    obtain ⟨sd, hsd⟩ : ∃ sd, soundB (rstOf bs) (cntOf bs) (entsOf bs) (placesOf5 bs) = sd := ⟨_, rfl⟩
    rw [hsd] at HSd HE
    clear lk b5 hps hcn hel hpl hbl hsp HSp4 hsd
    go_wp2_with fail
    refine Calls.mono HSd.out ?_
    rintro z X6 ⟨rfl, b6⟩
    cases sd with
    | false =>
     have HEnd : Hid (OpP w bs (.returned (.tuple #[.pointer none, .int .i64 51])) X6) := by
      have e : opE bs = 51 := by rw [HE.out, if_neg (fun k => by cases k.2)]
      exact ⟨HB5.out.trans (b6.mono HB5.out.size), .inl ⟨by rw [e]; decide, by rw [e]; rfl⟩⟩
     clear b6 HSd
     go_wp2
     go_ret2
     exact HEnd.out
    | true =>
     have HEnd : Hid (OpP w bs (.returned (.tuple #[.pointer (some ⟨g, 0, none⟩), .int .i64 0])) X6) := by
      have e : opE bs = 0 := by rw [HE.out, if_pos ⟨HSpk.out, rfl⟩]
      have l := HLk.out
      exact ⟨HB5.out.trans (b6.mono HB5.out.size), .inr ⟨e, g, bo, ne, ce, np, cp, rfl, l.box.later b6, l.ents.later b6, l.pls.later b6, Nat.le_trans HSz.out l.bg, Nat.le_trans HSz.out l.bb, l.ne⟩⟩
     clear b6 HSd
     go_wp2
     go_ret2
     exact HEnd.out
  ·have HEnd : Hid (∀ X, Below w.heap.size w X → OpP w bs (.returned (.tuple #[.pointer none, .int .i64 52])) X) := by
    have e : opE bs = 52 := by
     unfold opE
     rw [if_neg hne, if_neg hnl, if_pos (by rw [HSa.out, he4]; exact hss)]
    exact fun X hX => ⟨hX, .inl ⟨by rw [e]; decide, by rw [e]; rfl⟩⟩
   clear hne hnl he4
   rw [decide_eq_false hss]
   go_wp2
   go_ret2
   exact HEnd.out _ HB4.out
theorem opE_long {bs : List Nat} (h : 131072 < bs.length) : opE bs = 2 := by unfold opE; rw [if_pos h]
theorem opE_short {bs : List Nat} (h : bs.length < 9) : opE bs = 51 := by unfold opE; rw [if_neg (by omega), if_pos h]
set_option maxRecDepth 100000 in
theorem open_any {w : World} {a : Option Addr} {n c : Nat} {bs : List Nat} (hr : Rd w (.slice a n c) bs) (ht : Tab w) :
  Calls Tryz.prog 25 #[.slice a n c] w fun x w' => OpP w bs x w' := by
 obtain ⟨hn, hle, hm, hl48⟩ := rd_lens hr
 by_cases h1 : 131072 < n
 ·have h1i : (131072 : Int) < (n : Int) := by omega
  have HE := Lib.hid (opE_long (bs := bs) (by omega))
  clear hr ht hn
  go_enter Tryz.func25, Tryz.ntmps25
  go_wp2
  go_ret2
  exact ⟨Below.refl _ _, .inl ⟨by rw [HE.out]; decide, by rw [HE.out]; rfl⟩⟩
 by_cases h2 : n < 9
 ·have h1i : ¬ (131072 : Int) < (n : Int) := by omega
  have h2i : (n : Int) < 9 := by omega
  have HE := Lib.hid (opE_short (bs := bs) (by omega))
  clear hr ht hn
  go_enter Tryz.func25, Tryz.ntmps25
  go_wp2
  go_ret2
  exact ⟨Below.refl _ _, .inl ⟨by rw [HE.out]; decide, by rw [HE.out]; rfl⟩⟩
 rcases rd_some hr with ⟨_, h, _⟩ | ⟨b, off, rfl⟩
 ·omega
 ·exact open_in hr ht (by omega) (by omega)
end Go.Proofs.YtchebhafabhabaaGreatDoor

namespace Go.Proofs.YtchebhafabhabaaGreatDoor
open Go.RowKit
set_option linter.unusedVariables false

def T (s : Nat) : Nat := (s / 2) ^^^ (if s % 2 = 1 then 2197175160 else 0)
def Tn : Nat → Nat → Nat
 | 0, s => s
 | n + 1, s => Tn n (T s)

theorem xor_div2 (a b : Nat) : (a ^^^ b) / 2 = (a / 2) ^^^ (b / 2) := by
 have := Nat.shiftRight_xor_distrib (a := a) (b := b) (i := 1)
 simpa [Nat.shiftRight_eq_div_pow] using this
theorem xor_mod2 (a b : Nat) : (a ^^^ b) % 2 = (a % 2) ^^^ (b % 2) := by
 have h := Nat.xor_mod_two_pow (a := a) (b := b) (n := 1)
 simpa using h
theorem T_xor (a b : Nat) : T (a ^^^ b) = T a ^^^ T b := by
 unfold T
 rw [xor_div2, xor_mod2]
 have ha : a % 2 = 0 ∨ a % 2 = 1 := by omega
 have hb : b % 2 = 0 ∨ b % 2 = 1 := by omega
 rcases ha with ha | ha <;> rcases hb with hb | hb <;> simp [ha, hb]
 ·rw [Nat.xor_assoc]
 ·rw [Nat.xor_assoc, Nat.xor_assoc, Nat.xor_comm (b / 2)]
 ·rw [Nat.xor_comm (b / 2) 2197175160, ← Nat.xor_assoc, Nat.xor_assoc (a / 2), Nat.xor_self, Nat.xor_zero]
theorem Tn_xor (n a b : Nat) : Tn n (a ^^^ b) = Tn n a ^^^ Tn n b := by
 induction n generalizing a b with
 | zero => rfl
 | succ n ih => simp only [Tn]; rw [T_xor, ih]
theorem Tn_add (m n s : Nat) : Tn (m + n) s = Tn m (Tn n s) := by
 induction n generalizing s with
 | zero => rfl
 | succ n ih => rw [Nat.add_succ]; simp only [Tn]; exact ih (T s)
theorem T_two (q : Nat) : T (2 * q) = q := by unfold T; rw [if_neg (by omega), Nat.xor_zero]; omega
theorem half_eq (r : Nat) : half r = Tn 4 r := by
 have hr : r = (16 * (r / 16)) ^^^ (r % 16) := by
  have h1 := nat_join 4 (16 * (r / 16)) (r % 16) (by omega) (by omega)
  have h2 : (16 * (r / 16)) ^^^ (r % 16) = (16 * (r / 16)) ||| (r % 16) := by
   apply Nat.eq_of_testBit_eq
   intro i
   rw [Nat.testBit_xor, Nat.testBit_or]
   by_cases hi : i < 4
   ·have : (16 * (r / 16)).testBit i = false := by
     rw [show 16 * (r / 16) = 2 ^ 4 * (r / 16) by omega, Nat.testBit_two_pow_mul]
     simp; omega
    simp [this]
   ·have : (r % 16).testBit i = false := Nat.testBit_lt_two_pow (Nat.lt_of_lt_of_le (show r % 16 < 2 ^ 4 by omega) (Nat.pow_le_pow_right (by omega) (by omega)))
    simp [this]
  rw [h2, h1]; omega
 have h16 : Tn 4 (16 * (r / 16)) = r / 16 := by
  simp only [Tn]
  rw [show 16 * (r / 16) = 2 * (2 * (2 * (2 * (r / 16)))) by omega, T_two, T_two, T_two, T_two]
 have ht : ∀ i, i < 16 → Tn 4 i = tab.getD i 0 := by decide
 conv => rhs; rw [hr, Tn_xor, h16, ht (r % 16) (by omega)]
 rfl
theorem crcB_eq (r c : Nat) : crcB r c = Tn 8 (r ^^^ c) := by
 unfold crcB
 rw [half_eq, half_eq, ← Tn_add]
def xorL (a b : List Nat) : List Nat := List.zipWith (· ^^^ ·) a b
def errF (e : List Nat) : Nat := crcL 0 e
def flip (bs : List Nat) (k : Nat) : List Nat := bs.set (k / 8) (bs.getD (k / 8) 0 ^^^ 2 ^ (k % 8))
def par : Nat → Nat → Bool
 | 0, _ => false
 | k + 1, s => (s % 2 == 1) ^^ par k (s / 2)
def mapp : List Nat → Nat → Nat
 | [], _ => 0
 | a :: A, s => (if s % 2 = 1 then a else 0) ^^^ mapp A (s / 2)
def Rep (A : List Nat) (n : Nat) : Prop := A.length = 32 ∧ ∀ i, i < 32 → A.getD i 0 = Tn n (2 ^ i)
def msq (A : List Nat) : List Nat := A.map (mapp A)
def powv : Nat → List Nat → Nat → Nat
 | 0, _, v => v
 | k + 1, A, v => powv k (msq A) (mapp A v)
def A0 : List Nat := (List.range 32).map fun i => T (2 ^ i)
def chk : Nat → Nat → Bool
 | 0, lo => decide (lo < 2) || decide (2147483647 % lo ≠ 0)
 | k + 1, lo => chk k lo && chk k (lo + 2 ^ k)
end Go.Proofs.YtchebhafabhabaaGreatDoor

namespace Go.Proofs.YtchebhafabhabaaGreatDoor
open Go.RowKit
set_option linter.unusedVariables false

def flips (bs : List Nat) (l : List Nat) : List Nat := l.foldl flip bs
theorem le4_sum (s : Nat) (h : s < 4294967296) : rdle (s % 256) (s / 256 % 256) (s / 65536 % 256) (s / 16777216) = s := by unfold rdle; omega
end Go.Proofs.YtchebhafabhabaaGreatDoor
