import Derived.Test.YthhkpkfpifllkaaK02
namespace Go.Proofs.Ythhkpkfpifllkaa
open Go.RowKit
set_option linter.unusedVariables false

def Tri (a b c : Int) : Prop := (a ≤ 0 ∧ b ≤ 0 → c ≤ 0) ∧ (0 ≤ a ∧ 0 ≤ b → 0 ≤ c) ∧ (a ≤ 0 ∧ b ≤ 0 ∧ c = 0 → a = 0 ∧ b = 0) ∧ (0 ≤ a ∧ 0 ≤ b ∧ c = 0 → a = 0 ∧ b = 0) ∧ (a = 0 → c = b) ∧ (b = 0 → c = a)
theorem tri_cmpI (x y z : Int) : Tri (cmpI x y) (cmpI y z) (cmpI x z) := by
  unfold Tri cmpI
  repeat' split
  all_goals omega
theorem tri_lex {a b c a' b' c' : Int} (h : Tri a b c) (k : Tri a' b' c') : Tri (if a = 0 then a' else a) (if b = 0 then b' else b) (if c = 0 then c' else c) := by
  unfold Tri at *
  obtain ⟨h1, h2, h3, h4, h5, h6⟩ := h
  by_cases ha : a = 0
  · by_cases hb : b = 0
    · have hc : c = 0 := by rw [h5 ha]; exact hb
      rw [if_pos ha, if_pos hb, if_pos hc]; exact k
    · have hc : c = b := h5 ha
      have hc0 : ¬ c = 0 := by omega
      rw [if_pos ha, if_neg hb, if_neg hc0]
      refine ⟨?_, ?_, ?_, ?_, ?_, ?_⟩ <;> omega
  · by_cases hb : b = 0
    · have hc : c = a := h6 hb
      have hc0 : ¬ c = 0 := by omega
      rw [if_neg ha, if_pos hb, if_neg hc0]
      refine ⟨?_, ?_, ?_, ?_, ?_, ?_⟩ <;> omega
    · rw [if_neg ha, if_neg hb]
      by_cases hc : c = 0
      · rw [if_pos hc]
        have e1 : ¬ (a ≤ 0 ∧ b ≤ 0) := fun e => ha (h3 ⟨e.1, e.2, hc⟩).1
        have e2 : ¬ (0 ≤ a ∧ 0 ≤ b) := fun e => ha (h4 ⟨e.1, e.2, hc⟩).1
        refine ⟨?_, ?_, ?_, ?_, ?_, ?_⟩ <;> omega
      · rw [if_neg hc]; exact ⟨h1, h2, h3, h4, h5, h6⟩
theorem tri_zero : Tri 0 0 0 := by unfold Tri; omega
theorem ordC_cons (x y : Nat) (a b : List Nat) : ordC (x :: a) (y :: b) = if cmpI (x : Int) (y : Int) = 0 then ordC a b else cmpI (x : Int) (y : Int) := by
  have e : ordC (x :: a) (y :: b) = if x < y then -1 else if y < x then 1 else ordC a b := rfl
  rw [e]
  unfold cmpI
  by_cases h1 : x < y
  · simp [h1]
  · by_cases h2 : y < x
    · have : ¬ (x : Int) < y := by omega
      simp [h1, h2]
    · simp [h1, h2]
theorem tri_ordC : ∀ (x y z : List Nat), Tri (ordC x y) (ordC y z) (ordC x z)
  | [], [], [] => by simp only [ordC]; exact tri_zero
  | [], [], _ :: _ => by simp only [ordC]; unfold Tri; omega
  | [], _ :: _, [] => by simp only [ordC]; unfold Tri; omega
  | [], y :: b, z :: c => by
    have h : ordC [] (y :: b) = -1 := rfl
    have h2 : ordC [] (z :: c) = -1 := rfl
    rw [h, h2]; unfold Tri; omega
  | _ :: _, [], [] => by simp only [ordC]; unfold Tri; omega
  | x :: a, [], z :: c => by
    have h : ordC (x :: a) [] = 1 := rfl
    have h2 : ordC [] (z :: c) = -1 := rfl
    rw [h, h2]; unfold Tri; omega
  | x :: a, y :: b, [] => by
    have h : ordC (y :: b) [] = 1 := rfl
    have h2 : ordC (x :: a) [] = 1 := rfl
    rw [h, h2]; unfold Tri; omega
  | x :: a, y :: b, z :: c => by
    rw [ordC_cons, ordC_cons, ordC_cons]
    exact tri_lex (tri_cmpI _ _ _) (tri_ordC a b c)
theorem cmpI_swap (a b : Int) : cmpI b a = -cmpI a b := by
  unfold cmpI
  repeat' split
  all_goals omega
theorem lex_neg {a a' b b' : Int} (h : b = -a) (k : b' = -a') : (if b = 0 then b' else b) = -(if a = 0 then a' else a) := by
  subst h k
  by_cases ha : a = 0
  · rw [if_pos ha, if_pos (by omega)]
  · rw [if_neg ha, if_neg (by omega)]
theorem compareS_tri (x y z : EntD) : Tri (compareS x y) (compareS y z) (compareS x z) := by
  unfold compareS cmpsS
  simp only [firstNZ]
  have rev : ∀ a b c : Int, Tri (cmpI b a) (cmpI c b) (cmpI c a) := fun a b c => by
    rw [cmpI_swap a b, cmpI_swap b c, cmpI_swap a c]
    have h := tri_cmpI a b c
    unfold Tri at *
    omega
  refine tri_lex (tri_ordC _ _ _) (tri_lex (tri_cmpI _ _ _) (tri_lex ?_ (tri_lex (tri_ordC _ _ _) (tri_lex ?_ (tri_lex (rev _ _ _) (tri_lex (rev _ _ _) (tri_lex (tri_cmpI _ _ _) tri_zero)))))))
  · exact tri_cmpI _ _ _
  · exact tri_cmpI _ _ _
theorem compareS_swap (x y : EntD) : compareS y x = -compareS x y := by
  unfold compareS cmpsS
  simp only [firstNZ]
  exact lex_neg (ordC_swap _ _) (lex_neg (cmpI_swap _ _) (lex_neg (cmpI_swap _ _) (lex_neg (ordC_swap _ _) (lex_neg (cmpI_swap _ _) (lex_neg (cmpI_swap _ _) (lex_neg (cmpI_swap _ _) (lex_neg (cmpI_swap _ _) (by omega))))))))
theorem compareS_self (x : EntD) : compareS x x = 0 := by
  have := compareS_swap x x
  omega
theorem lex_small {a b : Int} (h : -1 ≤ a ∧ a ≤ 1) (k : -1 ≤ b ∧ b ≤ 1) : -1 ≤ (if a = 0 then b else a) ∧ (if a = 0 then b else a) ≤ 1 := by split <;> assumption
theorem cmpI_small (a b : Int) : -1 ≤ cmpI a b ∧ cmpI a b ≤ 1 := by
  unfold cmpI
  by_cases h : a < b
  · rw [if_pos h]; omega
  · rw [if_neg h]
    by_cases h2 : b < a
    · rw [if_pos h2]; omega
    · rw [if_neg h2]; omega
theorem ordC_small : ∀ (a b : List Nat), -1 ≤ ordC a b ∧ ordC a b ≤ 1
  | [], [] => by simp [ordC]
  | [], _ :: _ => by simp [ordC]
  | _ :: _, [] => by simp [ordC]
  | x :: a, y :: b => by rw [ordC_cons]; exact lex_small (cmpI_small _ _) (ordC_small a b)
theorem compareS_small (x y : EntD) : -1 ≤ compareS x y ∧ compareS x y ≤ 1 := by
  unfold compareS cmpsS
  simp only [firstNZ]
  exact lex_small (ordC_small _ _) (lex_small (cmpI_small _ _) (lex_small (cmpI_small _ _) (lex_small (ordC_small _ _) (lex_small (cmpI_small _ _) (lex_small (cmpI_small _ _) (lex_small (cmpI_small _ _) (lex_small (cmpI_small _ _) (by omega))))))))
theorem compareS_same {a b c d : EntD} (h : EntD.Same a c) (k : EntD.Same b d) : compareS a b = compareS c d := by
  obtain ⟨h1, h2, h3, h4, h5, h6, h7⟩ := h
  obtain ⟨k1, k2, k3, k4, k5, k6, k7⟩ := k
  unfold compareS cmpsS aheadS
  rw [h1, h2, h3, h4, h5, h6, k1, k2, k3, k4, k5, k6]
end Go.Proofs.Ythhkpkfpifllkaa

namespace Go.Proofs.Ythhkpkfpifllkaa
open Go.RowKit
set_option linter.unusedVariables false

structure En where
  row : List Nat
  fam : Int
  qual : List Nat
  ts : Int
  seq : Int
  kind : Int
  val : List Nat
def EntD.dat (e : EntD) : En := ⟨e.row, e.fam, e.qual, e.ts, e.seq, e.kind, e.val⟩
theorem EntD.dat_same {a b : EntD} : a.dat = b.dat ↔ EntD.Same a b := by
  unfold EntD.dat EntD.Same
  simp only [En.mk.injEq]
  exact ⟨fun ⟨h1, h2, h3, h4, h5, h6, h7⟩ => ⟨h2, h4, h5, h6, h1, h3, h7⟩, fun ⟨h2, h4, h5, h6, h1, h3, h7⟩ => ⟨h1, h2, h3, h4, h5, h6, h7⟩⟩
structure Vd where
  e : En
  fate : Int
  rank : Int
structure Sp where
  begun : Bool
  last : En
  family : Int
  mask : Int
  rank : Int
  waiting : Bool
  seq : Int
def enZ : En := ⟨[], 0, [], 0, 0, 0, []⟩
def Sp.zero : Sp := ⟨false, enZ, 0, 0, 0, false, 0⟩
def famAt (fs : List (Int × Int)) (i : Int) : Int × Int := fs.getD i.toNat (0, 0)
def decideS (fs : List (Int × Int)) (clock : Int) (s : Sp) (e : En) : Vd × Sp :=
  if e.ts ≤ s.mask then (⟨e, 2, 0⟩, s)
  else if 0 < (famAt fs e.fam).2 ∧ e.ts + (famAt fs e.fam).2 ≤ clock then (⟨e, 3, 0⟩, s)
  else if e.kind = 3 then (⟨e, 6, 0⟩, s)
  else (⟨e, if (famAt fs e.fam).1 < s.rank + 1 then 4 else 5, s.rank + 1⟩, { s with rank := s.rank + 1 })
def resolveS (fs : List (Int × Int)) (clock : Int) (s : Sp) (kind : Int) : List Vd × Sp :=
  if s.waiting then ([(decideS fs clock { s with waiting := false } { s.last with seq := s.seq, kind := kind }).1], (decideS fs clock { s with waiting := false } { s.last with seq := s.seq, kind := kind }).2) else ([], s)
def stretchS (s : Sp) (e : En) : Vd × Sp :=
  if e.ts ≤ s.mask then (⟨e, 8, 0⟩, s) else (⟨e, 7, 0⟩, { s with mask := e.ts, family := if e.kind = 5 then e.ts else s.family })
def sameFam (s : Sp) (e : En) : Bool := s.begun && decide (s.last.fam = e.fam) && decide (s.last.row = e.row)
def sameCol (s : Sp) (e : En) : Bool := sameFam s e && decide (s.last.kind ≠ 5) && decide (s.last.qual = e.qual)
def sameGrp (s : Sp) (e : En) : Bool := sameCol s e && decide (s.last.kind ≠ 4) && decide (s.last.ts = e.ts)
def leftS (s1 : Sp) (f c : Bool) : Sp :=
  let s2 := if f then s1 else { s1 with family := 0 }
  if c then s2 else { s2 with mask := s2.family, rank := 0 }
def enterS (fs : List (Int × Int)) (clock : Int) (s : Sp) (e : En) : List Vd × Sp :=
  if sameGrp s e then ([], s) else ((resolveS fs clock s 3).1, leftS (resolveS fs clock s 3).2 (sameFam s e) (sameCol s e))
def rememberS (s : Sp) (e : En) : Sp := { s with begun := true, last := e }
def stepS (fs : List (Int × Int)) (clock : Int) (s : Sp) (e : En) : List Vd × Sp :=
  if e.kind = 5 ∨ e.kind = 4 then ((enterS fs clock s e).1 ++ [(stretchS (enterS fs clock s e).2 e).1], rememberS (stretchS (enterS fs clock s e).2 e).2 e)
  else if sameGrp s e then
    if e.kind ≠ 3 then ((enterS fs clock s e).1 ++ ((resolveS fs clock (enterS fs clock s e).2 2).1 ++ [⟨e, 1, 0⟩]), rememberS (resolveS fs clock (enterS fs clock s e).2 2).2 e)
    else ((enterS fs clock s e).1 ++ [⟨e, 1, 0⟩], rememberS (enterS fs clock s e).2 e)
  else if e.kind = 3 then ((enterS fs clock s e).1, rememberS { (enterS fs clock s e).2 with waiting := true, seq := e.seq } e)
  else ((enterS fs clock s e).1 ++ [(decideS fs clock (enterS fs clock s e).2 e).1], rememberS (decideS fs clock (enterS fs clock s e).2 e).2 e)
def walkS (fs : List (Int × Int)) (clock : Int) : Sp → List En → List Vd × Sp
  | s, [] => ([], s)
  | s, e :: l => ((stepS fs clock s e).1 ++ (walkS fs clock (stepS fs clock s e).2 l).1, (walkS fs clock (stepS fs clock s e).2 l).2)
def verdictsS (fs : List (Int × Int)) (clock : Int) (l : List En) : List Vd := (walkS fs clock Sp.zero l).1 ++ (resolveS fs clock (walkS fs clock Sp.zero l).2 3).1
structure Fit (n : Nat) (e : En) : Prop where
  row : e.row.length ≤ 256
  qual : e.qual.length ≤ 256
  val : e.val.length ≤ 4096
  ts0 : 1 ≤ e.ts
  ts : e.ts ≤ 1099511627776
  fam0 : 0 ≤ e.fam
  fam : e.fam < n
end Go.Proofs.Ythhkpkfpifllkaa

namespace Go.Proofs.Ythhkpkfpifllkaa
open Go.RowKit
set_option linter.unusedVariables false

/-! ### Trees of entries -/
inductive BT where
  | leaf
  | node (l : BT) (e : EntD) (r : BT)
def BT.ht : BT → Nat
  | .leaf => 0
  | .node l _ r => 1 + max l.ht r.ht
def BT.ord : BT → List EntD
  | .leaf => []
  | .node l e r => l.ord ++ e :: r.ord
def BT.size (t : BT) : Nat := t.ord.length
theorem BT.ht_le : ∀ t : BT, t.ht ≤ t.size
  | .leaf => Nat.le_refl _
  | .node l e r => by
    have h1 := l.ht_le
    have h2 := r.ht_le
    simp only [BT.ht, BT.size, BT.ord, List.length_append, List.length_cons] at *
    omega
def balS (l : BT) (e : EntD) (r : BT) : BT :=
  if r.ht + 1 < l.ht then
    match l with
    | .leaf => .node l e r
    | .node ll le lr =>
      if ll.ht < lr.ht then
        match lr with
        | .leaf => .node ll le (.node lr e r)
        | .node ml me mr => .node (.node ll le ml) me (.node mr e r)
      else .node ll le (.node lr e r)
  else if l.ht + 1 < r.ht then
    match r with
    | .leaf => .node l e r
    | .node rl re rr =>
      if rr.ht < rl.ht then
        match rl with
        | .leaf => .node (.node l e rl) re rr
        | .node ml me mr => .node (.node l e ml) me (.node mr re rr)
      else .node (.node l e rl) re rr
  else .node l e r
theorem balS_ord (l : BT) (e : EntD) (r : BT) : (balS l e r).ord = l.ord ++ e :: r.ord := by
  unfold balS
  split
  · split
    · rfl
    · split
      · split <;> simp [BT.ord]
      · simp [BT.ord]
  · split
    · split
      · rfl
      · split
        · split <;> simp [BT.ord]
        · simp [BT.ord]
    · rfl
def hangS (x : EntD) : BT → BT
  | .leaf => .node .leaf x .leaf
  | .node l e r => if compareS x e < 0 then balS (hangS x l) e r else balS l e (hangS x r)
theorem hangS_length (x : EntD) : ∀ t : BT, (hangS x t).ord.length = t.ord.length + 1
  | .leaf => rfl
  | .node l e r => by
    unfold hangS
    split
    · rw [balS_ord, List.length_append, hangS_length x l, List.length_cons, BT.ord, List.length_append, List.length_cons]; omega
    · rw [balS_ord, List.length_append, List.length_cons, hangS_length x r, BT.ord, List.length_append, List.length_cons]; omega

def Srt (l : List EntD) : Prop := l.Pairwise fun a b => compareS a b < 0
theorem cmp_lt_trans {a b c : EntD} (h : compareS a b < 0) (k : compareS b c < 0) : compareS a c < 0 := by
  have := compareS_tri a b c
  unfold Tri at this
  omega
theorem cmp_le_lt {a b c : EntD} (h : 0 ≤ compareS a b) (k : compareS c b < 0) : 0 < compareS a c := by
  have h1 := compareS_tri c b a
  have h2 := compareS_swap a b
  have h3 := compareS_swap a c
  unfold Tri at h1
  omega
theorem hangS_ord (x : EntD) : ∀ t : BT, Srt t.ord → ∃ A B, t.ord = A ++ B ∧ (hangS x t).ord = A ++ x :: B ∧ (∀ a ∈ A, 0 ≤ compareS x a) ∧ ∀ b ∈ B, compareS x b < 0
  | .leaf, _ => ⟨[], [], rfl, rfl, by simp, by simp⟩
  | .node l e r, hs => by
    simp only [BT.ord, Srt, List.pairwise_append, List.pairwise_cons, List.mem_cons] at hs
    obtain ⟨hl, ⟨her, hr⟩, hlr⟩ := hs
    unfold hangS
    split
    · rename_i hlt
      obtain ⟨A, B, h1, h2, h3, h4⟩ := hangS_ord x l hl
      refine ⟨A, B ++ e :: r.ord, by simp [BT.ord, h1], by rw [balS_ord, h2]; simp, h3, fun b hb => ?_⟩
      simp only [List.mem_append, List.mem_cons] at hb
      rcases hb with hb | rfl | hb
      · exact h4 b hb
      · exact hlt
      · exact cmp_lt_trans hlt (her b hb)
    · rename_i hge
      obtain ⟨A, B, h1, h2, h3, h4⟩ := hangS_ord x r hr
      refine ⟨l.ord ++ e :: A, B, by simp [BT.ord, h1], by rw [balS_ord, h2]; simp, fun a ha => ?_, h4⟩
      simp only [List.mem_append, List.mem_cons] at ha
      rcases ha with ha | rfl | ha
      · have := cmp_le_lt (Int.not_lt.1 hge) (hlr a ha e (.inl rfl)); omega
      · omega
      · exact h3 a ha
theorem srt_ins {x : EntD} {A B : List EntD} (hs : Srt (A ++ B)) (hA : ∀ a ∈ A, 0 < compareS x a) (hB : ∀ b ∈ B, compareS x b < 0) : Srt (A ++ x :: B) := by
  simp only [Srt, List.pairwise_append, List.pairwise_cons, List.mem_cons] at *
  obtain ⟨h1, h2, h3⟩ := hs
  refine ⟨h1, ⟨hB, h2⟩, fun a ha b hb => ?_⟩
  rcases hb with rfl | hb
  · have := compareS_swap a b; have := hA a ha; omega
  · exact h3 a ha b hb

/-! ### Where they lie -/
structure KpG (G : Nat → Prop) (w w' : World) : Prop where
  size : w.heap.size ≤ w'.heap.size
  block : ∀ i, i < w.heap.size → G i → w'.heap[i]? = w.heap[i]?
theorem KpG.refl (G : Nat → Prop) (w : World) : KpG G w w := ⟨Nat.le_refl _, fun _ _ _ => rfl⟩
theorem KpG.trans {G : Nat → Prop} {a b c : World} (h : KpG G a b) (k : KpG G b c) : KpG G a c := ⟨Nat.le_trans h.size k.size, fun i hi hg => (k.block i (Nat.lt_of_lt_of_le hi h.size) hg).trans (h.block i hi hg)⟩
theorem KpG.of {G : Nat → Prop} {w w' : World} (h : Below w.heap.size w w') : KpG G w w' := ⟨h.size, fun i hi _ => h.block i hi⟩
theorem KpG.mono {G G' : Nat → Prop} {w w' : World} (h : KpG G w w') (hg : ∀ i, G' i → G i) : KpG G' w w' := ⟨h.size, fun i hi k => h.block i hi (hg i k)⟩
theorem KpG.of_apart {G : Nat → Prop} {t : Nat} {w w' : World} (h : Apart t w w') (ht : ¬ G t) : KpG G w w' := ⟨h.size, fun i hi hg => h.block i hi (fun e => ht (e ▸ hg))⟩
def RdG (G : Nat → Prop) (w : World) (v : Value) (bs : List Nat) : Prop := Rd w v bs ∧ ∀ b off m c, v = .slice (some ⟨b, off, none⟩) m c → 0 < m → G b ∧ ∃ cur fr, w.heap[b]? = some (.cells cur 5 fr)
theorem RdG.kept {G : Nat → Prop} {w w' : World} {v : Value} {bs : List Nat} (h : RdG G w v bs) (hk : KpG G w w') : RdG G w' v bs := by
  obtain ⟨⟨h1, a, cap, rfl, h3, h4, h5, h6, h7⟩, hg⟩ := h
  refine ⟨⟨h1, a, cap, rfl, h3, h4, h5, h6, ?_⟩, fun b off m c e hm => ?_⟩
  · rcases h7 with h7 | ⟨b, off, rfl, hc⟩
    · exact .inl h7
    · by_cases h0 : bs = []
      · exact .inl h0
      · refine .inr ⟨b, off, rfl, fun i hi => ?_⟩
        rw [World.cell?_of_block (w := w) (a := ⟨b, off + i, none⟩) (hk.block b (World.block_lt_of_cell? w _ (hc i hi)) (hg b off _ _ rfl (by omega)).1)]
        exact hc i hi
  · obtain ⟨h8, cur, fr, h9⟩ := hg b off m c e hm
    exact ⟨h8, cur, fr, (hk.block b (Array.getElem?_eq_some_iff.1 h9).1 h8).trans h9⟩
theorem RdG.mono {G G' : Nat → Prop} {w : World} {v : Value} {bs : List Nat} (h : RdG G w v bs) (hg : ∀ i, G i → G' i) : RdG G' w v bs := ⟨h.1, fun b off m c e hm => ⟨hg b (h.2 b off m c e hm).1, (h.2 b off m c e hm).2⟩⟩
theorem RdG.of_own {G : Nat → Prop} {w : World} {B : Nat} {v : Value} {m : Nat} {bs : List Nat} (h : Own w B v m bs) (hb : Bys bs) (hl : m ≤ 281474976710656) (hG : ∀ i, B ≤ i → G i) : RdG G w v bs := by
  refine ⟨h.rd hb hl, fun b off k c e hk => ?_⟩
  rcases h.2.2 with ⟨rfl, rfl⟩ | ⟨g, cap, cur, rfl, hB, hcur, _⟩
  · cases e
  · cases e; exact ⟨hG _ hB, cur, _, hcur⟩
def KU (w w' : World) : Prop := ∀ (i : Nat) (cur : Array Value) (fr : Nat × Nat), w.heap[i]? = some (.cells cur 5 fr) → w'.heap[i]? = some (.cells cur 5 fr)
theorem KU.trans {a b c : World} (h : KU a b) (k : KU b c) : KU a c := fun i cur fr hi => k i cur fr (h i cur fr hi)
theorem KU.of {w w' : World} (h : Below w.heap.size w w') : KU w w' := fun i cur fr hi => (h.block i (Array.getElem?_eq_some_iff.1 hi).1).trans hi
theorem KU.set {w : World} {b : Nat} {cs : Array Value} {t : TypeId} {fr : Nat × Nat} (hb : w.heap[b]? = some (.cells cs t fr)) (ht : t ≠ 5) (i : Nat) (v : Value) : KU w (w.setCell ⟨b, i, none⟩ v) := fun j cur fr' hj =>
  (Below.heap_setCell w ⟨b, i, none⟩ v j (fun e => by subst e; rw [hb] at hj; cases hj; exact ht rfl)).trans hj
theorem KU.grown {w w' : World} {row : Option Nat} (hg : w.grownBy w' row) (hr : ∀ r, row = some r → ∃ cs t fr, w.heap[r]? = some (.cells cs t fr) ∧ t ≠ 5) : KU w w' := fun j cur fr hj =>
  (hg.block j (Array.getElem?_eq_some_iff.1 hj).1 (fun e => by
    obtain ⟨cs, t, fr', h1, h2⟩ := hr j e.symm
    rw [h1] at hj; cases hj; exact h2 rfl)).trans hj
theorem RdG.ku {G : Nat → Prop} {w w' : World} {v : Value} {bs : List Nat} (h : RdG G w v bs) (hk : KU w w') : RdG G w' v bs := by
  obtain ⟨⟨h1, a, cap, rfl, h3, h4, h5, h6, h7⟩, hg⟩ := h
  refine ⟨⟨h1, a, cap, rfl, h3, h4, h5, h6, ?_⟩, fun b off m c e hm => ?_⟩
  · rcases h7 with h7 | ⟨b, off, rfl, hc⟩
    · exact .inl h7
    · by_cases h0 : bs = []
      · exact .inl h0
      · refine .inr ⟨b, off, rfl, fun i hi => ?_⟩
        obtain ⟨_, cur, fr, h9⟩ := hg b off _ _ rfl (by omega)
        rw [World.cell?_of_block (w := w) (a := ⟨b, off + i, none⟩) ((hk b cur fr h9).trans h9.symm)]
        exact hc i hi
  · obtain ⟨h8, cur, fr, h9⟩ := hg b off m c e hm
    exact ⟨h8, cur, fr, hk b cur fr h9⟩
def EOk (G : Nat → Prop) (w : World) (e : EntD) : Prop := RdG G w e.vr e.row ∧ RdG G w e.vq e.qual ∧ RdG G w e.vv e.val
theorem EOk.ok {G : Nat → Prop} {w : World} {e : EntD} (h : EOk G w e) : EntD.Ok w e := ⟨h.1.1, h.2.1.1, h.2.2.1⟩
theorem EOk.kept {G : Nat → Prop} {w w' : World} {e : EntD} (h : EOk G w e) (hk : KpG G w w') : EOk G w' e := ⟨h.1.kept hk, h.2.1.kept hk, h.2.2.kept hk⟩
theorem EOk.ku {G : Nat → Prop} {w w' : World} {e : EntD} (h : EOk G w e) (hk : KU w w') : EOk G w' e := ⟨h.1.ku hk, h.2.1.ku hk, h.2.2.ku hk⟩
theorem EOk.mono {G G' : Nat → Prop} {w : World} {e : EntD} (h : EOk G w e) (hg : ∀ i, G i → G' i) : EOk G' w e := ⟨h.1.mono hg, h.2.1.mono hg, h.2.2.mono hg⟩

def nodeC (e : EntD) (l r : Option Addr) (h : Nat) : Array Value := #[e.vr, .int .i64 e.fam, e.vq, .int .i64 e.ts, .int .i64 e.seq, .int .i64 e.kind, e.vv, .pointer l, .pointer r, .int .i64 (h : Int)]
end Go.Proofs.Ythhkpkfpifllkaa

namespace Go.Proofs.Ythhkpkfpifllkaa
open Go.RowKit
set_option linter.unusedVariables false

section
variable {P : Program} {ops : Array Oper} {Q : Exit → Act → World → Prop} {md : Region.Mode} {S : World → Prop} {E : Nat → Bool}

def AnyE (P : Program) (md : Region.Mode) (ops : Array Oper) (Q : Exit → Act → World → Prop) (S : World → Prop) (E : Nat → Bool) : Nat → Array Bool → Act → World → Prop
  | 0, listed, a, w => Region.ready md ops listed = [] ∧ Q .normal a w
  | fuel + 1, listed, a, w => (Region.ready md ops listed = [] → Q .normal a w) ∧
    ∀ i ∈ Region.ready md ops listed, wpOp P ops Q i (fun a' w' => (E i = true → S w') ∧ AnyE P md ops Q S E fuel (listed.setIfInBounds i true) a' w') a w
theorem AnyE.any : ∀ (fuel : Nat) (listed : Array Bool) (a : Act) (w : World), AnyE P md ops Q S E fuel listed a w → wpAny P md ops Q fuel listed a w
  | 0, _, _, _, h => h
  | fuel + 1, _, _, _, h => ⟨h.1, fun i hi => wpOp_mono (fun a' w' k => AnyE.any fuel _ a' w' k.2) (h.2 i hi)⟩
theorem wp_region_anyE {id : Nat} {a : Act} {w : World} (hm : P.follows .mixedOrders = true) (h : AnyE P .any ops Q S E ops.size (Array.replicate ops.size false) a w.drew) : (Code.region id ops true).wp P Q a w := wp_region_any hm (AnyE.any _ _ _ _ h)
def eFree (md : Region.Mode) (ops : Array Oper) (listed : Array Bool) (i : Nat) (E : Nat → Bool) : Bool :=
  (List.range ops.size).all fun j => j == i || listed.getD j true || E j || (match ops[j]? with
    | none => true
    | some oj => oj.after.any fun e => Region.binds md e && e.on == i)
theorem eFree_spec {i : Nat} {listed : Array Bool} (h : eFree md ops listed i E = true) (j : Nat) (oj : Oper) (hj : ops[j]? = some oj) (hne : j ≠ i) (hun : listed.getD j true = false) (hno : ∀ e ∈ oj.after, Region.binds md e = true → e.on ≠ i) : E j = true := by
  have hlt : j < ops.size := (Array.getElem?_eq_some_iff.1 hj).1
  have := List.all_eq_true.1 h j (List.mem_range.2 hlt)
  simp only [hj, Bool.or_eq_true, beq_iff_eq, hne, hun, false_or] at this
  rcases this with (h1 | h1) | h1
  · cases h1
  · exact h1
  · obtain ⟨k, hk, he⟩ := Array.any_eq_true.1 h1
    simp only [Bool.and_eq_true, beq_iff_eq] at he
    exact absurd he.2 (hno _ (Array.getElem_mem hk) he.1)
theorem AnyE.first {i : Nat} {oi : Oper} {v : Value} (hi : ops[i]? = some oi) (hs : Region.noSelect ops = true) (hQ : ∀ c a w, Q (.panic c) (a.put oi.dst v) w → Q (.panic c) a w) : ∀ (fuel : Nat) (listed : Array Bool) (a : Act) (w : World),
    (∀ j oj, ops[j]? = some oj → j ≠ i → listed.getD j true = false → (∀ e ∈ oj.after, Region.binds md e = true → e.on ≠ i) → oi.apart ops oj = true ∧ E j = true) →
    i ∈ Region.ready md ops listed → YieldsIf P ops S oi v a → S w → AnyE P md ops Q S E fuel (listed.setIfInBounds i true) (a.put oi.dst v) w → AnyE P md ops Q S E (fuel + 1) listed a w := by
  intro fuel
  have sel := Region.noSelect_spec hs
  induction fuel with
  | zero =>
    intro listed a w _ hr hy hS H
    refine ⟨fun h => (by rw [h] at hr; cases hr), fun j hj => ?_⟩
    rcases Decidable.em (j = i) with rfl | hne
    · exact hy.wpOp hi hS ⟨fun _ => hS, H⟩
    · have k := ready_mono hj hne
      rw [H.1] at k; cases k
  | succ fuel ih =>
    intro listed a w hf hr hy hS H
    refine ⟨fun h => (by rw [h] at hr; cases hr), fun j hj => ?_⟩
    rcases Decidable.em (j = i) with rfl | hne
    · exact hy.wpOp hi hS ⟨fun _ => hS, H⟩
    · obtain ⟨hun, oj, hoj, hall⟩ := mem_ready.1 hj
      have hno : ∀ e ∈ oj.after, Region.binds md e = true → e.on ≠ i := fun e he hb heq => by
        have k1 := hall e he hb
        have k0 := (mem_ready.1 hr).1
        rw [heq] at k1
        by_cases hlt : i < listed.size
        · simp [hlt] at k0 k1; rw [k0] at k1; cases k1
        · simp [Array.getElem?_eq_none (Nat.le_of_not_lt hlt)] at k1
      obtain ⟨hap, hEj⟩ := hf j oj hoj hne hun hno
      refine wpOp_mono (fun a' w' h3 => ⟨h3.2.1, ?_⟩) (wpOp_putIf hoj hap (fun cs b => sel i oi cs b hi) (fun cs b => sel j oj cs b hoj) hQ hy (H.2 j (ready_mono hj hne)))
      refine ih (listed.setIfInBounds j true) a' w' (fun k ok hk hki hun' hno' => hf k ok hk hki ?_ hno') (ready_mono hr (Ne.symm hne)) h3.1 (h3.2.1 hEj) ?_
      · rcases Decidable.em (j = k) with rfl | e
        · exact hun
        · rwa [getD_set_ne true e] at hun'
      · rw [Array.setIfInBounds_comm _ _ hne]; exact h3.2.2
theorem AnyE.take {i : Nat} {oi : Oper} {fuel : Nat} {listed : Array Bool} {a : Act} {w : World} (v : Value) (hi : ops[i]? = some oi) (hs : Region.noSelect ops = true) (hf : Region.free md ops listed i = true) (he : eFree md ops listed i E = true) (hr : (Region.ready md ops listed).contains i = true)
    (hQ : ∀ c a w, Q (.panic c) (a.put oi.dst v) w → Q (.panic c) a w) (hy : YieldsIf P ops S oi v a) (hS : S w) (h : AnyE P md ops Q S E fuel (listed.setIfInBounds i true) (a.put oi.dst v) w) : AnyE P md ops Q S E (fuel + 1) listed a w :=
  AnyE.first hi hs hQ fuel listed a w (fun j oj hj hne hun hno => ⟨Region.free_spec hi hf j oj hj hne hun hno, eFree_spec he j oj hj hne hun hno⟩) (by simpa using hr) hy hS h
theorem AnyE.one {i : Nat} {o : Oper} {fuel : Nat} {listed : Array Bool} {a : Act} {w : World} (ho : ops[i]? = some o) (hr : Region.ready md ops listed = [i]) (hw : Region.wanted o (yielded ops a.tmps) = true)
    (h : ∀ K : Act → World → Prop, Hid (∀ a' w', ((E i = true → S w') ∧ AnyE P md ops Q S E fuel (listed.setIfInBounds i true) a' w') → K a' w') → Oper.wp P o a w K Q) : AnyE P md ops Q S E (fuel + 1) listed a w :=
  ⟨fun k => (by rw [hr] at k; cases k), fun j hj => by
    rw [hr] at hj
    obtain rfl : j = i := by simpa using hj
    exact wpOp_step ho (fun K' hK => by rw [if_pos hw]; exact h K' hK)⟩
theorem AnyE.done {listed : Array Bool} {a : Act} {w : World} (hr : Region.ready md ops listed = []) (h : Q .normal a w) : ∀ fuel, AnyE P md ops Q S E fuel listed a w
  | 0 => ⟨hr, h⟩
  | _ + 1 => ⟨fun _ => h, by rw [hr]; simp⟩
end
end Go.Proofs.Ythhkpkfpifllkaa

namespace Go.Proofs.Ythhkpkfpifllkaa
open Go.RowKit
set_option linter.unusedVariables false

theorem EBox.fzA {w : World} {g : Nat} {e : EntD} (h : EBox w g e) (i : Nat) : w.frozen? ⟨g, i, none⟩ = false := by unfold EBox at h; simp [World.frozen?, h]
theorem EBox.put0 {w : World} {g : Nat} {e : EntD} (h : EBox w g e) (v : Value) : EBox (w.setCell ⟨g, 0, none⟩ v) g { e with vr := v } := by unfold EBox EntD.cells at *; simp [World.setCell, Array.getElem?_modify, h]
theorem EBox.put2 {w : World} {g : Nat} {e : EntD} (h : EBox w g e) (v : Value) : EBox (w.setCell ⟨g, 2, none⟩ v) g { e with vq := v } := by unfold EBox EntD.cells at *; simp [World.setCell, Array.getElem?_modify, h]
theorem EBox.put6 {w : World} {g : Nat} {e : EntD} (h : EBox w g e) (v : Value) : EBox (w.setCell ⟨g, 6, none⟩ v) g { e with vv := v } := by unfold EBox EntD.cells at *; simp [World.setCell, Array.getElem?_modify, h]
theorem own_same {w w' : World} {B m : Nat} {v : Value} {xs : List Nat} (h : Own w B v m xs) (k : ∀ g, v.ownBlock = some g → w'.heap[g]? = w.heap[g]?) : Own w' B v m xs := by
  refine ⟨h.1, h.2.1, ?_⟩
  rcases h.2.2 with h2 | ⟨g, cap, cur, h3, h4, h5, h6⟩
  · exact .inl h2
  · exact .inr ⟨g, cap, cur, h3, h4, by rw [k g (by rw [h3]; rfl)]; exact h5, h6⟩
theorem _root_.Go.Proofs.Ythhkpkfpifllkaa.Own.base {w : World} {B B' m : Nat} {v : Value} {xs : List Nat} (h : Own w B v m xs) (k : ∀ g, v.ownBlock = some g → B' ≤ g) (e : m = xs.length) : Own w B' v xs.length xs := by
  subst e
  refine ⟨h.1, h.2.1, ?_⟩
  rcases h.2.2 with h2 | ⟨g, cap, cur, h3, h4, h5, h6⟩
  · exact .inl h2
  · exact .inr ⟨g, cap, cur, h3, k g (by rw [h3]; rfl), h5, h6⟩
structure O3 (w : World) (b : Nat) (D : EntD) : Prop where
  row : Own w b D.vr D.row.length D.row
  qual : Own w b D.vq D.qual.length D.qual
  val : Own w b D.vv D.val.length D.val
  arq : ∀ k, D.vr.ownBlock = some k → D.vq.ownBlock ≠ some k
  arv : ∀ k, D.vr.ownBlock = some k → D.vv.ownBlock ≠ some k
  aqv : ∀ k, D.vq.ownBlock = some k → D.vv.ownBlock ≠ some k
theorem O3.lt {w : World} {b : Nat} {D : EntD} (h : O3 w b D) : ∀ g, D.vr.ownBlock = some g ∨ D.vq.ownBlock = some g ∨ D.vv.ownBlock = some g → b ≤ g ∧ g < w.heap.size := fun g hg => by
  rcases hg with hg | hg | hg
  · exact h.row.2.lt g hg
  · exact h.qual.2.lt g hg
  · exact h.val.2.lt g hg
theorem O3.mono {w : World} {b b' : Nat} {D : EntD} (h : O3 w b D) (hb : b' ≤ b) : O3 w b' D := ⟨h.row.mono hb, h.qual.mono hb, h.val.mono hb, h.arq, h.arv, h.aqv⟩
theorem O3.same {w w' : World} {b : Nat} {D : EntD} (h : O3 w b D) (k : ∀ g, b ≤ g → g < w.heap.size → (∃ cur fr, w.heap[g]? = some (.cells cur 5 fr)) → w'.heap[g]? = w.heap[g]?) : O3 w' b D := by
  have q : ∀ {v : Value} {m : Nat} {xs : List Nat}, Own w b v m xs → Own w' b v m xs := fun o => own_same o (fun g hg => by
    refine k g (o.2.lt g hg).1 (o.2.lt g hg).2 ?_
    rcases o.2.2 with ⟨h1, _⟩ | ⟨g', cap, cur, h3, h4, h5, _⟩
    · rw [h1] at hg; cases hg
    · rw [h3] at hg; cases hg; exact ⟨cur, _, h5⟩)
  exact ⟨q h.row, q h.qual, q h.val, h.arq, h.arv, h.aqv⟩
theorem O3.kept {w w' : World} {b : Nat} {D : EntD} (h : O3 w b D) (k : KpG (fun i => b ≤ i) w w') : O3 w' b D := h.same (fun g hg hl _ => k.block g hl hg)
theorem O3.later {w w' : World} {b : Nat} {D : EntD} (h : O3 w b D) (k : Below w.heap.size w w') : O3 w' b D := h.same (fun g _ hl _ => k.block g hl)
theorem O3.ku {w w' : World} {b : Nat} {D : EntD} (h : O3 w b D) (k : KU w w') : O3 w' b D := h.same (fun g _ _ ⟨cur, fr, e⟩ => (k g cur fr e).trans e.symm)
theorem KpG.setCell {G : Nat → Prop} {w w' : World} (h : KpG G w w') {g : Nat} (hg : ¬ G g) (i : Nat) (v : Value) : KpG G w (w'.setCell ⟨g, i, none⟩ v) :=
  ⟨by rw [World.size_setCell]; exact h.size, fun k hk hG => (Below.heap_setCell w' ⟨g, i, none⟩ v k (fun e => hg (by cases e; exact hG))).trans (h.block k hk hG)⟩
set_option maxRecDepth 100000 in
set_option maxHeartbeats 8000000 in
theorem clone3_own {w : World} {e : EntD} (hx : EntD.Ok w e) (hl : e.row.length ≤ 140737488355328 ∧ e.qual.length ≤ 140737488355328 ∧ e.val.length ≤ 140737488355328) :
    Calls Try.prog 22 #[.agg e.cells] w fun z w' => ∃ x : EntD, z = .returned (.agg x.cells) ∧ EntD.Same x e ∧ EOk (fun i => w.heap.size ≤ i) w' x ∧ O3 w' w.heap.size x ∧ Below w.heap.size w w' := by
  have A1 := (Below.refl w.heap.size w).alloc (Nat.le_refl _) (.cells e.cells 45)
  have bx0 := EBox.new w e
  obtain ⟨zc, hz⟩ : ∃ zc : Array Value, zc = #[.slice none 0 0, .int .i64 0, .slice none 0 0, .int .i64 0, .int .i64 0, .int .i64 0, .slice none 0 0] := ⟨_, rfl⟩
  have A2 := A1.alloc A1.size (.cells zc 45)
  have bx := bx0.later ((Below.refl (w.alloc (.cells e.cells 45)).heap.size _).alloc (Nat.le_refl _) (.cells zc 45))
  have rz : ((w.alloc (.cells e.cells 45)).alloc (.cells zc 45)).heap[w.heap.size + 1]? = some (.cells zc 45 (0, 0)) := by
    show ((w.alloc (.cells e.cells 45)).heap.push _)[w.heap.size + 1]? = _
    have e1 : w.heap.size + 1 = (w.alloc (.cells e.cells 45)).heap.size := (World.size_alloc w _).symm
    rw [e1]
    exact Array.getElem?_push_size
  obtain ⟨W, hW⟩ : ∃ W, W = (w.alloc (.cells e.cells 45)).alloc (.cells zc 45) := ⟨_, rfl⟩
  rw [← hW] at A2 bx rz
  have HW : Hid (W = _) := hW
  have hwl : w.heap.size + 1 < W.heap.size := by rw [hW]; simp
  clear hW A1 bx0
  have HX : Hid (∀ wx, Below W.heap.size W wx → EBox wx w.heap.size e ∧ EntD.Ok wx e) := fun wx b => ⟨bx.later b, (hx.later A2).later b⟩
  have HR : Hid (∀ wx, Below W.heap.size W wx → wx.heap[w.heap.size + 1]? = some (.cells zc 45 (0, 0))) := fun wx b => (b.block _ hwl).trans rz
  have HA : Hid (Below w.heap.size w W) := A2
  have HY : Hid (Bys e.row ∧ Bys e.qual ∧ Bys e.val) := ⟨hx.1.1, hx.2.1.1, hx.2.2.1⟩
  have HL : Hid (e.row.length ≤ 140737488355328 ∧ e.qual.length ≤ 140737488355328 ∧ e.val.length ≤ 140737488355328) := hl
  obtain ⟨vr, fam, vq, ts, seq, kind, vv, row, qual, val⟩ := e
  subst hz
  simp only [EntD.cells] at *
  have D0 : Below W.heap.size W W.drew := (Below.refl _ _).drew
  have C1 : Hid (∀ wx, Below W.heap.size W wx → Calls Try.prog 37 #[vr] wx _) := fun wx b => handed (clone_any (HX.out _ b).2.1 HL.out.1)
  have C2 : Hid (∀ wx, Below W.heap.size W wx → Calls Try.prog 37 #[vq] wx _) := fun wx b => handed (clone_any (HX.out _ b).2.2.1 HL.out.2.1)
  have C3 : Hid (∀ wx, Below W.heap.size W wx → Calls Try.prog 37 #[vv] wx _) := fun wx b => handed (clone_any (HX.out _ b).2.2.2 HL.out.2.2)
  have y0 : W.drew.cell? ⟨w.heap.size, 0, none⟩ = some vr := (HX.out _ D0).1.vr
  have y2 : W.drew.cell? ⟨w.heap.size, 2, none⟩ = some vq := (HX.out _ D0).1.vq
  have y6 : W.drew.cell? ⟨w.heap.size, 6, none⟩ = some vv := (HX.out _ D0).1.vv
  clear A2 bx rz hl hx
  go_enter Try.func22, Try.ntmps22
  go_wp2_with fail
  rw [← HW.out]
  refine wp_region_noPanic ?_
  refine wp_region_anyE (S := fun wx => wx.cell? ⟨w.heap.size, 0, none⟩ = some vr ∧ wx.cell? ⟨w.heap.size, 2, none⟩ = some vq ∧ wx.cell? ⟨w.heap.size, 6, none⟩ = some vv) (E := fun j => decide (j < 9)) (by kernel_rfl) ?_
  have hS : W.drew.cell? ⟨w.heap.size, 0, none⟩ = some vr ∧ W.drew.cell? ⟨w.heap.size, 2, none⟩ = some vq ∧ W.drew.cell? ⟨w.heap.size, 6, none⟩ = some vv := ⟨y0, y2, y6⟩
  refine AnyE.take (i := 0) (.pointer (some ⟨w.heap.size, 0, none⟩)) rfl (by kernel_rfl) (by kernel_rfl) (by kernel_rfl) (by kernel_rfl) (fun _ _ _ h => h) (.inl ⟨by rfl, fun wq hq => by go_simp⟩) hS ?_
  show AnyE _ _ _ _ _ _ 14 #[true, false, false, false, false, false, false, false, false, false, false, false, false, false, false] ⟨#[.agg #[vr, .int .i64 fam, vq, .int .i64 ts, .int .i64 seq, .int .i64 kind, vv], .pointer (some ⟨w.heap.size, 0, none⟩), .pointer (some ⟨w.heap.size + 1, 0, none⟩), .pointer (some ⟨w.heap.size, 0, none⟩), undef, undef, undef, undef, undef, undef, undef, undef, undef, undef, undef, undef], []⟩ _
  refine AnyE.take (i := 1) (vr) rfl (by kernel_rfl) (by kernel_rfl) (by kernel_rfl) (by kernel_rfl) (fun _ _ _ h => h) (.inl ⟨by rfl, fun wq hq => by obtain ⟨q0, q2, q6⟩ := hq; go_simp⟩) hS ?_
  show AnyE _ _ _ _ _ _ 13 #[true, true, false, false, false, false, false, false, false, false, false, false, false, false, false] ⟨#[.agg #[vr, .int .i64 fam, vq, .int .i64 ts, .int .i64 seq, .int .i64 kind, vv], .pointer (some ⟨w.heap.size, 0, none⟩), .pointer (some ⟨w.heap.size + 1, 0, none⟩), .pointer (some ⟨w.heap.size, 0, none⟩), vr, undef, undef, undef, undef, undef, undef, undef, undef, undef, undef, undef], []⟩ _
  refine AnyE.take (i := 3) (.pointer (some ⟨w.heap.size, 2, none⟩)) rfl (by kernel_rfl) (by kernel_rfl) (by kernel_rfl) (by kernel_rfl) (fun _ _ _ h => h) (.inl ⟨by rfl, fun wq hq => by go_simp⟩) hS ?_
  show AnyE _ _ _ _ _ _ 12 #[true, true, false, true, false, false, false, false, false, false, false, false, false, false, false] ⟨#[.agg #[vr, .int .i64 fam, vq, .int .i64 ts, .int .i64 seq, .int .i64 kind, vv], .pointer (some ⟨w.heap.size, 0, none⟩), .pointer (some ⟨w.heap.size + 1, 0, none⟩), .pointer (some ⟨w.heap.size, 0, none⟩), vr, undef, .pointer (some ⟨w.heap.size, 2, none⟩), undef, undef, undef, undef, undef, undef, undef, undef, undef], []⟩ _
  refine AnyE.take (i := 4) (vq) rfl (by kernel_rfl) (by kernel_rfl) (by kernel_rfl) (by kernel_rfl) (fun _ _ _ h => h) (.inl ⟨by rfl, fun wq hq => by obtain ⟨q0, q2, q6⟩ := hq; go_simp⟩) hS ?_
  show AnyE _ _ _ _ _ _ 11 #[true, true, false, true, true, false, false, false, false, false, false, false, false, false, false] ⟨#[.agg #[vr, .int .i64 fam, vq, .int .i64 ts, .int .i64 seq, .int .i64 kind, vv], .pointer (some ⟨w.heap.size, 0, none⟩), .pointer (some ⟨w.heap.size + 1, 0, none⟩), .pointer (some ⟨w.heap.size, 0, none⟩), vr, undef, .pointer (some ⟨w.heap.size, 2, none⟩), vq, undef, undef, undef, undef, undef, undef, undef, undef], []⟩ _
  refine AnyE.take (i := 6) (.pointer (some ⟨w.heap.size, 6, none⟩)) rfl (by kernel_rfl) (by kernel_rfl) (by kernel_rfl) (by kernel_rfl) (fun _ _ _ h => h) (.inl ⟨by rfl, fun wq hq => by go_simp⟩) hS ?_
  show AnyE _ _ _ _ _ _ 10 #[true, true, false, true, true, false, true, false, false, false, false, false, false, false, false] ⟨#[.agg #[vr, .int .i64 fam, vq, .int .i64 ts, .int .i64 seq, .int .i64 kind, vv], .pointer (some ⟨w.heap.size, 0, none⟩), .pointer (some ⟨w.heap.size + 1, 0, none⟩), .pointer (some ⟨w.heap.size, 0, none⟩), vr, undef, .pointer (some ⟨w.heap.size, 2, none⟩), vq, undef, .pointer (some ⟨w.heap.size, 6, none⟩), undef, undef, undef, undef, undef, undef], []⟩ _
  refine AnyE.take (i := 7) (vv) rfl (by kernel_rfl) (by kernel_rfl) (by kernel_rfl) (by kernel_rfl) (fun _ _ _ h => h) (.inl ⟨by rfl, fun wq hq => by obtain ⟨q0, q2, q6⟩ := hq; go_simp⟩) hS ?_
  show AnyE _ _ _ _ _ _ 9 #[true, true, false, true, true, false, true, true, false, false, false, false, false, false, false] ⟨#[.agg #[vr, .int .i64 fam, vq, .int .i64 ts, .int .i64 seq, .int .i64 kind, vv], .pointer (some ⟨w.heap.size, 0, none⟩), .pointer (some ⟨w.heap.size + 1, 0, none⟩), .pointer (some ⟨w.heap.size, 0, none⟩), vr, undef, .pointer (some ⟨w.heap.size, 2, none⟩), vq, undef, .pointer (some ⟨w.heap.size, 6, none⟩), vv, undef, undef, undef, undef, undef], []⟩ _
  refine AnyE.one (i := 2) rfl (by kernel_rfl) (by rfl) (fun K1 hK1 => ?_)
  go_simp
  refine Calls.mono (C1.out _ D0) ?_
  rintro e1 w1 ⟨a1, m1, c1, rfl, o1, b1⟩
  have D1 := D0.trans (b1.mono D0.size)
  have hS1 : w1.cell? ⟨w.heap.size, 0, none⟩ = some vr ∧ w1.cell? ⟨w.heap.size, 2, none⟩ = some vq ∧ w1.cell? ⟨w.heap.size, 6, none⟩ = some vv := ⟨(HX.out _ D1).1.vr, (HX.out _ D1).1.vq, (HX.out _ D1).1.vv⟩
  refine hK1.out _ _ ⟨fun _ => hS1, ?_⟩
  clear hK1
  show AnyE _ _ _ _ _ _ 8 #[true, true, true, true, true, false, true, true, false, false, false, false, false, false, false] ⟨#[.agg #[vr, .int .i64 fam, vq, .int .i64 ts, .int .i64 seq, .int .i64 kind, vv], .pointer (some ⟨w.heap.size, 0, none⟩), .pointer (some ⟨w.heap.size + 1, 0, none⟩), .pointer (some ⟨w.heap.size, 0, none⟩), vr, (.slice a1 m1 c1), .pointer (some ⟨w.heap.size, 2, none⟩), vq, undef, .pointer (some ⟨w.heap.size, 6, none⟩), vv, undef, undef, undef, undef, undef], []⟩ _
  refine AnyE.take (i := 9) (.pointer (some ⟨w.heap.size, 0, none⟩)) rfl (by kernel_rfl) (by kernel_rfl) (by kernel_rfl) (by kernel_rfl) (fun _ _ _ h => h) (.inl ⟨by rfl, fun wq hq => by go_simp⟩) hS1 ?_
  show AnyE _ _ _ _ _ _ 7 #[true, true, true, true, true, false, true, true, false, true, false, false, false, false, false] ⟨#[.agg #[vr, .int .i64 fam, vq, .int .i64 ts, .int .i64 seq, .int .i64 kind, vv], .pointer (some ⟨w.heap.size, 0, none⟩), .pointer (some ⟨w.heap.size + 1, 0, none⟩), .pointer (some ⟨w.heap.size, 0, none⟩), vr, (.slice a1 m1 c1), .pointer (some ⟨w.heap.size, 2, none⟩), vq, undef, .pointer (some ⟨w.heap.size, 6, none⟩), vv, undef, .pointer (some ⟨w.heap.size, 0, none⟩), undef, undef, undef], []⟩ _
  refine AnyE.one (i := 5) rfl (by kernel_rfl) (by rfl) (fun K2 hK2 => ?_)
  go_simp
  refine Calls.mono (C2.out _ D1) ?_
  rintro e2 w2 ⟨a2, m2, c2, rfl, o2, b2⟩
  have D2 := D1.trans (b2.mono D1.size)
  have hS2 : w2.cell? ⟨w.heap.size, 0, none⟩ = some vr ∧ w2.cell? ⟨w.heap.size, 2, none⟩ = some vq ∧ w2.cell? ⟨w.heap.size, 6, none⟩ = some vv := ⟨(HX.out _ D2).1.vr, (HX.out _ D2).1.vq, (HX.out _ D2).1.vv⟩
  refine hK2.out _ _ ⟨fun _ => hS2, ?_⟩
  clear hK2
  show AnyE _ _ _ _ _ _ 6 #[true, true, true, true, true, true, true, true, false, true, false, false, false, false, false] ⟨#[.agg #[vr, .int .i64 fam, vq, .int .i64 ts, .int .i64 seq, .int .i64 kind, vv], .pointer (some ⟨w.heap.size, 0, none⟩), .pointer (some ⟨w.heap.size + 1, 0, none⟩), .pointer (some ⟨w.heap.size, 0, none⟩), vr, (.slice a1 m1 c1), .pointer (some ⟨w.heap.size, 2, none⟩), vq, (.slice a2 m2 c2), .pointer (some ⟨w.heap.size, 6, none⟩), vv, undef, .pointer (some ⟨w.heap.size, 0, none⟩), undef, undef, undef], []⟩ _
  refine AnyE.one (i := 8) rfl (by kernel_rfl) (by rfl) (fun K3 hK3 => ?_)
  go_simp
  refine Calls.mono (C3.out _ D2) ?_
  rintro e3 w3 ⟨a3, m3, c3, rfl, o3, b3⟩
  have D3 := D2.trans (b3.mono D2.size)
  have hS3 : w3.cell? ⟨w.heap.size, 0, none⟩ = some vr ∧ w3.cell? ⟨w.heap.size, 2, none⟩ = some vq ∧ w3.cell? ⟨w.heap.size, 6, none⟩ = some vv := ⟨(HX.out _ D3).1.vr, (HX.out _ D3).1.vq, (HX.out _ D3).1.vv⟩
  refine hK3.out _ _ ⟨fun _ => hS3, ?_⟩
  clear hK3
  show AnyE _ _ _ _ _ _ 5 #[true, true, true, true, true, true, true, true, true, true, false, false, false, false, false] ⟨#[.agg #[vr, .int .i64 fam, vq, .int .i64 ts, .int .i64 seq, .int .i64 kind, vv], .pointer (some ⟨w.heap.size, 0, none⟩), .pointer (some ⟨w.heap.size + 1, 0, none⟩), .pointer (some ⟨w.heap.size, 0, none⟩), vr, (.slice a1 m1 c1), .pointer (some ⟨w.heap.size, 2, none⟩), vq, (.slice a2 m2 c2), .pointer (some ⟨w.heap.size, 6, none⟩), vv, (.slice a3 m3 c3), .pointer (some ⟨w.heap.size, 0, none⟩), undef, undef, undef], []⟩ _
  obtain ⟨v0, v2, v6⟩ := hS3
  have g0 := (HX.out _ D3).1.fzA 0
  have g2 := (HX.out _ D3).1.fzA 2
  have g6 := (HX.out _ D3).1.fzA 6
  refine AnyE.one (i := 10) rfl (by kernel_rfl) (by rfl) (fun K hK => ?_)
  go_simp
  refine hK.out _ _ ⟨fun h => (by cases h), ?_⟩
  clear hK
  show AnyE _ _ _ _ _ _ 4 #[true, true, true, true, true, true, true, true, true, true, true, false, false, false, false] ⟨#[.agg #[vr, .int .i64 fam, vq, .int .i64 ts, .int .i64 seq, .int .i64 kind, vv], .pointer (some ⟨w.heap.size, 0, none⟩), .pointer (some ⟨w.heap.size + 1, 0, none⟩), .pointer (some ⟨w.heap.size, 0, none⟩), vr, (.slice a1 m1 c1), .pointer (some ⟨w.heap.size, 2, none⟩), vq, (.slice a2 m2 c2), .pointer (some ⟨w.heap.size, 6, none⟩), vv, (.slice a3 m3 c3), .pointer (some ⟨w.heap.size, 0, none⟩), undef, undef, undef], []⟩ (w3.setCell ⟨w.heap.size, 0, none⟩ (.slice a1 m1 c1))
  refine AnyE.one (i := 11) rfl (by kernel_rfl) (by rfl) (fun K hK => ?_)
  go_simp
  refine hK.out _ _ ⟨fun h => (by cases h), ?_⟩
  clear hK
  show AnyE _ _ _ _ _ _ 3 #[true, true, true, true, true, true, true, true, true, true, true, true, false, false, false] ⟨#[.agg #[vr, .int .i64 fam, vq, .int .i64 ts, .int .i64 seq, .int .i64 kind, vv], .pointer (some ⟨w.heap.size, 0, none⟩), .pointer (some ⟨w.heap.size + 1, 0, none⟩), .pointer (some ⟨w.heap.size, 0, none⟩), vr, (.slice a1 m1 c1), .pointer (some ⟨w.heap.size, 2, none⟩), vq, (.slice a2 m2 c2), .pointer (some ⟨w.heap.size, 6, none⟩), vv, (.slice a3 m3 c3), .pointer (some ⟨w.heap.size, 0, none⟩), .pointer (some ⟨w.heap.size, 2, none⟩), undef, undef], []⟩ (w3.setCell ⟨w.heap.size, 0, none⟩ (.slice a1 m1 c1))
  refine AnyE.one (i := 12) rfl (by kernel_rfl) (by rfl) (fun K hK => ?_)
  go_simp
  refine hK.out _ _ ⟨fun h => (by cases h), ?_⟩
  clear hK
  show AnyE _ _ _ _ _ _ 2 #[true, true, true, true, true, true, true, true, true, true, true, true, true, false, false] ⟨#[.agg #[vr, .int .i64 fam, vq, .int .i64 ts, .int .i64 seq, .int .i64 kind, vv], .pointer (some ⟨w.heap.size, 0, none⟩), .pointer (some ⟨w.heap.size + 1, 0, none⟩), .pointer (some ⟨w.heap.size, 0, none⟩), vr, (.slice a1 m1 c1), .pointer (some ⟨w.heap.size, 2, none⟩), vq, (.slice a2 m2 c2), .pointer (some ⟨w.heap.size, 6, none⟩), vv, (.slice a3 m3 c3), .pointer (some ⟨w.heap.size, 0, none⟩), .pointer (some ⟨w.heap.size, 2, none⟩), undef, undef], []⟩ ((w3.setCell ⟨w.heap.size, 0, none⟩ (.slice a1 m1 c1)).setCell ⟨w.heap.size, 2, none⟩ (.slice a2 m2 c2))
  refine AnyE.one (i := 13) rfl (by kernel_rfl) (by rfl) (fun K hK => ?_)
  go_simp
  refine hK.out _ _ ⟨fun h => (by cases h), ?_⟩
  clear hK
  show AnyE _ _ _ _ _ _ 1 #[true, true, true, true, true, true, true, true, true, true, true, true, true, true, false] ⟨#[.agg #[vr, .int .i64 fam, vq, .int .i64 ts, .int .i64 seq, .int .i64 kind, vv], .pointer (some ⟨w.heap.size, 0, none⟩), .pointer (some ⟨w.heap.size + 1, 0, none⟩), .pointer (some ⟨w.heap.size, 0, none⟩), vr, (.slice a1 m1 c1), .pointer (some ⟨w.heap.size, 2, none⟩), vq, (.slice a2 m2 c2), .pointer (some ⟨w.heap.size, 6, none⟩), vv, (.slice a3 m3 c3), .pointer (some ⟨w.heap.size, 0, none⟩), .pointer (some ⟨w.heap.size, 2, none⟩), .pointer (some ⟨w.heap.size, 6, none⟩), undef], []⟩ ((w3.setCell ⟨w.heap.size, 0, none⟩ (.slice a1 m1 c1)).setCell ⟨w.heap.size, 2, none⟩ (.slice a2 m2 c2))
  refine AnyE.one (i := 14) rfl (by kernel_rfl) (by rfl) (fun K hK => ?_)
  go_simp
  refine hK.out _ _ ⟨fun h => (by cases h), ?_⟩
  clear hK
  show AnyE _ _ _ _ _ _ 0 #[true, true, true, true, true, true, true, true, true, true, true, true, true, true, true] ⟨#[.agg #[vr, .int .i64 fam, vq, .int .i64 ts, .int .i64 seq, .int .i64 kind, vv], .pointer (some ⟨w.heap.size, 0, none⟩), .pointer (some ⟨w.heap.size + 1, 0, none⟩), .pointer (some ⟨w.heap.size, 0, none⟩), vr, (.slice a1 m1 c1), .pointer (some ⟨w.heap.size, 2, none⟩), vq, (.slice a2 m2 c2), .pointer (some ⟨w.heap.size, 6, none⟩), vv, (.slice a3 m3 c3), .pointer (some ⟨w.heap.size, 0, none⟩), .pointer (some ⟨w.heap.size, 2, none⟩), .pointer (some ⟨w.heap.size, 6, none⟩), undef], []⟩ (((w3.setCell ⟨w.heap.size, 0, none⟩ (.slice a1 m1 c1)).setCell ⟨w.heap.size, 2, none⟩ (.slice a2 m2 c2)).setCell ⟨w.heap.size, 6, none⟩ (.slice a3 m3 c3))
  refine AnyE.done (by kernel_rfl) (NoPanic.normal ?_) _
  have BF := ((((HX.out _ D3).1.put0 (.slice a1 m1 c1)).put2 (.slice a2 m2 c2)).put6 (.slice a3 m3 c3))
  have hne : w.heap.size + 1 ≠ w.heap.size := by omega
  have RZ := (Below.heap_setCell _ ⟨w.heap.size, 6, none⟩ (.slice a3 m3 c3) (w.heap.size + 1) hne).trans ((Below.heap_setCell _ ⟨w.heap.size, 2, none⟩ (.slice a2 m2 c2) (w.heap.size + 1) hne).trans ((Below.heap_setCell w3 ⟨w.heap.size, 0, none⟩ (.slice a1 m1 c1) (w.heap.size + 1) hne).trans (HR.out _ D3)))
  have KF : KpG (fun i => W.heap.size ≤ i) w3 (((w3.setCell ⟨w.heap.size, 0, none⟩ (.slice a1 m1 c1)).setCell ⟨w.heap.size, 2, none⟩ (.slice a2 m2 c2)).setCell ⟨w.heap.size, 6, none⟩ (.slice a3 m3 c3)) := (((KpG.refl _ w3).setCell (by omega) _ _).setCell (by omega) _ _).setCell (by omega) _ _
  have BW := (((HA.out.trans (D3.mono HA.out.size)).setCell (p := ⟨w.heap.size, 0, none⟩) (Nat.le_refl _) (.slice a1 m1 c1)).setCell (p := ⟨w.heap.size, 2, none⟩) (Nat.le_refl _) (.slice a2 m2 c2)).setCell (p := ⟨w.heap.size, 6, none⟩) (Nat.le_refl _) (.slice a3 m3 c3)
  generalize (((w3.setCell ⟨w.heap.size, 0, none⟩ (.slice a1 m1 c1)).setCell ⟨w.heap.size, 2, none⟩ (.slice a2 m2 c2)).setCell ⟨w.heap.size, 6, none⟩ (.slice a3 m3 c3)) = WF at *
  have E3 : EOk (fun i => W.heap.size ≤ i) w3 ⟨.slice a1 m1 c1, fam, .slice a2 m2 c2, ts, seq, kind, .slice a3 m3 c3, row, qual, val⟩ := by
    have s1 : W.heap.size ≤ w1.heap.size := D1.size
    have s2 : W.heap.size ≤ w2.heap.size := D2.size
    refine ⟨RdG.of_own ((o1.later b2).later b3) HY.out.1 (by have := HL.out.1; rw [o1.len]; omega) (fun i hi => Nat.le_trans D0.size hi), RdG.of_own (o2.later b3) HY.out.2.1 (by have := HL.out.2.1; rw [o2.len]; omega) (fun i hi => by omega), RdG.of_own o3 HY.out.2.2 (by have := HL.out.2.2; rw [o3.len]; omega) (fun i hi => by omega)⟩
  have HE : Hid (EOk (fun i => W.heap.size ≤ i) WF _) := E3.kept KF
  have HO : Hid (O3 WF W.heap.size ⟨.slice a1 m1 c1, fam, .slice a2 m2 c2, ts, seq, kind, .slice a3 m3 c3, row, qual, val⟩) := by
    have e1 := o1.len; have e2 := o2.len; have e3 := o3.len
    have l1 : ∀ g, (Value.slice a1 m1 c1).ownBlock = some g → W.heap.size ≤ g ∧ g < w1.heap.size := fun g hg => ⟨Nat.le_trans D0.size (o1.2.lt g hg).1, (o1.2.lt g hg).2⟩
    have l2 : ∀ g, (Value.slice a2 m2 c2).ownBlock = some g → w1.heap.size ≤ g ∧ g < w2.heap.size := fun g hg => o2.2.lt g hg
    have l3 : ∀ g, (Value.slice a3 m3 c3).ownBlock = some g → w2.heap.size ≤ g ∧ g < w3.heap.size := fun g hg => o3.2.lt g hg
    have s1 : W.heap.size ≤ w1.heap.size := D1.size
    have s2 : w1.heap.size ≤ w2.heap.size := b2.size
    have s3 : w2.heap.size ≤ w3.heap.size := b3.size
    refine ⟨(own_same ((o1.later b2).later b3) (fun g hg => KF.block g (by have := l1 g hg; omega) (l1 g hg).1)).base (fun g hg => (l1 g hg).1) e1, (own_same (o2.later b3) (fun g hg => KF.block g (by have := l2 g hg; omega) (by have := l2 g hg; omega))).base (fun g hg => by have := l2 g hg; omega) e2, (own_same o3 (fun g hg => KF.block g (l3 g hg).2 (by have := l3 g hg; omega))).base (fun g hg => by have := l3 g hg; omega) e3, fun g h k => ?_, fun g h k => ?_, fun g h k => ?_⟩
    · have := l1 g h; have := l2 g k; omega
    · have := l1 g h; have := l3 g k; omega
    · have := l2 g h; have := l3 g k; omega
  have HBW : Hid (Below w.heap.size w WF) := BW
  obtain ⟨y0', y1', y2', y3', y4', y5', y6'⟩ := (⟨BF.vr, BF.fam, BF.vq, BF.ts, BF.seq, BF.kind, BF.vv⟩ : _ ∧ _ ∧ _ ∧ _ ∧ _ ∧ _ ∧ _)
  simp only at y0' y1' y2' y3' y4' y5' y6'
  have z0 : WF.cell? ⟨w.heap.size + 1, 0, none⟩ = some (.slice none 0 0) := by simp [World.cell?, RZ]
  have f0 : WF.frozen? ⟨w.heap.size + 1, 0, none⟩ = false := by simp [World.frozen?, RZ]
  have z1 : WF.cell? ⟨w.heap.size + 1, 1, none⟩ = some (.int .i64 0) := by simp [World.cell?, RZ]
  have f1 : WF.frozen? ⟨w.heap.size + 1, 1, none⟩ = false := by simp [World.frozen?, RZ]
  have z2 : WF.cell? ⟨w.heap.size + 1, 2, none⟩ = some (.slice none 0 0) := by simp [World.cell?, RZ]
  have f2 : WF.frozen? ⟨w.heap.size + 1, 2, none⟩ = false := by simp [World.frozen?, RZ]
  have z3 : WF.cell? ⟨w.heap.size + 1, 3, none⟩ = some (.int .i64 0) := by simp [World.cell?, RZ]
  have f3 : WF.frozen? ⟨w.heap.size + 1, 3, none⟩ = false := by simp [World.frozen?, RZ]
  have z4 : WF.cell? ⟨w.heap.size + 1, 4, none⟩ = some (.int .i64 0) := by simp [World.cell?, RZ]
  have f4 : WF.frozen? ⟨w.heap.size + 1, 4, none⟩ = false := by simp [World.frozen?, RZ]
  have z5 : WF.cell? ⟨w.heap.size + 1, 5, none⟩ = some (.int .i64 0) := by simp [World.cell?, RZ]
  have f5 : WF.frozen? ⟨w.heap.size + 1, 5, none⟩ = false := by simp [World.frozen?, RZ]
  have z6 : WF.cell? ⟨w.heap.size + 1, 6, none⟩ = some (.slice none 0 0) := by simp [World.cell?, RZ]
  have f6 : WF.frozen? ⟨w.heap.size + 1, 6, none⟩ = false := by simp [World.frozen?, RZ]
  clear RZ BF KF BW E3 o1 o2 o3 b1 b2 b3 D1 D2 D3 v0 v2 v6 g0 g2 g6 hS hS1 hS2 y0 y2 y6 D0 HR HX C1 C2 C3
  go_wp2
  refine bodyPost_ret (v := .agg #[.slice a1 m1 c1, .int .i64 fam, .slice a2 m2 c2, .int .i64 ts, .int .i64 seq, .int .i64 kind, .slice a3 m3 c3]) (by simp [results, Try.results22, go_sem, z0, z1, z2, z3, z4, z5, z6]) rfl ?_
  refine ⟨⟨.slice a1 m1 c1, fam, .slice a2 m2 c2, ts, seq, kind, .slice a3 m3 c3, row, qual, val⟩, rfl, ⟨rfl, rfl, rfl, rfl, rfl, rfl, rfl⟩, ?_, ?_, ?_⟩
  · refine (HE.out.kept ?_).mono (fun i hi => Nat.le_trans HA.out.size hi)
    exact (((((((KpG.refl _ WF).setCell (by omega) _ _).setCell (by omega) _ _).setCell (by omega) _ _).setCell (by omega) _ _).setCell (by omega) _ _).setCell (by omega) _ _).setCell (by omega) _ _
  · refine (HO.out.kept ?_).mono HA.out.size
    exact (((((((KpG.refl _ WF).setCell (by omega) _ _).setCell (by omega) _ _).setCell (by omega) _ _).setCell (by omega) _ _).setCell (by omega) _ _).setCell (by omega) _ _).setCell (by omega) _ _
  · exact ((((((HBW.out.setCell (Nat.le_succ _) _).setCell (Nat.le_succ _) _).setCell (Nat.le_succ _) _).setCell (Nat.le_succ _) _).setCell (Nat.le_succ _) _).setCell (Nat.le_succ _) _).setCell (Nat.le_succ _) _

set_option maxRecDepth 100000 in
theorem equal_any {a b : Value} {xs ys : List Nat} {w : World} (ha : Rd w a xs) (hb : Rd w b ys) :
    Calls Try.prog 60 #[a, b] w fun e w' => e = .returned (.bool (decide (xs = ys))) ∧ w' = w := by
  have h1 := conv_str ha
  have h2 := conv_str hb
  go_enter Try.func60, Try.ntmps60
  go_wp2
  go_ret
  exact ⟨by rw [← beq_str ha.1 hb.1]; rfl, rfl⟩
def sameS (a b : EntD) : Bool := decide (compareS a b = 0) && decide (a.val = b.val)
set_option maxRecDepth 100000 in
set_option maxHeartbeats 2000000 in
theorem same3_any {a b : EntD} {w : World} (ha : EntD.Ok w a) (hb : EntD.Ok w b) :
    Calls Try.prog 46 #[.agg a.cells, .agg b.cells] w fun r w' => r = .returned (.bool (sameS a b)) ∧ Below w.heap.size w w' := by
  have A1 := (Below.refl w.heap.size w).alloc (Nat.le_refl _) (.cells a.cells 45)
  have A2 := A1.alloc A1.size (.cells b.cells 45)
  have bxa : Hid (∀ Z, Below ((w.alloc (.cells a.cells 45)).alloc (.cells b.cells 45)).heap.size ((w.alloc (.cells a.cells 45)).alloc (.cells b.cells 45)) Z → EBox Z w.heap.size a) := fun Z k => ((EBox.new w a).later ((Below.refl _ _).alloc (Nat.le_refl _) _)).later k
  have bxb : Hid (∀ Z, Below ((w.alloc (.cells a.cells 45)).alloc (.cells b.cells 45)).heap.size ((w.alloc (.cells a.cells 45)).alloc (.cells b.cells 45)) Z → EBox Z (w.heap.size + 1) b) := fun Z k => by
    have := EBox.new (w.alloc (.cells a.cells 45)) b
    rw [World.size_alloc] at this
    exact this.later k
  obtain ⟨W, hW⟩ : ∃ W, W = (w.alloc (.cells a.cells 45)).alloc (.cells b.cells 45) := ⟨_, rfl⟩
  have HC : Hid (Calls Try.prog 35 #[.agg a.cells, .agg b.cells] W fun r w' => r = .returned (.int .i64 (compareS a b)) ∧ Below W.heap.size W w') := by
    rw [hW]; exact compare_any (ha.later A2) (hb.later A2)
  have HE : Hid (∀ Z, Below W.heap.size W Z → Calls Try.prog 60 #[a.vv, b.vv] Z fun r w' => r = .returned (.bool (decide (a.val = b.val))) ∧ w' = Z) := fun Z k => equal_any (((ha.later A2).later (by rw [← hW]; exact k)).2.2) (((hb.later A2).later (by rw [← hW]; exact k)).2.2)
  rw [← hW] at bxa bxb A2
  have HW := Lib.hid hW
  have HA := Lib.hid A2
  have B0 := Below.refl W.heap.size W
  have x0 := (bxa.out W B0).cells7
  have y0 := (bxb.out W B0).cells7
  obtain ⟨x00, x01, x02, x03, x04, x05, x06⟩ := x0
  obtain ⟨y00, y01, y02, y03, y04, y05, y06⟩ := y0
  have e0 : ∃ r, r = compareS a b := ⟨_, rfl⟩
  obtain ⟨r, hr⟩ := e0
  have HS : Hid (sameS a b = (decide (r = 0) && decide (a.val = b.val))) := by unfold Hid; rw [hr]; rfl
  rw [← hr] at HC
  obtain ⟨s, hs⟩ : ∃ s, s = sameS a b := ⟨_, rfl⟩
  rw [← hs] at HS ⊢
  clear hr hs A1 A2 B0 ha hb hW
  unfold EntD.cells at HC HW ⊢
  rw [HW.out] at x00 x01 x02 x03 x04 x05 x06 y00 y01 y02 y03 y04 y05 y06
  go_enter Try.func46, Try.ntmps46
  by_cases h0 : r = 0
  · have h0b : (r == 0) = true := by simp [h0]
    go_wp2_with fail
    rw [← HW.out]
    refine Calls.mono HC.out ?_
    rintro z w1 ⟨rfl, b1⟩
    have q6 := (bxa.out w1 b1).vv
    have p6 := (bxb.out w1 b1).vv
    have HF := Lib.hid (HA.out.trans (b1.mono HA.out.size))
    have HE1 := Lib.hid (HE.out w1 b1)
    clear x00 x01 x02 x03 x04 x05 x06 y00 y01 y02 y03 y04 y05 y06 b1
    go_wp2_with fail
    refine Calls.mono HE1.out ?_
    rintro z w2 ⟨rfl, rfl⟩
    go_wp2
    go_ret
    refine ⟨?_, HF.out⟩
    rw [HS.out]
    simp [h0]
  · have h0b : (r == 0) = false := by simp [h0]
    go_wp2_with fail
    rw [← HW.out]
    refine Calls.mono HC.out ?_
    rintro z w1 ⟨rfl, b1⟩
    have HF := Lib.hid (HA.out.trans (b1.mono HA.out.size))
    clear x00 x01 x02 x03 x04 x05 x06 y00 y01 y02 y03 y04 y05 y06 b1
    go_wp2
    go_ret
    refine ⟨?_, HF.out⟩
    rw [HS.out]
    simp [h0]
end Go.Proofs.Ythhkpkfpifllkaa


namespace Go.Proofs.Ythhkpkfpifllkaa
open Go.RowKit
set_option linter.unusedVariables false

def marks5 : List Nat := [201, 202, 203, 204, 205]
theorem marks5_bys : Bys marks5 := by
  have h : ∀ x ∈ marks5, x < 256 := by decide
  exact h
theorem rep_bys (n m : Nat) (h : m < 256) : Bys (List.replicate n m) := by intro x hx; rw [List.eq_of_mem_replicate hx]; exact h

def Laid (w : World) (B : Nat) (u : Value) (bs : List Nat) : Prop := ∃ g c, u = .slice (some ⟨g, 0, none⟩) bs.length c ∧ bs.length + 75 ≤ c ∧ c ≤ maxLen ∧ Own w B (.slice (some ⟨g, 0, none⟩) (bs.length + 75) c) (bs.length + 75) ((bs ++ marks5) ++ List.replicate 70 206)
theorem Laid.later {w w' : World} {B : Nat} {u : Value} {bs : List Nat} (h : Laid w B u bs) (hb : Below w.heap.size w w') : Laid w' B u bs := by
  obtain ⟨g, c, h1, h2, h3, h4⟩ := h
  exact ⟨g, c, h1, h2, h3, h4.later hb⟩
theorem Laid.all {w : World} {B g c : Nat} {bs : List Nat} (h4 : Own w B (.slice (some ⟨g, 0, none⟩) (bs.length + 75) c) (bs.length + 75) ((bs ++ marks5) ++ List.replicate 70 206)) (hb : Bys bs) (hl : bs.length ≤ 140737488355328) : Rd w (.slice (some ⟨g, 0, none⟩) (bs.length + 75) c) ((bs ++ marks5) ++ List.replicate 70 206) :=
  h4.rd (Bys.app (Bys.app hb marks5_bys) (rep_bys _ _ (by decide))) (by omega)
theorem Laid.rd {w : World} {B : Nat} {u : Value} {bs : List Nat} (h : Laid w B u bs) (hb : Bys bs) (hl : bs.length ≤ 140737488355328) : Rd w u bs := by
  obtain ⟨g, c, rfl, h2, h3, h4⟩ := h
  have := (Laid.all h4 hb hl).upto bs.length (by omega)
  simpa using this

end Go.Proofs.Ythhkpkfpifllkaa
