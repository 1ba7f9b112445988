import Derived.Test.YtlkhphhmhffdjaaK08
set_option linter.unusedSimpArgs false
set_option linter.unusedVariables false
namespace Go.Proofs.Ytlkhphhmhffdjaa
open Go.RowKit Go.MapKept Go.Sort
variable {w w' W X : World} {O O' : Nat → Prop} {dB rB : Nat} {d : Dk4}
def Srt (l : List PF) : Prop := l.Pairwise (fun p q => nmL p.1 < nmL q.1)
theorem less_nm (a b : ByteArray) : Op.bytesLess a.toList b.toList = decide (nmL a < nmL b) := by
 rw [bytesLess_eq, ByteArray.toList_eq, ByteArray.toList_eq]
 rfl
theorem lt_irr (a : List UInt8) : ¬ a < a := List.lt_irrefl a
theorem lt_tri {a b : List UInt8} (h : ¬ a < b) (hne : a ≠ b) : b < a := Std.lt_of_le_of_ne (List.not_lt.1 h) (Ne.symm hne)
theorem Srt.uniq {l m : List PF} (h : Srt l) (k : Srt m) (p : l.Perm m) : l = m :=
 List.Perm.eq_of_pairwise (le := fun (p q : PF) => nmL p.1 < nmL q.1) (fun a b _ _ h1 h2 => absurd (List.lt_trans h1 h2) (lt_irr _)) h k p
theorem Srt.nod {l : List PF} (h : Srt l) : (l.map (·.1)).Nodup := by
 rw [List.Nodup, List.pairwise_map]
 unfold Srt at h
 exact List.Pairwise.imp (fun {a b} (h : nmL a.1 < nmL b.1) (e : a.1 = b.1) => lt_irr (nmL b.1) (by rw [e] at h; exact h)) h
theorem filesP_srt (hn : (d.fs.map (·.1)).Nodup) : Srt (filesP d) := by
 unfold Srt filesP
 rw [List.pairwise_map]
 refine (lsP_lt hn).imp (fun {a b} h => ?_)
 simpa [fileP, nmL_ofL] using h
def insP : List PF → PF → List PF
 | [], f => [f]
 | x :: xs, f => if nmL x.1 < nmL f.1 then x :: insP xs f else f :: x :: xs
theorem insP_perm (f : PF) : ∀ l : List PF, (insP l f).Perm (f :: l)
 | [] => List.Perm.refl _
 | x :: xs => by
  rw [insP]
  split
  ·exact ((insP_perm f xs).cons x).trans (List.Perm.swap f x xs)
  ·exact List.Perm.refl _
theorem insP_srt {f : PF} : ∀ {l : List PF}, Srt l → (∀ p ∈ l, p.1 ≠ f.1) → Srt (insP l f)
 | [], _, _ => by simp [insP, Srt]
 | x :: xs, h, hf => by
  have h2 := List.pairwise_cons.1 h
  rw [insP]
  by_cases hx : nmL x.1 < nmL f.1
  ·rw [if_pos hx]
   refine List.pairwise_cons.2 ⟨fun q hq => ?_, insP_srt h2.2 (fun p hp => hf p (by simp [hp]))⟩
   rcases List.mem_cons.1 ((insP_perm f xs).mem_iff.1 hq) with rfl | hq
   ·exact hx
   ·exact h2.1 q hq
  ·rw [if_neg hx]
   have hfx := lt_tri hx (fun e => hf x (by simp) (nmL_inj e))
   refine List.pairwise_cons.2 ⟨fun q hq => ?_, h⟩
   rcases List.mem_cons.1 hq with rfl | hq
   ·exact hfx
   ·exact List.lt_trans hfx (h2.1 q hq)
def aheadP : List PF → PF → Nat
 | [], _ => 0
 | x :: xs, f => if nmL x.1 < nmL f.1 then aheadP xs f + 1 else 0
theorem aheadP_le (f : PF) : ∀ l : List PF, aheadP l f ≤ l.length
 | [] => Nat.le_refl _
 | x :: xs => by
  rw [aheadP]
  split
  ·have := aheadP_le f xs; simp; exact this
  ·exact Nat.zero_le _
theorem insP_eq (f : PF) : ∀ l : List PF, insP l f = l.take (aheadP l f) ++ f :: l.drop (aheadP l f)
 | [] => rfl
 | x :: xs => by
  rw [insP, aheadP]
  split
  ·rw [insP_eq f xs]; rfl
  ·rfl
theorem aheadP_lt (f : PF) : ∀ (l : List PF) (i : Nat) (x : PF), i < aheadP l f → l[i]? = some x → nmL x.1 < nmL f.1
 | y :: ys, 0, x, h, hx => by
  simp at hx; subst hx
  rw [aheadP] at h
  split at h
  ·assumption
  ·omega
 | y :: ys, i + 1, x, h, hx => by
  rw [aheadP] at h
  split at h
  ·exact aheadP_lt f ys i x (by omega) (by simpa using hx)
  ·omega
theorem aheadP_ge (f : PF) : ∀ (l : List PF) (x : PF), l[aheadP l f]? = some x → ¬ nmL x.1 < nmL f.1
 | y :: ys, x, hx => by
  rw [aheadP] at hx
  split at hx
  ·exact aheadP_ge f ys x (by simpa using hx)
  ·simp at hx; subst hx; assumption
def RBox (w : World) (rB : Nat) (cap : Int) (f : Value) (off : Bool) (arm : Int) (c : Nat → Int) : Prop :=
 w.heap[rB]? = some (.cells #[.int .i64 cap, f, .bool off, .int .i64 arm, .int .i64 (c 0), .int .i64 (c 1), .int .i64 (c 2), .int .i64 (c 3), .int .i64 (c 4), .int .i64 (c 5)] 51 (0, 0))
variable {cap arm : Int} {off : Bool} {c : Nat → Int} {f : Value}
theorem RBox.lt (h : RBox w rB cap f off arm c) : rB < w.heap.size := (Array.getElem?_eq_some_iff.1 h).1
theorem RBox.kept (h : RBox w rB cap f off arm c) (k : w'.heap[rB]? = w.heap[rB]?) : RBox w' rB cap f off arm c := k.trans h
theorem RBox.cells (h : RBox w rB cap f off arm c) : w.cell? ⟨rB, 0, none⟩ = some (.int .i64 cap) ∧ w.cell? ⟨rB, 1, none⟩ = some f ∧ w.cell? ⟨rB, 2, none⟩ = some (.bool off) ∧ w.cell? ⟨rB, 3, none⟩ = some (.int .i64 arm) ∧ w.cell? ⟨rB, 4, none⟩ = some (.int .i64 (c 0)) ∧ w.cell? ⟨rB, 5, none⟩ = some (.int .i64 (c 1)) ∧ w.cell? ⟨rB, 6, none⟩ = some (.int .i64 (c 2)) ∧ w.cell? ⟨rB, 7, none⟩ = some (.int .i64 (c 3)) ∧ w.cell? ⟨rB, 8, none⟩ = some (.int .i64 (c 4)) ∧ w.cell? ⟨rB, 9, none⟩ = some (.int .i64 (c 5)) := by
 unfold RBox at h
 simp [World.cell?, h]
theorem RBox.fz (h : RBox w rB cap f off arm c) (i : Nat) : w.frozen? ⟨rB, i, none⟩ = false := by
 unfold RBox at h
 simp [World.frozen?, h]
theorem RBox.setF (h : RBox w rB cap f off arm c) (x : Value) : RBox (w.setCell ⟨rB, 1, none⟩ x) rB cap x off arm c := by
 unfold RBox at h ⊢
 rw [heap_setCell_same w rB 1 _ _ _ h]
 simp
theorem RBox.setOff (h : RBox w rB cap f off arm c) (x : Bool) : RBox (w.setCell ⟨rB, 2, none⟩ (.bool x)) rB cap f x arm c := by
 unfold RBox at h ⊢
 rw [heap_setCell_same w rB 2 _ _ _ h]
 simp
theorem RBox.setArm (h : RBox w rB cap f off arm c) (x : Int) : RBox (w.setCell ⟨rB, 3, none⟩ (.int .i64 x)) rB cap f off x c := by
 unfold RBox at h ⊢
 rw [heap_setCell_same w rB 3 _ _ _ h]
 simp
theorem RBox.setCt (h : RBox w rB cap f off arm c) (k : Nat) (hk : k < 6) (x : Int) : RBox (w.setCell ⟨rB, 4 + k, none⟩ (.int .i64 x)) rB cap f off arm (setCt c k x) := by
 unfold RBox at h ⊢
 rw [heap_setCell_same w rB (4 + k) _ _ _ h]
 match k, hk with
 | 0, _ => simp [Proofs.Ytlkhphhmhffdjaa.setCt]
 | 1, _ => simp [Proofs.Ytlkhphhmhffdjaa.setCt]
 | 2, _ => simp [Proofs.Ytlkhphhmhffdjaa.setCt]
 | 3, _ => simp [Proofs.Ytlkhphhmhffdjaa.setCt]
 | 4, _ => simp [Proofs.Ytlkhphhmhffdjaa.setCt]
 | 5, _ => simp [Proofs.Ytlkhphhmhffdjaa.setCt]
structure FRow (w : World) (B : Nat) (v : Value) (n : Nat) (l : List (PF × Value)) : Prop where
 len : n = l.length
 row : w.ownsRow B 60 3 v n (fCells l)
theorem FRow.later {B n : Nat} {v : Value} {l : List (PF × Value)} (h : FRow w B v n l) (b : Below w.heap.size w w') : FRow w' B v n l := by
 refine ⟨h.len, ⟨h.row.1, ?_⟩⟩
 rcases h.row.2 with h1 | ⟨g, cap, cur, e, h2, h3, h4⟩
 ·exact .inl h1
 ·exact .inr ⟨g, cap, cur, e, h2, (b.block g (Array.getElem?_eq_some_iff.1 h3).1).trans h3, h4⟩
theorem FRow.nil (w : World) (B : Nat) : FRow w B (.slice none 0 0) 0 [] := ⟨rfl, rfl, .inl ⟨rfl, rfl⟩⟩
theorem FRow.kept {B n : Nat} {v : Value} {l : List (PF × Value)} (h : FRow w B v n l) (k : ∀ g, v.ownBlock = some g → w'.heap[g]? = w.heap[g]?) : FRow w' B v n l := by
 refine ⟨h.len, ⟨h.row.1, ?_⟩⟩
 rcases h.row.2 with h1 | ⟨g, cap, cur, e, h2, h3, h4⟩
 ·exact .inl h1
 ·exact .inr ⟨g, cap, cur, e, h2, (k g (by rw [e]; rfl)).trans h3, h4⟩
theorem FRow.mono {B B' n : Nat} {v : Value} {l : List (PF × Value)} (h : FRow w B v n l) (hB : B' ≤ B) : FRow w B' v n l := by
 refine ⟨h.len, ⟨h.row.1, ?_⟩⟩
 rcases h.row.2 with h1 | ⟨g, cap, cur, e, h2, h3⟩
 ·exact .inl h1
 ·exact .inr ⟨g, cap, cur, e, by omega, h3⟩
def Shp (l : List (PF × Value)) : Prop := ∀ x ∈ l, ∃ a n c, x.2 = .slice a n c
theorem fCells_one {l : List (PF × Value)} (h : Shp l) : ∀ u ∈ fCells l, u.oneCell' = true := by
 induction l with
 | nil => intro u hu; simp [fCells] at hu
 | cons x xs ih =>
  intro u hu
  simp only [fCells, List.mem_cons] at hu
  rcases hu with rfl | rfl | rfl | hu
  ·rfl
  ·obtain ⟨a, n, c, e⟩ := h x (by simp); rw [e]; rfl
  ·rfl
  ·exact ih (fun y hy => h y (by simp [hy])) u hu
theorem frow_append {w : World} {o : Oper} {a : Act} {K : Act → World → Prop} {Q : Exit → Act → World → Prop} (s x : Operand)
  (ho : o.op = .call { callee := .builtin .append, args := #[s, x], argTypes := #[22, 22] })
  {B n m cp g off : Nat} {v : Value} {l l2 : List (PF × Value)} (hs : a.eval s = v) (hown : FRow w B v n l) (hx : a.eval x = .slice (some ⟨g, off, none⟩) m cp) (hm : m = l2.length) (hf : ∀ j u, (fCells l2)[j]? = some u → w.cell? ⟨g, off + j, none⟩ = some u)
  (hsh : Shp l2) (hn : n + m ≤ 1000000) (hB : B ≤ w.heap.size)
  (h : ∀ v' w', FRow w' B v' (n + m) (l ++ l2) → Below B w w' → w.grownBy w' v.ownBlock → K (a.put o.dst v') w') :
  Oper.wp Try.prog o a w K Q := by
 obtain ⟨i0, hi, hz0, hz1, hz2⟩ := info_parts info_file4
 obtain ⟨v', w', hr, h2, h3, h4⟩ := run_append_own (P := Try.prog) w B 22 o.type 60 i0 (.agg #[.string ⟨#[]⟩, .slice none 0 0, .int .i64 0]) 3 48 und_files4 hi hz0 hz1 hz2 rfl (by decide) v n (fCells l) hown.row ⟨g, off, none⟩ m cp (fCells l2) (by rw [fCells_len, hm]) (fun j y hj => by
  have e : (⟨g, off, none⟩ : Addr).add j = ⟨g, off + j, none⟩ := by unfold Addr.add; split <;> simp_all
  rw [e]
  exact hf j y hj) (fCells_one hsh) (by unfold maxLen; omega) (by omega) hB
 have hb : Below B w w' := (Below.refl B w).grown h3 hB (fun k hk => (hown.row.lt k hk).1)
 unfold Oper.wp execOp
 rw [ho]
 simp only [resolve, invoke, builtin, Sem.run_bind, Sem.run_pure, Result.andThen_ok, List.map_toArray, List.map_cons, List.map_nil, hs, hx, hr]
 exact h v' w' ⟨by rw [List.length_append, hown.len, hm], by rw [fCells_append]; exact h2⟩ hb h3
theorem FRow.form {B n : Nat} {v : Value} {l : List (PF × Value)} (h : FRow w B v n l) : ∃ a c, v = .slice a n c := by
 rcases h.row.2 with ⟨rfl, h2⟩ | ⟨g, cap, cur, rfl, _⟩
 ·have : n = 0 := h2
  subst this; exact ⟨_, _, rfl⟩
 ·exact ⟨_, _, rfl⟩
theorem FRow.key {B n k j : Nat} {a : Option Addr} {l : List (PF × Value)} {u : Value} (h : FRow w B (.slice a n k) n l) (hu : (fCells l)[j]? = some u) : ∃ g, a = some ⟨g, 0, none⟩ ∧ B ≤ g ∧ w.cell? ⟨g, j, none⟩ = some u ∧ ∃ cur, w.heap[g]? = some (.cells cur 60 (0, 0)) := by
 have hj := (List.getElem?_eq_some_iff.1 hu).1
 rw [fCells_len] at hj
 have hl := h.len
 rcases h.row.2 with ⟨e, h2⟩ | ⟨g, cap, cur, h1, h2, h3, h4, h5, h6, h7⟩
 ·omega
 ·simp only [Value.slice.injEq] at h1
  refine ⟨g, h1.1, h2, ?_, cur, h3⟩
  rw [← h7, List.getElem?_take_of_lt (by omega)] at hu
  simp only [World.cell?, h3]
  simpa using hu
theorem FRow.at_ {B n k i : Nat} {a : Option Addr} {l : List (PF × Value)} {x : PF × Value} (h : FRow w B (.slice a n k) n l) (hx : l[i]? = some x) :
  ∃ g, a = some ⟨g, 0, none⟩ ∧ B ≤ g ∧ w.cell? ⟨g, i * 3, none⟩ = some (.string x.1.1) ∧ w.cell? ⟨g, i * 3 + 1, none⟩ = some x.2 ∧ w.cell? ⟨g, i * 3 + 2, none⟩ = some (.int .i64 (x.1.2.2 : Int)) := by
 obtain ⟨h0, h1, h2⟩ := fCells_at l i x hx
 obtain ⟨g, e0, hB, c0, _⟩ := h.key h0
 obtain ⟨g1, e1, _, c1, _⟩ := h.key h1
 obtain ⟨g2, e2, _, c2, _⟩ := h.key h2
 rw [e0] at e1 e2
 cases e1
 cases e2
 exact ⟨g, e0, hB, c0, c1, c2⟩
theorem FRow.capn {B n k : Nat} {a : Option Addr} {l : List (PF × Value)} (h : FRow w B (.slice a n k) n l) : n ≤ k ∧ k ≤ maxLen := by
 rcases h.row.2 with ⟨h1, h2⟩ | ⟨g, cap, cur, h1, h2, h3, h4, h5, h6, h7⟩
 ·simp only [Value.slice.injEq] at h1
  obtain ⟨_, _, rfl⟩ := h1
  exact ⟨by omega, by decide⟩
 ·simp only [Value.slice.injEq] at h1
  obtain ⟨_, _, rfl⟩ := h1
  exact ⟨h4, h5⟩
end Go.Proofs.Ytlkhphhmhffdjaa

namespace Go.Proofs.Ytlkhphhmhffdjaa
open Go.RowKit Go.MapKept Go.Sort
variable {w w' W X : World} {O O' : Nat → Prop} {dB rB : Nat} {d : Dk4}
structure RDM (w : World) (O : Nat → Prop) (rB : Nat) (a : Option Addr) (n k : Nat) (l : List (PF × Value)) (cap : Int) (off : Bool) (arm : Int) (c : Nat → Int) : Prop where
 box : RBox w rB cap (.slice a n k) off arm c
 row : FRow w 0 (.slice a n k) n l
 rowO : ∀ g, (Value.slice a n k).ownBlock = some g → O g
 dat : ∀ x ∈ l, OwnO w O x.2 x.1.2.1
 nod : l.Pairwise (fun x y => ∀ g, x.2.ownBlock = some g → y.2.ownBlock ≠ some g)
 orb : O rB
 lt : ∀ i, O i → i < w.heap.size
variable {a : Option Addr} {n k : Nat} {l : List (PF × Value)} {cap arm : Int} {off : Bool} {c : Nat → Int}
theorem RDM.kept (h : RDM w O rB a n k l cap off arm c) (q : ∀ i, O i → w'.heap[i]? = w.heap[i]?) (hs : w.heap.size ≤ w'.heap.size) : RDM w' O rB a n k l cap off arm c :=
 ⟨h.box.kept (q _ h.orb), h.row.kept (fun g hg => q g (h.rowO g hg)), h.rowO, fun x hx => (h.dat x hx).kept (fun g hg => ⟨q g ((h.dat x hx).blk g hg), (h.dat x hx).blk g hg⟩), h.nod, h.orb, fun i hi => Nat.lt_of_lt_of_le (h.lt i hi) hs⟩
theorem RDM.below (h : RDM w O rB a n k l cap off arm c) (b : Below w.heap.size w w') : RDM w' O rB a n k l cap off arm c := h.kept (fun i hi => b.block i (h.lt i hi)) b.size
theorem RDM.shp (h : RDM w O rB a n k l cap off arm c) : Shp l := fun x hx => by
 obtain ⟨a, c, e⟩ := (h.dat x hx).form
 exact ⟨a, _, c, e⟩
theorem RDM.neRow (h : RDM w O rB a n k l cap off arm c) {g : Nat} (hg : (Value.slice a n k).ownBlock = some g) : g ≠ rB ∧ ∀ x ∈ l, x.2.ownBlock ≠ some g := by
 have hb := h.box
 unfold RBox at hb
 rcases h.row.row.2 with ⟨e, _⟩ | ⟨g2, cap2, cur, e, _, hh, _⟩
 ·rw [e] at hg; cases hg
 ·rw [e] at hg
  simp only [Value.ownBlock, Option.some.injEq] at hg
  subst hg
  refine ⟨fun e => ?_, fun x hx e => ?_⟩
  ·rw [e, hb] at hh
   simp only [Option.some.injEq, Obj.cells.injEq] at hh
   exact absurd hh.2.1 (by decide)
  ·obtain ⟨cur2, h2⟩ := (h.dat x hx).typ e
   rw [hh] at h2
   simp only [Option.some.injEq, Obj.cells.injEq] at h2
   exact absurd h2.2.1 (by decide)
theorem RDM.neDat (h : RDM w O rB a n k l cap off arm c) {x : PF × Value} (hx : x ∈ l) {g : Nat} (hg : x.2.ownBlock = some g) : g ≠ rB := by
 have hb := h.box
 unfold RBox at hb
 obtain ⟨cur2, h2⟩ := (h.dat x hx).typ hg
 intro e
 rw [e, hb] at h2
 simp only [Option.some.injEq, Obj.cells.injEq] at h2
 exact absurd h2.2.1 (by decide)
theorem RDM.setBox (h : RDM w O rB a n k l cap off arm c) {off' : Bool} {arm' : Int} {c' : Nat → Int} (hb : RBox w' rB cap (.slice a n k) off' arm' c') (q : ∀ i, i ≠ rB → w'.heap[i]? = w.heap[i]?) (hs : w.heap.size ≤ w'.heap.size) : RDM w' O rB a n k l cap off' arm' c' :=
 ⟨hb, h.row.kept (fun g hg => q g (h.neRow hg).1), h.rowO, fun x hx => (h.dat x hx).kept (fun g hg => ⟨q g (h.neDat hx hg), (h.dat x hx).blk g hg⟩), h.nod, h.orb, fun i hi => Nat.lt_of_lt_of_le (h.lt i hi) hs⟩
theorem RDM.setArm (h : RDM w O rB a n k l cap off arm c) (x : Int) : RDM (w.setCell ⟨rB, 3, none⟩ (.int .i64 x)) O rB a n k l cap off x c := h.setBox (h.box.setArm x) (fun i hi => heap_setCell_other _ _ _ _ hi) (by simp [World.setCell])
theorem RDM.setOff (h : RDM w O rB a n k l cap off arm c) (x : Bool) : RDM (w.setCell ⟨rB, 2, none⟩ (.bool x)) O rB a n k l cap x arm c := h.setBox (h.box.setOff x) (fun i hi => heap_setCell_other _ _ _ _ hi) (by simp [World.setCell])
theorem RDM.setCt (h : RDM w O rB a n k l cap off arm c) (j : Nat) (hj : j < 6) (x : Int) : RDM (w.setCell ⟨rB, 4 + j, none⟩ (.int .i64 x)) O rB a n k l cap off arm (setCt c j x) := h.setBox (h.box.setCt j hj x) (fun i hi => heap_setCell_other _ _ _ _ hi) (by simp [World.setCell])
theorem RDM.setRow (h : RDM w O rB a n k l cap off arm c) {a2 : Option Addr} {n2 k2 : Nat} {l2 : List (PF × Value)} (hr : FRow w 0 (.slice a2 n2 k2) n2 l2) (hO : ∀ i, O i → O' i) (hrO : ∀ g, (Value.slice a2 n2 k2).ownBlock = some g → O' g ∧ g ≠ rB)
  (hd : ∀ x ∈ l2, OwnO w O' x.2 x.1.2.1 ∧ ∀ g, x.2.ownBlock = some g → g ≠ rB) (hn : l2.Pairwise (fun x y => ∀ g, x.2.ownBlock = some g → y.2.ownBlock ≠ some g)) (lt' : ∀ i, O' i → i < w.heap.size) :
  RDM (w.setCell ⟨rB, 1, none⟩ (.slice a2 n2 k2)) O' rB a2 n2 k2 l2 cap off arm c :=
 ⟨h.box.setF _, hr.kept (fun g hg => heap_setCell_other _ _ _ _ (hrO g hg).2), fun g hg => (hrO g hg).1, fun x hx => (hd x hx).1.kept (fun g hg => ⟨heap_setCell_other _ _ _ _ ((hd x hx).2 g hg), (hd x hx).1.blk g hg⟩), hn, hO _ h.orb, fun i hi => by simp [World.setCell]; exact lt' i hi⟩
theorem eq_str {a b : ByteArray} : (a.toList == b.toList) = decide (a = b) := by
 rw [ByteArray.toList_eq, ByteArray.toList_eq]
 by_cases h : a = b
 ·subst h; simp
 ·rw [decide_eq_false h]
  simp only [beq_eq_false_iff_ne, ne_eq]
  intro e
  exact h (ByteArray.ext (Array.toList_inj.1 e))
def idxP : List PF → ByteArray → Option Nat
 | [], _ => none
 | x :: xs, s => if x.1 = s then some 0 else (idxP xs s).map (· + 1)
def idxI (l : List PF) (s : ByteArray) : Int := match idxP l s with
 | some i => (i : Int)
 | none => -1
theorem idxP_some {s : ByteArray} : ∀ {l : List PF} {i : Nat}, idxP l s = some i → ∃ v, l[i]? = some (s, v) ∧ atP l s = some v ∧ ∀ j x, j < i → l[j]? = some x → x.1 ≠ s
 | x :: xs, i, h => by
  by_cases e : x.1 = s
  ·rw [idxP, if_pos e] at h
   cases h
   exact ⟨x.2, by simp [← e], by rw [atP, if_pos e], fun j y hj => absurd hj (by omega)⟩
  ·rw [idxP, if_neg e] at h
   obtain ⟨j, hj, rfl⟩ := Option.map_eq_some_iff.1 h
   obtain ⟨v, h1, h2, h3⟩ := idxP_some hj
   refine ⟨v, by simpa using h1, by rw [atP, if_neg e]; exact h2, fun m y hm hy => ?_⟩
   cases m with
   | zero => simp at hy; subst hy; exact e
   | succ m => exact h3 m y (by omega) (by simpa using hy)
theorem idxP_none {s : ByteArray} : ∀ {l : List PF}, idxP l s = none → atP l s = none ∧ ∀ x ∈ l, x.1 ≠ s
 | [], _ => ⟨rfl, fun x hx => by cases hx⟩
 | x :: xs, h => by
  by_cases e : x.1 = s
  ·rw [idxP, if_pos e] at h; cases h
  ·rw [idxP, if_neg e] at h
   obtain ⟨h1, h2⟩ := idxP_none (Option.map_eq_none_iff.1 h)
   exact ⟨by rw [atP, if_neg e]; exact h1, fun y hy => (List.mem_cons.1 hy).elim (fun q => by rw [q]; exact e) (h2 y)⟩
set_option maxRecDepth 100000 in
set_option maxHeartbeats 2000000 in
theorem rUsed_any (h : RDM w O rB a n k l cap off arm c) (ht : totP (l.map (·.1)) ≤ 67108864) : Calls Try.prog 36 #[.pointer (some ⟨rB, 0, none⟩)] w fun e w' => e = .returned (.int .i64 (totP (l.map (·.1)) : Int)) ∧ w' = w := by
 have hn := h.row.len
 have hcap := h.row.capn
 have c1 := h.box.cells.2.1
 have HH := Lib.hid h
 have HT := Lib.hid ht
 have HN := Lib.hid hn
 have hk : n ≤ 9223372036854775807 := by unfold maxLen at hcap; omega
 clear h ht hn hcap
 go_enter Try.func36, Try.ntmps36
 go_wp2
 go_loopw [3, 4] (fun s i wr => ∃ t : Nat, t ≤ n ∧ i = .int .i64 (t : Int) ∧ s = .int .i64 (totP ((l.map (·.1)).take t) : Int) ∧ wr = w) (fun _ i _ => n - (intOf i).toNat)
 case atStart => exact ⟨0, Nat.zero_le _, rfl, by simp [totP], rfl⟩
 case round =>
  obtain ⟨t, ht, rfl, rfl, rfl⟩ := hrel
  by_cases hlt : t < n
  ·have j1 : (t : Int) < (n : Int) := by omega
   have j2 : (0 : Int) ≤ (t : Int) := by omega
   have hx : ∃ x, l[t]? = some x := ⟨_, List.getElem?_eq_getElem (by rw [← HN.out]; exact hlt)⟩
   obtain ⟨x, hx⟩ := hx
   obtain ⟨g, hag, _, _, q1, _⟩ := HH.out.row.at_ hx
   subst hag
   obtain ⟨ax, cx, hv⟩ := (HH.out.dat x (List.mem_of_getElem? hx)).form
   rw [hv] at q1
   have hny : ∃ ny, ny = x.1.2.1.length := ⟨_, rfl⟩
   obtain ⟨ny, hny⟩ := hny
   rw [← hny] at q1
   have hstep : totP ((l.map (·.1)).take (t + 1)) = totP ((l.map (·.1)).take t) + ny := by
    have e : (l.map (·.1))[t]? = some x.1 := by rw [List.getElem?_map, hx]; rfl
    rw [List.take_add_one, e, totP_append, hny]
    simp [totP]
   have hbd : totP ((l.map (·.1)).take (t + 1)) ≤ 67108864 := by
    have : totP (l.map (·.1)) = totP ((l.map (·.1)).take (t + 1)) + totP ((l.map (·.1)).drop (t + 1)) := by
     rw [← totP_append, List.take_append_drop]
    have := HT.out
    omega
   obtain ⟨tu, htu⟩ : ∃ tu, tu = totP ((l.map (·.1)).take t) := ⟨_, rfl⟩
   rw [← htu] at hstep ⊢
   have hb1 : (tu : Int) + (ny : Int) ≤ 67108864 := by omega
   have HST := Lib.hid hstep
   clear hx hv hny hstep hbd htu
   go_wp2
   go_roundw
   case rel => exact ⟨t + 1, by omega, by go_num, by rw [HST.out]; go_num, trivial⟩
   case measure => simp [intOf]; omega
  ·have j1 : (n : Int) ≤ (t : Int) := by omega
   have e : (l.map (·.1)).take t = l.map (·.1) := List.take_of_length_le (by rw [List.length_map, ← HN.out]; omega)
   rw [e]
   clear e
   go_wp2
   go_ret
   exact ⟨rfl, rfl⟩
set_option maxRecDepth 100000 in
set_option maxHeartbeats 2000000 in
theorem rAt_any (h : RDM w O rB a n k l cap off arm c) (s : ByteArray) : Calls Try.prog 41 #[.pointer (some ⟨rB, 0, none⟩), .string s] w fun e w' => e = .returned (.int .i64 (idxI (l.map (·.1)) s)) ∧ w' = w := by
 obtain ⟨R, hR⟩ : ∃ R, R = idxI (l.map (·.1)) s := ⟨_, rfl⟩
 rw [← hR]
 have hn := h.row.len
 have hcap := h.row.capn
 have c1 := h.box.cells.2.1
 have HH := Lib.hid h
 have HN := Lib.hid hn
 have HR := Lib.hid hR
 have hk : n ≤ 9223372036854775807 := by unfold maxLen at hcap; omega
 clear h hn hcap hR
 go_enter Try.func41, Try.ntmps41
 go_wp2
 go_loopw [5] (fun i wr => ∃ t : Nat, t ≤ n ∧ i = .int .i64 (t : Int) ∧ wr = w ∧ ∀ j x, j < t → l[j]? = some x → x.1.1 ≠ s) (fun i _ => n - (intOf i).toNat)
 case atStart => exact ⟨0, Nat.zero_le _, rfl, rfl, fun j x hj => absurd hj (by omega)⟩
 case round =>
  obtain ⟨t, ht, rfl, rfl, hne⟩ := hrel
  have HNE := Lib.hid hne
  clear hne
  by_cases hlt : t < n
  ·have j1 : (t : Int) < (n : Int) := by omega
   have j2 : (0 : Int) ≤ (t : Int) := by omega
   have hx : ∃ x, l[t]? = some x := ⟨_, List.getElem?_eq_getElem (by rw [← HN.out]; exact hlt)⟩
   obtain ⟨x, hx⟩ := hx
   obtain ⟨g, hag, _, q0, _, _⟩ := HH.out.row.at_ hx
   subst hag
   have HX := Lib.hid hx
   have he := eq_str (a := x.1.1) (b := s)
   clear hx
   by_cases hs : x.1.1 = s
   ·rw [decide_eq_true hs] at he
    have hRR : R = (t : Int) := by
     rw [HR.out, idxI]
     cases hi : idxP (l.map (·.1)) s with
     | none =>
      exact absurd hs ((idxP_none hi).2 x.1 (List.mem_map.2 ⟨x, List.mem_of_getElem? HX.out, rfl⟩))
     | some i =>
      obtain ⟨v, h1, h2, h3⟩ := idxP_some hi
      have h4 : ¬ i < t := fun z => by
       rw [List.getElem?_map] at h1
       obtain ⟨y, hy, ey⟩ := Option.map_eq_some_iff.1 h1
       exact HNE.out i y z hy (by rw [ey])
      have h5 : ¬ t < i := fun z => h3 t x.1 z (by rw [List.getElem?_map, HX.out]; rfl) hs
      simp only
      omega
    subst hRR
    have HS := Lib.hid hs
    clear hs
    go_wp2
    go_ret
    exact ⟨rfl, rfl⟩
   ·rw [decide_eq_false hs] at he
    have HS := Lib.hid hs
    clear hs
    go_wp2
    go_roundw
    case rel => exact ⟨t + 1, by omega, by go_num, trivial, fun j y hj hy => by
     by_cases e : j = t
     ·subst e
      rw [HX.out] at hy
      cases hy
      exact HS.out
     ·exact HNE.out j y (by omega) hy⟩
    case measure => simp [intOf]; omega
  ·have j1 : (n : Int) ≤ (t : Int) := by omega
   have hRR : R = -1 := by
    rw [HR.out, idxI]
    cases hi : idxP (l.map (·.1)) s with
    | none => rfl
    | some i =>
     obtain ⟨v, h1, h2, h3⟩ := idxP_some hi
     rw [List.getElem?_map] at h1
     obtain ⟨y, hy, ey⟩ := Option.map_eq_some_iff.1 h1
     have := (List.getElem?_eq_some_iff.1 hy).1
     exact absurd (by rw [ey]) (HNE.out i y (by have := HN.out; omega) hy)
   subst hRR
   go_wp2
   go_ret
   exact ⟨rfl, rfl⟩
def lastP (off : Bool) (arm : Int) : Bool × Bool × Int := if arm = 0 then (false, off, 0) else if arm = 1 then (true, true, 0) else (off, off, arm - 1)
set_option maxRecDepth 100000 in
theorem rLast_any (h : RDM w O rB a n k l cap off arm c) (h0 : 0 ≤ arm) (h1 : arm ≤ 9223372036854775807) : Calls Try.prog 44 #[.pointer (some ⟨rB, 0, none⟩)] w fun e w' => e = .returned (.bool (lastP off arm).1) ∧ RDM w' O rB a n k l cap (lastP off arm).2.1 (lastP off arm).2.2 c ∧ Go4 w w' O O := by
 have HH := Lib.hid h
 have HA := Lib.hid (And.intro h0 h1)
 have c3 := h.box.cells.2.2.2.1
 have c2 := h.box.cells.2.2.1
 have z2 := h.box.fz 2
 have z3 := h.box.fz 3
 have OB := Lib.hid h.orb
 clear h
 by_cases a0 : arm = 0
 ·subst a0
  clear h0 h1
  go_enter Try.func44, Try.ntmps44
  go_wp2
  go_ret
  exact ⟨rfl, HH.out, Go4.refl _ _⟩
 by_cases a1 : arm = 1
 ·subst a1
  clear h0 h1 a0
  go_enter Try.func44, Try.ntmps44
  go_wp2
  go_ret
  exact ⟨rfl, (HH.out.setArm 0).setOff true, (Go4.of_set (a := ⟨rB, 3, none⟩) OB.out _).trans (Go4.of_set (a := ⟨rB, 2, none⟩) OB.out _)⟩
 ·have e : lastP off arm = (off, off, arm - 1) := by unfold lastP; rw [if_neg a0, if_neg a1]
  rw [e]
  have a2 : ¬ arm - 1 = 0 := by omega
  have a3 : -9223372036854775808 ≤ arm - 1 := by omega
  clear e
  go_enter Try.func44, Try.ntmps44
  go_wp2
  go_ret
  exact ⟨rfl, HH.out.setArm (arm - 1), Go4.of_set (a := ⟨rB, 3, none⟩) OB.out _⟩
set_option maxRecDepth 100000 in
theorem rAsked_any (h : RDM w O rB a n k l cap off arm c) (s : ByteArray) : Calls Try.prog 43 #[.pointer (some ⟨rB, 0, none⟩), .string s] w fun e w' => e = .returned (.int .i64 (rdyN off [s])) ∧ w' = w := by
 have c2 := h.box.cells.2.2.1
 have HC := Lib.hid (refName_any s w)
 clear h
 cases off with
 | true =>
  go_enter Try.func43, Try.ntmps43
  go_wp2
  go_ret
  exact ⟨rfl, rfl⟩
 | false =>
  by_cases hs : DkName s
  ·rw [decide_eq_true hs] at HC
   have e : rdyN false [s] = 0 := by
    unfold rdyN chkN
    rw [if_neg (by decide), if_pos (fun t ht => by simp at ht; subst ht; exact hs)]
   rw [e]
   clear e hs
   go_enter Try.func43, Try.ntmps43
   go_wp2_with fail
   refine HC.out.mono ?_
   rintro e w2 ⟨rfl, rfl⟩
   go_wp2
   go_ret
   exact ⟨rfl, rfl⟩
  ·rw [decide_eq_false hs] at HC
   have e : rdyN false [s] = 40 := rdy_bad hs rfl
   rw [e]
   clear e hs
   go_enter Try.func43, Try.ntmps43
   go_wp2_with fail
   refine HC.out.mono ?_
   rintro e w2 ⟨rfl, rfl⟩
   go_wp2
   go_ret
   exact ⟨rfl, rfl⟩
def reaR (off : Bool) (fs : List PF) (s : ByteArray) : Int := if rdyN off [s] = 0 then (if (atP fs s).isSome then 0 else 42) else rdyN off [s]
set_option maxRecDepth 100000 in
theorem rThere_any (h : RDM w O rB a n k l cap off arm c) (s : ByteArray) : Calls Try.prog 51 #[.pointer (some ⟨rB, 0, none⟩), .string s] w fun e w' => e = .returned (.int .i64 (reaR off (l.map (·.1)) s)) ∧ w' = w := by
 have HC := Lib.hid (rAsked_any h s)
 have HT := Lib.hid (rAt_any h s)
 obtain ⟨q, hq⟩ : ∃ q, q = rdyN off [s] := ⟨_, rfl⟩
 rw [← hq] at HC
 clear h
 by_cases h0 : q = 0
 ·subst h0
  cases hi : idxP (l.map (·.1)) s with
  | none =>
   have e : reaR off (l.map (·.1)) s = 42 := by unfold reaR; rw [if_pos hq.symm, (idxP_none hi).1]; rfl
   have e2 : idxI (l.map (·.1)) s = -1 := by unfold idxI; rw [hi]
   rw [e2] at HT
   rw [e]
   clear e e2 hi hq
   go_enter Try.func51, Try.ntmps51
   go_wp2_with fail
   refine HC.out.mono ?_
   rintro e w2 ⟨rfl, rfl⟩
   go_wp2_with fail
   refine HT.out.mono ?_
   rintro e w2 ⟨rfl, rfl⟩
   go_wp2
   go_ret
   exact ⟨rfl, rfl⟩
  | some i =>
   obtain ⟨v, h1, h2, h3⟩ := idxP_some hi
   have e : reaR off (l.map (·.1)) s = 0 := by unfold reaR; rw [if_pos hq.symm, h2]; rfl
   have e2 : idxI (l.map (·.1)) s = (i : Int) := by unfold idxI; rw [hi]
   rw [e2] at HT
   rw [e]
   have i0 : ¬ (i : Int) < 0 := by omega
   clear e e2 hi hq h1 h2 h3
   go_enter Try.func51, Try.ntmps51
   go_wp2_with fail
   refine HC.out.mono ?_
   rintro e w2 ⟨rfl, rfl⟩
   go_wp2_with fail
   refine HT.out.mono ?_
   rintro e w2 ⟨rfl, rfl⟩
   go_wp2
   go_ret
   exact ⟨rfl, rfl⟩
 ·have e : reaR off (l.map (·.1)) s = q := by unfold reaR; rw [if_neg (by rw [← hq]; exact h0), hq]
  rw [e]
  clear e hq
  have b0 : (q == 0) = false := by simpa using h0
  go_enter Try.func51, Try.ntmps51
  go_wp2_with fail
  refine HC.out.mono ?_
  rintro e w2 ⟨rfl, rfl⟩
  go_wp2
  go_ret
  exact ⟨rfl, rfl⟩
end Go.Proofs.Ytlkhphhmhffdjaa
