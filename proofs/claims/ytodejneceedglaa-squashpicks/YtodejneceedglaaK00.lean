import Derived.Test.YtodejneceedglaaProg
import Derived.WalkKit
import Derived.WalkSpells
import Derived.WalkLawsBesides
import Derived.Laws.BytesArg
import Derived.Laws.MakeOwn
import Derived.Lib.Hide
import Derived.Maps.OwnSet
import Derived.Maps.AppendAt
import Derived.Deep.RegionHeld3
import Derived.Deep.DeepCutAuto
import Derived.Laws.AppendOwnNone
namespace Go.Proofs.Ytodejneceedglaa
open Go.RowKit Go.Maps
set_option linter.unusedVariables false

structure MtD where
  num : Int
  cnt : Int
  idx : Int
  low : Int
  clk : Int
  byt : Int
  fa : Option Addr
  fm : Nat
  fc : Nat
  la : Option Addr
  lm : Nat
  lc : Nat
def MtD.cells (x : MtD) : Array Value := #[.int .i64 x.num, .int .i64 x.cnt, .int .i64 x.idx, .int .i64 x.low, .int .i64 x.clk, .int .i64 x.byt, .slice x.fa x.fm x.fc, .slice x.la x.lm x.lc]
theorem MtD.cells_len (x : MtD) : x.cells.toList.length = 8 := rfl
theorem MtD.one (x : MtD) : ∀ u ∈ x.cells.toList, u.oneCell' = true := by
  intro v hv
  simp only [MtD.cells, List.mem_cons, List.not_mem_nil, or_false] at hv
  rcases hv with rfl | rfl | rfl | rfl | rfl | rfl | rfl | rfl <;> rfl
theorem und_runs : Try.prog.underlying 24 = some (.slice 31) := by kernel_rfl
theorem info_run : (Try.prog.info? 31).map (fun i => (i.zero, i.size, i.bytes)) = some (some (.agg #[.int .i64 0, .int .i64 0, .int .i64 0, .int .i64 0, .int .i64 0, .int .i64 0, .slice none 0 0, .slice none 0 0]), 8, 96) := by kernel_rfl
theorem und_ints : Try.prog.underlying 25 = some (.slice 3) := by kernel_rfl
theorem info_int : (Try.prog.info? 3).map (fun i => (i.zero, i.size, i.bytes)) = some (some (.int .i64 0), 1, 8) := by kernel_rfl
theorem und_int : Try.prog.underlying 3 = some (.int .i64) := by kernel_rfl
theorem und_mii : Try.prog.underlying 42 = some (.map 3 3) := by kernel_rfl
theorem keyed3 : Keyed Try.prog 3 := int_keyed und_int
def In64 (n : Int) : Prop := -9223372036854775808 ≤ n ∧ n ≤ 9223372036854775807
theorem wf64 {n : Int} (h : In64 n) : (Lit.int .i64 n).wf = true := by
  have e1 : IntKind.i64.min = -9223372036854775808 := by decide
  have e2 : IntKind.i64.max = 9223372036854775807 := by decide
  simp only [Lit.wf, e1, e2, Bool.and_eq_true, decide_eq_true_eq]
  exact h
theorem key64 {n : Int} (h : In64 n) : keyOf Try.prog 3 (.int .i64 n) = some (.int .i64 n) := keyOf_int_mk und_int (wf64 h)
theorem mkmap3 (w : World) (n : Int) : (Instr.makeMap 42 (some (.int .i64 n))).run Try.prog w = .ok (.map (some w.heap.size)) (w.alloc (.map #[] 0)) := by
  simp [Instr.makeMap, run_underlying und_mii, asInt, asIntOf, Result.andThen]
theorem zero3 (w : World) : (zeroValue 3).run Try.prog w = .ok (.int .i64 0) w := by kernel_rfl
def mvals (xs : List MtD) : List Value := (xs.map fun e => e.cells.toList).flatten
theorem mvals_snoc (xs : List MtD) (x : MtD) : mvals (xs ++ [x]) = mvals xs ++ x.cells.toList := by simp [mvals]
theorem mvals_append (xs ys : List MtD) : mvals (xs ++ ys) = mvals xs ++ mvals ys := by simp [mvals]
theorem mvals_cons (y : MtD) (ys : List MtD) : mvals (y :: ys) = y.cells.toList ++ mvals ys := by simp [mvals]
theorem mvals_len (xs : List MtD) : (mvals xs).length = xs.length * 8 := by
  induction xs with
  | nil => rfl
  | cons y ys ih => rw [mvals_cons, List.length_append, ih, MtD.cells_len, List.length_cons]; omega
theorem mvals_at {xs : List MtD} {i : Nat} {x : MtD} (h : xs[i]? = some x) {j : Nat} {u : Value} (hj : x.cells.toList[j]? = some u) : (mvals xs)[i * 8 + j]? = some u := by
  have j8 : j < 8 := by have := (List.getElem?_eq_some_iff.1 hj).1; rwa [MtD.cells_len] at this
  induction xs generalizing i with
  | nil => simp at h
  | cons y ys ih =>
    rw [mvals_cons]
    cases i with
    | zero =>
      simp only [List.getElem?_cons_zero, Option.some.injEq] at h
      subst h
      rw [List.getElem?_append_left (by rw [MtD.cells_len]; omega), Nat.zero_mul, Nat.zero_add]
      exact hj
    | succ i =>
      rw [List.getElem?_append_right (by rw [MtD.cells_len]; omega), MtD.cells_len]
      have : (i + 1) * 8 + j - 8 = i * 8 + j := by omega
      rw [this]
      exact ih (by simpa using h)
theorem mvals_inv {xs : List MtD} {k : Nat} {u : Value} (h : (mvals xs)[k]? = some u) : ∃ x, xs[k / 8]? = some x ∧ x.cells.toList[k % 8]? = some u := by
  have hk := (List.getElem?_eq_some_iff.1 h).1
  rw [mvals_len] at hk
  have h1 : k / 8 < xs.length := by omega
  have h2 : k % 8 < (xs[k / 8]).cells.toList.length := by rw [MtD.cells_len]; omega
  refine ⟨xs[k / 8], List.getElem?_eq_getElem h1, ?_⟩
  have := mvals_at (List.getElem?_eq_getElem h1) (List.getElem?_eq_getElem h2)
  rw [show k / 8 * 8 + k % 8 = k by omega, h] at this
  rw [List.getElem?_eq_getElem h2]
  exact this.symm
theorem mvals_one (xs : List MtD) : ∀ u ∈ mvals xs, u.oneCell' = true := by
  intro u hu
  obtain ⟨k, hk⟩ := List.getElem?_of_mem hu
  obtain ⟨x, _, hx⟩ := mvals_inv hk
  exact x.one u (List.mem_of_getElem? hx)
theorem add_at (b off j : Nat) : (⟨b, off, none⟩ : Addr).add j = ⟨b, off + j, none⟩ := by unfold Addr.add; split <;> simp_all
structure RdM (w : World) (a : Option Addr) (kp : Nat) (xs : List MtD) : Prop where
  cap : xs.length ≤ kp ∧ kp ≤ maxLen
  at_ : xs = [] ∨ ∃ b off, a = some ⟨b, off, none⟩ ∧ ∀ (i : Nat) x, xs[i]? = some x → ∀ (j : Nat) u, x.cells.toList[j]? = some u → w.cell? ⟨b, off + i * 8 + j, none⟩ = some u
  num : ∀ x ∈ xs, In64 x.num ∧ In64 x.byt
  nn : a = none → kp = 0
theorem RdM.later {w w' : World} {a : Option Addr} {cap : Nat} {xs : List MtD} (h : RdM w a cap xs) (hb : Below w.heap.size w w') : RdM w' a cap xs := by
  refine ⟨h.cap, ?_, h.num, h.nn⟩
  rcases h.at_ with h1 | ⟨b, off, rfl, hc⟩
  · exact .inl h1
  · exact .inr ⟨b, off, rfl, fun i x hi j u hj => by rw [hb.cell (p := ⟨b, off + i * 8 + j, none⟩) (World.block_lt_of_cell? w _ (hc i x hi j u hj))]; exact hc i x hi j u hj⟩
def MBox (w : World) (q : Nat) (e : MtD) : Prop := w.heap[q]? = some (.cells e.cells 31 (0, 0))
theorem MBox.new (w : World) (e : MtD) : MBox (w.alloc (.cells e.cells 31)) w.heap.size e := heap_alloc_new w _
theorem MBox.later {w w' : World} {q : Nat} {e : MtD} (h : MBox w q e) (hb : Below w.heap.size w w') : MBox w' q e := by
  unfold MBox at *
  rw [hb.block q (Array.getElem?_eq_some_iff.1 h).1]
  exact h
theorem MBox.num {w : World} {q : Nat} {e : MtD} (h : MBox w q e) : w.cell? ⟨q, 0, none⟩ = some (.int .i64 e.num) := by
  unfold MBox at h; simp [World.cell?, h, MtD.cells]
theorem MBox.byt {w : World} {q : Nat} {e : MtD} (h : MBox w q e) : w.cell? ⟨q, 5, none⟩ = some (.int .i64 e.byt) := by
  unfold MBox at h; simp [World.cell?, h, MtD.cells]
structure Cel (w : World) (b o : Nat) (x : MtD) : Prop where
  c0 : w.cell? ⟨b, o, none⟩ = some (.int .i64 x.num)
  c1 : w.cell? ⟨b, o + 1, none⟩ = some (.int .i64 x.cnt)
  c2 : w.cell? ⟨b, o + 2, none⟩ = some (.int .i64 x.idx)
  c3 : w.cell? ⟨b, o + 3, none⟩ = some (.int .i64 x.low)
  c4 : w.cell? ⟨b, o + 4, none⟩ = some (.int .i64 x.clk)
  c5 : w.cell? ⟨b, o + 5, none⟩ = some (.int .i64 x.byt)
  c6 : w.cell? ⟨b, o + 6, none⟩ = some (.slice x.fa x.fm x.fc)
  c7 : w.cell? ⟨b, o + 7, none⟩ = some (.slice x.la x.lm x.lc)
theorem RdM.cel {w : World} {a : Option Addr} {cap : Nat} {xs : List MtD} (h : RdM w a cap xs) {i : Nat} {x : MtD} (hi : xs[i]? = some x) : ∃ b off, a = some ⟨b, off, none⟩ ∧ Cel w b (off + i * 8) x := by
  rcases h.at_ with h1 | ⟨b, off, rfl, hc⟩
  · rw [h1] at hi; simp at hi
  · refine ⟨b, off, rfl, ⟨?_, ?_, ?_, ?_, ?_, ?_, ?_, ?_⟩⟩
    · exact hc i x hi 0 _ rfl
    · exact hc i x hi 1 _ rfl
    · exact hc i x hi 2 _ rfl
    · exact hc i x hi 3 _ rfl
    · exact hc i x hi 4 _ rfl
    · exact hc i x hi 5 _ rfl
    · exact hc i x hi 6 _ rfl
    · exact hc i x hi 7 _ rfl
theorem row_form {w : World} {B n s : Nat} {e : TypeId} {v : Value} {xs : List Value} (h : w.ownsRow B e s v n xs) : ∃ a c, v = .slice a n c := by
  rcases h.2 with ⟨rfl, rfl⟩ | ⟨g, cap, cur, rfl, _⟩
  · exact ⟨_, _, rfl⟩
  · exact ⟨_, _, rfl⟩
theorem row_same {w w' : World} {B n s : Nat} {e : TypeId} {u : Value} {vs : List Value} (h : w.ownsRow B e s u n vs) (k : ∀ g, u.ownBlock = some g → w'.heap[g]? = w.heap[g]?) : w'.ownsRow B e s u n vs := by
  refine ⟨h.1, ?_⟩
  rcases h.2 with h2 | ⟨g, cap, cur, h3, h4, h5, h6⟩
  · exact .inl h2
  · exact .inr ⟨g, cap, cur, h3, h4, by rw [k g (by rw [h3]; rfl)]; exact h5, h6⟩
theorem row_later {w w' : World} {B n s : Nat} {e : TypeId} {u : Value} {vs : List Value} (h : w.ownsRow B e s u n vs) (b : Below w.heap.size w w') : w'.ownsRow B e s u n vs := row_same h fun g hg => b.block g (h.lt g hg).2
theorem row_low {w : World} {B B' n s : Nat} {e : TypeId} {u : Value} {vs : List Value} (h : w.ownsRow B e s u n vs) (k : B' ≤ B) : w.ownsRow B' e s u n vs := by
  refine ⟨h.1, ?_⟩
  rcases h.2 with h2 | ⟨g, cap, cur, h3, h4, h5⟩
  · exact .inl h2
  · exact .inr ⟨g, cap, cur, h3, Nat.le_trans k h4, h5⟩
theorem row_rdm {w : World} {B c : Nat} {a : Option Addr} {xs : List MtD} (h : w.ownsRow B 31 8 (.slice a xs.length c) xs.length (mvals xs)) (hn : ∀ x ∈ xs, In64 x.num ∧ In64 x.byt) : RdM w a c xs := by
  rcases h.2 with ⟨h1, h2⟩ | ⟨g, cap, cur, h1, h2, h3, h4, h5, h6, h7⟩
  · simp only [Value.slice.injEq] at h1
    obtain ⟨rfl, -, rfl⟩ := h1
    exact ⟨⟨by omega, Nat.zero_le _⟩, .inl (List.eq_nil_of_length_eq_zero h2), hn, fun _ => rfl⟩
  · simp only [Value.slice.injEq] at h1
    obtain ⟨rfl, -, rfl⟩ := h1
    refine ⟨⟨h4, h5⟩, .inr ⟨g, 0, rfl, fun i x hi j u hj => ?_⟩, hn, fun z => by cases z⟩
    have hv := mvals_at hi hj
    have hlt : i * 8 + j < xs.length * 8 := by
      have := (List.getElem?_eq_some_iff.1 hv).1
      rwa [mvals_len] at this
    rw [← h7, List.getElem?_take_of_lt hlt] at hv
    have e : cur[i * 8 + j]? = some u := by simpa using hv
    rw [Nat.zero_add]
    simp [World.cell?, h3, e]
def iv (xs : List Int) : List Value := xs.map fun n => Value.int .i64 n
theorem iv_snoc (xs : List Int) (x : Int) : iv (xs ++ [x]) = iv xs ++ [.int .i64 x] := by simp [iv]
theorem iv_len (xs : List Int) : (iv xs).length = xs.length := by simp [iv]
def OwnI (w : World) (B : Nat) (v : Value) (xs : List Int) : Prop := w.ownsRow B 3 1 v xs.length (iv xs)
theorem OwnI.form {w : World} {B : Nat} {v : Value} {xs : List Int} (h : OwnI w B v xs) : ∃ a c, v = .slice a xs.length c := row_form h
theorem OwnI.later {w w' : World} {B : Nat} {v : Value} {xs : List Int} (h : OwnI w B v xs) (b : Below w.heap.size w w') : OwnI w' B v xs := row_later h b
theorem OwnI.low {w : World} {B B' : Nat} {v : Value} {xs : List Int} (h : OwnI w B v xs) (k : B' ≤ B) : OwnI w B' v xs := row_low h k
theorem OwnI.nil (w : World) (B : Nat) : OwnI w B (.slice none 0 0) [] := World.ownsRow_nil w B 3 1
theorem wpl_append_num {w : World} {ops : Array Oper} {rest : List Oper} {o : Oper} {a : Act} {Q : Exit → Act → World → Prop}
    (hgd : o.guard = none) (s x : Operand) (ho : o.op = .call { callee := .builtin .append, args := #[s, x], argTypes := #[25, 25] })
    (B : Nat) (a0 : Option Addr) (c0 : Nat) (xs : List Int) (m0 : Nat) (hm0 : m0 = xs.length) (hs : a.eval s = .slice a0 m0 c0) (hown : OwnI w B (.slice a0 m0 c0) xs)
    (n : Int) (hx : a.eval x = .slice (some ⟨w.heap.size, 0, none⟩) 1 1) (hm : xs.length ≤ 1099511627776) (hB : B ≤ w.heap.size)
    (h : ∀ a' c' w', OwnI w' B (.slice a' (m0 + 1) c') (xs ++ [n]) → w.grownBy w' (Value.slice a0 m0 c0).ownBlock → Below B w w' → wpList Try.prog ops Q rest (a.put o.dst (.slice a' (m0 + 1) c')) w') : wpList Try.prog ops Q (o :: rest) a (w.alloc (.cells #[.int .i64 n] 3)) := by
  subst hm0
  obtain ⟨i0, hi, hz0, hz1, hz2⟩ := info_parts info_int
  have hnew : ∀ j v, ([.int .i64 n] : List Value)[j]? = some v → (w.alloc (.cells #[.int .i64 n] 3)).cell? ((⟨w.heap.size, 0, none⟩ : Addr).add j) = some v := by
    intro j v hj
    rw [add_at, Nat.zero_add]
    unfold World.cell?
    rw [heap_alloc_new]
    simpa using hj
  refine wpList_append_own _ hgd s x 25 ho B 3 i0 _ 1 8 und_ints hi hz0 hz1 hz2 rfl (by decide) _ xs.length (iv xs) hs (World.ownsRow.alloc hown _) ⟨w.heap.size, 0, none⟩ 1 1 [.int .i64 n] hx rfl hnew (fun v hv => by simp at hv; subst hv; rfl) (by unfold maxLen; omega) (by omega) (by simp; omega) ?_
  intro v' w' h1 h2 _
  obtain ⟨a', c', rfl⟩ := row_form h1
  refine h a' c' w' (by unfold OwnI; rw [iv_snoc, List.length_append]; exact h1) ?_ (((Below.refl B w).alloc hB _).grown h2 (by simp; omega) (fun k hk => (hown.lt k hk).1))
  exact (World.grownBy_alloc w _ _).trans h2
end Go.Proofs.Ytodejneceedglaa

namespace Go.Proofs.Ytodejneceedglaa
set_option linter.unusedVariables false

theorem snocRec {α : Type} {P : List α → Prop} (nil : P []) (snoc : ∀ l x, P l → P (l ++ [x])) (l : List α) : P l := by
  have h : ∀ n (l : List α), l.length = n → P l := by
    intro n
    induction n with
    | zero => intro l hl; rw [List.eq_nil_of_length_eq_zero hl]; exact nil
    | succ n ih =>
      intro l hl
      have hne : l ≠ [] := by intro e; rw [e] at hl; cases hl
      rw [← List.dropLast_concat_getLast hne]
      exact snoc _ _ (ih _ (by simp [hl]))
  exact h _ l rfl
def sumB : List MtD → Int
  | [] => 0
  | r :: t => r.byt + sumB t
def fitS : Int → List MtD → Bool
  | _, [] => true
  | room, r :: t => if room < r.byt then false else fitS (room - r.byt) t
theorem sumB_append (a b : List MtD) : sumB (a ++ b) = sumB a + sumB b := by
  induction a with
  | nil => simp [sumB]
  | cons x a ih => simp only [List.cons_append, sumB, ih]; omega
theorem sumB_nonneg {l : List MtD} (h : ∀ r ∈ l, 0 ≤ r.byt) : 0 ≤ sumB l := by
  induction l with
  | nil => simp [sumB]
  | cons x l ih =>
    have h1 := h x List.mem_cons_self
    have h2 := ih fun r hr => h r (List.mem_cons_of_mem _ hr)
    simp only [sumB]; omega
theorem fitS_iff {l : List MtD} (h : ∀ r ∈ l, 0 ≤ r.byt) : ∀ room : Int, 0 ≤ room → fitS room l = decide (sumB l ≤ room) := by
  induction l with
  | nil => intro room hr; simp [fitS, sumB, hr]
  | cons x l ih =>
    intro room hr
    have h1 := h x List.mem_cons_self
    have h2 := sumB_nonneg fun r hr => h r (List.mem_cons_of_mem x hr)
    simp only [fitS, sumB]
    split
    · rename_i hx
      exact (decide_eq_false (by omega)).symm
    · rename_i hx
      rw [ih (fun r hr => h r (List.mem_cons_of_mem _ hr)) _ (by omega)]
      apply decide_eq_decide.2
      omega
structure OkR (l : List MtD) : Prop where
  num : ∀ r ∈ l, 1 ≤ r.num
  byt : ∀ r ∈ l, 0 ≤ r.byt
  two : l.Pairwise fun x y => x.num ≠ y.num
def ltM (a b : MtD) : Prop := a.byt < b.byt ∨ a.byt = b.byt ∧ a.num < b.num
instance (a b : MtD) : Decidable (ltM a b) := by unfold ltM; infer_instance
theorem ltM_trans {a b c : MtD} (h : ltM a b) (k : ltM b c) : ltM a c := by unfold ltM at *; omega
theorem ltM_irr {a : MtD} : ¬ ltM a a := by unfold ltM; omega
theorem ltM_asymm {a b : MtD} (h : ltM a b) : ¬ ltM b a := by unfold ltM at *; omega
theorem ltM_total {a b : MtD} (h : a.num ≠ b.num) : ltM a b ∨ ltM b a := by unfold ltM; omega
def Srt (l : List MtD) : Prop := l.Pairwise ltM
theorem srt_unique {a : List MtD} : ∀ {b : List MtD}, Srt a → Srt b → a.Perm b → a = b := by
  induction a with
  | nil => intro b _ _ h; exact (List.nil_perm.1 h).symm
  | cons x a ih =>
    intro b ha hb h
    cases b with
    | nil => exact absurd h.symm (by simp)
    | cons y b =>
      obtain ⟨ha1, ha2⟩ := List.pairwise_cons.1 ha
      obtain ⟨hb1, hb2⟩ := List.pairwise_cons.1 hb
      have hxy : x = y := by
        have h1 : x ∈ y :: b := h.subset List.mem_cons_self
        have h2 : y ∈ x :: a := h.symm.subset List.mem_cons_self
        rcases List.mem_cons.1 h1 with e | e
        · exact e
        · rcases List.mem_cons.1 h2 with e2 | e2
          · exact e2.symm
          · exact absurd (ltM_trans (hb1 x e) (ha1 y e2)) ltM_irr
      subst hxy
      rw [ih ha2 hb2 h.cons_inv]
def insS (x : MtD) : List MtD → List MtD
  | [] => [x]
  | y :: t => if ltM y x then y :: insS x t else x :: y :: t
def sortS (l : List MtD) : List MtD := l.foldl (fun m x => insS x m) []
theorem insS_perm (x : MtD) (l : List MtD) : (insS x l).Perm (x :: l) := by
  induction l with
  | nil => exact List.Perm.refl _
  | cons y t ih =>
    simp only [insS]
    split
    · exact (ih.cons y).trans (List.Perm.swap x y t)
    · exact List.Perm.refl _
theorem insS_srt {x : MtD} {l : List MtD} (h : Srt l) (hn : ∀ y ∈ l, y.num ≠ x.num) : Srt (insS x l) := by
  induction l with
  | nil => simp [insS, Srt]
  | cons y t ih =>
    obtain ⟨h1, h2⟩ := List.pairwise_cons.1 h
    simp only [insS]
    split
    · rename_i hyx
      refine List.pairwise_cons.2 ⟨fun z hz => ?_, ih h2 fun z hz => hn z (List.mem_cons_of_mem _ hz)⟩
      rcases List.mem_cons.1 ((insS_perm x t).subset hz) with e | e
      · rw [e]; exact hyx
      · exact h1 z e
    · rename_i hyx
      have hxy : ltM x y := (ltM_total (hn y List.mem_cons_self)).resolve_left hyx
      refine List.pairwise_cons.2 ⟨fun z hz => ?_, h⟩
      rcases List.mem_cons.1 hz with e | e
      · rw [e]; exact hxy
      · exact ltM_trans hxy (h1 z e)
theorem sortS_snoc (l : List MtD) (x : MtD) : sortS (l ++ [x]) = insS x (sortS l) := by
  unfold sortS; rw [List.foldl_append]; rfl
theorem sortS_perm (l : List MtD) : (sortS l).Perm l := by
  induction l using snocRec with
  | nil => exact List.Perm.refl _
  | snoc l x ih =>
    rw [sortS_snoc]
    exact (insS_perm x _).trans ((ih.cons x).trans (List.perm_append_singleton x l).symm)
theorem sortS_srt {l : List MtD} (h : l.Pairwise fun x y => x.num ≠ y.num) : Srt (sortS l) := by
  induction l using snocRec with
  | nil => exact List.Pairwise.nil
  | snoc l x ih =>
    rw [sortS_snoc]
    obtain ⟨h1, h2, h3⟩ := List.pairwise_append.1 h
    exact insS_srt (ih h1) fun y hy => h3 y ((sortS_perm l).subset hy) x (by simp)
def maxB : Int := 16777216
def tierS (w : Nat) (q : Int) : List MtD → List MtD
  | [] => []
  | r :: t => if w ≤ (r :: t).length then (if fitS maxB ((r :: t).take w) = true ∧ (((r :: t)[w - 1]?.map MtD.byt).getD 0) ≤ q * r.byt then (r :: t).take w else tierS w q t) else []
def inT (w : Nat) (c : Int) (l : List MtD) : List MtD := (l.take w).takeWhile fun x => decide (x.byt ≤ c)
def tierR (w : Nat) (q : Int) : List MtD → Option (List MtD)
  | [] => none
  | r :: t => if (inT w (q * r.byt) (r :: t)).length = w ∧ sumB ((r :: t).take w) ≤ maxB then some ((r :: t).take w) else tierR w q t
theorem srt_le {l : List MtD} (h : Srt l) {i j : Nat} {a b : MtD} (hi : l[i]? = some a) (hj : l[j]? = some b) (hij : i ≤ j) : a.byt ≤ b.byt := by
  obtain ⟨hil, rfl⟩ := List.getElem?_eq_some_iff.1 hi
  obtain ⟨hjl, rfl⟩ := List.getElem?_eq_some_iff.1 hj
  rcases Nat.lt_or_eq_of_le hij with k | k
  · have := List.pairwise_iff_getElem.1 h i j hil hjl k
    unfold ltM at this; omega
  · subst k; omega
theorem takeWhile_len {α : Type} (p : α → Bool) (l : List α) : (l.takeWhile p).length = l.length ↔ ∀ x ∈ l, p x = true := by
  induction l with
  | nil => simp
  | cons x l ih =>
    simp only [List.takeWhile]
    cases hx : p x with
    | true => simp [ih, hx]
    | false => simp [hx]
theorem takeWhile_le {α : Type} (p : α → Bool) (l : List α) : (l.takeWhile p).length ≤ l.length := by
  induction l with
  | nil => simp
  | cons x l ih =>
    simp only [List.takeWhile]
    cases hx : p x with
    | true => simp; omega
    | false => simp
theorem tier_is {w : Nat} {q : Int} (hw : 2 ≤ w) : ∀ {l : List MtD}, Srt l → (∀ r ∈ l, 0 ≤ r.byt) → tierS w q l = (tierR w q l).getD [] := by
  intro l
  induction l with
  | nil => intro _ _; rfl
  | cons r t ih =>
    intro hs hb
    have hs2 : Srt t := (List.pairwise_cons.1 hs).2
    have hb2 : ∀ r ∈ t, 0 ≤ r.byt := fun x hx => hb x (List.mem_cons_of_mem _ hx)
    have ih2 := ih hs2 hb2
    have hfit : fitS maxB ((r :: t).take w) = decide (sumB ((r :: t).take w) ≤ maxB) := fitS_iff (fun x hx => hb x (List.mem_of_mem_take hx)) _ (by decide)
    simp only [tierS, tierR]
    by_cases hl : w ≤ (r :: t).length
    · rw [if_pos hl]
      have htl : ((r :: t).take w).length = w := by rw [List.length_take]; omega
      have hlast : ∃ z, (r :: t)[w - 1]? = some z := ⟨(r :: t)[w - 1]'(by omega), List.getElem?_eq_getElem _⟩
      obtain ⟨z, hz⟩ := hlast
      have heq : (inT w (q * r.byt) (r :: t)).length = w ↔ z.byt ≤ q * r.byt := by
        have h1 := takeWhile_len (fun x => decide (x.byt ≤ q * r.byt)) ((r :: t).take w)
        rw [htl] at h1
        unfold inT
        rw [h1]
        constructor
        · intro h
          have hm : z ∈ (r :: t).take w := by
            apply List.mem_of_getElem? (i := w - 1)
            rw [List.getElem?_take_of_lt (by omega)]
            exact hz
          exact of_decide_eq_true (h z hm)
        · intro h x hx
          obtain ⟨i, hi⟩ := List.getElem?_of_mem hx
          have hil : i < w := by
            have := (List.getElem?_eq_some_iff.1 hi).1
            omega
          rw [List.getElem?_take_of_lt hil] at hi
          have := srt_le hs hi hz (by omega)
          exact decide_eq_true (by omega)
      rw [hz, hfit]
      simp only [Option.map_some, Option.getD_some, decide_eq_true_eq]
      by_cases hc : sumB ((r :: t).take w) ≤ maxB ∧ z.byt ≤ q * r.byt
      · rw [if_pos hc, if_pos ⟨heq.2 hc.2, hc.1⟩]; rfl
      · rw [if_neg hc, if_neg (fun k => hc ⟨k.2, heq.1 k.1⟩)]
        exact ih2
    · rw [if_neg hl]
      have hnone : ∀ l : List MtD, ¬ w ≤ l.length → tierR w q l = none := by
        intro l
        induction l with
        | nil => intro _; rfl
        | cons x l ihl =>
          intro h
          have hlt : (inT w (q * x.byt) (x :: l)).length < w := by
            unfold inT
            have := takeWhile_le (fun y => decide (y.byt ≤ q * x.byt)) ((x :: l).take w)
            rw [List.length_take] at this
            omega
          simp only [tierR]
          rw [if_neg (fun k => by omega)]
          exact ihl (by simp only [List.length_cons] at h; omega)
      have h2 := hnone (r :: t) hl
      simp only [tierR] at h2
      rw [h2]
      rfl
def pickL (l t : List MtD) : List Int := (l.filter fun r => t.any fun x => x.num == r.num).map MtD.num
def pickR (l t : List MtD) : List Int := l.flatMap fun r => (t.filter fun x => x.num == r.num).map fun _ => r.num
theorem filter_one {t : List MtD} (h : t.Pairwise fun x y => x.num ≠ y.num) (n : Int) : (t.filter fun x => x.num == n).length = if (t.any fun x => x.num == n) = true then 1 else 0 := by
  induction t with
  | nil => rfl
  | cons x t ih =>
    obtain ⟨h1, h2⟩ := List.pairwise_cons.1 h
    by_cases hx : x.num = n
    · have hno : t.filter (fun y => y.num == n) = [] := by
        rw [List.filter_eq_nil_iff]
        intro y hy
        simpa using fun e => h1 y hy (hx.trans e.symm)
      simp [List.filter, hx, hno]
    · have : (x.num == n) = false := by simpa using hx
      simp only [List.filter, this, List.any_cons, Bool.false_or]
      exact ih h2
theorem pick_is {l t : List MtD} (h : t.Pairwise fun x y => x.num ≠ y.num) : pickR l t = pickL l t := by
  induction l with
  | nil => rfl
  | cons r l ih =>
    have e1 : pickR (r :: l) t = ((t.filter fun x => x.num == r.num).map fun _ => r.num) ++ pickR l t := rfl
    have h1 := filter_one h r.num
    have e2 : pickL (r :: l) t = (if (t.any fun x => x.num == r.num) = true then [r.num] else []) ++ pickL l t := by
      unfold pickL
      rw [List.filter_cons]
      split <;> simp
    rw [e1, e2, ih]
    congr 1
    cases hc : t.any fun x => x.num == r.num with
    | true =>
      rw [hc] at h1
      simp only [if_true] at h1
      obtain ⟨y, hy⟩ := List.length_eq_one_iff.1 h1
      simp [hy]
    | false =>
      rw [hc] at h1
      simp only [Bool.false_eq_true, if_false] at h1
      rw [List.eq_nil_of_length_eq_zero h1]
      simp
theorem tierR_part {w : Nat} {q : Int} : ∀ {l t : List MtD}, tierR w q l = some t → ∃ a b, l = a ++ t ++ b ∧ t.length = w
  | [], t, h => by cases h
  | r :: l, t, h => by
    simp only [tierR] at h
    split at h
    · rename_i hc
      cases h
      refine ⟨[], (r :: l).drop w, by simp, ?_⟩
      have h1 := takeWhile_le (fun y => decide (y.byt ≤ q * r.byt)) ((r :: l).take w)
      have h2 := hc.1
      unfold inT at h2
      rw [List.length_take] at *
      omega
    · obtain ⟨a, b, h1, h2⟩ := tierR_part h
      exact ⟨r :: a, b, by rw [h1]; rfl, h2⟩
theorem pick_len {l a t b : List MtD} (h : l.Pairwise fun x y => x.num ≠ y.num) (hp : (a ++ t ++ b).Perm l) : (pickL l t).length = t.length := by
  unfold pickL
  rw [List.length_map]
  have hsym : ∀ {x y : MtD}, x.num ≠ y.num → y.num ≠ x.num := fun h e => h e.symm
  have h2 : (a ++ t ++ b).Pairwise fun x y => x.num ≠ y.num := (hp.pairwise_iff hsym).2 h
  rw [← (hp.filter _).length_eq, List.filter_append, List.filter_append]
  obtain ⟨p1, p2, p3⟩ := List.pairwise_append.1 h2
  obtain ⟨q1, q2, q3⟩ := List.pairwise_append.1 p1
  have e1 : a.filter (fun r => t.any fun x => x.num == r.num) = [] := by
    rw [List.filter_eq_nil_iff]
    intro y hy hc
    obtain ⟨x, hx, he⟩ := List.any_eq_true.1 hc
    exact q3 y hy x hx (by simpa using (beq_iff_eq.1 he).symm)
  have e2 : b.filter (fun r => t.any fun x => x.num == r.num) = [] := by
    rw [List.filter_eq_nil_iff]
    intro y hy hc
    obtain ⟨x, hx, he⟩ := List.any_eq_true.1 hc
    exact p3 x (List.mem_append_right _ hx) y hy (beq_iff_eq.1 he)
  have e3 : t.filter (fun r => t.any fun x => x.num == r.num) = t := by
    rw [List.filter_eq_self]
    intro y hy
    exact List.any_eq_true.2 ⟨y, hy, by simp⟩
  rw [e1, e2, e3]
  simp
def wantR (w : Nat) (q : Int) (m : Nat) (l : List MtD) : List Int × Bool :=
  if m < l.length ∧ sumB l ≤ maxB then (l.map MtD.num, true)
  else match tierR w q (sortS l) with
    | some t => (pickR l t, decide (t.length = l.length))
    | none => ([], false)
def wantP (w : Nat) (q : Int) (m : Nat) (l s : List MtD) : List Int × Bool :=
  if m < l.length ∧ fitS maxB l = true then (l.map MtD.num, true)
  else (pickL l (tierS w q s), decide (0 < (pickL l (tierS w q s)).length ∧ (pickL l (tierS w q s)).length = l.length))
theorem want_is {w : Nat} {q : Int} {m : Nat} {l s : List MtD} (hw : 2 ≤ w) (h : OkR l) (hp : s.Perm l) (hs : Srt s) : wantP w q m l s = wantR w q m l := by
  have e : s = sortS l := srt_unique hs (sortS_srt h.two) (hp.trans (sortS_perm l).symm)
  have hb : ∀ r ∈ s, 0 ≤ r.byt := fun r hr => h.byt r (hp.subset hr)
  have ht := tier_is (q := q) hw hs hb
  unfold wantP wantR
  rw [fitS_iff h.byt maxB (by decide)]
  simp only [decide_eq_true_eq]
  split
  · rfl
  · rw [ht, ← e]
    cases hr : tierR w q s with
    | none => simp [pickL]
    | some t =>
      obtain ⟨a, b, h1, h2⟩ := tierR_part hr
      have hl := pick_len h.two (h1 ▸ hp : (a ++ t ++ b).Perm l)
      have htw : t.Pairwise fun x y => x.num ≠ y.num := by
        have hsym : ∀ {x y : MtD}, x.num ≠ y.num → y.num ≠ x.num := fun h e => h e.symm
        have := (hp.pairwise_iff hsym).2 h.two
        rw [h1] at this
        exact (List.pairwise_append.1 (List.pairwise_append.1 this).1).2.1
      show (pickL l t, decide (0 < (pickL l t).length ∧ (pickL l t).length = l.length)) = (pickR l t, decide (t.length = l.length))
      rw [pick_is htw, hl]
      congr 1
      apply decide_eq_decide.2
      omega
end Go.Proofs.Ytodejneceedglaa

namespace Go.Proofs.Ytodejneceedglaa
open Go.RowKit Go.Maps
set_option linter.unusedVariables false

set_option maxRecDepth 100000 in
theorem within_any {W : World} (n l m : Int) : Calls Try.prog 18 #[.int .i64 n, .int .i64 l, .int .i64 m] W fun e W' => e = .returned (.bool (decide (l ≤ n ∧ n ≤ m))) ∧ W' = W := by
  obtain ⟨b, hb⟩ : ∃ b, b = decide (l ≤ n ∧ n ≤ m) := ⟨_, rfl⟩
  rw [← hb]
  have HB := Lib.hid hb
  clear hb
  go_enter Try.func18, Try.ntmps18
  by_cases h1 : l ≤ n
  · by_cases h2 : n ≤ m
    · have e : b = true := by rw [HB.out]; simp [h1, h2]
      go_wp2
      go_ret
      simp [e]
    · have e : b = false := by rw [HB.out]; simp [h2]
      go_wp2
      go_ret
      simp
  · have e : b = false := by rw [HB.out]; simp [h1]
    go_wp2
    go_ret
    simp
set_option maxRecDepth 100000 in
theorem isNaN_any {W : World} (n : Int) : Calls Try.prog 26 #[.int .i64 n] W fun e W' => e = .returned (.bool false) ∧ W' = W := by
  go_enter Try.func26, Try.ntmps26
  go_wp2
  go_ret
  exact ⟨rfl, rfl⟩
def cmpI (a b : Int) : Int := if a < b then -1 else if b < a then 1 else 0
set_option maxRecDepth 100000 in
theorem cmp_any {W : World} (a b : Int) : Calls Try.prog 23 #[.int .i64 a, .int .i64 b] W fun e W' => e = .returned (.int .i64 (cmpI a b)) ∧ W' = W := by
  obtain ⟨z, hz⟩ : ∃ z, z = cmpI a b := ⟨_, rfl⟩
  rw [← hz]
  have HZ := Lib.hid hz
  clear hz
  go_enter Try.func23, Try.ntmps23
  have H1 := Lib.hid (fun W => isNaN_any (W := W) a)
  have H2 := Lib.hid (fun W => isNaN_any (W := W) b)
  go_wp2_with fail
  refine Calls.mono (H1.out _) ?_
  rintro z W1 ⟨rfl, rfl⟩
  go_wp2_with fail
  refine Calls.mono (H2.out _) ?_
  rintro z W1 ⟨rfl, rfl⟩
  by_cases h1 : a < b
  · have e : z = -1 := by rw [HZ.out]; simp [cmpI, h1]
    go_wp2
    go_ret
    simp [e]
  · by_cases h2 : b < a
    · have e : z = 1 := by rw [HZ.out]; simp [cmpI, h1, h2]
      go_wp2
      go_ret
      simp [e]
    · have e : z = 0 := by rw [HZ.out]; simp [cmpI, h1, h2]
      go_wp2
      go_ret
      simp [e]
def polS (w q m : Int) : Bool := decide (2 ≤ w ∧ w ≤ 16) && decide (2 ≤ q ∧ q ≤ 64) && decide (w ≤ m ∧ m ≤ 64)
set_option maxRecDepth 100000 in
theorem isPolicy_any {W : World} (w q m : Int) : Calls Try.prog 8 #[.agg #[.int .i64 w, .int .i64 q, .int .i64 m]] W fun e W' => e = .returned (.bool (polS w q m)) ∧ Below W.heap.size W W' := by
  obtain ⟨b1, h1⟩ : ∃ b, b = decide (2 ≤ w ∧ w ≤ 16) := ⟨_, rfl⟩
  obtain ⟨b2, h2⟩ : ∃ b, b = decide (2 ≤ q ∧ q ≤ 64) := ⟨_, rfl⟩
  obtain ⟨b3, h3⟩ : ∃ b, b = decide (w ≤ m ∧ m ≤ 64) := ⟨_, rfl⟩
  unfold polS
  rw [← h1, ← h2, ← h3]
  have H1 := Lib.hid (fun W => within_any (W := W) w 2 16)
  have H2 := Lib.hid (fun W => within_any (W := W) q 2 64)
  have H3 := Lib.hid (fun W => within_any (W := W) m w 64)
  rw [← h1] at H1
  rw [← h2] at H2
  rw [← h3] at H3
  clear h1 h2 h3
  have A1 := Lib.hid ((Below.refl W.heap.size W).alloc (Nat.le_refl _) (.cells #[.int .i64 w, .int .i64 q, .int .i64 m] 23))
  go_enter Try.func8, Try.ntmps8
  go_wp2_with fail
  refine Calls.mono (H1.out _) ?_
  rintro z W1 ⟨rfl, rfl⟩
  cases b1 with
  | false =>
    go_wp2
    go_ret
    exact ⟨by simp, A1.out⟩
  | true =>
    go_wp2_with fail
    refine Calls.mono (H2.out _) ?_
    rintro z W1 ⟨rfl, rfl⟩
    cases b2 with
    | false =>
      go_wp2
      go_ret
      exact ⟨by simp, A1.out⟩
    | true =>
      go_wp2_with fail
      refine Calls.mono (H3.out _) ?_
      rintro z W1 ⟨rfl, rfl⟩
      go_wp2
      go_ret
      exact ⟨by simp, A1.out⟩
end Go.Proofs.Ytodejneceedglaa

namespace Go.Proofs.Ytodejneceedglaa
open Go.RowKit Go.Maps
set_option linter.unusedVariables false

theorem len_int {n m : Nat} (h : n < m) : (n : Int) < (m : Int) := by omega
set_option maxRecDepth 100000 in
set_option maxHeartbeats 1000000 in
theorem fit_any {W : World} {a : Option Addr} {cap : Nat} {l : List MtD} (hr : RdM W a cap l) (hb : ∀ x ∈ l, 0 ≤ x.byt) :
    Calls Try.prog 10 #[.slice a l.length cap] W fun e W' => e = .returned (.bool (fitS maxB l)) ∧ Below W.heap.size W W' := by
  obtain ⟨N, hN⟩ : ∃ N, N = l.length := ⟨_, rfl⟩
  obtain ⟨R, hR⟩ : ∃ R, R = fitS maxB l := ⟨_, rfl⟩
  rw [← hN, ← hR]
  have HN := Lib.hid hN
  have HR := Lib.hid hr
  have HB := Lib.hid hb
  have HRR := Lib.hid hR
  have hNm : N ≤ 9223372036854775807 := by have := hr.cap; unfold maxLen at this; omega
  clear hN hr hb hR
  go_enter Try.func10, Try.ntmps10
  go_wp2
  go_loopw [3, 8] (fun o i wr => ∃ (k : Nat) (r : Int), k ≤ N ∧ i = .int .i64 (k : Int) ∧ o = .int .i64 r ∧ 0 ≤ r ∧ r ≤ 16777216 ∧ Hid (R = fitS r (l.drop k)) ∧ Hid (Below W.heap.size W wr)) (fun _ i _ => N - (intOf i).toNat)
  case atStart => exact ⟨0, 16777216, Nat.zero_le _, rfl, rfl, by omega, by omega, HRR.out, Below.refl _ _⟩
  case round =>
    obtain ⟨k, r, hk, rfl, rfl, r0, r1, HF, HBe⟩ := hrel
    have k0 : (0 : Int) ≤ (k : Int) := by omega
    by_cases hlt : k < N
    · have hlt2 := len_int hlt
      have hl : k < l.length := by rw [← HN.out]; exact hlt
      obtain ⟨e, he⟩ : ∃ e, l[k]? = some e := ⟨l[k], List.getElem?_eq_getElem hl⟩
      have hrd := HR.out.later HBe.out
      obtain ⟨b, off, rfl, cel⟩ := hrd.cel he
      obtain ⟨d0, d1, d2, d3, d4, d5, d6, d7⟩ := cel
      have hcap := hrd.cap
      have A5 := (Below.refl wr.heap.size wr).alloc (Nat.le_refl _) (.cells e.cells 31)
      have eb := MBox.new wr e
      obtain ⟨X, hX⟩ : ∃ X, X = wr.alloc (.cells e.cells 31) := ⟨_, rfl⟩
      rw [← hX] at A5 eb
      have HBX := Lib.hid (HBe.out.trans (A5.mono HBe.out.size))
      have e5 := eb.byt
      have hdrop : l.drop k = e :: l.drop (k + 1) := by
        rw [List.drop_eq_getElem_cons hl]
        congr 1
        rw [List.getElem?_eq_getElem hl] at he
        exact Option.some.inj he
      have HF2 : Hid (R = if r < e.byt then false else fitS (r - e.byt) (l.drop (k + 1))) := by
        have := HF.out
        rw [hdrop] at this
        exact this
      have HB2 := Lib.hid (HB.out e (List.mem_of_getElem? he))
      unfold MtD.cells at hX
      have HX := Lib.hid hX
      clear hrd he A5 eb hX hdrop HF hl
      go_upto_region 5 with fail
      rw [← HX.out]
      clear HX d0 d1 d2 d3 d4 d5 d6 d7
      by_cases hc : r < e.byt
      · have e1 : R = false := by rw [HF2.out, if_pos hc]
        go_wp2
        go_ret
        exact ⟨by rw [e1]; rfl, HBX.out⟩
      · have HF3 := Lib.hid (HF2.out.trans (if_neg hc))
        have HB3 := HB2.out
        clear HF2
        go_wp2
        go_roundw
        case rel => exact ⟨k + 1, r - e.byt, by omega, by go_num, by go_num, by omega, by omega, HF3.out, HBX.out⟩
        case measure => simp only [intOf]; omega
    · have hge : ¬ (k : Int) < (N : Int) := by omega
      have e1 : R = true := by
        rw [HF.out, List.drop_of_length_le (by rw [← HN.out]; omega)]; rfl
      go_wp2
      go_ret
      exact ⟨rfl, HBe.out⟩
end Go.Proofs.Ytodejneceedglaa

namespace Go.Proofs.Ytodejneceedglaa
open Go.RowKit Go.Maps
set_option linter.unusedVariables false

set_option maxRecDepth 100000 in
set_option maxHeartbeats 1000000 in
theorem numsOf_any {W : World} {a : Option Addr} {cap : Nat} {l : List MtD} (hr : RdM W a cap l) (hl : l.length ≤ 64) :
    Calls Try.prog 11 #[.slice a l.length cap] W fun e W' => ∃ v, e = .returned v ∧ OwnI W' W.heap.size v (l.map MtD.num) ∧ Below W.heap.size W W' := by
  obtain ⟨N, hN⟩ : ∃ N, N = l.length := ⟨_, rfl⟩
  rw [← hN] at hl ⊢
  have HN := Lib.hid hN
  have HR := Lib.hid hr
  clear hN hr
  go_enter Try.func11, Try.ntmps11
  go_wp2
  go_loopw [3, 8] (fun o i wr => ∃ (k : Nat) (a' : Option Addr) (c' : Nat), k ≤ N ∧ i = .int .i64 (k : Int) ∧ o = .slice a' k c' ∧ Hid (OwnI wr W.heap.size (.slice a' k c') ((l.map MtD.num).take k)) ∧ Hid (Below W.heap.size W wr)) (fun _ i _ => N - (intOf i).toNat)
  case atStart => exact ⟨0, none, 0, Nat.zero_le _, rfl, rfl, OwnI.nil _ _, Below.refl _ _⟩
  case round =>
    obtain ⟨k, a', c', hk, rfl, rfl, HO, HBe⟩ := hrel
    have k0 : (0 : Int) ≤ (k : Int) := by omega
    by_cases hlt : k < N
    · have hlt2 := len_int hlt
      have hl2 : k < l.length := by rw [← HN.out]; exact hlt
      obtain ⟨e, he⟩ : ∃ e, l[k]? = some e := ⟨l[k], List.getElem?_eq_getElem hl2⟩
      have hrd := HR.out.later HBe.out
      obtain ⟨b, off, rfl, cel⟩ := hrd.cel he
      obtain ⟨d0, d1, d2, d3, d4, d5, d6, d7⟩ := cel
      have hcap := hrd.cap
      have A5 := (Below.refl wr.heap.size wr).alloc (Nat.le_refl _) (.cells e.cells 31)
      have eb := MBox.new wr e
      obtain ⟨X, hX⟩ : ∃ X, X = wr.alloc (.cells e.cells 31) := ⟨_, rfl⟩
      rw [← hX] at A5 eb
      have HBX := Lib.hid (HBe.out.trans (A5.mono HBe.out.size))
      have HO2 := Lib.hid (HO.out.later A5)
      have e5 := eb.num
      have HT : Hid ((l.map MtD.num).take (k + 1) = (l.map MtD.num).take k ++ [e.num]) := by
        unfold Hid; rw [List.take_add_one, List.getElem?_map, he]; rfl
      have HL : Hid (k = ((l.map MtD.num).take k).length) := by
        unfold Hid; rw [List.length_take, List.length_map]; omega
      unfold MtD.cells at hX
      have HX := Lib.hid hX
      clear hrd he A5 eb hX hl2 HO
      go_upto_region 5 with fail
      rw [← HX.out]
      clear HX d0 d1 d2 d3 d4 d5 d6 d7
      go_wp2_with (at_builtin; refine wpl_append_num rfl _ _ rfl W.heap.size a' c' _ k HL.out rfl HO2.out e.num rfl (by rw [← HL.out]; omega) HBX.out.size ?_)
      intro a4 c4 X4 row4 gr4 bel4
      rw [← HT.out] at row4
      have HO4 := Lib.hid row4
      have HB4 := Lib.hid (HBX.out.trans bel4)
      clear row4 gr4 bel4
      go_wp2
      go_roundw
      case rel => exact ⟨k + 1, a4, c4, by omega, by go_num, rfl, HO4, HB4⟩
      case measure => simp only [intOf]; omega
    · have hge : ¬ (k : Int) < (N : Int) := by omega
      have hk2 : (l.map MtD.num).take k = l.map MtD.num := List.take_of_length_le (by rw [List.length_map, ← HN.out]; omega)
      have HK2 := Lib.hid hk2
      clear hk2
      go_wp2
      go_ret
      refine ⟨_, rfl, ?_, HBe.out⟩
      have := HO.out
      rw [HK2.out] at this
      exact this
structure MapN (D : DataW Unit) (xs : List MtD) : Prop where
  map : IsMap D
  has : ∀ n : Int, Maps.has D (.int .i64 n) = xs.any fun x => x.num == n
theorem isKey_int (n : Int) : WideAt.IsKeyLit (.int .i64 n) := trivial
theorem MapN.nil : MapN (.map []) [] := ⟨⟨[], rfl⟩, fun n => rfl⟩
theorem MapN.put {D : DataW Unit} {xs : List MtD} (h : MapN D xs) (e : MtD) (c : Int) : MapN (D.put (.int .i64 e.num) (.lit (.int .i64 c))) (xs ++ [e]) := by
  refine ⟨?_, fun n => ?_⟩
  · obtain ⟨es, rfl⟩ := h.map
    exact ⟨_, rfl⟩
  · rw [List.any_append]
    by_cases q : n = e.num
    · subst q
      rw [has_put_same h.map (isKey_int _)]
      simp
    · rw [has_put_other (by simpa using q), h.has]
      have : (e.num == n) = false := by simpa using fun z => q z.symm
      simp [this]
theorem OkR.take {l : List MtD} (h : OkR l) (k : Nat) : OkR (l.take k) := ⟨fun r hr => h.num r (List.mem_of_mem_take hr), fun r hr => h.byt r (List.mem_of_mem_take hr), h.two.sublist (List.take_sublist k l)⟩
theorem OkR.snoc {l : List MtD} {e : MtD} : OkR (l ++ [e]) ↔ OkR l ∧ (l.any fun x => x.num == e.num) = false ∧ 1 ≤ e.num ∧ 0 ≤ e.byt := by
  constructor
  · intro h
    obtain ⟨p1, p2, p3⟩ := List.pairwise_append.1 h.two
    refine ⟨⟨fun r hr => h.num r (List.mem_append_left _ hr), fun r hr => h.byt r (List.mem_append_left _ hr), p1⟩, ?_, h.num e (by simp), h.byt e (by simp)⟩
    rw [List.any_eq_false]
    intro x hx
    simpa using p3 x hx e (by simp)
  · rintro ⟨h, h1, h2, h3⟩
    refine ⟨fun r hr => ?_, fun r hr => ?_, List.pairwise_append.2 ⟨h.two, by simp, fun x hx y hy => ?_⟩⟩
    · rcases List.mem_append.1 hr with k | k
      · exact h.num r k
      · simp only [List.mem_cons, List.not_mem_nil, or_false] at k; rw [k]; exact h2
    · rcases List.mem_append.1 hr with k | k
      · exact h.byt r k
      · simp only [List.mem_cons, List.not_mem_nil, or_false] at k; rw [k]; exact h3
    · simp only [List.mem_cons, List.not_mem_nil, or_false] at hy
      rw [hy]
      simpa using List.any_eq_false.1 h1 x hx
theorem OkR.nil : OkR [] := ⟨by simp, by simp, List.Pairwise.nil⟩
end Go.Proofs.Ytodejneceedglaa

namespace Go.Proofs.Ytodejneceedglaa
open Go.RowKit Go.Maps
set_option linter.unusedVariables false

structure Ar (W : World) (l : List MtD) (mb : Nat) (wr : World) (k : Nat) : Prop where
  ok : OkR (l.take k)
  map : ∃ n D, n ≤ k ∧ wr.ownsMap Try.prog 3 (plainElem Try.prog 3) mb n D ∧ MapN D (l.take k)
  below : Below W.heap.size W wr
  new : W.heap.size ≤ mb
theorem Ar.later {W wr wr' : World} {l : List MtD} {mb k : Nat} (h : Ar W l mb wr k) (b : Below wr.heap.size wr wr') : Ar W l mb wr' k := by
  obtain ⟨n, D, hn, hm, hq⟩ := h.map
  exact ⟨h.ok, ⟨n, D, hn, hm.kept (row := none) ⟨b.os, b.tape, b.output, b.size, fun i hi _ => b.block i hi⟩ (by simp), hq⟩, h.below.trans (b.mono h.below.size), h.new⟩
theorem mbox_ne {X : World} {q mb n : Nat} {e : MtD} {D : DataW Unit} {R : Value → Option (DataW Unit × List MemPlace)} (h : MBox X q e) (hm : X.ownsMap Try.prog 3 R mb n D) : q ≠ mb := fun z => by
  obtain ⟨es, clock, hb, _⟩ := hm
  unfold MBox at h
  rw [z, hb] at h
  cases h
def ArP (W : World) (l : List MtD) (e : Ending) (W' : World) : Prop := ∃ q, e = .returned (.bool q) ∧ (q = true ↔ l.length ≤ 64 ∧ OkR l) ∧ Below W.heap.size W W'
set_option maxRecDepth 100000 in
set_option maxHeartbeats 4000000 in
theorem areRuns_any {W : World} {a : Option Addr} {cap : Nat} {l : List MtD} (hr : RdM W a cap l) :
    Calls Try.prog 9 #[.slice a l.length cap] W fun e W' => ArP W l e W' := by
  obtain ⟨N, hN⟩ : ∃ N, N = l.length := ⟨_, rfl⟩
  rw [← hN]
  have HN := Lib.hid hN
  have HR := Lib.hid hr
  have hNm : N ≤ 9223372036854775807 := by have := hr.cap; unfold maxLen at this; omega
  clear hN hr
  have hmm := mkmap3 W (N : Int)
  have A1 := (Below.refl W.heap.size W).alloc (Nat.le_refl _) (.map #[] 0)
  obtain ⟨W2, hW2⟩ : ∃ W2, W2 = W.alloc (.map #[] 0) := ⟨_, rfl⟩
  have H2 : Hid (Ar W l W.heap.size W2 0) := by
    rw [hW2]
    exact ⟨by simpa using OkR.nil, ⟨0, .map [], Nat.le_refl _, World.ownsMap_made W Try.prog 3 (plainElem Try.prog 3), by simpa using MapN.nil⟩, A1, Nat.le_refl _⟩
  rw [← hW2] at hmm
  clear hW2 A1
  go_enter Try.func9, Try.ntmps9
  by_cases hbig : 64 < N
  · have hb2 : (64 : Int) < (N : Int) := by omega
    clear hmm H2
    go_wp2
    go_ret
    refine ⟨false, rfl, ?_, Below.refl _ _⟩
    rw [← HN.out]
    simp
    omega
  have hb2 : ¬ (64 : Int) < (N : Int) := by omega
  go_wp2
  go_loopw [16] (fun i wr => ∃ (k : Nat), k ≤ N ∧ i = .int .i64 (k : Int) ∧ Hid (Ar W l W.heap.size wr k)) (fun i _ => N - (intOf i).toNat)
  case atStart => exact ⟨0, Nat.zero_le _, rfl, H2⟩
  case round =>
    clear hmm H2
    obtain ⟨k, hk, rfl, HO⟩ := hrel
    have k0 : (0 : Int) ≤ (k : Int) := by omega
    by_cases hlt : k < N
    · have hlt2 := len_int hlt
      have hl2 : k < l.length := by rw [← HN.out]; exact hlt
      obtain ⟨e, he⟩ : ∃ e, l[k]? = some e := ⟨l[k], List.getElem?_eq_getElem hl2⟩
      have hrd := HR.out.later HO.out.below
      obtain ⟨b, off, rfl, cel⟩ := hrd.cel he
      obtain ⟨d0, d1, d2, d3, d4, d5, d6, d7⟩ := cel
      have hcap := hrd.cap
      have h64 := hrd.num e (List.mem_of_getElem? he)
      have A5 := (Below.refl wr.heap.size wr).alloc (Nat.le_refl _) (.cells e.cells 31)
      have eb := MBox.new wr e
      obtain ⟨X, hX⟩ : ∃ X, X = wr.alloc (.cells e.cells 31) := ⟨_, rfl⟩
      rw [← hX] at A5 eb
      have HO2 := Lib.hid (HO.out.later A5)
      have HEb := Lib.hid eb
      have e0 := eb.num
      have e5 := eb.byt
      have HT : Hid (l.take (k + 1) = l.take k ++ [e]) := by
        unfold Hid; rw [List.take_add_one, he]; rfl
      have HK := Lib.hid (key64 h64.1)
      have HOk := Lib.hid (fun h : OkR l => OkR.snoc.1 (HT.out ▸ h.take (k + 1)))
      unfold MtD.cells at hX
      have HX := Lib.hid hX
      clear hrd he A5 eb hX hl2 HO h64
      go_upto_region 7 with fail
      rw [← HX.out]
      clear HX d0 d1 d2 d3 d4 d5 d6 d7
      obtain ⟨n, D, hnk, hm, hmq⟩ := HO2.out.map
      have HM := Lib.hid hm
      have HMQ := Lib.hid hmq
      clear hm hmq
      go_wp2_with (at_lookup; refine wpList_lookup_own_ok_int (H := Unit) X rfl _ _ 42 rfl 3 3 .i64 keyed3 und_mii und_int (zero3 X) W.heap.size n D rfl HM.out _ (.int .i64 e.num) rfl HK.out ?_)
      intro c hat hwc
      rw [HMQ.out.has]
      clear hat hwc
      obtain ⟨y, hy⟩ : ∃ y, y = (l.take k).any fun x => x.num == e.num := ⟨_, rfl⟩
      rw [← hy]
      have HY := Lib.hid hy
      clear hy
      have hno : ∀ q : Bool, q = false → (¬ (y = false ∧ 1 ≤ e.num ∧ 0 ≤ e.byt)) → (q = true ↔ l.length ≤ 64 ∧ OkR l) := by
        intro q hq hn
        rw [hq]
        constructor
        · intro h; cases h
        · rintro ⟨-, h⟩
          have := HOk.out h
          rw [← HY.out] at this
          exact absurd this.2 hn
      have HNo := Lib.hid hno
      clear hno
      cases y with
      | true =>
        go_wp2
        go_ret
        exact ⟨false, rfl, HNo.out false rfl (by simp), HO2.out.below⟩
      | false =>
        by_cases h1 : e.num < 1
        · go_wp2
          go_ret
          exact ⟨false, rfl, HNo.out false rfl (by omega), HO2.out.below⟩
        · by_cases h2 : e.byt < 0
          · go_wp2
            go_ret
            exact ⟨false, rfl, HNo.out false rfl (by omega), HO2.out.below⟩
          · have hnm : n < maxLen := by unfold maxLen; omega
            have hvl : plainElem (H := Unit) Try.prog 3 (.int .i64 (k : Int)) = some (.lit (.int .i64 (k : Int)), []) := plainElem_int und_int (wf64 ⟨by omega, by omega⟩)
            have HVl := Lib.hid hvl
            clear hvl
            go_wp2_with (refine wpList_mapUpdate_own (H := Unit) X rfl _ _ _ 42 rfl 3 3 keyed3 und_mii (plainElem Try.prog 3) W.heap.size n D rfl HM.out hnm _ _ (.int .i64 e.num) rfl rfl HK.out _ _ HVl.out ?_)
            intro X2 hm2 hg2
            have HO4 : Hid (Ar W l W.heap.size X2 (k + 1)) := by
              have o := HO2.out
              refine ⟨?_, ⟨n + 1, _, by omega, hm2, ?_⟩, o.below.grown hg2 o.below.size (fun g z => by cases z; exact Nat.le_refl _), o.new⟩
              · rw [HT.out]
                exact OkR.snoc.2 ⟨o.ok, HY.out.symm, by omega, by omega⟩
              · rw [HT.out]
                exact HMQ.out.put e (k : Int)
            clear hm2 hg2
            go_wp2
            go_roundw
            case rel => exact ⟨k + 1, by omega, by go_num, HO4⟩
            case measure => simp only [intOf]; omega
    · have hge : ¬ (k : Int) < (N : Int) := by omega
      have hk2 : l.take k = l := List.take_of_length_le (by rw [← HN.out]; omega)
      have HK2 := Lib.hid hk2
      clear hk2
      go_wp2
      go_ret
      refine ⟨true, rfl, ?_, HO.out.below⟩
      have := HO.out.ok
      rw [HK2.out] at this
      rw [← HN.out]
      simp [this]
      omega
end Go.Proofs.Ytodejneceedglaa

namespace Go.Proofs.Ytodejneceedglaa
open Go.RowKit Go.Maps
set_option linter.unusedVariables false

structure BelowD (B : Nat) (w w' : World) : Prop where
  b : Below B w w'
  d : w.drawn ≤ w'.drawn
theorem BelowD.refl (B : Nat) (w : World) : BelowD B w w := ⟨Below.refl _ _, Nat.le_refl _⟩
theorem BelowD.trans {B : Nat} {a b c : World} (h : BelowD B a b) (k : BelowD B b c) : BelowD B a c := ⟨h.b.trans k.b, Nat.le_trans h.d k.d⟩
theorem BelowD.mono {B B' : Nat} {w w' : World} (h : BelowD B w w') (hB : B' ≤ B) : BelowD B' w w' := ⟨h.b.mono hB, h.d⟩
theorem BelowD.drew {B : Nat} {a w : World} (h : BelowD B a w) : BelowD B a w.drew := ⟨h.b.drew, Nat.le_trans h.d (Nat.le_succ _)⟩
theorem BelowD.alloc {B : Nat} {a w : World} (h : BelowD B a w) (hB : B ≤ w.heap.size) (o : Obj) : BelowD B a (w.alloc o) := ⟨h.b.alloc hB o, h.d⟩
theorem BelowD.size {B : Nat} {w w' : World} (h : BelowD B w w') : w.heap.size ≤ w'.heap.size := h.b.size

def orI (x y : Int) : Int := if x = 0 then y else x
set_option maxRecDepth 100000 in
set_option maxHeartbeats 1000000 in
theorem or_any {W : World} {b : Nat} {x y : Int} (h0 : W.cell? ⟨b, 0, none⟩ = some (.int .i64 x)) (h1 : W.cell? ⟨b, 1, none⟩ = some (.int .i64 y)) :
    Calls Try.prog 22 #[.slice (some ⟨b, 0, none⟩) 2 2] W fun e W' => e = .returned (.int .i64 (orI x y)) ∧ W' = W := by
  obtain ⟨z, hz⟩ : ∃ z, z = orI x y := ⟨_, rfl⟩
  rw [← hz]
  have HZ := Lib.hid hz
  clear hz
  go_enter Try.func22, Try.ntmps22
  go_wp2
  go_loopw [8] (fun i wr => ∃ (k : Nat), k ≤ 2 ∧ i = .int .i64 (k : Int) ∧ wr = W ∧ Hid ((0 < k → x = 0) ∧ (1 < k → y = 0))) (fun i _ => 2 - (intOf i).toNat)
  case atStart => exact ⟨0, by omega, rfl, rfl, ⟨by omega, by omega⟩⟩
  case round =>
    obtain ⟨k, hk, rfl, rfl, HK⟩ := hrel
    have hk3 : k = 0 ∨ k = 1 ∨ k = 2 := by omega
    rcases hk3 with rfl | rfl | rfl
    · by_cases hx : x = 0
      · go_wp2
        go_roundw
        case rel => exact ⟨1, by omega, rfl, trivial, ⟨fun _ => hx, by omega⟩⟩
        case measure => simp only [intOf]; omega
      · have e : z = x := by rw [HZ.out, orI, if_neg hx]
        go_wp2
        go_ret
        rw [e]
        exact ⟨rfl, rfl⟩
    · have hx := HK.out.1 (by omega)
      by_cases hy : y = 0
      · go_wp2
        go_roundw
        case rel => exact ⟨2, by omega, rfl, trivial, ⟨fun _ => hx, fun _ => hy⟩⟩
        case measure => simp only [intOf]; omega
      · have e : z = y := by rw [HZ.out, orI, if_pos hx]
        go_wp2
        go_ret
        rw [e]
        exact ⟨rfl, rfl⟩
    · have hx := HK.out.1 (by omega)
      have hy := HK.out.2 (by omega)
      have e : z = 0 := by rw [HZ.out, orI, if_pos hx, hy]
      clear hx hy
      go_wp2
      go_ret
      rw [e]
      exact ⟨rfl, rfl⟩
def cmpM (a b : MtD) : Int := orI (cmpI a.byt b.byt) (cmpI a.num b.num)
theorem cmpM_lt (a b : MtD) : cmpM a b < 0 ↔ ltM a b := by
  unfold cmpM orI cmpI ltM
  by_cases h1 : a.byt < b.byt
  · simp [h1]
  · by_cases h2 : b.byt < a.byt
    · simp only [h1, h2, if_true, if_false]; simp; omega
    · simp only [h1, h2, if_true, if_false]
      by_cases h3 : a.num < b.num
      · simp [h3]; omega
      · by_cases h4 : b.num < a.num
        · simp [h3, h4]
        · simp [h3, h4]
set_option maxRecDepth 100000 in
set_option maxHeartbeats 2000000 in
theorem closure_any {a b : MtD} {w : World} :
    Calls Try.prog 21 #[.agg a.cells, .agg b.cells] w fun r w' => r = .returned (.int .i64 (cmpM a b)) ∧ BelowD w.heap.size w w' := by
  obtain ⟨x, hx⟩ : ∃ x, x = cmpI a.byt b.byt := ⟨_, rfl⟩
  obtain ⟨y, hy⟩ : ∃ y, y = cmpI a.num b.num := ⟨_, rfl⟩
  obtain ⟨z, hz⟩ : ∃ z, z = orI x y := ⟨_, rfl⟩
  have e : cmpM a b = z := by rw [hz, hx, hy]; rfl
  rw [e]
  have HQ1 := Lib.hid (fun w => cmp_any (W := w) a.byt b.byt)
  have HQ2 := Lib.hid (fun w => cmp_any (W := w) a.num b.num)
  rw [← hx] at HQ1
  rw [← hy] at HQ2
  have HQ3 : Hid (∀ (W : World) (q : Nat), W.cell? ⟨q, 0, none⟩ = some (.int .i64 x) → W.cell? ⟨q, 1, none⟩ = some (.int .i64 y) → Calls Try.prog 22 #[.slice (some ⟨q, 0, none⟩) 2 2] W fun e W' => e = .returned (.int .i64 z) ∧ W' = W) := by
    intro W q h0 h1
    rw [hz]
    exact or_any h0 h1
  clear hx hy hz e
  have A1 := (BelowD.refl w.heap.size w).alloc (Nat.le_refl _) (.cells a.cells 31)
  have A2 := A1.alloc A1.size (.cells b.cells 31)
  have bxa := (MBox.new w a).later ((Below.refl _ _).alloc (Nat.le_refl _) (.cells b.cells 31))
  have bxb := MBox.new (w.alloc (.cells a.cells 31)) b
  have es : (w.alloc (.cells a.cells 31)).heap.size = w.heap.size + 1 := by simp
  rw [es] at bxb
  obtain ⟨X, hX⟩ : ∃ X, X = (w.alloc (.cells a.cells 31)).alloc (.cells b.cells 31) := ⟨_, rfl⟩
  rw [← hX] at A2 bxa bxb
  have HX := Lib.hid hX
  unfold MtD.cells
  unfold MtD.cells at HX
  have ya := (bxa.later (Below.refl _ _).drew).byt
  have na := (bxa.later (Below.refl _ _).drew).num
  have yb := (bxb.later (Below.refl _ _).drew).byt
  have nb := (bxb.later (Below.refl _ _).drew).num
  have A2D := A2.drew
  have B3 : Below X.heap.size X (X.alloc (.cells #[.int .i64 x, .int .i64 y] 3)) := (Below.refl _ _).alloc (Nat.le_refl _) _
  have sX : w.heap.size ≤ X.heap.size := A2.size
  have A3D := (A2.alloc sX (.cells #[.int .i64 x, .int .i64 y] 3)).drew
  have o0 : (X.alloc (.cells #[.int .i64 x, .int .i64 y] 3)).drew.cell? ⟨X.heap.size, 0, none⟩ = some (.int .i64 x) := by
    show (X.alloc (.cells #[.int .i64 x, .int .i64 y] 3)).cell? ⟨X.heap.size, 0, none⟩ = _
    unfold World.cell?
    rw [heap_alloc_new]
    rfl
  have o1 : (X.alloc (.cells #[.int .i64 x, .int .i64 y] 3)).drew.cell? ⟨X.heap.size, 1, none⟩ = some (.int .i64 y) := by
    show (X.alloc (.cells #[.int .i64 x, .int .i64 y] 3)).cell? ⟨X.heap.size, 1, none⟩ = _
    unfold World.cell?
    rw [heap_alloc_new]
    rfl
  have ya2 := ((bxa.later B3).later (Below.refl _ _).drew).byt
  have na2 := ((bxa.later B3).later (Below.refl _ _).drew).num
  have yb2 := ((bxb.later B3).later (Below.refl _ _).drew).byt
  have nb2 := ((bxb.later B3).later (Below.refl _ _).drew).num
  have HY := Lib.hid (And.intro o0 o1)
  have HY2 := Lib.hid (And.intro (And.intro ya2 na2) (And.intro yb2 nb2))
  have HY3 := Lib.hid A3D
  clear B3 o0 o1 ya2 na2 yb2 nb2 A3D
  clear hX A1 A2 es bxa bxb
  go_enter Try.func21, Try.ntmps21
  go_upto_region 1 with fail
  rw [← HX.out]
  clear HX
  go_region_held3 (fun wx => wx.cell? ⟨w.heap.size, 5, none⟩ = some (.int .i64 a.byt) ∧ wx.cell? ⟨w.heap.size, 0, none⟩ = some (.int .i64 a.num) ∧ wx.cell? ⟨w.heap.size + 1, 5, none⟩ = some (.int .i64 b.byt) ∧ wx.cell? ⟨w.heap.size + 1, 0, none⟩ = some (.int .i64 b.num) ∧ BelowD w.heap.size w wx) (first | exact ⟨ya, na, yb, nb, A2D⟩ | exact ⟨HY2.out.1.1, HY2.out.1.2, HY2.out.2.1, HY2.out.2.2, HY3.out⟩) (first | (go_at_call_of 23 (Value.int IntKind.i64 a.byt); refine (HQ1.out _).mono ?_; rintro e1 wm ⟨rfl, rfl⟩) | (go_at_call_of 23 (Value.int IntKind.i64 a.num); refine (HQ2.out _).mono ?_; rintro e1 wm ⟨rfl, rfl⟩) | (go_at_call 22; refine (HQ3.out _ _ HY.out.1 HY.out.2).mono ?_; rintro e1 wm ⟨rfl, rfl⟩))
  all_goals (clear HQ1 HQ2 HQ3 ya na yb nb A2D HY HY2; go_wp2; go_ret; exact ⟨rfl, HY3.out⟩)
end Go.Proofs.Ytodejneceedglaa

namespace Go.Proofs.Ytodejneceedglaa
open Go.RowKit Go.Maps
set_option linter.unusedVariables false

theorem wpl_append_runs {w : World} {ops : Array Oper} {rest : List Oper} {o : Oper} {a : Act} {Q : Exit → Act → World → Prop} (hgd : o.guard = none) (s x : Operand)
    (ho : o.op = .call { callee := .builtin .append, args := #[s, x], argTypes := #[24, 24] })
    (B : Nat) (v : Value) (xs : List MtD) (hs : a.eval s = v) (hown : w.ownsRow B 31 8 v xs.length (mvals xs))
    (ad : Option Addr) (m cap : Nat) (ys : List MtD) (hx : a.eval x = .slice ad m cap) (hm : m = ys.length) (hu : RdM w ad cap ys) (hn : (xs.length + ys.length) * 96 ≤ 140737488355328) (hB : B ≤ w.heap.size)
    (h : ∀ a' n' c' w', n' = (xs ++ ys).length → w'.ownsRow B 31 8 (.slice a' n' c') (xs ++ ys).length (mvals (xs ++ ys)) → w.grownBy w' v.ownBlock → wpList Try.prog ops Q rest (a.put o.dst (.slice a' n' c')) w') : wpList Try.prog ops Q (o :: rest) a w := by
  obtain ⟨i0, hi, hz0, hz1, hz2⟩ := info_parts info_run
  subst hm
  cases ad with
  | none =>
    have hz : ys = [] := by
      have := hu.cap.1
      rw [hu.nn rfl] at this
      exact List.eq_nil_of_length_eq_zero (by omega)
    obtain rfl := hu.nn rfl
    subst hz
    obtain ⟨a', c', rfl⟩ := row_form hown
    refine wpList_append_own_none hgd s x 24 ho B 31 i0 8 und_runs hi _ _ _ hs hown (by simpa using hx) ?_
    exact h _ _ _ _ (by simp) (by simpa using hown) ⟨rfl, rfl, rfl, Nat.le_refl _, fun _ _ _ => rfl⟩
  | some ad =>
    refine wpList_append_own _ hgd s x 24 ho B 31 i0 _ 8 96 und_runs hi hz0 hz1 hz2 rfl (by decide) _ _ _ hs hown ad ys.length cap (mvals ys) hx (mvals_len ys) (fun j u hj => ?_) (mvals_one ys) (by unfold maxLen; omega) (by omega) hB ?_
    · obtain ⟨y, e1, e2⟩ := mvals_inv hj
      rcases hu.at_ with h0 | ⟨b, off, eb, hc⟩
      · rw [h0] at e1; simp at e1
      · cases eb
        rw [add_at]
        have := hc _ y e1 _ _ e2
        rwa [show off + j / 8 * 8 + j % 8 = off + j from by omega] at this
    · intro v' w' k1 k2 k3
      rw [← mvals_append, ← List.length_append] at k1
      obtain ⟨a', c', rfl⟩ := row_form k1
      exact h a' _ c' w' rfl k1 k2
set_option maxRecDepth 100000 in
set_option maxHeartbeats 1000000 in
theorem clone_any {W : World} {a : Option Addr} {c : Nat} {l : List MtD} (hr : RdM W a c l) (hl : l.length ≤ 64) :
    Calls Try.prog 19 #[.slice a l.length c] W fun r W' => ∃ a' c', r = .returned (.slice a' l.length c') ∧ W'.ownsRow W.heap.size 31 8 (.slice a' l.length c') l.length (mvals l) ∧ Below W.heap.size W W' := by
  obtain ⟨k, hk⟩ : ∃ k, k = l.length := ⟨_, rfl⟩
  have HK := Lib.hid hk
  have HR := Lib.hid hr
  rw [← hk] at hl ⊢
  clear hk
  go_enter Try.func19, Try.ntmps19
  have heq := fun w => Lib.run_eql_slice_nil (P := Try.prog) w 24 31 a k c 0 0 und_runs
  cases a with
  | none =>
    have hc := hr.nn rfl
    have hz : l = [] := by
      have := hr.cap.1
      rw [hc] at this
      exact List.eq_nil_of_length_eq_zero (by omega)
    have hk0 : k = 0 := by rw [HK.out, hz]; rfl
    subst hk0
    subst hc
    have HF := Lib.hid hz
    clear hz hr
    simp only [Option.isNone_none] at heq
    go_wp2
    go_ret
    refine ⟨none, 0, rfl, ?_, Below.refl _ _⟩
    rw [HF.out]
    exact World.ownsRow_nil _ _ _ _
  | some ad =>
    clear hr
    simp only [Option.isNone_some] at heq
    have A1 := (Below.refl W.heap.size W).alloc (Nat.le_refl _) (.cells #[] 31)
    have HRA := Lib.hid (HR.out.later A1)
    have HA1 := Lib.hid A1
    clear A1
    go_wp2_with (at_builtin; refine wpl_append_runs rfl _ _ rfl W.heap.size _ [] rfl (World.ownsRow_made W #[] 0 (Nat.le_refl _) (Nat.zero_le _) rfl) (some ad) k c l rfl HK.out HRA.out (by have := HK.out; simp only [List.length_nil]; omega) HA1.out.size ?_)
    intro a' m' c' w1 hm hown hb1
    have e : m' = k := by rw [hm, HK.out]
    subst e
    have HO : Hid (w1.ownsRow W.heap.size 31 8 (.slice a' m' c') m' (mvals l)) := by
      unfold Hid
      simpa [← HK.out] using hown
    have HB : Hid (Below W.heap.size W w1) := HA1.out.grown hb1 HA1.out.size (fun k hk => by cases hk; exact Nat.le_refl _)
    clear hown hb1 hm
    go_wp2
    go_ret
    exact ⟨a', c', rfl, HO.out, HB.out⟩
end Go.Proofs.Ytodejneceedglaa
