import Derived.Test.YthhkpkfpifllkaaGreatK08
import Derived.Maps.OwnSet
import Derived.Laws.MakeOwn
namespace Go.Proofs.YthhkpkfpifllkaaGreat
open Go.RowKit Go.Maps
set_option linter.unusedVariables false

def addO (xs : List EntD) (e : EntD) : Option (List EntD) :=
  match xs.find? (fun x => x.seq == e.seq) with
  | none => some (xs ++ [e])
  | some x => if sameS x e then some xs else none
def onceS (l : List EntD) : Option (List EntD) := l.foldl (fun o e => o.bind fun xs => addO xs e) (some [])
theorem onceS_snoc (l : List EntD) (e : EntD) : onceS (l ++ [e]) = (onceS l).bind fun xs => addO xs e := by
  unfold onceS
  rw [List.foldl_append]
  rfl
theorem onceS_none (l r : List EntD) (h : onceS l = none) : onceS (l ++ r) = none := by
  unfold onceS at *
  rw [List.foldl_append, h]
  induction r with
  | nil => rfl
  | cons x r ih => exact ih
structure MapQ (D : DataW Unit) (xs : List EntD) : Prop where
  map : IsMap D
  has : ∀ n : Int, Maps.has D (.int .i64 n) = xs.any fun x => x.seq == n
  at_ : ∀ (i : Nat) x, xs[i]? = some x → ∀ z, D.atKey (.int .i64 x.seq) z = .lit (.int .i64 (i : Int))
  two : xs.Pairwise fun x y => x.seq ≠ y.seq
theorem isKey_int (n : Int) : WideAt.IsKeyLit (.int .i64 n) := trivial
theorem MapQ.nil : MapQ (.map []) [] := ⟨⟨[], rfl⟩, fun n => rfl, fun i x h => by simp at h, List.Pairwise.nil⟩
theorem MapQ.put {D : DataW Unit} {xs : List EntD} (h : MapQ D xs) {e : EntD} (hn : (xs.any fun x => x.seq == e.seq) = false) : MapQ (D.put (.int .i64 e.seq) (.lit (.int .i64 (xs.length : Int)))) (xs ++ [e]) := by
  have hne : ∀ x ∈ xs, x.seq ≠ e.seq := fun x hx z => by
    have := List.any_eq_false.1 hn x hx
    simp [z] at this
  refine ⟨?_, fun n => ?_, fun i x hi z => ?_, ?_⟩
  · obtain ⟨es, rfl⟩ := h.map
    exact ⟨_, rfl⟩
  · rw [List.any_append]
    by_cases q : n = e.seq
    · subst q
      rw [has_put_same h.map (isKey_int _)]
      simp
    · rw [has_put_other (by simpa using q), h.has]
      have : (e.seq == n) = false := by simpa using fun z => q z.symm
      simp [this]
  · by_cases q : i < xs.length
    · rw [List.getElem?_append_left q] at hi
      have := hne x (List.mem_of_getElem? hi)
      rw [atKey_put_other (by simpa using this)]
      exact h.at_ i x hi z
    · rw [List.getElem?_append_right (by omega)] at hi
      have hi0 : i - xs.length = 0 := by
        by_cases k : i - xs.length = 0
        · exact k
        · rw [List.getElem?_eq_none (by simp; omega)] at hi; cases hi
      rw [hi0] at hi
      simp only [List.getElem?_cons_zero, Option.some.injEq] at hi
      subst hi
      rw [atKey_put_same h.map (isKey_int _)]
      have : i = xs.length := by omega
      rw [this]
  · rw [List.pairwise_append]
    refine ⟨h.two, by simp, fun a ha b hb => ?_⟩
    simp only [List.mem_cons, List.not_mem_nil, or_false] at hb
    rw [hb]
    exact hne a ha
theorem MapQ.found {D : DataW Unit} {xs : List EntD} (h : MapQ D xs) {n : Int} (hn : (xs.any fun x => x.seq == n) = true) : ∃ (i : Nat) (x : EntD), xs[i]? = some x ∧ x.seq = n ∧ xs.find? (fun x => x.seq == n) = some x ∧ ∀ z, D.atKey (.int .i64 n) z = .lit (.int .i64 (i : Int)) := by
  cases hf : xs.find? (fun x => x.seq == n) with
  | none =>
    rw [List.find?_eq_none] at hf
    obtain ⟨x, hx, hs⟩ := List.any_eq_true.1 hn
    exact absurd hs (hf x hx)
  | some x =>
    have hs : x.seq = n := by simpa using List.find?_some hf
    obtain ⟨i, hi⟩ := List.getElem?_of_mem (List.mem_of_find?_eq_some hf)
    exact ⟨i, x, hi, hs, rfl, fun z => by rw [← hs]; exact h.at_ i x hi z⟩
theorem addO_new {xs : List EntD} {e : EntD} (hn : (xs.any fun x => x.seq == e.seq) = false) : addO xs e = some (xs ++ [e]) := by
  have : xs.find? (fun x => x.seq == e.seq) = none := by
    rw [List.find?_eq_none]
    exact fun x hx => by simpa using List.any_eq_false.1 hn x hx
  unfold addO
  rw [this]
theorem addO_old {xs : List EntD} {e x : EntD} (hf : xs.find? (fun x => x.seq == e.seq) = some x) : addO xs e = if sameS x e then some xs else none := by
  unfold addO
  rw [hf]
structure RdL3 (w : World) (a : Option Addr) (cap : Nat) (xs : List EntD) : Prop where
  cap : xs.length ≤ cap ∧ cap ≤ maxLen
  at_ : xs = [] ∨ ∃ b off, a = some ⟨b, off, none⟩ ∧ ∀ (i : Nat) x, xs[i]? = some x → ∀ (j : Nat) u, x.cells.toList[j]? = some u → w.cell? ⟨b, off + i * 7 + j, none⟩ = some u
  ok : ∀ x ∈ xs, EntD.Ok w x
theorem RdL3.later {w w' : World} {a : Option Addr} {cap : Nat} {xs : List EntD} (h : RdL3 w a cap xs) (hb : Below w.heap.size w w') : RdL3 w' a cap xs := by
  refine ⟨h.cap, ?_, fun x hx => (h.ok x hx).later hb⟩
  rcases h.at_ with h1 | ⟨b, off, rfl, hc⟩
  · exact .inl h1
  · exact .inr ⟨b, off, rfl, fun i x hi j u hj => by rw [hb.cell (p := ⟨b, off + i * 7 + j, none⟩) (World.block_lt_of_cell? w _ (hc i x hi j u hj))]; exact hc i x hi j u hj⟩
end Go.Proofs.YthhkpkfpifllkaaGreat

namespace Go.Proofs.YthhkpkfpifllkaaGreat
open Go.RowKit Go.Maps
set_option linter.unusedVariables false

theorem und_int3 : Tryz.prog.underlying 3 = some (.int .i64) := by kernel_rfl
theorem und_mii : Tryz.prog.underlying 162 = some (.map 3 3) := by kernel_rfl
theorem keyed3 : Keyed Tryz.prog 3 := int_keyed und_int3

theorem mkmap3 (w : World) (n : Int) : (Instr.makeMap 162 (some (.int .i64 n))).run Tryz.prog w = .ok (.map (some w.heap.size)) (w.alloc (.map #[] 0)) := by
  simp [Instr.makeMap, run_underlying und_mii, asInt, asIntOf, Result.andThen]
theorem zero3 (w : World) : (zeroValue 3).run Tryz.prog w = .ok (.int .i64 0) w := by kernel_rfl
theorem wf3 {n : Int} (h0 : 0 ≤ n) (h1 : n ≤ 17592186044431) : (Lit.int .i64 n).wf = true := by
  have e1 : IntKind.i64.min = -9223372036854775808 := by decide
  have e2 : IntKind.i64.max = 9223372036854775807 := by decide
  simp only [Lit.wf, e1, e2, Bool.and_eq_true, decide_eq_true_eq]
  omega
theorem key3 {n : Int} (h0 : 0 ≤ n) (h1 : n ≤ 17592186044431) : keyOf Tryz.prog 3 (.int .i64 n) = some (.int .i64 n) := keyOf_int_mk und_int3 (wf3 h0 h1)
theorem EntD.cells_len (x : EntD) : x.cells.toList.length = 7 := rfl
theorem evals_cons (y : EntD) (ys : List EntD) : evals (y :: ys) = y.cells.toList ++ evals ys := by simp [evals]
theorem evals_len (xs : List EntD) : (evals xs).length = xs.length * 7 := by
  induction xs with
  | nil => rfl
  | cons y ys ih => rw [evals_cons, List.length_append, ih, EntD.cells_len, List.length_cons]; omega
theorem evals_at {xs : List EntD} {i : Nat} {x : EntD} (h : xs[i]? = some x) {j : Nat} {u : Value} (hj : x.cells.toList[j]? = some u) : (evals xs)[i * 7 + j]? = some u := by
  have j7 : j < 7 := by have := (List.getElem?_eq_some_iff.1 hj).1; rwa [EntD.cells_len] at this
  induction xs generalizing i with
  | nil => simp at h
  | cons y ys ih =>
    rw [evals_cons]
    cases i with
    | zero =>
      simp only [List.getElem?_cons_zero, Option.some.injEq] at h
      subst h
      rw [List.getElem?_append_left (by rw [EntD.cells_len]; omega), Nat.zero_mul, Nat.zero_add]
      exact hj
    | succ i =>
      rw [List.getElem?_append_right (by rw [EntD.cells_len]; omega), EntD.cells_len]
      have : (i + 1) * 7 + j - 7 = i * 7 + j := by omega
      rw [this]
      exact ih (by simpa using h)
theorem row_cells3 {w : World} {B c : Nat} {a : Option Addr} {xs : List EntD} (h : w.ownsRow B 84 7 (.slice a xs.length c) xs.length (evals xs)) {i : Nat} {x : EntD} (hi : xs[i]? = some x) : ∃ g, a = some ⟨g, 0, none⟩ ∧ xs.length ≤ c ∧ c ≤ maxLen ∧ ∀ (j : Nat) u, x.cells.toList[j]? = some u → w.cell? ⟨g, i * 7 + j, none⟩ = some u := by
  have il := (List.getElem?_eq_some_iff.1 hi).1
  rcases h.2 with ⟨_, h2⟩ | ⟨g, cap, cur, h1, h2, h3, h4, h5, h6, h7⟩
  · omega
  · simp only [Value.slice.injEq] at h1
    obtain ⟨rfl, _, rfl⟩ := h1
    refine ⟨g, rfl, h4, h5, fun j u hj => ?_⟩
    have hv := evals_at hi hj
    have hlt : i * 7 + j < xs.length * 7 := by
      have := (List.getElem?_eq_some_iff.1 hv).1
      rwa [evals_len] at this
    rw [← h7, List.getElem?_take_of_lt hlt] at hv
    have e : cur[i * 7 + j]? = some u := by simpa using hv
    simp [World.cell?, h3, e]
theorem once_none (r : List EntD) : r.foldl (fun o e => o.bind fun xs => addO xs e) (none : Option (List EntD)) = none := by
  induction r with
  | nil => rfl
  | cons x r ih => exact ih
theorem once_mem (l : List EntD) : ∀ (acc xs : List EntD), l.foldl (fun o e => o.bind fun xs => addO xs e) (some acc) = some xs → ∀ x ∈ xs, x ∈ acc ∨ x ∈ l := by
  induction l with
  | nil => intro acc xs h; cases h; exact fun x hx => .inl hx
  | cons e r ih =>
    intro acc xs h x hx
    have h2 : r.foldl (fun o e => o.bind fun xs => addO xs e) (addO acc e) = some xs := h
    cases ha : addO acc e with
    | none => rw [ha, once_none] at h2; cases h2
    | some ys =>
      rw [ha] at h2
      rcases ih ys xs h2 x hx with k | k
      · unfold addO at ha
        split at ha
        · cases ha
          rcases List.mem_append.1 k with k | k
          · exact .inl k
          · simp only [List.mem_cons, List.not_mem_nil, or_false] at k
            exact .inr (by rw [k]; exact List.mem_cons_self)
        · split at ha
          · cases ha; exact .inl k
          · cases ha
      · exact .inr (List.mem_cons_of_mem _ k)
theorem onceS_mem {l xs : List EntD} (h : onceS l = some xs) : ∀ x ∈ xs, x ∈ l := fun x hx => (once_mem l [] xs h x hx).resolve_left (by simp)
theorem wpl_append_ent {w : World} {N : Nat} {v : Value} {xs : List EntD} {ops : Array Oper} {rest : List Oper} {o : Oper} {a : Act} {Q : Exit → Act → World → Prop} {x : EntD} (hgd : o.guard = none) (s y : Operand)
    (ho : o.op = .call { callee := .builtin .append, args := #[s, y], argTypes := #[28, 28] })
    (hs : a.eval s = v) (hr : w.ownsRow N 84 7 v xs.length (evals xs)) (ad : Addr) (hy : a.eval y = .slice (some ad) 1 1) (hc : ∀ j u, x.cells.toList[j]? = some u → w.cell? (ad.add j) = some u) (h1 : ∀ u ∈ x.cells.toList, u.oneCell' = true) (hn : (xs.length + 1) * 104 ≤ 140737488355328) (hN : N ≤ w.heap.size)
    (h : ∀ a' c' w', w'.ownsRow N 84 7 (.slice a' (xs ++ [x]).length c') (xs ++ [x]).length (evals (xs ++ [x])) → w.grownBy w' v.ownBlock → wpList Tryz.prog ops Q rest (a.put o.dst (.slice a' (xs ++ [x]).length c')) w') : wpList Tryz.prog ops Q (o :: rest) a w := by
  refine wpList_plain hgd fun K' hK' => ?_
  obtain ⟨v', w', hrn, h1', h2, h3⟩ := run_append_ent (ty := o.type) hr ad hc h1 hn hN
  obtain ⟨a', c', rfl⟩ := rows_form3 h1'
  unfold Oper.wp execOp
  rw [ho]
  simp only [resolve, invoke, builtin, Sem.run_bind, Sem.run_pure, Result.andThen_ok, List.map_toArray, List.map_cons, List.map_nil, hs, hy, hrn]
  exact hK' _ _ (h a' c' w' h1' h2)
structure Oc (W : World) (l : List EntD) (mb : Nat) (wr : World) (k : Nat) (xs : List EntD) (v : Value) : Prop where
  done : onceS (l.take k) = some xs
  row : wr.ownsRow W.heap.size 84 7 v xs.length (evals xs)
  map : ∃ n D, n ≤ k ∧ wr.ownsMap Tryz.prog 3 (plainElem Tryz.prog 3) mb n D ∧ MapQ D xs
  below : Below W.heap.size W wr
  few : xs.length ≤ k
  new : W.heap.size ≤ mb

theorem Oc.ne {W wr : World} {l : List EntD} {mb k : Nat} {xs : List EntD} {v : Value} (h : Oc W l mb wr k xs v) : v.ownBlock ≠ some mb := fun z => by
  obtain ⟨n, D, hn, hm, hq⟩ := h.map
  obtain ⟨es, clock, hb, _⟩ := hm
  rcases h.row.2 with ⟨h1, _⟩ | ⟨g, cap, cur, h1, _, h3, _⟩
  · rw [h1] at z; cases z
  · rw [h1] at z
    cases z
    rw [h3] at hb
    cases hb
theorem ebox_ne {X : World} {q mb n : Nat} {e : EntD} {D : DataW Unit} {R : Value → Option (DataW Unit × List MemPlace)} (h : EBox X q e) (hm : X.ownsMap Tryz.prog 3 R mb n D) : q ≠ mb := fun z => by
  obtain ⟨es, clock, hb, _⟩ := hm
  unfold EBox at h
  rw [z, hb] at h
  cases h
theorem Oc.later {W wr wr' : World} {l : List EntD} {mb k : Nat} {xs : List EntD} {v : Value} (h : Oc W l mb wr k xs v) (b : Below wr.heap.size wr wr') : Oc W l mb wr' k xs v := by
  obtain ⟨n, D, hn, hm, hq⟩ := h.map
  exact ⟨h.done, row_same h.row (fun g hg => b.block g (h.row.lt g hg).2), ⟨n, D, hn, hm.kept (row := none) ⟨b.os, b.tape, b.output, b.size, fun i hi _ => b.block i hi⟩ (by simp), hq⟩, h.below.trans (b.mono h.below.size), h.few, h.new⟩
set_option maxRecDepth 100000 in
set_option maxHeartbeats 4000000 in
theorem once_any {W : World} {a : Option Addr} {cap : Nat} {l : List EntD} (hr : RdL3 W a cap l) (hl : l.length ≤ 1353245080338) (hs : ∀ x ∈ l, 0 ≤ x.seq ∧ x.seq ≤ 17592186044431) :
    Calls Tryz.prog 79 #[.slice a l.length cap] W fun r W' => Below W.heap.size W W' ∧ (onceS l = none → r = .returned (.tuple #[.slice none 0 0, .int .i64 31])) ∧ (∀ xs, onceS l = some xs → ∃ a' c', r = .returned (.tuple #[.slice a' xs.length c', .int .i64 0]) ∧ W'.ownsRow W.heap.size 84 7 (.slice a' xs.length c') xs.length (evals xs)) := by
  obtain ⟨N, hN⟩ : ∃ N, N = l.length := ⟨_, rfl⟩
  rw [← hN] at hl ⊢
  have HN := Lib.hid hN
  have HR := Lib.hid hr
  have HS := Lib.hid hs
  have hmm := mkmap3 W (N : Int)
  obtain ⟨i0, hi0, hz0, hz1, hz2⟩ := info_parts info_ent3
  obtain ⟨W2, hms, own2, gr2⟩ := run_make_own (P := Tryz.prog) (W.alloc (.map #[] 0)) W.heap.size 28 84 i0 _ 7 und_ents3 hi0 hz0 hz1 .i64 .i64 N (by rw [hz2]; omega) (by unfold maxLen; omega) (by simp)
  have A1 := (Below.refl W.heap.size W).alloc (Nat.le_refl _) (.map #[] 0)
  have H2 : Hid (Oc W l W.heap.size W2 0 [] (.slice (some ⟨W.heap.size + 1, 0, none⟩) 0 N)) := by
    have own2' : W2.ownsRow W.heap.size 84 7 (.slice (some ⟨W.heap.size + 1, 0, none⟩) 0 N) 0 [] := by simpa using own2
    refine ⟨rfl, own2', ⟨0, .map [], Nat.le_refl _, (World.ownsMap_made W Tryz.prog 3 (plainElem Tryz.prog 3)).kept gr2 (by simp), MapQ.nil⟩, A1.grown gr2 A1.size (fun k hk => by cases hk), Nat.le_refl _, Nat.le_refl _⟩
  clear hN hr hs own2 gr2 A1 hi0 hz0 hz1 hz2
  have hsz : (W.alloc (.map #[] 0)).heap.size = W.heap.size + 1 := by simp
  rw [hsz] at hms
  clear hsz
  go_enter Tryz.func79, Tryz.ntmps79
  go_wp2
  go_loopw [5, 18] (fun o i wr => ∃ (k : Nat) (xs : List EntD) (a' : Option Addr) (c' : Nat), k ≤ N ∧ i = .int .i64 (k : Int) ∧ o = .slice a' xs.length c' ∧ Hid (Oc W l W.heap.size wr k xs (.slice a' xs.length c'))) (fun _ i _ => N - (intOf i).toNat)
  case atStart => exact ⟨0, [], _, _, Nat.zero_le _, rfl, rfl, H2⟩
  case round =>
    clear hmm hms H2
    obtain ⟨k, xs, a', c', hk, rfl, rfl, HO⟩ := hrel
    have k0 : (0 : Int) ≤ (k : Int) := by omega
    by_cases hlt : k < N
    · have hlt2 : (k : Int) < (N : Int) := by omega
      obtain ⟨e, he⟩ : ∃ e, l[k]? = some e := ⟨l[k]'(by rw [← HN.out]; exact hlt), List.getElem?_eq_getElem _⟩
      have hrd := HR.out.later HO.out.below
      have hok := hrd.ok e (List.mem_of_getElem? he)
      rcases hrd.at_ with h0 | ⟨b, off, rfl, hc⟩
      · rw [h0] at he; simp at he
      have d0 := hc k e he 0 e.vr rfl
      have d1 := hc k e he 1 (.int .i64 e.fam) rfl
      have d2 := hc k e he 2 e.vq rfl
      have d3 := hc k e he 3 (.int .i64 e.ts) rfl
      have d4 := hc k e he 4 (.int .i64 e.seq) rfl
      have d5 := hc k e he 5 (.int .i64 e.kind) rfl
      have d6 := hc k e he 6 e.vv rfl
      simp only [Nat.add_zero] at d0
      have HE := Lib.hid he
      have HOk := Lib.hid hok
      have A5 := (Below.refl wr.heap.size wr).alloc (Nat.le_refl _) (.cells e.cells 84)
      have eb := EBox.new wr e
      obtain ⟨X, hX⟩ : ∃ X, X = wr.alloc (.cells e.cells 84) := ⟨_, rfl⟩
      rw [← hX] at A5 eb
      have HEb := Lib.hid eb
      have HO2 := Lib.hid (HO.out.later A5)
      have HOk2 := Lib.hid (hok.later A5)
      obtain ⟨q, hq⟩ : ∃ q, q = wr.heap.size := ⟨_, rfl⟩
      have hq' := hq.symm
      rw [← hq] at HEb
      unfold EntD.cells at hX
      obtain ⟨_, a1, n1, e1, -⟩ := hok.1
      obtain ⟨_, a2, n2, e2, -⟩ := hok.2.1
      obtain ⟨_, a3, n3, e3, -⟩ := hok.2.2
      rw [e1] at d0
      rw [e2] at d2
      rw [e3] at d6
      rw [e1, e2, e3] at hX
      have HX := Lib.hid hX
      have HXe : Hid (e.cells = #[.slice a1 e.row.length n1, .int .i64 e.fam, .slice a2 e.qual.length n2, .int .i64 e.ts, .int .i64 e.seq, .int .i64 e.kind, .slice a3 e.val.length n3]) := by unfold Hid EntD.cells; rw [e1, e2, e3]
      have HF := Lib.hid (And.intro e1 (And.intro e2 e3))
      clear hrd hc he hok A5 eb hX hq e1 e2 e3
      go_upto_region 6 with fail
      rw [← HX.out]
      clear HX d0 d1 d2 d3 d4 d5 d6 HO HOk
      have x4 := HEb.out.seq
      obtain ⟨n, D, hnk, hm, hmq⟩ := HO2.out.map
      have HM := Lib.hid hm
      have HMQ := Lib.hid hmq
      have HSq := Lib.hid (HS.out e (List.mem_of_getElem? HE.out))
      clear hm hmq
      go_wp2_with (at_lookup; refine wpList_lookup_own_ok_int (H := Unit) X rfl _ _ 162 rfl 3 3 .i64 keyed3 und_mii und_int3 (zero3 X) W.heap.size n D rfl HM.out _ (.int .i64 e.seq) rfl (key3 HSq.out.1 HSq.out.2) ?_)
      intro c hat hwc
      rw [HMQ.out.has]
      by_cases hany : (xs.any fun x => x.seq == e.seq) = true
      · obtain ⟨i, x, hxi, hxs, hfind, hat2⟩ := HMQ.out.found hany
        have hci : c = (i : Int) := by
          have := hat.symm.trans (hat2 _)
          simpa using this
        subst hci
        rw [hany]
        have HXi := Lib.hid (And.intro hxi hfind)
        clear hat hwc hat2 hxs hfind hany hxi
        go_upto_region 10 with fail
        have D0 : Below X.heap.size X X.drew := (Below.refl _ _).drew
        obtain ⟨g, rfl, lc, cm, hcell⟩ := row_cells3 (HO2.out.later D0).row HXi.out.1
        have hxl : x ∈ l := List.mem_of_mem_take (onceS_mem HO2.out.done x (List.mem_of_getElem? HXi.out.1))
        have okx : EntD.Ok X.drew x := (HR.out.later (HO2.out.later D0).below).ok x hxl
        have hil := (List.getElem?_eq_some_iff.1 HXi.out.1).1
        have i1 : (i : Int) < (xs.length : Int) := by omega
        have i0' : (0 : Int) ≤ (i : Int) := by omega
        have y0 := hcell 0 x.vr rfl
        have y1 := hcell 1 (.int .i64 x.fam) rfl
        have y2 := hcell 2 x.vq rfl
        have y3 := hcell 3 (.int .i64 x.ts) rfl
        have y4 := hcell 4 (.int .i64 x.seq) rfl
        have y5 := hcell 5 (.int .i64 x.kind) rfl
        have y6 := hcell 6 x.vv rfl
        simp only [Nat.add_zero] at y0
        have eb2 := HEb.out.later D0
        have x0 := EBox.vr eb2
        have x1 := EBox.fam eb2
        have x2 := EBox.vq eb2
        have x3 := EBox.ts eb2
        have x4' := EBox.seq eb2
        have x5 := EBox.kind eb2
        have x6 := EBox.vv eb2
        have HCs := Lib.hid (same3_any okx (HOk2.out.later D0))
        obtain ⟨sB, hsB⟩ : ∃ sB, sB = sameS x e := ⟨_, rfl⟩
        rw [← hsB] at HCs
        have HSB := Lib.hid hsB
        have HKeep : Hid (∀ Z, Below X.drew.heap.size X.drew Z → (Z.cell? ⟨g, i * 7, none⟩ = some x.vr ∧ Z.cell? ⟨g, i * 7 + 1, none⟩ = some (.int .i64 x.fam) ∧ Z.cell? ⟨g, i * 7 + 2, none⟩ = some x.vq ∧ Z.cell? ⟨g, i * 7 + 3, none⟩ = some (.int .i64 x.ts) ∧ Z.cell? ⟨g, i * 7 + 4, none⟩ = some (.int .i64 x.seq) ∧ Z.cell? ⟨g, i * 7 + 5, none⟩ = some (.int .i64 x.kind) ∧ Z.cell? ⟨g, i * 7 + 6, none⟩ = some x.vv) ∧ EBox Z q e) := fun Z b => by
          refine ⟨⟨?_, ?_, ?_, ?_, ?_, ?_, ?_⟩, eb2.later b⟩
          all_goals (rw [b.cell (World.block_lt_of_cell? _ _ (by assumption))]; assumption)
        unfold EntD.cells at HCs
        have HD0 := Lib.hid D0
        clear hcell okx hsB eb2 x4 hxl D0
        go_region_held3 (fun Z => (Z.cell? ⟨g, i * 7, none⟩ = some x.vr ∧ Z.cell? ⟨g, i * 7 + 1, none⟩ = some (.int .i64 x.fam) ∧ Z.cell? ⟨g, i * 7 + 2, none⟩ = some x.vq ∧ Z.cell? ⟨g, i * 7 + 3, none⟩ = some (.int .i64 x.ts) ∧ Z.cell? ⟨g, i * 7 + 4, none⟩ = some (.int .i64 x.seq) ∧ Z.cell? ⟨g, i * 7 + 5, none⟩ = some (.int .i64 x.kind) ∧ Z.cell? ⟨g, i * 7 + 6, none⟩ = some x.vv) ∧ Z.cell? ⟨q, 0, none⟩ = some e.vr ∧ Z.cell? ⟨q, 1, none⟩ = some (.int .i64 e.fam) ∧ Z.cell? ⟨q, 2, none⟩ = some e.vq ∧ Z.cell? ⟨q, 3, none⟩ = some (.int .i64 e.ts) ∧ Z.cell? ⟨q, 4, none⟩ = some (.int .i64 e.seq) ∧ Z.cell? ⟨q, 5, none⟩ = some (.int .i64 e.kind) ∧ Z.cell? ⟨q, 6, none⟩ = some e.vv) (first | exact ⟨v3.1, EBox.vr v3.2, EBox.fam v3.2, EBox.vq v3.2, EBox.ts v3.2, EBox.seq v3.2, EBox.kind v3.2, EBox.vv v3.2⟩ | exact ⟨⟨y0, y1, y2, y3, y4, y5, y6⟩, x0, x1, x2, x3, x4', x5, x6⟩)
          ((go_at_call 108; refine Calls.mono HCs.out ?_; rintro z2 X2 ⟨rfl, b2⟩; have v3 := HKeep.out X2 b2))
        have HB2 := Lib.hid (HD0.out.trans (b2.mono HD0.out.size))
        clear b2 v3 x0 x1 x2 x3 x4' x5 x6 y0 y1 y2 y3 y4 y5 y6 HCs HKeep
        have hsnoc : onceS (l.take (k + 1)) = if sB then some xs else none := by
          rw [List.take_add_one, HE.out]
          show onceS (l.take k ++ [e]) = _
          rw [onceS_snoc, HO2.out.done, HSB.out]
          exact addO_old HXi.out.2
        have HSn := Lib.hid hsnoc
        clear hsnoc
        cases sB with
        | true =>
          have HO4 : Hid (Oc W l W.heap.size X2 (k + 1) xs (.slice (some ⟨g, 0, none⟩) xs.length c')) := by
            have o := HO2.out.later HB2.out
            obtain ⟨n', D', hn', hm', hq'⟩ := o.map
            exact ⟨HSn.out, o.row, ⟨n', D', by omega, hm', hq'⟩, o.below, Nat.le_succ_of_le o.few, o.new⟩
          go_wp2
          go_roundw
          case rel => exact ⟨k + 1, xs, _, c', by omega, by go_num, rfl, HO4⟩
          case measure => simp only [intOf]; omega
        | false =>
          go_wp2
          go_ret2
          have hno : onceS l = none := by
            rw [← List.take_append_drop (k + 1) l]
            exact onceS_none _ _ HSn.out
          refine ⟨(HO2.out.later HB2.out).below, fun _ => rfl, fun ys hy => ?_⟩
          rw [hno] at hy
          cases hy
      · have hany2 : (xs.any fun x => x.seq == e.seq) = false := by simpa using hany
        rw [hany2]
        have HAny := Lib.hid hany2
        clear hat hwc hany hany2
        have hnm : n < maxLen := by unfold maxLen; omega
        have hfew := HO2.out.few
        have hvl : plainElem (H := Unit) Tryz.prog 3 (.int .i64 (xs.length : Int)) = some (.lit (.int .i64 (xs.length : Int)), []) := plainElem_int und_int3 (wf3 (by omega) (by omega))
        have HVl := Lib.hid hvl
        clear hvl
        go_wp2_with (refine wpList_mapUpdate_own (H := Unit) X rfl _ _ _ 162 rfl 3 3 keyed3 und_mii (plainElem Tryz.prog 3) W.heap.size n D rfl HM.out hnm _ _ (.int .i64 e.seq) rfl rfl (key3 HSq.out.1 HSq.out.2) _ _ HVl.out ?_)
        intro X2 hm2 hg2
        have hqm := ebox_ne HEb.out HM.out
        have eb2 : EBox X2 q e := (hg2.block q (Array.getElem?_eq_some_iff.1 HEb.out).1 (fun z => by cases z; exact hqm rfl)).trans HEb.out
        have HO3 : Hid (Oc W l W.heap.size X k xs (.slice a' xs.length c')) := HO2
        have row2 : X2.ownsRow W.heap.size 84 7 (.slice a' xs.length c') xs.length (evals xs) := row_same HO2.out.row (fun g hg => hg2.block g (HO2.out.row.lt g hg).2 (fun z => by cases z; exact HO2.out.ne hg))
        have x0 := EBox.vr eb2
        have x1 := EBox.fam eb2
        have x2 := EBox.vq eb2
        have x3 := EBox.ts eb2
        have x4' := EBox.seq eb2
        have x5 := EBox.kind eb2
        have x6 := EBox.vv eb2
        rw [HF.out.1] at x0
        rw [HF.out.2.1] at x2
        rw [HF.out.2.2] at x6
        have A3 := (Below.refl X2.heap.size X2).alloc (Nat.le_refl _) (.cells #[.slice a1 e.row.length n1, .int .i64 e.fam, .slice a2 e.qual.length n2, .int .i64 e.ts, .int .i64 e.seq, .int .i64 e.kind, .slice a3 e.val.length n3] 84)
        have hent : ∀ j u, e.cells.toList[j]? = some u → (X2.alloc (.cells #[.slice a1 e.row.length n1, .int .i64 e.fam, .slice a2 e.qual.length n2, .int .i64 e.ts, .int .i64 e.seq, .int .i64 e.kind, .slice a3 e.val.length n3] 84)).cell? ((⟨X2.heap.size, 0, none⟩ : Addr).add j) = some u := by
          rw [← HXe.out]
          exact ent_new X2 e
        have hone : ∀ u ∈ e.cells.toList, u.oneCell' = true := by
          rw [HXe.out]
          intro u hu
          simp at hu
          rcases hu with rfl | rfl | rfl | rfl | rfl | rfl | rfl <;> rfl
        have row3 := row_same row2 (fun g hg => A3.block g (row2.lt g hg).2)
        have szB : W.heap.size ≤ X2.heap.size := Nat.le_trans HO2.out.below.size hg2.size
        have HRow := Lib.hid row3
        have HEnt := Lib.hid hent
        have HOne := Lib.hid hone
        have HA3 := Lib.hid A3
        have HM2 := Lib.hid hm2
        have HG2 := Lib.hid hg2
        have HSz := Lib.hid szB
        clear row2 row3 hent hone A3 hm2 hg2 szB eb2 hqm x4
        go_wp2_with (at_builtin; refine wpl_append_ent (x := e) (xs := xs) rfl _ _ rfl rfl HRow.out ⟨X2.heap.size, 0, none⟩ rfl HEnt.out HOne.out (by omega) (by have := HSz.out; simp; omega) ?_)
        intro a4 c4 X4 row4 gr4
        have HO4 : Hid (Oc W l W.heap.size X4 (k + 1) (xs ++ [e]) (.slice a4 (xs ++ [e]).length c4)) := by
          have o := HO2.out
          have A := HA3.out
          have hne := o.ne
          have hB2 : Below W.heap.size W X2 := o.below.grown HG2.out o.below.size (fun g z => by cases z; exact Nat.le_refl _)
          have hB3 := hB2.trans (A.mono hB2.size)
          refine ⟨?_, by rw [List.length_append]; exact row4, ⟨n + 1, _, by omega, (HM2.out.kept (row := none) ⟨A.os, A.tape, A.output, A.size, fun i hi _ => A.block i hi⟩ (by simp)).kept gr4 (fun z => hne z.symm), HMQ.out.put HAny.out⟩, hB3.grown gr4 hB3.size (fun g hg => (o.row.lt g hg).1), by rw [List.length_append]; simp only [List.length_cons, List.length_nil]; omega, o.new⟩
          rw [List.take_add_one, HE.out]
          show onceS (l.take k ++ [e]) = _
          rw [onceS_snoc, o.done]
          exact addO_new HAny.out
        clear row4 gr4 HRow HEnt HOne HA3 HM2 HG2 HSz x0 x1 x2 x3 x4' x5 x6
        go_wp2
        go_roundw
        case rel => exact ⟨k + 1, xs ++ [e], a4, c4, by omega, by go_num, by simp, HO4⟩
        case measure => simp only [intOf]; omega
    · have hge : ¬ (k : Int) < (N : Int) := by omega
      have hk2 : k = N := by omega
      go_wp2
      go_ret2
      have h := HO.out
      have hd := h.done
      rw [hk2, HN.out, List.take_length] at hd
      refine ⟨h.below, (fun z => by rw [hd] at z; cases z), fun ys hy => ?_⟩
      rw [hd] at hy
      cases hy
      exact ⟨a', c', rfl, h.row⟩
end Go.Proofs.YthhkpkfpifllkaaGreat

namespace Go.Proofs.YthhkpkfpifllkaaGreat
open Go.RowKit Go.Maps
set_option linter.unusedVariables false

set_option maxRecDepth 100000 in
set_option maxHeartbeats 1000000 in
theorem copied3_any {v : Value} {bs : List Nat} {w : World} (hr : Rd w v bs) (hl : bs.length ≤ 140737488355328) :
    Calls Tryz.prog 74 #[v] w fun e w' => ∃ a m c, e = .returned (.slice a m c) ∧ Own w' w.heap.size (.slice a m c) m bs ∧ Below w.heap.size w w' := by
  obtain ⟨a, n, cap, rfl⟩ := rd_slice hr
  obtain ⟨hn, hle, hm, hl48⟩ := rd_lens hr
  rw [← hn] at hl
  clear hn
  go_enter Tryz.func74, Tryz.ntmps74
  go_wp2_with (at_builtin; refine wpList_append_at rfl _ _ rfl w.heap.size none 0 0 [] rfl ⟨rfl, World.ownsRow_nil _ _ _ _⟩ a n cap bs rfl hr (by omega) (Nat.le_refl _) ?_; intro a5 m5 c5 w5 own5 hb5)
  go_ret
  exact ⟨a5, m5, c5, rfl, by simpa using own5, hb5⟩
def Shrt (e : EntD) : Prop := e.row.length ≤ 140737488355328 ∧ e.qual.length ≤ 140737488355328 ∧ e.val.length ≤ 140737488355328
set_option maxRecDepth 100000 in
set_option maxHeartbeats 8000000 in
theorem cloneR_own {w : World} {e : EntD} (hx : EntD.Ok w e) (hl : Shrt e) :
    Calls Tryz.prog 35 #[.agg e.cells] w fun z w' => ∃ x : EntD, z = .returned (.agg x.cells) ∧ EntD.Same x e ∧ EOk (fun i => w.heap.size ≤ i) w' x ∧ O3 w' w.heap.size x ∧ Below w.heap.size w w' := by
  have A1 := (Below.refl w.heap.size w).alloc (Nat.le_refl _) (.cells e.cells 84)
  have bx0 := EBox.new w e
  obtain ⟨zc, hz⟩ : ∃ zc : Array Value, zc = #[.slice none 0 0, .int .i64 0, .slice none 0 0, .int .i64 0, .int .i64 0, .int .i64 0, .slice none 0 0] := ⟨_, rfl⟩
  have A2 := A1.alloc A1.size (.cells zc 84)
  have bx := bx0.later ((Below.refl (w.alloc (.cells e.cells 84)).heap.size _).alloc (Nat.le_refl _) (.cells zc 84))
  have rz : ((w.alloc (.cells e.cells 84)).alloc (.cells zc 84)).heap[w.heap.size + 1]? = some (.cells zc 84 (0, 0)) := by
    show ((w.alloc (.cells e.cells 84)).heap.push _)[w.heap.size + 1]? = _
    have e1 : w.heap.size + 1 = (w.alloc (.cells e.cells 84)).heap.size := (World.size_alloc w _).symm
    rw [e1]
    exact Array.getElem?_push_size
  obtain ⟨W, hW⟩ : ∃ W, W = (w.alloc (.cells e.cells 84)).alloc (.cells zc 84) := ⟨_, rfl⟩
  rw [← hW] at A2 bx rz
  have HW : Hid (W = _) := hW
  have hwl : w.heap.size + 1 < W.heap.size := by rw [hW]; simp
  clear hW A1 bx0
  have HK : Hid (∀ wx, Below w.heap.size w wx → EntD.Ok wx e) := fun wx b => hx.later b
  have HRZ := Lib.hid rz
  have HBX := Lib.hid bx
  have HA : Hid (Below w.heap.size w W) := A2
  have HY : Hid (Bys e.row ∧ Bys e.qual ∧ Bys e.val) := ⟨hx.1.1, hx.2.1.1, hx.2.2.1⟩
  have HL : Hid (Shrt e) := hl
  obtain ⟨vr, fam, vq, ts, seq, kind, vv, row, qual, val⟩ := e
  subst hz
  simp only [EntD.cells] at *
  have C1 : Hid (∀ wx, Below w.heap.size w wx → Calls Tryz.prog 74 #[vr] wx _) := fun wx b => copied3_any (HK.out _ b).1 HL.out.1
  have C2 : Hid (∀ wx, Below w.heap.size w wx → Calls Tryz.prog 74 #[vq] wx _) := fun wx b => copied3_any (HK.out _ b).2.1 HL.out.2.1
  have C3 : Hid (∀ wx, Below w.heap.size w wx → Calls Tryz.prog 74 #[vv] wx _) := fun wx b => copied3_any (HK.out _ b).2.2 HL.out.2.2
  have y0 : W.cell? ⟨w.heap.size, 0, none⟩ = some vr := bx.vr
  clear A2 bx rz hl hx
  go_enter Tryz.func35, Tryz.ntmps35
  go_wp2_with fail
  rw [← HW.out]
  clear HW
  go_wp2_with fail
  refine Calls.mono (C1.out _ HA.out) ?_
  rintro e1 w1 ⟨a1, m1, c1, rfl, o1, b1⟩
  have B1 := Lib.hid (HA.out.trans (b1.mono HA.out.size))
  have bx1 := HBX.out.later b1
  have g0 := bx1.fzA 0
  have v0 := bx1.vr
  have HO1 := Lib.hid (And.intro o1 (And.intro b1 bx1))
  clear o1 b1 bx1 y0
  go_upto_region 2 with fail
  have bx1 := HO1.out.2.2.put0 (.slice a1 m1 c1)
  have B1' := B1.out.setCell (p := ⟨w.heap.size, 0, none⟩) (Nat.le_refl _) (.slice a1 m1 c1)
  have K1 : KpG (fun i => W.heap.size ≤ i) w1 (w1.setCell ⟨w.heap.size, 0, none⟩ (.slice a1 m1 c1)) := (KpG.refl _ w1).setCell (by omega) _ _
  have R1 := (Below.heap_setCell w1 ⟨w.heap.size, 0, none⟩ (.slice a1 m1 c1) (w.heap.size + 1) (by show w.heap.size + 1 ≠ w.heap.size; omega)).trans ((HO1.out.2.1.block _ hwl).trans HRZ.out)
  have S1 : (w1.setCell ⟨w.heap.size, 0, none⟩ (.slice a1 m1 c1)).heap.size = w1.heap.size := World.size_setCell _ _ _
  generalize w1.setCell ⟨w.heap.size, 0, none⟩ (.slice a1 m1 c1) = X1 at *
  have y2 := bx1.vq
  have H1 := Lib.hid (And.intro bx1 (And.intro B1' (And.intro K1 (And.intro R1 S1))))
  clear bx1 B1' K1 R1 S1 v0 g0
  go_wp2_with fail
  refine Calls.mono (C2.out _ H1.out.2.1) ?_
  rintro e2 w2 ⟨a2, m2, c2, rfl, o2, b2⟩
  have bx2 := H1.out.1.later b2
  have g2 := bx2.fzA 2
  have v2 := bx2.vq
  have B2 := Lib.hid (H1.out.2.1.trans (b2.mono H1.out.2.1.size))
  have HO2 := Lib.hid (And.intro o2 (And.intro b2 bx2))
  clear o2 b2 bx2 y2
  go_upto_region 3 with fail
  have bx2 := HO2.out.2.2.put2 (.slice a2 m2 c2)
  have B2' := B2.out.setCell (p := ⟨w.heap.size, 2, none⟩) (Nat.le_refl _) (.slice a2 m2 c2)
  have K2 : KpG (fun i => W.heap.size ≤ i) w2 (w2.setCell ⟨w.heap.size, 2, none⟩ (.slice a2 m2 c2)) := (KpG.refl _ w2).setCell (by omega) _ _
  have sW1 : W.heap.size ≤ X1.heap.size := by rw [H1.out.2.2.2.2]; exact HO1.out.2.1.size
  have R2 := (Below.heap_setCell w2 ⟨w.heap.size, 2, none⟩ (.slice a2 m2 c2) (w.heap.size + 1) (by show w.heap.size + 1 ≠ w.heap.size; omega)).trans ((HO2.out.2.1.block (w.heap.size + 1) (by omega)).trans H1.out.2.2.2.1)
  have S2 : (w2.setCell ⟨w.heap.size, 2, none⟩ (.slice a2 m2 c2)).heap.size = w2.heap.size := World.size_setCell _ _ _
  generalize w2.setCell ⟨w.heap.size, 2, none⟩ (.slice a2 m2 c2) = X2 at *
  have y6 := bx2.vv
  have H2 := Lib.hid (And.intro bx2 (And.intro B2' (And.intro K2 (And.intro R2 S2))))
  clear bx2 B2' K2 R2 S2 v2 g2
  go_wp2_with fail
  refine Calls.mono (C3.out _ H2.out.2.1) ?_
  rintro e3 w3 ⟨a3, m3, c3, rfl, o3, b3⟩
  have bx3 := H2.out.1.later b3
  have g6 := bx3.fzA 6
  have v6 := bx3.vv
  have B3 := Lib.hid (H2.out.2.1.trans (b3.mono H2.out.2.1.size))
  have HO3 := Lib.hid (And.intro o3 (And.intro b3 bx3))
  clear o3 b3 bx3 y6
  go_upto_region 4 with fail
  have sW2 : W.heap.size ≤ X2.heap.size := by rw [H2.out.2.2.2.2]; exact Nat.le_trans sW1 HO2.out.2.1.size
  have BF := HO3.out.2.2.put6 (.slice a3 m3 c3)
  have BW := B3.out.setCell (p := ⟨w.heap.size, 6, none⟩) (Nat.le_refl _) (.slice a3 m3 c3)
  have K3 : KpG (fun i => W.heap.size ≤ i) w3 (w3.setCell ⟨w.heap.size, 6, none⟩ (.slice a3 m3 c3)) := (KpG.refl _ w3).setCell (by omega) _ _
  have RZ := (Below.heap_setCell w3 ⟨w.heap.size, 6, none⟩ (.slice a3 m3 c3) (w.heap.size + 1) (by show w.heap.size + 1 ≠ w.heap.size; omega)).trans ((HO3.out.2.1.block (w.heap.size + 1) (by omega)).trans H2.out.2.2.2.1)
  generalize w3.setCell ⟨w.heap.size, 6, none⟩ (.slice a3 m3 c3) = WF at *
  obtain ⟨o1, b1, -⟩ := HO1.out
  obtain ⟨o2, b2, -⟩ := HO2.out
  obtain ⟨o3, b3, -⟩ := HO3.out
  have q1 := H1.out.2.2.2.2
  have q2 := H2.out.2.2.2.2
  have l1 : ∀ g, (Value.slice a1 m1 c1).ownBlock = some g → W.heap.size ≤ g ∧ g < w1.heap.size := fun g hg => o1.2.lt g hg
  have l2 : ∀ g, (Value.slice a2 m2 c2).ownBlock = some g → w1.heap.size ≤ g ∧ g < w2.heap.size := fun g hg => by have := o2.2.lt g hg; omega
  have l3 : ∀ g, (Value.slice a3 m3 c3).ownBlock = some g → w2.heap.size ≤ g ∧ g < w3.heap.size := fun g hg => by have := o3.2.lt g hg; omega
  have s1 : W.heap.size ≤ w1.heap.size := b1.size
  have s2 : X1.heap.size ≤ w2.heap.size := b2.size
  have s3 : X2.heap.size ≤ w3.heap.size := b3.size
  have k3 : ∀ g, W.heap.size ≤ g → g < w3.heap.size → WF.heap[g]? = w3.heap[g]? := fun g h h' => K3.block g h' h
  have k2 : ∀ g, W.heap.size ≤ g → g < w2.heap.size → WF.heap[g]? = w2.heap[g]? := fun g h h' => (k3 g h (by omega)).trans ((b3.block g (by omega)).trans (H2.out.2.2.1.block g h' h))
  have k1 : ∀ g, W.heap.size ≤ g → g < w1.heap.size → WF.heap[g]? = w1.heap[g]? := fun g h h' => (k2 g h (by omega)).trans ((b2.block g (by omega)).trans (H1.out.2.2.1.block g h' h))
  have p1 := (own_same o1 (fun g hg => k1 g (l1 g hg).1 (l1 g hg).2)).base (fun g hg => (l1 g hg).1) o1.len
  have p2 := (own_same o2 (fun g hg => k2 g (by have := l2 g hg; omega) (l2 g hg).2)).base (fun g hg => Nat.le_trans s1 (l2 g hg).1) o2.len
  have p3 := (own_same o3 (fun g hg => k3 g (by have := l3 g hg; omega) (l3 g hg).2)).base (fun g hg => Nat.le_trans s1 (Nat.le_trans (by omega) (l3 g hg).1)) o3.len
  have HE : Hid (EOk (fun i => W.heap.size ≤ i) WF ⟨.slice a1 m1 c1, fam, .slice a2 m2 c2, ts, seq, kind, .slice a3 m3 c3, row, qual, val⟩) := ⟨RdG.of_own p1 HY.out.1 (by have := HL.out.1; rw [p1.len]; simp only at this; omega) (fun i hi => hi), RdG.of_own p2 HY.out.2.1 (by have := HL.out.2.1; rw [p2.len]; simp only at this; omega) (fun i hi => hi), RdG.of_own p3 HY.out.2.2 (by have := HL.out.2.2; rw [p3.len]; simp only at this; omega) (fun i hi => hi)⟩
  have HO : Hid (O3 WF W.heap.size ⟨.slice a1 m1 c1, fam, .slice a2 m2 c2, ts, seq, kind, .slice a3 m3 c3, row, qual, val⟩) := by
    refine ⟨p1, p2, p3, fun g h k => ?_, fun g h k => ?_, fun g h k => ?_⟩
    · have := l1 g h; have := l2 g k; omega
    · have := l1 g h; have := l3 g k; omega
    · have := l2 g h; have := l3 g k; omega
  have HBW : Hid (Below w.heap.size w WF) := BW
  obtain ⟨y0', y1', y2', y3', y4', y5', y6'⟩ := (⟨BF.vr, BF.fam, BF.vq, BF.ts, BF.seq, BF.kind, BF.vv⟩ : _ ∧ _ ∧ _ ∧ _ ∧ _ ∧ _ ∧ _)
  simp only at y0' y1' y2' y3' y4' y5' y6'
  have z0 : WF.cell? ⟨w.heap.size + 1, 0, none⟩ = some (.slice none 0 0) := by simp [World.cell?, RZ]
  have f0 : WF.frozen? ⟨w.heap.size + 1, 0, none⟩ = false := by simp [World.frozen?, RZ]
  have z1 : WF.cell? ⟨w.heap.size + 1, 1, none⟩ = some (.int .i64 0) := by simp [World.cell?, RZ]
  have f1 : WF.frozen? ⟨w.heap.size + 1, 1, none⟩ = false := by simp [World.frozen?, RZ]
  have z2 : WF.cell? ⟨w.heap.size + 1, 2, none⟩ = some (.slice none 0 0) := by simp [World.cell?, RZ]
  have f2 : WF.frozen? ⟨w.heap.size + 1, 2, none⟩ = false := by simp [World.frozen?, RZ]
  have z3 : WF.cell? ⟨w.heap.size + 1, 3, none⟩ = some (.int .i64 0) := by simp [World.cell?, RZ]
  have f3 : WF.frozen? ⟨w.heap.size + 1, 3, none⟩ = false := by simp [World.frozen?, RZ]
  have z4 : WF.cell? ⟨w.heap.size + 1, 4, none⟩ = some (.int .i64 0) := by simp [World.cell?, RZ]
  have f4 : WF.frozen? ⟨w.heap.size + 1, 4, none⟩ = false := by simp [World.frozen?, RZ]
  have z5 : WF.cell? ⟨w.heap.size + 1, 5, none⟩ = some (.int .i64 0) := by simp [World.cell?, RZ]
  have f5 : WF.frozen? ⟨w.heap.size + 1, 5, none⟩ = false := by simp [World.frozen?, RZ]
  have z6 : WF.cell? ⟨w.heap.size + 1, 6, none⟩ = some (.slice none 0 0) := by simp [World.cell?, RZ]
  have f6 : WF.frozen? ⟨w.heap.size + 1, 6, none⟩ = false := by simp [World.frozen?, RZ]
  clear RZ BF K3 BW o1 o2 o3 b1 b2 b3 v6 g6 l1 l2 l3 k1 k2 k3 p1 p2 p3 q1 q2 s1 s2 s3 H1 H2 HO1 HO2 HO3 B1 B2 B3 C1 C2 C3 sW1 sW2 HK
  go_wp2
  refine bodyPost_ret (v := .agg #[.slice a1 m1 c1, .int .i64 fam, .slice a2 m2 c2, .int .i64 ts, .int .i64 seq, .int .i64 kind, .slice a3 m3 c3]) (by simp [results, Tryz.results35, go_sem, z0, z1, z2, z3, z4, z5, z6]) rfl ?_
  refine ⟨⟨.slice a1 m1 c1, fam, .slice a2 m2 c2, ts, seq, kind, .slice a3 m3 c3, row, qual, val⟩, rfl, ⟨rfl, rfl, rfl, rfl, rfl, rfl, rfl⟩, ?_, ?_, ?_⟩
  · refine (HE.out.kept ?_).mono (fun i hi => Nat.le_trans HA.out.size hi)
    exact (((((((KpG.refl _ WF).setCell (by omega) _ _).setCell (by omega) _ _).setCell (by omega) _ _).setCell (by omega) _ _).setCell (by omega) _ _).setCell (by omega) _ _).setCell (by omega) _ _
  · refine (HO.out.kept ?_).mono HA.out.size
    exact (((((((KpG.refl _ WF).setCell (by omega) _ _).setCell (by omega) _ _).setCell (by omega) _ _).setCell (by omega) _ _).setCell (by omega) _ _).setCell (by omega) _ _).setCell (by omega) _ _
  · exact ((((((HBW.out.setCell (Nat.le_succ _) _).setCell (Nat.le_succ _) _).setCell (Nat.le_succ _) _).setCell (Nat.le_succ _) _).setCell (Nat.le_succ _) _).setCell (Nat.le_succ _) _).setCell (Nat.le_succ _) _
end Go.Proofs.YthhkpkfpifllkaaGreat

namespace Go.Proofs.YthhkpkfpifllkaaGreat
open Go.RowKit Go.Maps
set_option linter.unusedVariables false

structure Cl (W wr : World) (zs : List EntD) (v : Value) : Prop where
  row : wr.ownsRow W.heap.size 84 7 v zs.length (evals zs)
  ents : ∀ x ∈ zs, O3 wr W.heap.size x
  ap : zs.Pairwise Dsj
  below : Below W.heap.size W wr
theorem Cl.rw {W wr : World} {zs : List EntD} {v : Value} (h : Cl W wr zs v) : Rw wr W.heap.size v zs (fun i => W.heap.size ≤ i ∧ i < wr.heap.size) :=
  ⟨h.row, h.ents, h.ap, fun k hk => h.row.lt k hk, fun x hx k hk => (h.ents x hx).lt k hk⟩
theorem row_ku {W w w' : World} {zs : List EntD} {v : Value} {B : Nat} (h : w.ownsRow B 84 7 v zs.length (evals zs)) (g : w.grownBy w' v.ownBlock) : KU w w' :=
  KU.grown g fun r hr => by
    rcases h.2 with ⟨h1, _⟩ | ⟨g', cap, cur, h3, h4, h5, _⟩
    · rw [h1] at hr; cases hr
    · rw [h3] at hr; cases hr; exact ⟨cur, _, _, h5, by decide⟩
theorem Cl.add {W wr w1 w3 : World} {zs : List EntD} {v u : Value} {x : EntD} (h : Cl W wr zs v) (b : Below wr.heap.size wr w1) (o : O3 w1 wr.heap.size x) {ob : Obj} (g : (w1.alloc ob).grownBy w3 v.ownBlock) (r : w3.ownsRow W.heap.size 84 7 u (zs ++ [x]).length (evals (zs ++ [x]))) : Cl W w3 (zs ++ [x]) u := by
  have A := (Below.refl w1.heap.size w1).alloc (Nat.le_refl _) ob
  have r1 : (w1.alloc ob).ownsRow W.heap.size 84 7 v zs.length (evals zs) := row_same h.row (fun g hg => (A.block g (Nat.lt_of_lt_of_le (h.row.lt g hg).2 b.size)).trans (b.block g (h.row.lt g hg).2))
  have ku := (KU.of A).trans (row_ku (W := W) r1 g)
  have bb := h.below.trans (b.mono h.below.size)
  refine ⟨r, fun y hy => ?_, ?_, ?_⟩
  · rcases List.mem_append.1 hy with q | q
    · exact ((h.ents y q).later b).ku ku
    · rw [List.mem_singleton] at q
      subst q
      exact (o.mono h.below.size).ku ku
  · rw [List.pairwise_append]
    refine ⟨h.ap, List.pairwise_singleton _ _, fun a ha c hc g hg hk => ?_⟩
    rw [List.mem_singleton] at hc
    subst hc
    have := (h.ents a ha).lt g hg
    have := o.lt g hk
    omega
  · have bA := bb.trans (A.mono bb.size)
    exact bA.grown g bA.size (fun k hk => (h.row.lt k hk).1)
set_option maxRecDepth 100000 in
set_option maxHeartbeats 4000000 in
theorem cloneAll_any {W : World} {a : Option Addr} {cap : Nat} {l : List EntD} (h0 : RdL3 W a cap l) (hs : ∀ x ∈ l, Shrt x) (hl : l.length ≤ 1353245080300) :
    Calls Tryz.prog 14 #[.slice a l.length cap] W fun r W' => ∃ v zs, r = .returned v ∧ Cl W W' zs v ∧ zs.map EntD.dat = l.map EntD.dat := by
  obtain ⟨N, hN⟩ : ∃ N, N = l.length := ⟨_, rfl⟩
  rw [← hN] at hl ⊢
  have HN := Lib.hid hN
  have HR := Lib.hid h0
  have HS := Lib.hid hs
  clear hN h0 hs
  go_enter Tryz.func14, Tryz.ntmps14
  go_wp2
  go_loopw [3, 4] (fun o i wr => ∃ (k : Nat) (zs : List EntD) (a' : Option Addr) (c' : Nat), k ≤ N ∧ i = .int .i64 (k : Int) ∧ o = .slice a' zs.length c' ∧ Hid (Cl W wr zs (.slice a' zs.length c') ∧ zs.map EntD.dat = (l.take k).map EntD.dat)) (fun _ i _ => N - (intOf i).toNat)
  case atStart => exact ⟨0, [], none, 0, Nat.zero_le _, rfl, rfl, ⟨(Rw.nil W W.heap.size (fun _ => True)).row, by simp, List.Pairwise.nil, Below.refl _ _⟩, by simp⟩
  case round =>
    obtain ⟨k, zs, a', c', hk, rfl, rfl, HO⟩ := hrel
    have k0 : (0 : Int) ≤ (k : Int) := by omega
    by_cases hlt : k < N
    · have hlt2 : (k : Int) < (N : Int) := by omega
      obtain ⟨e, he⟩ : ∃ e, l[k]? = some e := ⟨l[k]'(by rw [← HN.out]; exact hlt), List.getElem?_eq_getElem _⟩
      have hrd := HR.out.later HO.out.1.below
      have hok := hrd.ok e (List.mem_of_getElem? he)
      rcases hrd.at_ with h0 | ⟨b, off, rfl, hc⟩
      · rw [h0] at he; simp at he
      have d0 := hc k e he 0 e.vr rfl
      have d1 := hc k e he 1 (.int .i64 e.fam) rfl
      have d2 := hc k e he 2 e.vq rfl
      have d3 := hc k e he 3 (.int .i64 e.ts) rfl
      have d4 := hc k e he 4 (.int .i64 e.seq) rfl
      have d5 := hc k e he 5 (.int .i64 e.kind) rfl
      have d6 := hc k e he 6 e.vv rfl
      simp only [Nat.add_zero] at d0
      have HE := Lib.hid he
      have HCl := Lib.hid (cloneR_own hok (HS.out e (List.mem_of_getElem? he)))
      have hzl : zs.length = k := by
        have := congrArg List.length HO.out.2
        rw [List.length_map, List.length_map, List.length_take] at this
        rw [HN.out] at hlt
        omega
      have HZl := Lib.hid hzl
      unfold EntD.cells at HCl
      clear hrd hok hc he hzl
      go_wp2_with fail
      refine Calls.mono HCl.out ?_
      rintro z1 w1 ⟨x, rfl, sx, ok1, o31, b1⟩
      have HSx := Lib.hid (EntD.dat_same.2 sx)
      have O31 := Lib.hid o31
      have B1 := Lib.hid b1
      obtain ⟨xr, xf, xq, xt, xs2, xk, xv, xrow, xqual, xval⟩ := x
      obtain ⟨ar, cr, er⟩ := own_form' o31.row
      obtain ⟨aq, cq, eq⟩ := own_form' o31.qual
      obtain ⟨aw, cw, ew⟩ := own_form' o31.val
      simp only at er eq ew
      subst er eq ew
      dsimp only
      clear sx ok1 o31 b1 HCl d0 d1 d2 d3 d4 d5 d6
      have A := Lib.hid ((Below.refl w1.heap.size w1).alloc (Nat.le_refl _) (.cells #[.slice ar xrow.length cr, .int .i64 xf, .slice aq xqual.length cq, .int .i64 xt, .int .i64 xs2, .int .i64 xk, .slice aw xval.length cw] 84))
      have HRow : Hid ((w1.alloc (.cells #[.slice ar xrow.length cr, .int .i64 xf, .slice aq xqual.length cq, .int .i64 xt, .int .i64 xs2, .int .i64 xk, .slice aw xval.length cw] 84)).ownsRow W.heap.size 84 7 (.slice a' zs.length c') zs.length (evals zs)) := row_same HO.out.1.row (fun g hg => (A.out.block g (Nat.lt_of_lt_of_le (HO.out.1.row.lt g hg).2 B1.out.size)).trans (B1.out.block g (HO.out.1.row.lt g hg).2))
      have HSz : Hid (W.heap.size ≤ (w1.alloc (.cells #[.slice ar xrow.length cr, .int .i64 xf, .slice aq xqual.length cq, .int .i64 xt, .int .i64 xs2, .int .i64 xk, .slice aw xval.length cw] 84)).heap.size) := Nat.le_trans HO.out.1.below.size (Nat.le_trans B1.out.size A.out.size)
      go_wp2_with (at_builtin; refine wpl_append_ent (x := (⟨.slice ar xrow.length cr, xf, .slice aq xqual.length cq, xt, xs2, xk, .slice aw xval.length cw, xrow, xqual, xval⟩ : EntD)) (xs := zs) rfl _ _ rfl rfl HRow.out ⟨w1.heap.size, 0, none⟩ rfl (ent_new w1 (⟨.slice ar xrow.length cr, xf, .slice aq xqual.length cq, xt, xs2, xk, .slice aw xval.length cw, xrow, xqual, xval⟩ : EntD)) (O3.cells_one O31.out) (by have := HZl.out; omega) HSz.out ?_)
      intro a4 c4 X4 row4 gr4
      have H4 := Lib.hid (HO.out.1.add B1.out O31.out gr4 (u := .slice a4 (zs.length + 1) c4) (by rw [List.length_append]; exact row4))
      have HD : Hid ((zs ++ [(⟨.slice ar xrow.length cr, xf, .slice aq xqual.length cq, xt, xs2, xk, .slice aw xval.length cw, xrow, xqual, xval⟩ : EntD)]).map EntD.dat = (l.take (k + 1)).map EntD.dat) := by
        unfold Hid
        rw [List.take_add_one, HE.out, List.map_append, List.map_append, HO.out.2]
        simp only [List.map_cons, List.map_nil, Option.toList_some]
        rw [HSx.out]
      clear row4 gr4 HRow HSz A
      go_wp2
      go_roundw
      case rel => exact ⟨k + 1, _, a4, c4, by omega, by go_num, by rw [List.length_append]; rfl, by rw [List.length_append]; exact H4.out, HD.out⟩
      case measure => simp only [intOf]; omega
    · have hg : ¬ (k : Int) < (N : Int) := by omega
      have HF : Hid (zs.map EntD.dat = l.map EntD.dat) := by
        unfold Hid
        rw [HO.out.2, List.take_of_length_le (by rw [← HN.out]; omega)]
      go_wp2
      go_ret
      exact ⟨_, rfl, zs, HO.out.1, HF.out⟩
theorem evals_app3 (a b : List EntD) : evals (a ++ b) = evals a ++ evals b := by simp [evals]
theorem evals_get3 : ∀ {xs : List EntD} {j : Nat} {u : Value}, (evals xs)[j]? = some u → ∃ x, xs[j / 7]? = some x ∧ x.cells.toList[j % 7]? = some u
  | [], j, u, h => by simp [evals] at h
  | x :: xs, j, u, h => by
    rw [evals_cons] at h
    by_cases hj : j < 7
    · rw [List.getElem?_append_left (show j < x.cells.toList.length from hj)] at h
      rw [Nat.div_eq_of_lt hj, Nat.mod_eq_of_lt hj]
      exact ⟨x, by simp, h⟩
    · rw [List.getElem?_append_right (show x.cells.toList.length ≤ j from by show 7 ≤ j; omega)] at h
      have h' : (evals xs)[j - 7]? = some u := h
      obtain ⟨y, h1, h2⟩ := evals_get3 h'
      have e1 : j / 7 = (j - 7) / 7 + 1 := by omega
      have e2 : j % 7 = (j - 7) % 7 := by omega
      rw [e1, e2]
      exact ⟨y, by simpa using h1, h2⟩
end Go.Proofs.YthhkpkfpifllkaaGreat

namespace Go.Proofs.YthhkpkfpifllkaaGreat
open Go.RowKit
set_option linter.unusedVariables false

structure BelowD (B : Nat) (w w' : World) : Prop where
  b : Below B w w'
  d : w.drawn ≤ w'.drawn
theorem BelowD.refl (B : Nat) (w : World) : BelowD B w w := ⟨Below.refl _ _, Nat.le_refl _⟩
theorem BelowD.trans {B : Nat} {a b c : World} (h : BelowD B a b) (k : BelowD B b c) : BelowD B a c := ⟨h.b.trans k.b, Nat.le_trans h.d k.d⟩
theorem BelowD.mono {B B' : Nat} {w w' : World} (h : BelowD B w w') (hB : B' ≤ B) : BelowD B' w w' := ⟨h.b.mono hB, h.d⟩
theorem BelowD.drew {B : Nat} {a w : World} (h : BelowD B a w) : BelowD B a w.drew := ⟨h.b.drew, Nat.le_trans h.d (Nat.le_succ _)⟩
theorem BelowD.alloc {B : Nat} {a w : World} (h : BelowD B a w) (hB : B ≤ w.heap.size) (o : Obj) : BelowD B a (w.alloc o) := ⟨h.b.alloc hB o, h.d⟩
theorem BelowD.size {B : Nat} {w w' : World} (h : BelowD B w w') : w.heap.size ≤ w'.heap.size := h.b.size

set_option maxRecDepth 100000 in
set_option maxHeartbeats 2000000 in
theorem aheadIf_d {a b : EntD} (k : Int) {w : World} :
    Calls Tryz.prog 142 #[.agg a.cells, .agg b.cells, .int .i64 k] w fun r w' => r = .returned (.int .i64 (aheadS a b k)) ∧ BelowD w.heap.size w w' := by
  obtain ⟨S, hS⟩ : ∃ S, S = aheadS a b k := ⟨_, rfl⟩
  rw [← hS]
  have HS : Hid (cmpI ((mark a.kind k : Nat) : Int) ((mark b.kind k : Nat) : Int) = S) := by unfold Hid; rw [hS]; rfl
  clear hS
  obtain ⟨M1, hM1⟩ : ∃ M, M = mark a.kind k := ⟨_, rfl⟩
  obtain ⟨M2, hM2⟩ : ∃ M, M = mark b.kind k := ⟨_, rfl⟩
  have q1 := fun w => markOf_m a.kind k w
  have q2 := fun w => markOf_m b.kind k w
  have q3 := fun w => cmpByte_any (M1 : Int) (M2 : Int) w
  rw [← hM1] at q1
  rw [← hM2] at q2
  have HS2 : cmpI (M1 : Int) (M2 : Int) = S := by rw [hM1, hM2]; exact HS.out
  rw [HS2] at q3
  have HQ1 : Hid (∀ w, Calls Tryz.prog 157 #[.int .i64 a.kind, .int .i64 k] w fun e w' => e = .returned (.int .u8 ((M1 : Nat) : Int)) ∧ w' = w) := q1
  have HQ2 : Hid (∀ w, Calls Tryz.prog 157 #[.int .i64 b.kind, .int .i64 k] w fun e w' => e = .returned (.int .u8 ((M2 : Nat) : Int)) ∧ w' = w) := q2
  have HQ3 : Hid (∀ w, Calls Tryz.prog 156 #[.int .u8 (M1 : Int), .int .u8 (M2 : Int)] w fun e w' => e = .returned (.int .i64 S) ∧ w' = w) := q3
  clear q1 q2 q3 hM1 hM2 HS HS2
  have A1 := (BelowD.refl w.heap.size w).alloc (Nat.le_refl _) (.cells a.cells 84)
  have A2 := A1.alloc A1.size (.cells b.cells 84)
  have bxa : Hid (EBox ((w.alloc (.cells a.cells 84)).alloc (.cells b.cells 84)) w.heap.size a) := (EBox.new w a).later ((Below.refl _ _).alloc (Nat.le_refl _) _)
  have bxb : Hid (EBox ((w.alloc (.cells a.cells 84)).alloc (.cells b.cells 84)) (w.heap.size + 1) b) := by
    have := EBox.new (w.alloc (.cells a.cells 84)) b
    rwa [World.size_alloc] at this
  have A2D : BelowD w.heap.size w ((w.alloc (.cells a.cells 84)).alloc (.cells b.cells 84)).drew := A2.drew
  have ya : ((w.alloc (.cells a.cells 84)).alloc (.cells b.cells 84)).drew.cell? ⟨w.heap.size, 5, none⟩ = some (.int .i64 a.kind) := bxa.out.kind
  have yb : ((w.alloc (.cells a.cells 84)).alloc (.cells b.cells 84)).drew.cell? ⟨w.heap.size + 1, 5, none⟩ = some (.int .i64 b.kind) := bxb.out.kind
  clear A1 bxa bxb
  obtain ⟨vr, fam, vq, ts, seq, ka, vv, row, qual, val⟩ := a
  obtain ⟨vr2, fam2, vq2, ts2, seq2, kb, vv2, row2, qual2, val2⟩ := b
  simp only [EntD.cells] at *
  go_enter Tryz.func142, Tryz.ntmps142
  go_wp2_with fail
  go_region_held3 (fun wx => wx.cell? ⟨w.heap.size, 5, none⟩ = some (.int .i64 ka) ∧ wx.cell? ⟨w.heap.size + 1, 5, none⟩ = some (.int .i64 kb) ∧ BelowD w.heap.size w wx) (first | exact ⟨ya, yb, A2D⟩) (first | (go_at_call 157; refine (HQ1.out _).mono ?_; rintro e1 wm ⟨rfl, rfl⟩) | (go_at_call 157; refine (HQ2.out _).mono ?_; rintro e1 wm ⟨rfl, rfl⟩) | (go_at_call 156; refine (HQ3.out _).mono ?_; rintro e1 wm ⟨rfl, rfl⟩))
  all_goals (go_wp2; go_ret; exact ⟨rfl, A2D⟩)

set_option maxRecDepth 100000 in
set_option maxHeartbeats 1000000 in
theorem ord1_d {a b : EntD} {w : World} (ha : EntD.Ok w a) (hb : EntD.Ok w b) :
    Calls Tryz.prog 137 #[.agg a.cells, .agg b.cells] w fun r w' => r = .returned (.int .i64 (ordC a.row b.row)) ∧ BelowD w.heap.size w w' := by
  have A1 := (BelowD.refl w.heap.size w).alloc (Nat.le_refl _) (.cells a.cells 84)
  have A2 := A1.alloc A1.size (.cells b.cells 84)
  have oa := ha.later A2.b
  have ob := hb.later A2.b
  clear A1 ha hb
  obtain ⟨vr, fam, vq, ts, seq, ka, vv, row, qual, val⟩ := a
  obtain ⟨vr2, fam2, vq2, ts2, seq2, kb, vv2, row2, qual2, val2⟩ := b
  obtain ⟨r1, q1, v1⟩ := oa
  obtain ⟨r2, q2, v2⟩ := ob
  simp only [EntD.cells] at *
  go_enter Tryz.func137, Tryz.ntmps137
  go_wp2_with fail
  refine (bytesCompare_any r1 r2).mono ?_
  rintro e1 w1 ⟨rfl, rfl⟩
  go_wp2
  go_ret
  exact ⟨rfl, A2⟩

set_option maxRecDepth 100000 in
set_option maxHeartbeats 1000000 in
theorem ord2_d {a b : EntD} {w : World} (ha : EntD.Ok w a) (hb : EntD.Ok w b) :
    Calls Tryz.prog 139 #[.agg a.cells, .agg b.cells] w fun r w' => r = .returned (.int .i64 (cmpI a.fam b.fam)) ∧ BelowD w.heap.size w w' := by
  have A1 := (BelowD.refl w.heap.size w).alloc (Nat.le_refl _) (.cells a.cells 84)
  have A2 := A1.alloc A1.size (.cells b.cells 84)
  have oa := ha.later A2.b
  have ob := hb.later A2.b
  clear A1 ha hb
  obtain ⟨vr, fam, vq, ts, seq, ka, vv, row, qual, val⟩ := a
  obtain ⟨vr2, fam2, vq2, ts2, seq2, kb, vv2, row2, qual2, val2⟩ := b
  obtain ⟨r1, q1, v1⟩ := oa
  obtain ⟨r2, q2, v2⟩ := ob
  simp only [EntD.cells] at *
  go_enter Tryz.func139, Tryz.ntmps139
  go_wp2_with fail
  refine (cmpInt_any _ _ _).mono ?_
  rintro e1 w1 ⟨rfl, rfl⟩
  go_wp2
  go_ret
  exact ⟨rfl, A2⟩

set_option maxRecDepth 100000 in
set_option maxHeartbeats 1000000 in
theorem ord3_d {a b : EntD} {w : World} (ha : EntD.Ok w a) (hb : EntD.Ok w b) :
    Calls Tryz.prog 141 #[.agg a.cells, .agg b.cells] w fun r w' => r = .returned (.int .i64 (aheadS a b 5)) ∧ BelowD w.heap.size w w' := by
  have A1 := (BelowD.refl w.heap.size w).alloc (Nat.le_refl _) (.cells a.cells 84)
  have A2 := A1.alloc A1.size (.cells b.cells 84)
  have oa := ha.later A2.b
  have ob := hb.later A2.b
  clear A1 ha hb
  have c1 := aheadIf_d (a := a) (b := b) 5 (w := (w.alloc (.cells a.cells 84)).alloc (.cells b.cells 84))
  obtain ⟨S, hS⟩ : ∃ S, S = aheadS a b 5 := ⟨_, rfl⟩
  rw [← hS] at c1 ⊢
  have HC : Hid (Calls Tryz.prog 142 #[.agg a.cells, .agg b.cells, .int .i64 5] ((w.alloc (.cells a.cells 84)).alloc (.cells b.cells 84)) fun r w' => r = .returned (.int .i64 S) ∧ BelowD ((w.alloc (.cells a.cells 84)).alloc (.cells b.cells 84)).heap.size ((w.alloc (.cells a.cells 84)).alloc (.cells b.cells 84)) w') := c1
  clear c1 hS
  obtain ⟨vr, fam, vq, ts, seq, ka, vv, row, qual, val⟩ := a
  obtain ⟨vr2, fam2, vq2, ts2, seq2, kb, vv2, row2, qual2, val2⟩ := b
  obtain ⟨r1, q1, v1⟩ := oa
  obtain ⟨r2, q2, v2⟩ := ob
  simp only [EntD.cells] at *
  go_enter Tryz.func141, Tryz.ntmps141
  go_wp2_with fail
  refine HC.out.mono ?_
  rintro e1 w1 ⟨rfl, hb1⟩
  have B1 := A2.trans (hb1.mono A2.size)
  go_wp2
  go_ret
  exact ⟨rfl, B1⟩

set_option maxRecDepth 100000 in
set_option maxHeartbeats 1000000 in
theorem ord4_d {a b : EntD} {w : World} (ha : EntD.Ok w a) (hb : EntD.Ok w b) :
    Calls Tryz.prog 143 #[.agg a.cells, .agg b.cells] w fun r w' => r = .returned (.int .i64 (ordC a.qual b.qual)) ∧ BelowD w.heap.size w w' := by
  have A1 := (BelowD.refl w.heap.size w).alloc (Nat.le_refl _) (.cells a.cells 84)
  have A2 := A1.alloc A1.size (.cells b.cells 84)
  have oa := ha.later A2.b
  have ob := hb.later A2.b
  clear A1 ha hb
  obtain ⟨vr, fam, vq, ts, seq, ka, vv, row, qual, val⟩ := a
  obtain ⟨vr2, fam2, vq2, ts2, seq2, kb, vv2, row2, qual2, val2⟩ := b
  obtain ⟨r1, q1, v1⟩ := oa
  obtain ⟨r2, q2, v2⟩ := ob
  simp only [EntD.cells] at *
  go_enter Tryz.func143, Tryz.ntmps143
  go_wp2_with fail
  refine (bytesCompare_any q1 q2).mono ?_
  rintro e1 w1 ⟨rfl, rfl⟩
  go_wp2
  go_ret
  exact ⟨rfl, A2⟩

set_option maxRecDepth 100000 in
set_option maxHeartbeats 1000000 in
theorem ord5_d {a b : EntD} {w : World} (ha : EntD.Ok w a) (hb : EntD.Ok w b) :
    Calls Tryz.prog 144 #[.agg a.cells, .agg b.cells] w fun r w' => r = .returned (.int .i64 (aheadS a b 4)) ∧ BelowD w.heap.size w w' := by
  have A1 := (BelowD.refl w.heap.size w).alloc (Nat.le_refl _) (.cells a.cells 84)
  have A2 := A1.alloc A1.size (.cells b.cells 84)
  have oa := ha.later A2.b
  have ob := hb.later A2.b
  clear A1 ha hb
  have c1 := aheadIf_d (a := a) (b := b) 4 (w := (w.alloc (.cells a.cells 84)).alloc (.cells b.cells 84))
  obtain ⟨S, hS⟩ : ∃ S, S = aheadS a b 4 := ⟨_, rfl⟩
  rw [← hS] at c1 ⊢
  have HC : Hid (Calls Tryz.prog 142 #[.agg a.cells, .agg b.cells, .int .i64 4] ((w.alloc (.cells a.cells 84)).alloc (.cells b.cells 84)) fun r w' => r = .returned (.int .i64 S) ∧ BelowD ((w.alloc (.cells a.cells 84)).alloc (.cells b.cells 84)).heap.size ((w.alloc (.cells a.cells 84)).alloc (.cells b.cells 84)) w') := c1
  clear c1 hS
  obtain ⟨vr, fam, vq, ts, seq, ka, vv, row, qual, val⟩ := a
  obtain ⟨vr2, fam2, vq2, ts2, seq2, kb, vv2, row2, qual2, val2⟩ := b
  obtain ⟨r1, q1, v1⟩ := oa
  obtain ⟨r2, q2, v2⟩ := ob
  simp only [EntD.cells] at *
  go_enter Tryz.func144, Tryz.ntmps144
  go_wp2_with fail
  refine HC.out.mono ?_
  rintro e1 w1 ⟨rfl, hb1⟩
  have B1 := A2.trans (hb1.mono A2.size)
  go_wp2
  go_ret
  exact ⟨rfl, B1⟩

set_option maxRecDepth 100000 in
set_option maxHeartbeats 1000000 in
theorem ord6_d {a b : EntD} {w : World} (ha : EntD.Ok w a) (hb : EntD.Ok w b) :
    Calls Tryz.prog 145 #[.agg a.cells, .agg b.cells] w fun r w' => r = .returned (.int .i64 (cmpI b.ts a.ts)) ∧ BelowD w.heap.size w w' := by
  have A1 := (BelowD.refl w.heap.size w).alloc (Nat.le_refl _) (.cells a.cells 84)
  have A2 := A1.alloc A1.size (.cells b.cells 84)
  have oa := ha.later A2.b
  have ob := hb.later A2.b
  clear A1 ha hb
  obtain ⟨vr, fam, vq, ts, seq, ka, vv, row, qual, val⟩ := a
  obtain ⟨vr2, fam2, vq2, ts2, seq2, kb, vv2, row2, qual2, val2⟩ := b
  obtain ⟨r1, q1, v1⟩ := oa
  obtain ⟨r2, q2, v2⟩ := ob
  simp only [EntD.cells] at *
  go_enter Tryz.func145, Tryz.ntmps145
  go_wp2_with fail
  refine (cmpInt_any _ _ _).mono ?_
  rintro e1 w1 ⟨rfl, rfl⟩
  go_wp2
  go_ret
  exact ⟨rfl, A2⟩

set_option maxRecDepth 100000 in
set_option maxHeartbeats 1000000 in
theorem ord7_d {a b : EntD} {w : World} (ha : EntD.Ok w a) (hb : EntD.Ok w b) :
    Calls Tryz.prog 146 #[.agg a.cells, .agg b.cells] w fun r w' => r = .returned (.int .i64 (cmpI b.seq a.seq)) ∧ BelowD w.heap.size w w' := by
  have A1 := (BelowD.refl w.heap.size w).alloc (Nat.le_refl _) (.cells a.cells 84)
  have A2 := A1.alloc A1.size (.cells b.cells 84)
  have oa := ha.later A2.b
  have ob := hb.later A2.b
  clear A1 ha hb
  obtain ⟨vr, fam, vq, ts, seq, ka, vv, row, qual, val⟩ := a
  obtain ⟨vr2, fam2, vq2, ts2, seq2, kb, vv2, row2, qual2, val2⟩ := b
  obtain ⟨r1, q1, v1⟩ := oa
  obtain ⟨r2, q2, v2⟩ := ob
  simp only [EntD.cells] at *
  go_enter Tryz.func146, Tryz.ntmps146
  go_wp2_with fail
  refine (cmpInt_any _ _ _).mono ?_
  rintro e1 w1 ⟨rfl, rfl⟩
  go_wp2
  go_ret
  exact ⟨rfl, A2⟩

set_option maxRecDepth 100000 in
set_option maxHeartbeats 1000000 in
theorem ord8_d {a b : EntD} {w : World} (ha : EntD.Ok w a) (hb : EntD.Ok w b) :
    Calls Tryz.prog 147 #[.agg a.cells, .agg b.cells] w fun r w' => r = .returned (.int .i64 (cmpI a.kind b.kind)) ∧ BelowD w.heap.size w w' := by
  have A1 := (BelowD.refl w.heap.size w).alloc (Nat.le_refl _) (.cells a.cells 84)
  have A2 := A1.alloc A1.size (.cells b.cells 84)
  have oa := ha.later A2.b
  have ob := hb.later A2.b
  clear A1 ha hb
  obtain ⟨vr, fam, vq, ts, seq, ka, vv, row, qual, val⟩ := a
  obtain ⟨vr2, fam2, vq2, ts2, seq2, kb, vv2, row2, qual2, val2⟩ := b
  obtain ⟨r1, q1, v1⟩ := oa
  obtain ⟨r2, q2, v2⟩ := ob
  simp only [EntD.cells] at *
  go_enter Tryz.func147, Tryz.ntmps147
  go_wp2_with fail
  refine (cmpInt_any _ _ _).mono ?_
  rintro e1 w1 ⟨rfl, rfl⟩
  go_wp2
  go_ret
  exact ⟨rfl, A2⟩

end Go.Proofs.YthhkpkfpifllkaaGreat

