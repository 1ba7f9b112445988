import Derived.Test.YtieehdhinponcaaJ13
namespace Go.Proofs.Ytieehdhinponcaa
open Go.RowKit
set_option linter.unusedVariables false

set_option maxRecDepth 100000 in
theorem copied_any {a0 : Option Addr} {n0 c0 : Nat} {L : List Nat} {w : World} (hr : Rd w (.slice a0 n0 c0) L) (hl : n0 ≤ 140737488351232) :
    Calls Try.prog 22 #[.slice a0 n0 c0] w fun e w' => ∃ a c, e = .returned (.slice a n0 c) ∧ Own w' w.heap.size (.slice a n0 c) n0 L ∧ Below w.heap.size w w' := by
  have HR : Hid (Rd w (.slice a0 n0 c0) L) := hr
  have HN : Hid (n0 = L.length) := (rd_lens hr).1
  clear hr
  go_enter Try.func22, Try.ntmps22
  go_wp2_with (at_builtin; refine wpList_append_at rfl _ _ rfl w.heap.size _ _ _ _ rfl (ownNil _ _) _ _ _ _ rfl HR.out (by omega) (Nat.le_refl _) ?_; intro a4 m4 c4 w4 own4 b4; have O4 : Hid (Own w4 w.heap.size (.slice a4 m4 c4) m4 L) := own4; clear own4)
  have e : m4 = n0 := by rw [O4.out.1, HN.out]
  subst e
  go_ret
  exact ⟨a4, c4, rfl, O4.out, b4⟩

/-- append(own, parts ..): slices of bytes, which were just laid into a block of their own. -/
theorem wpList_append_parts {w : World} {ops : Array Oper} {rest : List Oper} {o : Oper} {a : Act} {Q : Exit → Act → World → Prop}
    (hgd : o.guard = none) (s x : Operand) (ho : o.op = .call { callee := .builtin .append, args := #[s, x], argTypes := #[22, 22] })
    (B : Nat) (a0 : Option Addr) (m0 c0 : Nat) (vs : List Value) (hs : a.eval s = .slice a0 m0 c0) (hown : w.ownsRow B 24 1 (.slice a0 m0 c0) m0 vs)
    (us : Array Value) (m : Nat) (hm1 : us.size = m) (hu1 : ∀ u ∈ us.toList, u.oneCell' = true) (hx : a.eval x = .slice (some ⟨w.heap.size, 0, none⟩) m m) (hm : m0 + m ≤ 5864062014805) (hB : B ≤ w.heap.size)
    (h : ∀ a' c' w', w'.ownsRow B 24 1 (.slice a' (m0 + m) c') (m0 + m) (vs ++ us.toList) → w.grownBy w' (Value.slice a0 m0 c0).ownBlock → (∀ g, (Value.slice a' (m0 + m) c').ownBlock = some g → (Value.slice a0 m0 c0).ownBlock = some g ∨ w.heap.size < g) → wpList Try.prog ops Q rest (a.put o.dst (.slice a' (m0 + m) c')) w') : wpList Try.prog ops Q (o :: rest) a (w.alloc (.cells us 24)) := by
  obtain ⟨i0, hi, hz0, hz1, hz2⟩ := info_parts info_bytes
  have hnews : ∀ j u, us.toList[j]? = some u → (w.alloc (.cells us 24)).cell? ((⟨w.heap.size, 0, none⟩ : Addr).add j) = some u := by
    have := news_new w us.toList 24
    simpa using this
  refine wpList_append_own_at _ hgd s x 22 ho B 24 i0 (.slice none 0 0) 1 24 und_parts hi hz0 hz1 hz2 rfl (by decide) _ m0 vs hs (hown.alloc _) ⟨w.heap.size, 0, none⟩ m m us.toList hx (by simp [hm1]) hnews hu1 (by unfold maxLen; omega) (by omega) (by simp; omega) ?_
  intro v' w' h1 h2 _ h4
  obtain ⟨a', c', rfl⟩ := row_form h1
  refine h a' c' w' h1 ((World.grownBy_alloc w _ _).trans h2) (fun g hg => ?_)
  rcases h4 with h4 | h4
  · exact .inl (h4 ▸ hg)
  · rw [h4] at hg
    simp at hg
    omega

/-- A row beside the others. -/
structure R2 (w : World) (B n c : Nat) (a : Option Addr) (us : List Value) (rs : List Value) : Prop where
  row : w.ownsRow B 24 1 (.slice a n c) n us
  ap : ∀ r ∈ rs, Ap (.slice a n c) r
theorem R2.later {w w' : World} {B n c : Nat} {a : Option Addr} {us rs : List Value} (h : R2 w B n c a us rs) (hb : Below w.heap.size w w') : R2 w' B n c a us rs := ⟨rowB_later h.row hb, h.ap⟩
theorem R2.kept_bytes {w w' : World} {B B' m n c : Nat} {a : Option Addr} {us rs : List Value} {v : Value} {x : List Nat} (h : R2 w B n c a us rs) (o : Own w B' v m x) (hg : w.grownBy w' v.ownBlock) : R2 w' B n c a us rs := ⟨row_kept h.row hg (row_apart h.row o.2 (by decide)), h.ap⟩
theorem R2.kept_row {w w' : World} {B n c : Nat} {a : Option Addr} {us rs : List Value} {r : Value} (h : R2 w B n c a us rs) (hr : r ∈ rs) (hg : w.grownBy w' r.ownBlock) : R2 w' B n c a us rs := ⟨row_kept h.row hg (h.ap r hr), h.ap⟩
/-- One of the others moved. -/
theorem R2.moved {w w' : World} {B n c : Nat} {a : Option Addr} {us : List Value} {r r' q : Value} (h : R2 w B n c a us [q, r]) (hg : w.grownBy w' r.ownBlock) (loc : ∀ g, r'.ownBlock = some g → r.ownBlock = some g ∨ w.heap.size < g) : R2 w' B n c a us [q, r'] :=
  ⟨row_kept h.row hg (h.ap r (by simp)), fun z hz => by
    simp only [List.mem_cons, List.not_mem_nil, or_false] at hz
    rcases hz with rfl | rfl
    · exact h.ap z (by simp)
    · exact (ap_new h.row (h.ap r (by simp)).symm loc).symm⟩
theorem R2.cell {w : World} {B n c j : Nat} {a : Option Addr} {us rs : List Value} {u : Value} (h : R2 w B n c a us rs) (hj : us[j]? = some u) : ∃ g, a = some ⟨g, 0, none⟩ ∧ w.cell? ⟨g, j, none⟩ = some u ∧ j < n := by
  have hl : us.length = n := by have := h.row.1; simpa using this
  have hj2 : j < n := by rw [← hl]; exact (List.getElem?_eq_some_iff.1 hj).1
  rcases h.row.2 with ⟨h1, h2⟩ | ⟨g, cap, cur, h3, h4⟩
  · omega
  · simp only [Value.slice.injEq] at h3
    obtain ⟨rfl, _, _⟩ := h3
    refine ⟨g, rfl, ?_, hj2⟩
    rw [h.row.cellAt j (by omega)]
    exact hj
end Go.Proofs.Ytieehdhinponcaa

namespace Go.Proofs.Ytieehdhinponcaa
open Go.RowKit
set_option linter.unusedVariables false

/-- While the lists are made: the lists and their copies, and the two rows. -/
structure Fw (w0 w : World) (B nl cl nu cu : Nat) (al au : Option Addr) (rl ru ls us : List Value) (C D : List (List Nat)) : Prop where
  bel : Below B w0 w
  hB : B ≤ w.heap.size
  sh : Sh w B ls C
  kx : Kx w B ls us D
  l : w.ownsRow B 24 1 (.slice al nl cl) nl rl
  u : w.ownsRow B 24 1 (.slice au nu cu) nu ru
  ap : Ap (.slice au nu cu) (.slice al nl cl)
theorem Fw.nil {w0 w : World} {B : Nat} (bel : Below B w0 w) (hB : B ≤ w.heap.size) : Fw w0 w B 0 0 0 0 none none [] [] [] [] [] [] :=
  ⟨bel, hB, Sh.nil _ _, Kx.nil _ _ _, World.ownsRow_nil _ _ _ _, World.ownsRow_nil _ _ _ _, fun g h => by simp [Value.ownBlock] at h⟩
theorem Fw.list {w0 w w' : World} {B nl cl nu cu : Nat} {al au : Option Addr} {rl ru ls us : List Value} {C D : List (List Nat)} {v : Value} {x : List Nat} {m : Nat} (h : Fw w0 w B nl cl nu cu al au rl ru ls us C D) (hb : Below w.heap.size w w') (o : Own w' w.heap.size v m x) : Fw w0 w' B nl cl nu cu al au rl ru (ls ++ [v]) us (C ++ [x]) D :=
  ⟨h.bel.trans (hb.mono h.hB), Nat.le_trans h.hB hb.size, h.sh.snoc hb (by rw [← o.1]; exact o) h.hB, h.kx.snocV hb o, rowB_later h.l hb, rowB_later h.u hb, h.ap⟩
theorem Fw.copy {w0 w w' : World} {B nl cl nu cu : Nat} {al au : Option Addr} {rl ru ls us : List Value} {C D : List (List Nat)} {v : Value} {x : List Nat} {m : Nat} (h : Fw w0 w B nl cl nu cu al au rl ru ls us C D) (hb : Below w.heap.size w w') (o : Own w' w.heap.size v m x) : Fw w0 w' B nl cl nu cu al au rl ru ls (us ++ [v]) C (D ++ [x]) :=
  ⟨h.bel.trans (hb.mono h.hB), Nat.le_trans h.hB hb.size, h.sh.later hb, h.kx.snocU h.sh hb (by rw [← o.1]; exact o) h.hB, rowB_later h.l hb, rowB_later h.u hb, h.ap⟩
theorem Fw.rowL {w0 w w' : World} {B nl cl nu cu nl' cl' : Nat} {al au al' : Option Addr} {rl ru ls us rl' : List Value} {C D : List (List Nat)} (h : Fw w0 w B nl cl nu cu al au rl ru ls us C D) (hr : w'.ownsRow B 24 1 (.slice al' nl' cl') nl' rl') (hg : w.grownBy w' (Value.slice al nl cl).ownBlock) (loc : ∀ g, (Value.slice al' nl' cl').ownBlock = some g → (Value.slice al nl cl).ownBlock = some g ∨ w.heap.size < g) : Fw w0 w' B nl' cl' nu cu al' au rl' ru ls us C D :=
  ⟨h.bel.grown hg h.hB (fun k hk => (h.l.lt k hk).1), Nat.le_trans h.hB hg.size, h.sh.kept_row h.l hg, h.kx.kept_row h.l hg, hr, row_kept h.u hg h.ap, (ap_new h.u h.ap.symm loc).symm⟩
theorem Fw.rowU {w0 w w' : World} {B nl cl nu cu nu' cu' : Nat} {al au au' : Option Addr} {rl ru ls us ru' : List Value} {C D : List (List Nat)} (h : Fw w0 w B nl cl nu cu al au rl ru ls us C D) (hr : w'.ownsRow B 24 1 (.slice au' nu' cu') nu' ru') (hg : w.grownBy w' (Value.slice au nu cu).ownBlock) (loc : ∀ g, (Value.slice au' nu' cu').ownBlock = some g → (Value.slice au nu cu).ownBlock = some g ∨ w.heap.size < g) : Fw w0 w' B nl cl nu' cu' al au' rl ru' ls us C D :=
  ⟨h.bel.grown hg h.hB (fun k hk => (h.u.lt k hk).1), Nat.le_trans h.hB hg.size, h.sh.kept_row h.u hg, h.kx.kept_row h.u hg, row_kept h.l hg h.ap.symm, hr, ap_new h.l h.ap loc⟩
theorem Fw.ow {w0 w : World} {B nl cl nu cu : Nat} {al au : Option Addr} {ru ls us : List Value} {C D : List (List Nat)} (h : Fw w0 w B nl cl nu cu al au ls ru ls us C D) : Ow w0 w B nl cl al ls us C D ∧ R2 w B nu cu au ru [.slice al nl cl] :=
  ⟨⟨h.bel, h.hB, h.sh, h.kx, h.l⟩, h.u, fun r hr => by simp at hr; subst hr; exact h.ap⟩

/-- What four answers hold. -/
def fourL (b : Int) (ks qs : List (List Nat)) : List (List Nat) := [bldL b ks, bldL b qs, uniL (bldL b ks) (bldL b qs), uniL (bldL b ks) (bldL b ks)]
def repL (P : List (List Nat)) (t : Nat) : List (List Nat) := (List.replicate t P).flatten
theorem repL_succ (P : List (List Nat)) (t : Nat) : repL P (t + 1) = repL P t ++ P := by simp [repL, List.replicate_succ']
theorem four_ok (b : Int) (ks qs : List (List Nat)) : ∀ x ∈ fourL b ks qs, Bys x ∧ x.length ≤ 3000000 := by
  have hA := bldL_bys b ks
  have hB := bldL_bys b qs
  have lA := bldL_len b ks
  have lB := bldL_len b qs
  have key : ∀ rs : List (List Nat), (uniL (bldL b ks) (bldL b rs)).length ≤ 3000000 := by
    intro rs
    rcases build_cases b ks with h | ⟨h0, bn, hbn, hb20, hk, hF⟩
    · have e : bldL b ks = [] := by unfold bldL; rw [if_neg (by omega)]
      rw [e]
      unfold uniL
      split
      · simp [unionL]
      · simp
    · rcases build_cases b rs with h | ⟨h0', bn', hbn', hb20', hk', hF'⟩
      · have e : bldL b rs = [] := by unfold bldL; rw [if_neg (by omega)]
        rw [e]
        unfold uniL
        split
        · simp [unionL]; omega
        · simp
      · have : bn = bn' := by omega
        subst this
        unfold uniL
        split
        · rename_i h
          rw [hF, hF'] at h ⊢
          rw [unionL_length ((uni_len hb20 hk hk').1 h)]
          exact (build_len hb20 hk).1
        · simp
  intro x hx
  simp only [fourL, List.mem_cons, List.not_mem_nil, or_false] at hx
  rcases hx with rfl | rfl | rfl | rfl
  · exact ⟨hA, lA⟩
  · exact ⟨hB, lB⟩
  · exact ⟨uniL_bys hA hB, key qs⟩
  · exact ⟨uniL_bys hA hA, key ks⟩
theorem buildM {v : Value} {ks : List (List Nat)} {w : World} (b : Int) (hp : RdP w v ks) (n : Nat) (hn : n = (bldL b ks).length) (E : Nat) (hE : E = bldE b ks.length) :
    Calls Try.prog 13 #[.int .i64 b, v] w fun e w' => ∃ a c, e = .returned (.tuple #[.slice a n c, .int .i64 (E : Int)]) ∧ Own w' w.heap.size (.slice a n c) n (bldL b ks) ∧ Below w.heap.size w w' := by
  refine (build_any b hp).mono ?_
  rintro e w' ⟨a, m, c, rfl, own, hb⟩
  have hm := own.1
  rw [← hn] at hm
  subst hm hE
  exact ⟨a, c, rfl, own, hb⟩
theorem unionM {va vb : Value} {A B : List Nat} {w : World} (ha : Rd w va A) (hb : Rd w vb B) (n : Nat) (hn : n = (uniL A B).length) (E : Nat) (hE : E = uniE A B) :
    Calls Try.prog 15 #[va, vb] w fun e w' => ∃ a c, e = .returned (.tuple #[.slice a n c, .int .i64 (E : Int)]) ∧ Own w' w.heap.size (.slice a n c) n (uniL A B) ∧ Below w.heap.size w w' := by
  refine (union_any ha hb).mono ?_
  rintro e w' ⟨a, m, c, rfl, own, hb⟩
  have hm := own.1
  rw [← hn] at hm
  subst hm hE
  exact ⟨a, c, rfl, own, hb⟩
theorem Fw.later {w0 w w' : World} {B nl cl nu cu : Nat} {al au : Option Addr} {rl ru ls us : List Value} {C D : List (List Nat)} (h : Fw w0 w B nl cl nu cu al au rl ru ls us C D) (hb : Below w.heap.size w w') : Fw w0 w' B nl cl nu cu al au rl ru ls us C D :=
  ⟨h.bel.trans (hb.mono h.hB), Nat.le_trans h.hB hb.size, h.sh.later hb, h.kx.later hb, rowB_later h.l hb, rowB_later h.u hb, h.ap⟩
/-- A copy, by its number. -/
theorem copyAt {w : World} {B n cu j : Nat} {au : Option Addr} {vs us rs : List Value} {D : List (List Nat)} (kx : Kx w B vs us D) (r : R2 w B n cu au us rs) (hj : j < n) :
    ∃ gU a c y, au = some ⟨gU, 0, none⟩ ∧ D[j]? = some y ∧ w.cell? ⟨gU, j, none⟩ = some (.slice a y.length c) ∧ Own w B (.slice a y.length c) y.length y := by
  have hl : us.length = n := by have := r.row.1; simpa using this
  have hjl : j < us.length := by omega
  have hjd : j < D.length := by rw [← kx.len]; exact hjl
  have o := kx.own j us[j] D[j] (List.getElem?_eq_getElem hjl) (List.getElem?_eq_getElem hjd)
  obtain ⟨a, c, e⟩ := own_form o.2
  obtain ⟨g, h1, h2, _⟩ := r.cell (List.getElem?_eq_getElem hjl)
  refine ⟨g, a, c, D[j], h1, List.getElem?_eq_getElem hjd, ?_, e ▸ o⟩
  rw [h2, e]
theorem and_three (t : Nat) (h : t < 8) : bits BinOp.and IntKind.i64 (t : Int) 3 = ((t % 4 : Nat) : Int) := by
  have k : ∀ n : Fin 8, bits BinOp.and IntKind.i64 ((n.val : Nat) : Int) 3 = ((n.val % 4 : Nat) : Int) := by decide +kernel
  exact k ⟨t, h⟩
theorem repL_two (P : List (List Nat)) : repL P 2 = P ++ P := by simp [repL, List.replicate_succ]
end Go.Proofs.Ytieehdhinponcaa
