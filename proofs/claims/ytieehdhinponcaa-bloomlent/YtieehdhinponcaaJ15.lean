import Derived.Test.YtieehdhinponcaaJ14
namespace Go.Proofs.Ytieehdhinponcaa
open Go.RowKit
set_option linter.unusedVariables false

set_option maxRecDepth 100000 in
theorem copied_any {a0 : Option Addr} {n0 c0 : Nat} {L : List Nat} {w : World} (hr : Rd w (.slice a0 n0 c0) L) (hl : n0 ≤ 140737488351232) :
    Calls Try.prog 22 #[.slice a0 n0 c0] w fun e w' => ∃ a c, e = .returned (.slice a n0 c) ∧ Own w' w.heap.size (.slice a n0 c) n0 L ∧ Below w.heap.size w w' := by
  have HR : Hid (Rd w (.slice a0 n0 c0) L) := hr
  have HN : Hid (n0 = L.length) := (rd_lens hr).1
  clear hr
  go_enter Try.func22, Try.ntmps22
  go_wp2_with (at_builtin; refine wpList_append_at rfl _ _ rfl w.heap.size _ _ _ _ rfl (ownNil _ _) _ _ _ _ rfl HR.out (by omega) (Nat.le_refl _) ?_; intro a4 m4 c4 w4 own4 b4; have O4 : Hid (Own w4 w.heap.size (.slice a4 m4 c4) m4 L) := own4; clear own4)
  have e : m4 = n0 := by rw [O4.out.1, HN.out]
  subst e
  go_ret
  exact ⟨a4, c4, rfl, O4.out, b4⟩

/-- append(own, parts ..): slices of bytes, which were just laid into a block of their own. -/
theorem wpList_append_parts {w : World} {ops : Array Oper} {rest : List Oper} {o : Oper} {a : Act} {Q : Exit → Act → World → Prop}
    (hgd : o.guard = none) (s x : Operand) (ho : o.op = .call { callee := .builtin .append, args := #[s, x], argTypes := #[22, 22] })
    (B : Nat) (a0 : Option Addr) (m0 c0 : Nat) (vs : List Value) (hs : a.eval s = .slice a0 m0 c0) (hown : w.ownsRow B 24 1 (.slice a0 m0 c0) m0 vs)
    (us : Array Value) (m : Nat) (hm1 : us.size = m) (hu1 : ∀ u ∈ us.toList, u.oneCell' = true) (hx : a.eval x = .slice (some ⟨w.heap.size, 0, none⟩) m m) (hm : m0 + m ≤ 5864062014805) (hB : B ≤ w.heap.size)
    (h : ∀ a' c' w', w'.ownsRow B 24 1 (.slice a' (m0 + m) c') (m0 + m) (vs ++ us.toList) → w.grownBy w' (Value.slice a0 m0 c0).ownBlock → (∀ g, (Value.slice a' (m0 + m) c').ownBlock = some g → (Value.slice a0 m0 c0).ownBlock = some g ∨ w.heap.size < g) → wpList Try.prog ops Q rest (a.put o.dst (.slice a' (m0 + m) c')) w') : wpList Try.prog ops Q (o :: rest) a (w.alloc (.cells us 24)) := by
  obtain ⟨i0, hi, hz0, hz1, hz2⟩ := info_parts info_bytes
  have hnews : ∀ j u, us.toList[j]? = some u → (w.alloc (.cells us 24)).cell? ((⟨w.heap.size, 0, none⟩ : Addr).add j) = some u := by
    have := news_new w us.toList 24
    simpa using this
  refine wpList_append_own_at _ hgd s x 22 ho B 24 i0 (.slice none 0 0) 1 24 und_parts hi hz0 hz1 hz2 rfl (by decide) _ m0 vs hs (hown.alloc _) ⟨w.heap.size, 0, none⟩ m m us.toList hx (by simp [hm1]) hnews hu1 (by unfold maxLen; omega) (by omega) (by simp; omega) ?_
  intro v' w' h1 h2 _ h4
  obtain ⟨a', c', rfl⟩ := row_form h1
  refine h a' c' w' h1 ((World.grownBy_alloc w _ _).trans h2) (fun g hg => ?_)
  rcases h4 with h4 | h4
  · exact .inl (h4 ▸ hg)
  · rw [h4] at hg
    simp at hg
    omega

/-- A row beside the others. -/
structure R2 (w : World) (B n c : Nat) (a : Option Addr) (us : List Value) (rs : List Value) : Prop where
  row : w.ownsRow B 24 1 (.slice a n c) n us
  ap : ∀ r ∈ rs, Ap (.slice a n c) r
theorem R2.later {w w' : World} {B n c : Nat} {a : Option Addr} {us rs : List Value} (h : R2 w B n c a us rs) (hb : Below w.heap.size w w') : R2 w' B n c a us rs := ⟨rowB_later h.row hb, h.ap⟩
theorem R2.kept_bytes {w w' : World} {B B' m n c : Nat} {a : Option Addr} {us rs : List Value} {v : Value} {x : List Nat} (h : R2 w B n c a us rs) (o : Own w B' v m x) (hg : w.grownBy w' v.ownBlock) : R2 w' B n c a us rs := ⟨row_kept h.row hg (row_apart h.row o.2 (by decide)), h.ap⟩
theorem R2.kept_row {w w' : World} {B n c : Nat} {a : Option Addr} {us rs : List Value} {r : Value} (h : R2 w B n c a us rs) (hr : r ∈ rs) (hg : w.grownBy w' r.ownBlock) : R2 w' B n c a us rs := ⟨row_kept h.row hg (h.ap r hr), h.ap⟩
/-- One of the others moved. -/
theorem R2.moved {w w' : World} {B n c : Nat} {a : Option Addr} {us : List Value} {r r' q : Value} (h : R2 w B n c a us [q, r]) (hg : w.grownBy w' r.ownBlock) (loc : ∀ g, r'.ownBlock = some g → r.ownBlock = some g ∨ w.heap.size < g) : R2 w' B n c a us [q, r'] :=
  ⟨row_kept h.row hg (h.ap r (by simp)), fun z hz => by
    simp only [List.mem_cons, List.not_mem_nil, or_false] at hz
    rcases hz with rfl | rfl
    · exact h.ap z (by simp)
    · exact (ap_new h.row (h.ap r (by simp)).symm loc).symm⟩
theorem R2.cell {w : World} {B n c j : Nat} {a : Option Addr} {us rs : List Value} {u : Value} (h : R2 w B n c a us rs) (hj : us[j]? = some u) : ∃ g, a = some ⟨g, 0, none⟩ ∧ w.cell? ⟨g, j, none⟩ = some u ∧ j < n := by
  have hl : us.length = n := by have := h.row.1; simpa using this
  have hj2 : j < n := by rw [← hl]; exact (List.getElem?_eq_some_iff.1 hj).1
  rcases h.row.2 with ⟨h1, h2⟩ | ⟨g, cap, cur, h3, h4⟩
  · omega
  · simp only [Value.slice.injEq] at h3
    obtain ⟨rfl, _, _⟩ := h3
    refine ⟨g, rfl, ?_, hj2⟩
    rw [h.row.cellAt j (by omega)]
    exact hj
end Go.Proofs.Ytieehdhinponcaa

namespace Go.Proofs.Ytieehdhinponcaa
open Go.RowKit
set_option linter.unusedVariables false

set_option maxRecDepth 100000 in
/-- Any number as a place of n. -/
theorem spot_any (i : Int) (n : Nat) (hn : 0 < n) (hn2 : n ≤ 281474976710656) (hi : -9223372036854775808 ≤ i ∧ i ≤ 9223372036854775807) (w : World) :
    Calls Try.prog 30 #[.int .i64 i, .int .i64 (n : Int)] w fun e w' => (∃ p : Nat, p < n ∧ e = .returned (.int .i64 (p : Int))) ∧ w' = w := by
  have hn0 : ¬ ((n : Int) = 0) := by omega
  have hn1 : ((n : Int) == 0) = false := by rw [beq_eq_false_iff_ne]; omega
  have hlt : Int.tmod i n < n := Int.tmod_lt_of_pos i (by omega)
  have hgt : -(n : Int) < Int.tmod i n := by
    have := Int.lt_tmod_of_pos i (show (0 : Int) < n by omega)
    omega
  obtain ⟨r, hr⟩ : ∃ r, r = Int.tmod i n := ⟨_, rfl⟩
  rw [← hr] at hlt hgt
  have hw : r < 0 → IntKind.i64.wrap (r + (n : Int)) = r + (n : Int) := fun h => IntWalk.i64_in _ ⟨by omega, by omega⟩
  rw [hr] at hlt hgt hw
  clear hr
  go_enter Try.func30, Try.ntmps30
  go_wp2
  · go_ret
    exact ⟨⟨(Int.tmod i n + n).toNat, by omega, by rw [Int.toNat_of_nonneg (by omega)]; rfl⟩, rfl⟩
  · go_ret
    exact ⟨⟨(Int.tmod i n).toNat, by omega, by rw [Int.toNat_of_nonneg (by omega)]; rfl⟩, rfl⟩

/-- The keys in wide lists, with the filter and the key: what their caller changes in place. -/
structure Lw (w0 w : World) (B n cw ci nf cf ng cg gF gG : Nat) (aw ai : Option Addr) (us is : List Value) (ks : List (List Nat)) (F G : List Nat) : Prop where
  bel : Below B w0 w
  hB : B ≤ w.heap.size
  sh : Sh w B (us ++ [.slice (some ⟨gF, 0, none⟩) (nf + 5) cf, .slice (some ⟨gG, 0, none⟩) (ng + 5) cg]) ((ks ++ [F, G]).map (· ++ marksL))
  rw_ : w.ownsRow B 24 1 (.slice aw n cw) n us
  ri : w.ownsRow B 24 1 (.slice ai n ci) n is
  rel : ∀ j, j < n → ∃ g c, us[j]? = some (.slice (some ⟨g, 0, none⟩) ((ks.getD j []).length + 5) c) ∧ is[j]? = some (.slice (some ⟨g, 0, none⟩) (ks.getD j []).length c)
  hks : ks.length = n
  hF : F.length = nf
  hG : G.length = ng
  bk : ∀ i, Bys (ks.getD i [])
  bF : Bys F
  bG : Bys G
  ln : ∀ i, (ks.getD i []).length ≤ 140737488351232
theorem Lw.later {w0 w w' : World} {B n cw ci nf cf ng cg gF gG : Nat} {aw ai : Option Addr} {us is : List Value} {ks : List (List Nat)} {F G : List Nat} (h : Lw w0 w B n cw ci nf cf ng cg gF gG aw ai us is ks F G) (hb : Below w.heap.size w w') : Lw w0 w' B n cw ci nf cf ng cg gF gG aw ai us is ks F G :=
  ⟨h.bel.trans (hb.mono h.hB), Nat.le_trans h.hB hb.size, h.sh.later hb, rowB_later h.rw_ hb, rowB_later h.ri hb, h.rel, h.hks, h.hF, h.hG, h.bk, h.bF, h.bG, h.ln⟩
theorem Lw.ul {w0 w : World} {B n cw ci nf cf ng cg gF gG : Nat} {aw ai : Option Addr} {us is : List Value} {ks : List (List Nat)} {F G : List Nat} (h : Lw w0 w B n cw ci nf cf ng cg gF gG aw ai us is ks F G) : us.length = n ∧ is.length = n := by
  have h1 := h.rw_.1
  have h2 := h.ri.1
  simp at h1 h2
  exact ⟨h1, h2⟩
theorem upto_own {w : World} {B g m c : Nat} {L : List Nat} (o : Own w B (.slice (some ⟨g, 0, none⟩) (m + 5) c) (m + 5) (L ++ marksL)) (hL : L.length = m) (hb : Bys L) (hl : m ≤ 140737488351232) : Rd w (.slice (some ⟨g, 0, none⟩) (m + 5) c) (L ++ marksL) ∧ Rd w (.slice (some ⟨g, 0, none⟩) m c) L := by
  have hby : Bys (L ++ marksL) := by
    intro x hx
    rcases List.mem_append.1 hx with h | h
    · exact hb x h
    · exact marks_bys x h
  have r := o.rd hby (by omega)
  refine ⟨r, ?_⟩
  have := r.upto m (by omega)
  rwa [show (L ++ marksL).take m = L by rw [← hL]; simp] at this
theorem Lw.ownK {w0 w : World} {B n cw ci nf cf ng cg gF gG j : Nat} {aw ai : Option Addr} {us is : List Value} {ks : List (List Nat)} {F G : List Nat} (h : Lw w0 w B n cw ci nf cf ng cg gF gG aw ai us is ks F G) (hj : j < n) :
    ∃ g c, us[j]? = some (.slice (some ⟨g, 0, none⟩) ((ks.getD j []).length + 5) c) ∧ is[j]? = some (.slice (some ⟨g, 0, none⟩) (ks.getD j []).length c) ∧ Own w B (.slice (some ⟨g, 0, none⟩) ((ks.getD j []).length + 5) c) ((ks.getD j []).length + 5) (ks.getD j [] ++ marksL) := by
  obtain ⟨g, c, h1, h2⟩ := h.rel j hj
  refine ⟨g, c, h1, h2, ?_⟩
  have hjk : j < ks.length := by rw [h.hks]; exact hj
  have e : ks.getD j [] = ks[j] := by simp [List.getD, List.getElem?_eq_getElem hjk]
  have o := h.sh.own j _ (ks[j] ++ marksL) (by rw [List.getElem?_append_left (by rw [h.ul.1]; exact hj)]; exact h1) (by rw [List.getElem?_map, List.getElem?_append_left hjk, List.getElem?_eq_getElem hjk]; rfl)
  rw [e] at *
  have el : (ks[j] ++ marksL).length = ks[j].length + 5 := by simp [marksL]
  rw [el] at o
  exact o
theorem Lw.ownF {w0 w : World} {B n cw ci nf cf ng cg gF gG : Nat} {aw ai : Option Addr} {us is : List Value} {ks : List (List Nat)} {F G : List Nat} (h : Lw w0 w B n cw ci nf cf ng cg gF gG aw ai us is ks F G) :
    Own w B (.slice (some ⟨gF, 0, none⟩) (nf + 5) cf) (nf + 5) (F ++ marksL) ∧ Own w B (.slice (some ⟨gG, 0, none⟩) (ng + 5) cg) (ng + 5) (G ++ marksL) := by
  have hu := h.ul.1
  have hk := h.hks
  have o1 := h.sh.own n _ (F ++ marksL) (by rw [List.getElem?_append_right (by omega), hu, Nat.sub_self]; rfl) (by rw [List.getElem?_map, List.getElem?_append_right (by omega), hk, Nat.sub_self]; rfl)
  have o2 := h.sh.own (n + 1) _ (G ++ marksL) (by rw [List.getElem?_append_right (by omega), hu, show n + 1 - n = 1 by omega]; rfl) (by rw [List.getElem?_map, List.getElem?_append_right (by omega), hk, show n + 1 - n = 1 by omega]; rfl)
  have e1 : (F ++ marksL).length = nf + 5 := by simp [marksL, h.hF]
  have e2 : (G ++ marksL).length = ng + 5 := by simp [marksL, h.hG]
  rw [e1] at o1
  rw [e2] at o2
  exact ⟨o1, o2⟩
/-- The row reads as the keys. -/
theorem Lw.rdp {w0 w : World} {B n cw ci nf cf ng cg gF gG : Nat} {aw ai : Option Addr} {us is : List Value} {ks : List (List Nat)} {F G : List Nat} (h : Lw w0 w B n cw ci nf cf ng cg gF gG aw ai us is ks F G) (hn : n ≤ 281474976710656) : RdP w (.slice ai n ci) ks := by
  have hk := h.hks
  subst hk
  refine ⟨hn, ai, ci, rfl, ?_⟩
  rcases h.ri.2 with ⟨h1, h2⟩ | ⟨g, cap, cur, h3, h4⟩
  · exact .inl (List.eq_nil_of_length_eq_zero h2)
  · simp only [Value.slice.injEq] at h3
    obtain ⟨rfl, _, _⟩ := h3
    refine .inr ⟨g, 0, rfl, fun i hi => ?_⟩
    obtain ⟨g1, c1, _, h6, o⟩ := h.ownK hi
    refine ⟨_, ?_, (upto_own o rfl (h.bk i) (h.ln i)).2⟩
    rw [Nat.zero_add, h.ri.cellAt i (by omega)]
    exact h6
theorem Lw.cellI {w0 w : World} {B n cw ci nf cf ng cg gF gG j : Nat} {aw ai : Option Addr} {us is : List Value} {ks : List (List Nat)} {F G : List Nat} (h : Lw w0 w B n cw ci nf cf ng cg gF gG aw ai us is ks F G) (hj : j < n) :
    ∃ gi gw g c, ai = some ⟨gi, 0, none⟩ ∧ aw = some ⟨gw, 0, none⟩ ∧ w.cell? ⟨gi, j, none⟩ = some (.slice (some ⟨g, 0, none⟩) (ks.getD j []).length c) ∧ w.cell? ⟨gw, j, none⟩ = some (.slice (some ⟨g, 0, none⟩) ((ks.getD j []).length + 5) c) ∧ us[j]? = some (.slice (some ⟨g, 0, none⟩) ((ks.getD j []).length + 5) c) ∧ is[j]? = some (.slice (some ⟨g, 0, none⟩) (ks.getD j []).length c) ∧ Own w B (.slice (some ⟨g, 0, none⟩) ((ks.getD j []).length + 5) c) ((ks.getD j []).length + 5) (ks.getD j [] ++ marksL) := by
  obtain ⟨g, c, h1, h2, o⟩ := h.ownK hj
  rcases h.ri.2 with ⟨_, h0⟩ | ⟨gi, cap, cur, h3, h4⟩
  · omega
  rcases h.rw_.2 with ⟨_, h0⟩ | ⟨gw, cap', cur', h3', h4'⟩
  · omega
  simp only [Value.slice.injEq] at h3 h3'
  obtain ⟨rfl, _, _⟩ := h3
  obtain ⟨rfl, _, _⟩ := h3'
  refine ⟨gi, gw, g, c, rfl, rfl, ?_, ?_, h1, h2, o⟩
  · rw [h.ri.cellAt j (by omega)]; exact h2
  · rw [h.rw_.cellAt j (by omega)]; exact h1
theorem bys_set {L : List Nat} (h : Bys L) (p z : Nat) (hz : z < 256) : Bys (L.set p z) := by
  intro x hx
  rcases List.mem_or_eq_of_mem_set hx with h1 | h1
  · exact h x h1
  · omega
theorem set_marks (L : List Nat) (p z : Nat) (hp : p < L.length) : (L ++ marksL).set p z = L.set p z ++ marksL := by rw [List.set_append_left _ _ hp]
/-- A byte of a key is changed in place. -/
theorem Lw.setK {w0 w : World} {B n cw ci nf cf ng cg gF gG j g c p z : Nat} {aw ai : Option Addr} {us is : List Value} {ks : List (List Nat)} {F G : List Nat} (h : Lw w0 w B n cw ci nf cf ng cg gF gG aw ai us is ks F G) (hj : j < n) (hu : us[j]? = some (.slice (some ⟨g, 0, none⟩) ((ks.getD j []).length + 5) c)) (hp : p < (ks.getD j []).length) (hz : z < 256) :
    Lw w0 (w.setCell ⟨g, p, none⟩ (.int .u8 (z : Int))) B n cw ci nf cf ng cg gF gG aw ai us is (ks.set j ((ks.getD j []).set p z)) F G := by
  have hjk : j < ks.length := by rw [h.hks]; exact hj
  have e : ks.getD j [] = ks[j] := by simp [List.getD, List.getElem?_eq_getElem hjk]
  have hC : ((ks ++ [F, G]).map (· ++ marksL))[j]? = some (ks.getD j [] ++ marksL) := by rw [List.getElem?_map, List.getElem?_append_left hjk, List.getElem?_eq_getElem hjk, e]; rfl
  have hU : (us ++ [.slice (some ⟨gF, 0, none⟩) (nf + 5) cf, .slice (some ⟨gG, 0, none⟩) (ng + 5) cg])[j]? = some (.slice (some ⟨g, 0, none⟩) ((ks.getD j []).length + 5) c) := by rw [List.getElem?_append_left (by rw [h.ul.1]; exact hj)]; exact hu
  have o := h.sh.own j _ _ hU hC
  obtain ⟨s1, s2⟩ := h.sh.store hU hC (k := p) z
  have hg : w.grownBy (w.setCell ⟨g, p, none⟩ (.int .u8 (z : Int))) (Value.slice (some ⟨g, 0, none⟩) ((ks.getD j []).length + 5) c).ownBlock := s2
  have hgd : ∀ i, (ks.set j ((ks.getD j []).set p z)).getD i [] = if i = j then (ks.getD j []).set p z else ks.getD i [] := by
    intro i
    by_cases hij : i = j
    · subst hij; rw [if_pos rfl, List.getD_eq_getElem?_getD, List.getElem?_set_self hjk]; rfl
    · rw [if_neg hij, List.getD_eq_getElem?_getD, List.getElem?_set_ne (fun e => hij e.symm), List.getD_eq_getElem?_getD]
  have hgl : ∀ i, ((ks.set j ((ks.getD j []).set p z)).getD i []).length = (ks.getD i []).length := by
    intro i
    rw [hgd]
    split
    · rename_i h; subst h; simp
    · rfl
  refine ⟨h.bel.grown s2 h.hB (fun q hq => by cases hq; exact (o.2.lt g rfl).1), Nat.le_trans h.hB s2.size, ?_, row_kept h.rw_ hg (row_apart h.rw_ o.2 (by decide)), row_kept h.ri hg (row_apart h.ri o.2 (by decide)), fun i hi => ?_, by simp [h.hks], h.hF, h.hG, fun i => ?_, h.bF, h.bG, fun i => by rw [hgl]; exact h.ln i⟩
  · have e2 : ((ks ++ [F, G]).map (· ++ marksL)).set j ((ks.getD j [] ++ marksL).set p z) = ((ks.set j ((ks.getD j []).set p z)) ++ [F, G]).map (· ++ marksL) := by
      rw [set_marks _ _ _ hp, ← List.set_append_left _ _ hjk, List.map_set]
    rw [← e2]
    exact s1
  · rw [hgl]; exact h.rel i hi
  · rw [hgd]
    split
    · exact bys_set (h.bk j) p z hz
    · exact h.bk i
theorem Lw.setF {w0 w : World} {B n cw ci nf cf ng cg gF gG p z : Nat} {aw ai : Option Addr} {us is : List Value} {ks : List (List Nat)} {F G : List Nat} (h : Lw w0 w B n cw ci nf cf ng cg gF gG aw ai us is ks F G) (hp : p < nf) (hz : z < 256) :
    Lw w0 (w.setCell ⟨gF, p, none⟩ (.int .u8 (z : Int))) B n cw ci nf cf ng cg gF gG aw ai us is ks (F.set p z) G := by
  have hu := h.ul.1
  have hk := h.hks
  have hC : ((ks ++ [F, G]).map (· ++ marksL))[n]? = some (F ++ marksL) := by rw [List.getElem?_map, List.getElem?_append_right (by omega), hk, Nat.sub_self]; rfl
  have hU : (us ++ [.slice (some ⟨gF, 0, none⟩) (nf + 5) cf, .slice (some ⟨gG, 0, none⟩) (ng + 5) cg])[n]? = some (.slice (some ⟨gF, 0, none⟩) (nf + 5) cf) := by rw [List.getElem?_append_right (by omega), hu, Nat.sub_self]; rfl
  have o := h.sh.own n _ _ hU hC
  obtain ⟨s1, s2⟩ := h.sh.store hU hC (k := p) z
  have hg : w.grownBy (w.setCell ⟨gF, p, none⟩ (.int .u8 (z : Int))) (Value.slice (some ⟨gF, 0, none⟩) (nf + 5) cf).ownBlock := s2
  refine ⟨h.bel.grown s2 h.hB (fun q hq => by cases hq; exact (o.2.lt gF rfl).1), Nat.le_trans h.hB s2.size, ?_, row_kept h.rw_ hg (row_apart h.rw_ o.2 (by decide)), row_kept h.ri hg (row_apart h.ri o.2 (by decide)), h.rel, h.hks, by simp [h.hF], h.hG, h.bk, bys_set h.bF p z hz, h.bG, h.ln⟩
  have e2 : ((ks ++ [F, G]).map (· ++ marksL)).set n ((F ++ marksL).set p z) = (ks ++ [F.set p z, G]).map (· ++ marksL) := by
    rw [set_marks _ _ _ (by rw [h.hF]; exact hp), List.map_append, List.map_append, List.set_append_right _ _ (by simp [hk])]
    simp [hk]
  rw [← e2]
  exact s1
theorem Lw.setG {w0 w : World} {B n cw ci nf cf ng cg gF gG p z : Nat} {aw ai : Option Addr} {us is : List Value} {ks : List (List Nat)} {F G : List Nat} (h : Lw w0 w B n cw ci nf cf ng cg gF gG aw ai us is ks F G) (hp : p < ng) (hz : z < 256) :
    Lw w0 (w.setCell ⟨gG, p, none⟩ (.int .u8 (z : Int))) B n cw ci nf cf ng cg gF gG aw ai us is ks F (G.set p z) := by
  have hu := h.ul.1
  have hk := h.hks
  have hC : ((ks ++ [F, G]).map (· ++ marksL))[n + 1]? = some (G ++ marksL) := by rw [List.getElem?_map, List.getElem?_append_right (by omega), hk, show n + 1 - n = 1 by omega]; rfl
  have hU : (us ++ [.slice (some ⟨gF, 0, none⟩) (nf + 5) cf, .slice (some ⟨gG, 0, none⟩) (ng + 5) cg])[n + 1]? = some (.slice (some ⟨gG, 0, none⟩) (ng + 5) cg) := by rw [List.getElem?_append_right (by omega), hu, show n + 1 - n = 1 by omega]; rfl
  have o := h.sh.own (n + 1) _ _ hU hC
  obtain ⟨s1, s2⟩ := h.sh.store hU hC (k := p) z
  have hg : w.grownBy (w.setCell ⟨gG, p, none⟩ (.int .u8 (z : Int))) (Value.slice (some ⟨gG, 0, none⟩) (ng + 5) cg).ownBlock := s2
  refine ⟨h.bel.grown s2 h.hB (fun q hq => by cases hq; exact (o.2.lt gG rfl).1), Nat.le_trans h.hB s2.size, ?_, row_kept h.rw_ hg (row_apart h.rw_ o.2 (by decide)), row_kept h.ri hg (row_apart h.ri o.2 (by decide)), h.rel, h.hks, h.hF, by simp [h.hG], h.bk, h.bF, bys_set h.bG p z hz, h.ln⟩
  have e2 : ((ks ++ [F, G]).map (· ++ marksL)).set (n + 1) ((G ++ marksL).set p z) = (ks ++ [F, G.set p z]).map (· ++ marksL) := by
    rw [set_marks _ _ _ (by rw [h.hG]; exact hp), List.map_append, List.map_append, List.set_append_right _ _ (by simp [hk])]
    simp [hk]
  rw [← e2]
  exact s1
/-- While the keys are copied. -/
structure Cp (w0 w : World) (k ck : Nat) (ak : Option Addr) (vs : List Value) (ks : List (List Nat)) : Prop where
  bel : Below w0.heap.size w0 w
  row : w.ownsRow w0.heap.size 24 1 (.slice ak k ck) k vs
  own : ∀ j, j < k → ∃ a c, vs[j]? = some (.slice a (ks.getD j []).length c) ∧ Own w w0.heap.size (.slice a (ks.getD j []).length c) (ks.getD j []).length (ks.getD j [])
theorem Cp.nil (w0 : World) (ks : List (List Nat)) : Cp w0 w0 0 0 none [] ks := ⟨Below.refl _ _, World.ownsRow_nil _ _ _ _, fun j hj => by omega⟩
theorem Cp.later {w0 w w' : World} {k ck : Nat} {ak : Option Addr} {vs : List Value} {ks : List (List Nat)} (h : Cp w0 w k ck ak vs ks) (hb : Below w.heap.size w w') : Cp w0 w' k ck ak vs ks :=
  ⟨h.bel.trans (hb.mono h.bel.size), rowB_later h.row hb, fun j hj => let ⟨a, c, h1, h2⟩ := h.own j hj; ⟨a, c, h1, h2.later hb⟩⟩
theorem Cp.more {w0 w w' : World} {k ck ck' c m : Nat} {ak ak' a : Option Addr} {vs : List Value} {ks : List (List Nat)} (h : Cp w0 w k ck ak vs ks) (hm : m = (ks.getD k []).length) (o : Own w w0.heap.size (.slice a m c) m (ks.getD k [])) (hr : w'.ownsRow w0.heap.size 24 1 (.slice ak' (k + 1) ck') (k + 1) (vs ++ [.slice a m c])) (hg : w.grownBy w' (Value.slice ak k ck).ownBlock) : Cp w0 w' (k + 1) ck' ak' (vs ++ [.slice a m c]) ks := by
  have hl : vs.length = k := by have := h.row.1; simpa using this
  refine ⟨h.bel.grown hg h.bel.size (fun q hq => (h.row.lt q hq).1), hr, fun j hj => ?_⟩
  by_cases hjk : j < k
  · obtain ⟨a1, c1, h1, h2⟩ := h.own j hjk
    exact ⟨a1, c1, by rw [List.getElem?_append_left (by omega)]; exact h1, h2.kept_row h.row (by decide) hg⟩
  · have e : j = k := by omega
    subst e
    subst hm
    exact ⟨a, c, by rw [List.getElem?_append_right (by omega), hl, Nat.sub_self]; rfl, o.kept_row h.row (by decide) hg⟩
theorem Cp.rdp {w0 w : World} {ck n : Nat} {ak : Option Addr} {vs : List Value} {ks : List (List Nat)} (h : Cp w0 w n ck ak vs ks) (hk : ks.length = n) (hb : ∀ i, Bys (ks.getD i [])) (hl : ∀ i, (ks.getD i []).length ≤ 140737488351232) (hn : n ≤ 281474976710656) : RdP w (.slice ak n ck) ks := by
  subst hk
  refine ⟨hn, ak, ck, rfl, ?_⟩
  rcases h.row.2 with ⟨h1, h2⟩ | ⟨g, cap, cur, h3, h4⟩
  · exact .inl (List.eq_nil_of_length_eq_zero h2)
  · simp only [Value.slice.injEq] at h3
    obtain ⟨rfl, _, _⟩ := h3
    refine .inr ⟨g, 0, rfl, fun i hi => ?_⟩
    obtain ⟨a, c, h6, o⟩ := h.own i hi
    refine ⟨_, ?_, o.rd (hb i) (by have := hl i; omega)⟩
    rw [Nat.zero_add, h.row.cellAt i (by omega)]
    exact h6
theorem Cp.cell {w0 w : World} {ck n j : Nat} {ak : Option Addr} {vs : List Value} {ks : List (List Nat)} (h : Cp w0 w n ck ak vs ks) (hj : j < n) : ∃ gk a c, ak = some ⟨gk, 0, none⟩ ∧ w.cell? ⟨gk, j, none⟩ = some (.slice a (ks.getD j []).length c) ∧ Own w w0.heap.size (.slice a (ks.getD j []).length c) (ks.getD j []).length (ks.getD j []) := by
  obtain ⟨a, c, h1, o⟩ := h.own j hj
  rcases h.row.2 with ⟨_, h2⟩ | ⟨g, cap, cur, h3, h4⟩
  · omega
  · simp only [Value.slice.injEq] at h3
    obtain ⟨rfl, _, _⟩ := h3
    refine ⟨g, a, c, rfl, ?_, o⟩
    rw [h.row.cellAt j (by omega)]
    exact h1
theorem unionR {va vb : Value} {A B : List Nat} {w : World} (ha : Rd w va A) (hb : Rd w vb B) (hl : A.length ≤ 140737488351232) :
    Calls Try.prog 15 #[va, vb] w fun e w' => ∃ a m c, e = .returned (.tuple #[.slice a m c, .int .i64 ((uniE A B : Nat) : Int)]) ∧ Rd w' (.slice a m c) (uniL A B) ∧ Below w.heap.size w w' := by
  refine (union_any ha hb).mono ?_
  rintro e w' ⟨a, m, c, rfl, own, b⟩
  exact ⟨a, m, c, rfl, own.rd (uniL_bys ha.1 hb.1) (by have := own.1; have := uniL_len A B; omega), b⟩
theorem refUnionR {va vb : Value} {A B : List Nat} {w : World} (ha : Rd w va A) (hb : Rd w vb B) (hl : A.length ≤ 140737488351232) :
    Calls Try.prog 28 #[va, vb] w fun e w' => ∃ a m c, e = .returned (.tuple #[.slice a m c, .int .i64 ((uniE A B : Nat) : Int)]) ∧ Rd w' (.slice a m c) (uniL A B) ∧ Below w.heap.size w w' := by
  refine (refUnion_any ha hb).mono ?_
  rintro e w' ⟨a, m, c, rfl, own, b⟩
  exact ⟨a, m, c, rfl, own.rd (uniL_bys ha.1 hb.1) (by have := own.1; have := uniL_len A B; omega), b⟩
theorem and_odd (t : Nat) (h : t < 64) : bits BinOp.and IntKind.i64 (t : Int) 1 = ((t % 2 : Nat) : Int) := by
  have k : ∀ n : Fin 64, bits BinOp.and IntKind.i64 ((n.val : Nat) : Int) 1 = ((n.val % 2 : Nat) : Int) := by decide +kernel
  exact k ⟨t, h⟩
theorem store_cell {w : World} {B g m c k z q i : Nat} {x : List Nat} {v : Value} (o : Own w B (.slice (some ⟨g, 0, none⟩) m c) m x) (h : w.cell? ⟨q, i, none⟩ = some v) (hne : g < q) : (w.setCell ⟨g, k, none⟩ (.int .u8 (z : Int))).drew.cell? ⟨q, i, none⟩ = some v := by
  have st := o.2.stored k (.int .u8 (z : Int))
  have h1 : (w.setCell ⟨g, k, none⟩ (.int .u8 (z : Int))).cell? ⟨q, i, none⟩ = some v := st.2.cell h (fun e => by simp at e; omega)
  have hb : Below (w.setCell ⟨g, k, none⟩ (.int .u8 (z : Int))).heap.size (w.setCell ⟨g, k, none⟩ (.int .u8 (z : Int))) (w.setCell ⟨g, k, none⟩ (.int .u8 (z : Int))).drew := (Below.refl _ _).drew
  rw [hb.cell (p := ⟨q, i, none⟩) (World.block_lt_of_cell? _ _ h1)]
  exact h1
end Go.Proofs.Ytieehdhinponcaa
