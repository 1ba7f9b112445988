import Derived.Test.YthhkpkfpifllkaaGreatK17
namespace Go.Proofs.YthhkpkfpifllkaaGreat
open Go.RowKit Go.Maps
set_option linter.unusedVariables false

set_option maxRecDepth 100000 in
theorem wpl_append_rd {w : World} {ops : Array Oper} {rest : List Oper} {o : Oper} {a : Act} {Q : Exit → Act → World → Prop} (hgd : o.guard = none) (s x : Operand)
    (ho : o.op = .call { callee := .builtin .append, args := #[s, x], argTypes := #[28, 28] })
    (B : Nat) (v : Value) (xs : List EntD) (hs : a.eval s = v) (hown : w.ownsRow B 84 7 v xs.length (evals xs))
    (ad : Option Addr) (m cap : Nat) (ys : List EntD) (hx : a.eval x = .slice ad m cap) (hm : m = ys.length) (hu : RdL3 w ad cap ys) (hnn : ad = none → cap = 0) (hone : ∀ y ∈ ys, ∀ u ∈ y.cells.toList, u.oneCell' = true) (hn : (xs.length + ys.length) * 104 ≤ 140737488355328) (hB : B ≤ w.heap.size)
    (h : ∀ a' n' c' w', n' = (xs ++ ys).length → w'.ownsRow B 84 7 (.slice a' n' c') (xs ++ ys).length (evals (xs ++ ys)) → w.grownBy w' v.ownBlock → wpList Tryz.prog ops Q rest (a.put o.dst (.slice a' n' c')) w') : wpList Tryz.prog ops Q (o :: rest) a w := by
  obtain ⟨i0, hi, hz0, hz1, hz2⟩ := info_parts info_ent3
  subst hm
  cases ad with
  | none =>
    have hz : ys = [] := by
      have := hu.cap.1
      rw [hnn rfl] at this
      exact List.eq_nil_of_length_eq_zero (by omega)
    subst hz
    obtain rfl := hnn rfl
    obtain ⟨a', c', rfl⟩ := rows_form3 hown
    refine wpList_append_own_none hgd s x 28 ho B 84 i0 7 und_ents3 hi _ _ _ hs hown (by simpa using hx) ?_
    exact h _ _ _ _ (by simp) (by simpa using hown) ⟨rfl, rfl, rfl, Nat.le_refl _, fun _ _ _ => rfl⟩
  | some ad =>
    refine wpList_append_own _ hgd s x 28 ho B 84 i0 _ 7 104 und_ents3 hi hz0 hz1 hz2 rfl (by decide) _ _ _ hs hown ad ys.length cap (evals ys) hx (evals_len ys) (fun j u hj => ?_) (fun u hu => ?_) (by unfold maxLen; omega) (by omega) hB ?_
    · obtain ⟨y, e1, e2⟩ := evals_get3 hj
      rcases hu.at_ with h0 | ⟨b, off, eb, hc⟩
      · rw [h0] at e1; simp at e1
      · cases eb
        have e : (⟨b, off, none⟩ : Addr).add j = ⟨b, off + j, none⟩ := by unfold Addr.add; split <;> simp_all
        rw [e]
        have := hc _ y e1 _ _ e2
        rwa [show off + j / 7 * 7 + j % 7 = off + j from by omega] at this
    · obtain ⟨j, hj⟩ := List.getElem?_of_mem hu
      obtain ⟨y, e1, e2⟩ := evals_get3 hj
      exact hone y (List.mem_of_getElem? e1) u (List.mem_of_getElem? e2)
    · intro v' w' k1 k2 k3
      rw [← evals_app3, ← List.length_append] at k1
      obtain ⟨a', c', rfl⟩ := rows_form3 k1
      exact h _ _ _ _ rfl k1 k2
structure Od (W wr : World) (l : List EntD) (t : Nat) (zs : List EntD) (v : Value) : Prop where
  row : wr.ownsRow W.heap.size 84 7 v zs.length (evals zs)
  ents : ∀ x ∈ zs, O3 wr W.heap.size x
  below : Below W.heap.size W wr
  srt : zs.Pairwise fun x y => compareS x y < 0
  mem : ∀ d, d ∈ zs.map EntD.dat ↔ d ∈ (l.take t).map EntD.dat
  by_ : ∀ x ∈ zs, ByE x.dat
theorem Od.later {W wr wr' : World} {l zs : List EntD} {t : Nat} {v : Value} (h : Od W wr l t zs v) (b : Below wr.heap.size wr wr') : Od W wr' l t zs v :=
  ⟨row_same h.row (fun g hg => b.block g (h.row.lt g hg).2), fun x hx => (h.ents x hx).later b, h.below.trans (b.mono h.below.size), h.srt, h.mem, h.by_⟩
theorem Od.rd {W wr : World} {l zs : List EntD} {t : Nat} {v : Value} (h : Od W wr l t zs v) : ∃ a c, v = .slice a zs.length c ∧ (a = none → c = 0) ∧ (∀ b, a = some b → ∃ g, b = ⟨g, 0, none⟩ ∧ W.heap.size ≤ g ∧ g < wr.heap.size) ∧ RdL3 wr a c zs := by
  have hok : ∀ x ∈ zs, EntD.Ok wr x := fun x hx => (h.ents x hx).okB (h.by_ x hx)
  obtain ⟨a, c, e, hr⟩ := row_rdl h.row hok
  refine ⟨a, c, e, fun z => ?_, fun b z => ?_, hr⟩
  · rcases h.row.2 with ⟨h1, _⟩ | ⟨g, cap, cur, h1, _⟩
    · rw [e] at h1; simp only [Value.slice.injEq] at h1; exact h1.2.2
    · rw [e, z] at h1; simp at h1
  · rcases h.row.2 with ⟨h1, _⟩ | ⟨g, cap, cur, h1, h2, h3, _⟩
    · rw [e, z] at h1; simp at h1
    · rw [e, z] at h1
      simp only [Value.slice.injEq, Option.some.injEq] at h1
      exact ⟨g, h1.1, h2, (Array.getElem?_eq_some_iff.1 h3).1⟩
theorem ins_srt {zs : List EntD} {x x' : EntD} {u : Nat} (hd : x'.dat = x.dat) (hs : zs.Pairwise fun x y => compareS x y < 0) (h1 : ∀ y ∈ zs.take u, compareS y x < 0) (h2 : ∀ y, zs[u]? = some y → 0 < compareS y x) : (zs.take u ++ [x'] ++ zs.drop u).Pairwise fun x y => compareS x y < 0 := by
  have cx : ∀ y, compareS y x' = compareS y x := fun y => compareS_same (EntD.dat_same.1 rfl) (EntD.dat_same.1 hd)
  have xy : ∀ y ∈ zs.drop u, compareS x' y < 0 := fun y hy => by
    have sw := compareS_swap y x'
    rw [cx] at sw
    cases hz : zs[u]? with
    | none =>
      have := List.getElem?_eq_none_iff.1 hz
      rw [List.drop_eq_nil_of_le this] at hy
      cases hy
    | some z =>
      have hzx := h2 z hz
      have e : zs.drop u = z :: zs.drop (u + 1) := by
        have h9 := List.getElem?_eq_some_iff.1 hz
        rw [List.drop_eq_getElem_cons h9.1, h9.2]
      have sz := compareS_swap z x'
      rw [cx] at sz
      rw [e] at hy
      rcases List.mem_cons.1 hy with q | q
      · rw [q]; omega
      · have hp := hs.sublist (List.drop_sublist u zs)
        rw [e] at hp
        have := (List.pairwise_cons.1 hp).1 y q
        exact cmp_lt_trans (by omega) this
  rw [List.append_assoc, List.pairwise_append]
  refine ⟨hs.sublist (List.take_sublist _ _), ?_, fun y hy z hz => ?_⟩
  · rw [List.singleton_append, List.pairwise_cons]
    exact ⟨xy, hs.sublist (List.drop_sublist _ _)⟩
  · rw [List.singleton_append] at hz
    rcases List.mem_cons.1 hz with q | q
    · rw [q, cx]; exact h1 y hy
    · have := h1 y hy
      rw [← cx] at this
      exact cmp_lt_trans this (xy z q)
theorem ins_mem {zs : List EntD} {x' : EntD} {u : Nat} (d : En) : d ∈ (zs.take u ++ [x'] ++ zs.drop u).map EntD.dat ↔ d ∈ zs.map EntD.dat ∨ d = x'.dat := by
  rw [List.map_append, List.map_append, List.mem_append, List.mem_append]
  conv => rhs; rw [← List.take_append_drop u zs, List.map_append, List.mem_append]
  simp only [List.map_cons, List.map_nil, List.mem_singleton]
  constructor
  · rintro ((a | a) | a)
    · exact .inl (.inl a)
    · exact .inr a
    · exact .inl (.inr a)
  · rintro ((a | a) | a)
    · exact .inl (.inl a)
    · exact .inr a
    · exact .inl (.inr a)
theorem RdL3.dropN {w : World} {g cap : Nat} {xs : List EntD} (h : RdL3 w (some ⟨g, 0, none⟩) cap xs) (u : Nat) : RdL3 w (some ⟨g, u * 7, none⟩) (cap - u) (xs.drop u) := by
  refine ⟨⟨by rw [List.length_drop]; have := h.cap.1; omega, by have := h.cap.2; omega⟩, .inr ⟨g, u * 7, rfl, fun i x hi j v hj => ?_⟩, fun x hx => h.ok x (List.mem_of_mem_drop hx)⟩
  rw [List.getElem?_drop] at hi
  have := h.cells (Below.refl _ _) hi j v hj
  rwa [show 0 + (u + i) * 7 + j = u * 7 + i * 7 + j from by omega] at this
theorem seq_of_cmp {x y : EntD} (h : compareS x y = 0) : x.seq = y.seq := by
  by_cases e : x.seq = y.seq
  · exact e
  · have a := ah_of (x := x) (y := y) (by omega) e
    have s := compareS_swap x y
    have b := ah_of (x := y) (y := x) (by omega) (fun z => e z.symm)
    exact (ah_asymm a b).elim
set_option maxRecDepth 100000 in
set_option maxHeartbeats 16000000 in
theorem refOrdered_any {W : World} {a : Option Addr} {cap : Nat} {l : List EntD} (hl : RdL3 W a cap l) (hs : ∀ x ∈ l, Shrt x) (hO : OneS l) (hn : l.length ≤ 1353245080300) :
    Calls Tryz.prog 51 #[.slice a l.length cap] W fun r W' => ∃ v zs, r = .returned v ∧ Od W W' l l.length zs v ∧ zs.length ≤ l.length := by
  obtain ⟨N, hN⟩ : ∃ N, N = l.length := ⟨_, rfl⟩
  have hc := hl.cap
  have HN := Lib.hid hN
  rw [← hN] at hn hc ⊢
  have HL := Lib.hid hl
  have HS := Lib.hid hs
  have HO := Lib.hid hO
  clear hN hl hs hO
  go_enter Tryz.func51, Tryz.ntmps51
  go_wp2
  go_loopw [3, 4, 5, 6] (fun m i _ _ wr => ∃ (t : Nat) (zs : List EntD) (am : Option Addr) (cm : Nat), t ≤ N ∧ i = .int .i64 (t : Int) ∧ m = .slice am zs.length cm ∧ Hid (Od W wr l t zs (.slice am zs.length cm)) ∧ zs.length ≤ t) (fun _ i _ _ _ => N - (intOf i).toNat)
  case atStart => exact ⟨0, [], none, 0, Nat.zero_le _, rfl, rfl, ⟨(Rw.nil W W.heap.size (fun _ => True)).row, by simp, Below.refl _ _, List.Pairwise.nil, by simp, by simp⟩, Nat.le_refl _⟩
  case round =>
    obtain ⟨t, zs, am, cm, ht, rfl, rfl, HQ, hzt⟩ := hrel
    have t0 : (0 : Int) ≤ (t : Int) := by omega
    obtain ⟨L, hL⟩ : ∃ L, L = zs.length := ⟨_, rfl⟩
    have HLz := Lib.hid hL
    rw [← hL] at HQ hzt ⊢
    clear hL
    obtain ⟨wr0, hw0⟩ : ∃ wr0, wr0 = wr := ⟨_, rfl⟩
    rw [← hw0] at HQ ⊢
    clear hw0
    by_cases hlt : t < N
    · have hlt2 : (t : Int) < (N : Int) := by omega
      obtain ⟨x, hx⟩ : ∃ x, l[t]? = some x := ⟨l[t]'(by rw [← HN.out]; exact hlt), List.getElem?_eq_getElem _⟩
      obtain ⟨bl, ol, rfl⟩ : ∃ b off, a = some ⟨b, off, none⟩ := by
        rcases HL.out.at_ with h0 | ⟨b, off, q, _⟩
        · rw [h0] at hx; simp at hx
        · exact ⟨b, off, q⟩
      have HX := Lib.hid hx
      have HCx : Hid (∀ Z, Below W.heap.size W Z → Z.cell? ⟨bl, ol + t * 7, none⟩ = some x.vr ∧ Z.cell? ⟨bl, ol + t * 7 + 1, none⟩ = some (.int .i64 x.fam) ∧ Z.cell? ⟨bl, ol + t * 7 + 2, none⟩ = some x.vq ∧ Z.cell? ⟨bl, ol + t * 7 + 3, none⟩ = some (.int .i64 x.ts) ∧ Z.cell? ⟨bl, ol + t * 7 + 4, none⟩ = some (.int .i64 x.seq) ∧ Z.cell? ⟨bl, ol + t * 7 + 5, none⟩ = some (.int .i64 x.kind) ∧ Z.cell? ⟨bl, ol + t * 7 + 6, none⟩ = some x.vv) := fun Z b => by
        have cx := (HL.out.later b).cells (Below.refl _ _) hx
        exact ⟨by have := cx 0 _ rfl; simpa using this, cx 1 _ rfl, cx 2 _ rfl, cx 3 _ rfl, cx 4 _ rfl, cx 5 _ rfl, cx 6 _ rfl⟩
      have hq2 := HQ.out
      rw [HLz.out] at hq2
      obtain ⟨am', cm', em, hnn, hsm, hrz⟩ := hq2.rd
      simp only [Value.slice.injEq] at em
      obtain ⟨rfl, -, rfl⟩ := em
      have HRz : Hid (∀ Z, Below wr0.heap.size wr0 Z → RdL3 Z am cm zs) := fun Z b => hrz.later b
      have HNn : Hid (am = none → cm = 0) := hnn
      have HEz : Hid (∀ y ∈ zs, O3 wr0 W.heap.size y) := HQ.out.ents
      have hcm : L ≤ cm := by rw [HLz.out]; exact hrz.cap.1
      clear hx hq2 hrz hnn
      cases am with
      | none =>
        obtain rfl := HNn.out rfl
        obtain rfl : L = 0 := by omega
        obtain ⟨u, hu0⟩ : ∃ u : Nat, u = 0 := ⟨0, rfl⟩
        have HBq : Hid (Below wr0.heap.size wr0 wr0) := Below.refl _ _
        have HU : Hid (∀ y ∈ zs.take u, compareS y x < 0) := by rw [hu0]; exact (fun y hy => by simp at hy)
        have hz0 : zs = [] := List.eq_nil_of_length_eq_zero HLz.out.symm
        have HUp : Hid (∀ y, zs[u]? = some y → 0 < compareS y x) := by rw [hz0]; exact (fun y hy => by simp at hy)
        have HZ0 := Lib.hid hz0
        clear hsm hz0 hu0
        go_wp2
        go_loopw [5] (fun at_ wq => at_ = .int .i64 0 ∧ ∃ n, wq = wr0.drewN n) (fun _ _ => 0)
        case atStart => exact ⟨rfl, 0, rfl⟩
        case round =>
          obtain ⟨rfl, nd, rfl⟩ := hrel
          go_wp2_with fail
          go_quiet (fail)
          go_wp2_with fail
          go_quiet (fail)
          obtain ⟨ta, hta⟩ : ∃ ta, ta = zs.take u := ⟨_, rfl⟩
          obtain ⟨td, htd⟩ : ∃ td, td = zs.drop u := ⟨_, rfl⟩
          have HTa := Lib.hid hta
          have HTd := Lib.hid htd
          have HS2 : Hid (∀ Z, Below wr0.heap.size wr0 Z → RdL3 Z none 0 td) := fun Z b => by rw [htd]; exact by rw [HZ0.out]; simp; exact ⟨⟨Nat.le_refl _, Nat.zero_le _⟩, .inl rfl, fun x hx => by cases hx⟩
          have HL2 : Hid (0 = td.length) := by
            unfold Hid
            rw [htd, List.length_drop, ← HLz.out]
            try omega
          have HT1 : Hid (0 = ta.length) := by
            unfold Hid
            rw [hta, List.length_take, ← HLz.out]
            omega
          have HR1 : Hid (∀ Z, Below wr0.heap.size wr0 Z → RdL3 Z none 0 ta) := fun Z b => by rw [hta]; exact (HRz.out _ b).takeN u
          have HE1 : Hid (∀ y ∈ ta, O3 wr0 W.heap.size y) := fun y hy => HEz.out y (List.mem_of_mem_take (hta ▸ hy))
          have HE2 : Hid (∀ y ∈ td, O3 wr0 W.heap.size y) := fun y hy => HEz.out y (List.mem_of_mem_drop (htd ▸ hy))
          clear hta htd
          go_wp2_with (at_builtin; refine wpl_append_rd rfl _ _ rfl wr0.heap.size (.slice none 0 0) [] rfl (Rw.nil _ wr0.heap.size (fun _ => True)).row _ _ _ ta rfl HT1.out (HR1.out _ (below_dn HBq.out _)) (fun _ => rfl) (fun y hy => (HE1.out y hy).cells_one) (by rw [← HT1.out]; simp only [List.length_nil]; omega) (below_dn HBq.out _).size ?_)
          intro n1 n2 n3 w5 hn5 row5 gr5
          have b5 : Below wr0.heap.size wr0 w5 := (below_dn HBq.out _).grown gr5 (below_dn HBq.out _).size (fun k hk => by cases hk)
          have B5 := Lib.hid b5
          have H5 : Hid (w5.ownsRow wr0.heap.size 84 7 (.slice n1 n2 n3) ta.length (evals ta)) := by unfold Hid; simpa using row5
          have HN2 : Hid (n2 = ta.length) := by unfold Hid; simpa using hn5
          obtain ⟨x0, x1, x2, x3, x4, x5, x6⟩ := HCx.out _ (HQ.out.below.trans (b5.mono HQ.out.below.size))
          have HCl := Lib.hid (cloneR_own ((HL.out.later (HQ.out.below.trans (b5.mono HQ.out.below.size))).ok x (List.mem_of_getElem? HX.out)) (HS.out x (List.mem_of_getElem? HX.out)))
          unfold EntD.cells at HCl
          clear row5 gr5 b5 hn5
          go_wp2_with fail
          refine Calls.mono HCl.out ?_
          rintro z1 w6 ⟨x', rfl, sx, ok1, o31, b6⟩
          have HSx := Lib.hid (EntD.dat_same.2 sx)
          have O31 := Lib.hid o31
          have B6 := Lib.hid b6
          obtain ⟨xr, xf, xq, xt, xs2, xk, xv, xrow, xqual, xval⟩ := x'
          obtain ⟨ar, cr, er⟩ := own_form' o31.row
          obtain ⟨aq, cq, eq⟩ := own_form' o31.qual
          obtain ⟨aw, cw, ew⟩ := own_form' o31.val
          simp only at er eq ew
          subst er eq ew
          dsimp only
          clear sx ok1 o31 b6 HCl x0 x1 x2 x3 x4 x5 x6
          have HAl := Lib.hid ((Below.refl w6.heap.size w6).alloc (Nat.le_refl _) (.cells #[.slice ar xrow.length cr, .int .i64 xf, .slice aq xqual.length cq, .int .i64 xt, .int .i64 xs2, .int .i64 xk, .slice aw xval.length cw] 84))
          have HRow : Hid ((w6.alloc (.cells #[.slice ar xrow.length cr, .int .i64 xf, .slice aq xqual.length cq, .int .i64 xt, .int .i64 xs2, .int .i64 xk, .slice aw xval.length cw] 84)).ownsRow wr0.heap.size 84 7 (.slice n1 n2 n3) ta.length (evals ta)) := row_same H5.out (fun g hg => (HAl.out.block g (Nat.lt_of_lt_of_le (H5.out.lt g hg).2 B6.out.size)).trans (B6.out.block g (H5.out.lt g hg).2))
          have HSz : Hid (wr0.heap.size ≤ (w6.alloc (.cells #[.slice ar xrow.length cr, .int .i64 xf, .slice aq xqual.length cq, .int .i64 xt, .int .i64 xs2, .int .i64 xk, .slice aw xval.length cw] 84)).heap.size) := Nat.le_trans B5.out.size (Nat.le_trans B6.out.size HAl.out.size)
          go_wp2_with (at_builtin; refine wpl_append_ent (x := (⟨.slice ar xrow.length cr, xf, .slice aq xqual.length cq, xt, xs2, xk, .slice aw xval.length cw, xrow, xqual, xval⟩ : EntD)) (xs := ta) rfl _ _ rfl rfl HRow.out ⟨w6.heap.size, 0, none⟩ rfl (ent_new w6 (⟨.slice ar xrow.length cr, xf, .slice aq xqual.length cq, xt, xs2, xk, .slice aw xval.length cw, xrow, xqual, xval⟩ : EntD)) (O3.cells_one O31.out) (by rw [← HT1.out]; omega) HSz.out ?_)
          intro a7 c7 w7 row7 gr7
          obtain ⟨xx, hxx⟩ : ∃ xx : EntD, xx = ⟨.slice ar xrow.length cr, xf, .slice aq xqual.length cq, xt, xs2, xk, .slice aw xval.length cw, xrow, xqual, xval⟩ := ⟨_, rfl⟩
          rw [← hxx] at row7 HSx O31
          have bA := B5.out.trans (B6.out.mono B5.out.size)
          have bB := bA.trans (HAl.out.mono bA.size)
          have b7 : Below wr0.heap.size wr0 w7 := bB.grown gr7 bB.size (fun k hk => (HRow.out.lt k hk).1)
          have ku7 : KU w6 w7 := (KU.of HAl.out).trans (row_ku (W := W) HRow.out gr7)
          have O7 : Hid (O3 w7 wr0.heap.size xx) := (O31.out.mono B5.out.size).ku ku7
          have B7 := Lib.hid b7
          have H7 : Hid (w7.ownsRow wr0.heap.size 84 7 (.slice a7 (ta.length + 1) c7) (ta ++ [xx]).length (evals (ta ++ [xx]))) := by
            unfold Hid
            rw [List.length_append]
            exact row7
          have HXX := Lib.hid hxx
          clear row7 gr7 bA bB b7 ku7 hxx
          go_wp2_with (at_builtin; refine wpl_append_rd rfl _ _ rfl wr0.heap.size _ (ta ++ [xx]) rfl H7.out _ _ _ td rfl HL2.out (HS2.out _ B7.out) (fun _ => rfl) (fun y hy => (HE2.out y hy).cells_one) (by rw [List.length_append, ← HT1.out, ← HL2.out]; simp only [List.length_cons, List.length_nil]; omega) B7.out.size ?_)
          intro a8 n8 c8 w8 hn8 row8 gr8
          have HF8 : Hid (Od W w8 l (t + 1) (ta ++ [xx] ++ td) (.slice a8 n8 c8)) := by
            have ku8 : KU w7 w8 := row_ku (W := W) H7.out gr8
            have b8 : Below wr0.heap.size wr0 w8 := B7.out.grown gr8 B7.out.size (fun k hk => (H7.out.lt k hk).1)
            refine ⟨row_low (by simpa using row8) HQ.out.below.size, fun y hy => ?_, HQ.out.below.trans (b8.mono HQ.out.below.size), by rw [HTa.out, HTd.out]; exact ins_srt HSx.out HQ.out.srt HU.out HUp.out, fun d => ?_, fun y hy => ?_⟩
            · rcases List.mem_append.1 hy with q | q
              · rcases List.mem_append.1 q with q | q
                · exact (HE1.out y q).later b8
                · rw [List.mem_singleton] at q
                  rw [q]
                  exact (O7.out.mono HQ.out.below.size).ku ku8
              · exact (HE2.out y q).later b8
            · rw [HTa.out, HTd.out, ins_mem, HQ.out.mem, List.take_add_one, HX.out, List.map_append, List.mem_append, HSx.out]
              simp
            · rcases List.mem_append.1 hy with q | q
              · rcases List.mem_append.1 q with q | q
                · exact HQ.out.by_ y (List.mem_of_mem_take (HTa.out ▸ q))
                · rw [List.mem_singleton] at q
                  rw [q, HSx.out]
                  exact HL.out.by _ (List.mem_map_of_mem (List.mem_of_getElem? HX.out))
              · exact HQ.out.by_ y (List.mem_of_mem_drop (HTd.out ▸ q))
          have HN8 : Hid (n8 = (ta ++ [xx] ++ td).length) := by unfold Hid; simpa using hn8
          have HLE : Hid ((ta ++ [xx] ++ td).length ≤ t + 1) := by
            unfold Hid
            rw [List.length_append, List.length_append, ← HT1.out, ← HL2.out]
            simp only [List.length_cons, List.length_nil]
            omega
          clear row8 gr8 hn8
          go_wp2
          go_roundw
          case rel => exact ⟨t + 1, _, a8, c8, by omega, by go_num, by rw [← HN8.out], by rw [← HN8.out]; exact HF8.out, HLE.out⟩
          case measure => simp only [intOf]; omega
      | some ad =>
        obtain ⟨g, rfl, hg1, hg2⟩ := hsm _ rfl
        clear hsm
        go_wp2
        go_loopw [5] (fun at_ wq => ∃ u : Nat, u ≤ L ∧ at_ = .int .i64 (u : Int) ∧ Hid (∀ y ∈ zs.take u, compareS y x < 0) ∧ Hid (Below wr0.heap.size wr0 wq)) (fun at_ _ => L - (intOf at_).toNat)
        case atStart => exact ⟨0, Nat.zero_le _, rfl, (fun y hy => by simp at hy), Below.refl _ _⟩
        case round =>
          obtain ⟨u, hu, rfl, HU, HBq⟩ := hrel
          have u0 : (0 : Int) ≤ (u : Int) := by omega
          have huc : (u : Int) ≤ (cm : Int) := by omega
          have hLc : (L : Int) ≤ (cm : Int) := by omega
          have huL : (u : Int) ≤ (L : Int) := by omega
          by_cases hlu : u < L
          · have hlu2 : (u : Int) < (L : Int) := by omega
            obtain ⟨y, hy⟩ : ∃ y, zs[u]? = some y := ⟨zs[u]'(by rw [← HLz.out]; exact hlu), List.getElem?_eq_getElem _⟩
            have HY := Lib.hid hy
            have HCy : Hid (∀ Z, Below wr0.heap.size wr0 Z → (Z.cell? ⟨bl, ol + t * 7, none⟩ = some x.vr ∧ Z.cell? ⟨bl, ol + t * 7 + 1, none⟩ = some (.int .i64 x.fam) ∧ Z.cell? ⟨bl, ol + t * 7 + 2, none⟩ = some x.vq ∧ Z.cell? ⟨bl, ol + t * 7 + 3, none⟩ = some (.int .i64 x.ts) ∧ Z.cell? ⟨bl, ol + t * 7 + 4, none⟩ = some (.int .i64 x.seq) ∧ Z.cell? ⟨bl, ol + t * 7 + 5, none⟩ = some (.int .i64 x.kind) ∧ Z.cell? ⟨bl, ol + t * 7 + 6, none⟩ = some x.vv) ∧ (Z.cell? ⟨g, u * 7, none⟩ = some y.vr ∧ Z.cell? ⟨g, u * 7 + 1, none⟩ = some (.int .i64 y.fam) ∧ Z.cell? ⟨g, u * 7 + 2, none⟩ = some y.vq ∧ Z.cell? ⟨g, u * 7 + 3, none⟩ = some (.int .i64 y.ts) ∧ Z.cell? ⟨g, u * 7 + 4, none⟩ = some (.int .i64 y.seq) ∧ Z.cell? ⟨g, u * 7 + 5, none⟩ = some (.int .i64 y.kind) ∧ Z.cell? ⟨g, u * 7 + 6, none⟩ = some y.vv)) := fun Z b => by
              have cy := (HRz.out _ b).cells (Below.refl _ _) hy
              simp only [Nat.zero_add] at cy
              exact ⟨HCx.out _ (HQ.out.below.trans (b.mono HQ.out.below.size)), by have := cy 0 _ rfl; simpa using this, cy 1 _ rfl, cy 2 _ rfl, cy 3 _ rfl, cy 4 _ rfl, cy 5 _ rfl, cy 6 _ rfl⟩
            have HCm : Hid (∀ Z, Below wr0.heap.size wr0 Z → Calls Tryz.prog 85 #[.agg y.cells, .agg x.cells] Z fun r w' => r = .returned (.int .i64 (compareS y x)) ∧ Below Z.heap.size Z w') := fun Z b => refCompare_any ((HRz.out _ b).ok y (List.mem_of_getElem? hy)) ((HL.out.later (HQ.out.below.trans (b.mono HQ.out.below.size))).ok x (List.mem_of_getElem? HX.out))
            obtain ⟨cc, hcc⟩ : ∃ cc, cc = compareS y x := ⟨_, rfl⟩
            rw [← hcc] at HCm
            have HCc := Lib.hid hcc
            unfold EntD.cells at HCm
            have D0 : Below wr0.heap.size wr0 wr.drew := HBq.out.drew
            clear hy hcc
            by_cases cz : cc < 0
            · have q : Hid (∀ z ∈ zs.take (u + 1), compareS z x < 0) := fun z hz => by
                rw [List.take_add_one, HY.out] at hz
                rcases List.mem_append.1 hz with q | q
                · exact HU.out z q
                · have : z = y := by simpa using q
                  rw [this, ← HCc.out]; exact cz
              go_wp2_with fail
              go_region_held3 (fun Z => (Z.cell? ⟨bl, ol + t * 7, none⟩ = some x.vr ∧ Z.cell? ⟨bl, ol + t * 7 + 1, none⟩ = some (.int .i64 x.fam) ∧ Z.cell? ⟨bl, ol + t * 7 + 2, none⟩ = some x.vq ∧ Z.cell? ⟨bl, ol + t * 7 + 3, none⟩ = some (.int .i64 x.ts) ∧ Z.cell? ⟨bl, ol + t * 7 + 4, none⟩ = some (.int .i64 x.seq) ∧ Z.cell? ⟨bl, ol + t * 7 + 5, none⟩ = some (.int .i64 x.kind) ∧ Z.cell? ⟨bl, ol + t * 7 + 6, none⟩ = some x.vv) ∧ (Z.cell? ⟨g, u * 7, none⟩ = some y.vr ∧ Z.cell? ⟨g, u * 7 + 1, none⟩ = some (.int .i64 y.fam) ∧ Z.cell? ⟨g, u * 7 + 2, none⟩ = some y.vq ∧ Z.cell? ⟨g, u * 7 + 3, none⟩ = some (.int .i64 y.ts) ∧ Z.cell? ⟨g, u * 7 + 4, none⟩ = some (.int .i64 y.seq) ∧ Z.cell? ⟨g, u * 7 + 5, none⟩ = some (.int .i64 y.kind) ∧ Z.cell? ⟨g, u * 7 + 6, none⟩ = some y.vv)) (first | exact HCy.out _ D1 | exact HCy.out _ D0) ((go_at_call 85; refine Calls.mono (HCm.out _ D0) ?_; rintro e1 w2 ⟨rfl, hb1⟩; have D1 := D0.trans (hb1.mono D0.size)))
              go_wp2
              go_roundw
              case rel => exact ⟨u + 1, by omega, by go_num, q.out, D1⟩
              case measure => simp only [intOf]; omega
            · go_wp2_with fail
              go_region_held3 (fun Z => (Z.cell? ⟨bl, ol + t * 7, none⟩ = some x.vr ∧ Z.cell? ⟨bl, ol + t * 7 + 1, none⟩ = some (.int .i64 x.fam) ∧ Z.cell? ⟨bl, ol + t * 7 + 2, none⟩ = some x.vq ∧ Z.cell? ⟨bl, ol + t * 7 + 3, none⟩ = some (.int .i64 x.ts) ∧ Z.cell? ⟨bl, ol + t * 7 + 4, none⟩ = some (.int .i64 x.seq) ∧ Z.cell? ⟨bl, ol + t * 7 + 5, none⟩ = some (.int .i64 x.kind) ∧ Z.cell? ⟨bl, ol + t * 7 + 6, none⟩ = some x.vv) ∧ (Z.cell? ⟨g, u * 7, none⟩ = some y.vr ∧ Z.cell? ⟨g, u * 7 + 1, none⟩ = some (.int .i64 y.fam) ∧ Z.cell? ⟨g, u * 7 + 2, none⟩ = some y.vq ∧ Z.cell? ⟨g, u * 7 + 3, none⟩ = some (.int .i64 y.ts) ∧ Z.cell? ⟨g, u * 7 + 4, none⟩ = some (.int .i64 y.seq) ∧ Z.cell? ⟨g, u * 7 + 5, none⟩ = some (.int .i64 y.kind) ∧ Z.cell? ⟨g, u * 7 + 6, none⟩ = some y.vv)) (first | exact HCy.out _ D1 | exact HCy.out _ D0) ((go_at_call 85; refine Calls.mono (HCm.out _ D0) ?_; rintro e1 w2 ⟨rfl, hb1⟩; have D1 := D0.trans (hb1.mono D0.size)))
              have BD := Lib.hid D1
              clear D0 D1
              have D0 : Below wr0.heap.size wr0 w2.drew := BD.out.drew
              by_cases c0 : cc = 0
              · have z0 : (cc == 0) = true := by simpa using c0
                have HF9 : Hid (∀ Z, Below wr0.heap.size wr0 Z → Od W Z l (t + 1) zs (.slice (some ⟨g, 0, none⟩) L cm)) := fun Z b => by
                  have e : y.dat = x.dat := by
                    have hy := (HQ.out.mem y.dat).1 (List.mem_map_of_mem (List.mem_of_getElem? HY.out))
                    obtain ⟨y', hy', ey⟩ := List.mem_map.1 hy
                    have hs : y.seq = x.seq := seq_of_cmp (HCc.out.symm.trans c0)
                    rw [← ey]
                    have : y'.seq = x.seq := by
                      have := congrArg En.seq ey
                      exact this.trans hs
                    exact HO.out y' (List.mem_of_mem_take hy') x (List.mem_of_getElem? HX.out) this
                  have k := HQ.out.later b
                  refine ⟨k.row, k.ents, k.below, k.srt, fun d => ?_, k.by_⟩
                  rw [k.mem, List.take_add_one, HX.out, List.map_append, List.mem_append]
                  simp only [Option.toList_some, List.map_cons, List.map_nil, List.mem_singleton]
                  refine ⟨.inl, fun z => z.elim id (fun z => ?_)⟩
                  rw [z, ← e]
                  exact (HQ.out.mem _).1 (List.mem_map_of_mem (List.mem_of_getElem? HY.out))
                subst c0
                clear cz
                go_wp2_with fail
                go_region_held3 (fun Z => (Z.cell? ⟨bl, ol + t * 7, none⟩ = some x.vr ∧ Z.cell? ⟨bl, ol + t * 7 + 1, none⟩ = some (.int .i64 x.fam) ∧ Z.cell? ⟨bl, ol + t * 7 + 2, none⟩ = some x.vq ∧ Z.cell? ⟨bl, ol + t * 7 + 3, none⟩ = some (.int .i64 x.ts) ∧ Z.cell? ⟨bl, ol + t * 7 + 4, none⟩ = some (.int .i64 x.seq) ∧ Z.cell? ⟨bl, ol + t * 7 + 5, none⟩ = some (.int .i64 x.kind) ∧ Z.cell? ⟨bl, ol + t * 7 + 6, none⟩ = some x.vv) ∧ (Z.cell? ⟨g, u * 7, none⟩ = some y.vr ∧ Z.cell? ⟨g, u * 7 + 1, none⟩ = some (.int .i64 y.fam) ∧ Z.cell? ⟨g, u * 7 + 2, none⟩ = some y.vq ∧ Z.cell? ⟨g, u * 7 + 3, none⟩ = some (.int .i64 y.ts) ∧ Z.cell? ⟨g, u * 7 + 4, none⟩ = some (.int .i64 y.seq) ∧ Z.cell? ⟨g, u * 7 + 5, none⟩ = some (.int .i64 y.kind) ∧ Z.cell? ⟨g, u * 7 + 6, none⟩ = some y.vv)) (first | exact HCy.out _ D1 | exact HCy.out _ D0) ((go_at_call 85; refine Calls.mono (HCm.out _ D0) ?_; rintro e1 w3 ⟨rfl, hb1⟩; have D1 := D0.trans (hb1.mono D0.size)))
                go_wp2
                go_roundw
                case rel => exact ⟨t + 1, zs, some ⟨g, 0, none⟩, cm, by omega, by go_num, by rw [← HLz.out], by rw [← HLz.out]; exact HF9.out _ D1, by rw [← HLz.out]; omega⟩
                case measure => simp only [intOf]; omega
              · have z0 : (cc == 0) = false := by simpa using c0
                have HUp : Hid (∀ z, zs[u]? = some z → 0 < compareS z x) := fun z hz => by
                  rw [HY.out] at hz
                  cases hz
                  rw [← HCc.out]
                  omega
                go_wp2_with fail
                go_region_held3 (fun Z => (Z.cell? ⟨bl, ol + t * 7, none⟩ = some x.vr ∧ Z.cell? ⟨bl, ol + t * 7 + 1, none⟩ = some (.int .i64 x.fam) ∧ Z.cell? ⟨bl, ol + t * 7 + 2, none⟩ = some x.vq ∧ Z.cell? ⟨bl, ol + t * 7 + 3, none⟩ = some (.int .i64 x.ts) ∧ Z.cell? ⟨bl, ol + t * 7 + 4, none⟩ = some (.int .i64 x.seq) ∧ Z.cell? ⟨bl, ol + t * 7 + 5, none⟩ = some (.int .i64 x.kind) ∧ Z.cell? ⟨bl, ol + t * 7 + 6, none⟩ = some x.vv) ∧ (Z.cell? ⟨g, u * 7, none⟩ = some y.vr ∧ Z.cell? ⟨g, u * 7 + 1, none⟩ = some (.int .i64 y.fam) ∧ Z.cell? ⟨g, u * 7 + 2, none⟩ = some y.vq ∧ Z.cell? ⟨g, u * 7 + 3, none⟩ = some (.int .i64 y.ts) ∧ Z.cell? ⟨g, u * 7 + 4, none⟩ = some (.int .i64 y.seq) ∧ Z.cell? ⟨g, u * 7 + 5, none⟩ = some (.int .i64 y.kind) ∧ Z.cell? ⟨g, u * 7 + 6, none⟩ = some y.vv)) (first | exact HCy.out _ D1 | exact HCy.out _ D0) ((go_at_call 85; refine Calls.mono (HCm.out _ D0) ?_; rintro e1 w3 ⟨rfl, hb1⟩; have D1 := D0.trans (hb1.mono D0.size)))
                have HBq := Lib.hid D1
                have h7c : (u : Int) < (cm : Int) := by omega
                clear D0 D1 BD HCy HCm cz c0
                obtain ⟨ta, hta⟩ : ∃ ta, ta = zs.take u := ⟨_, rfl⟩
                obtain ⟨td, htd⟩ : ∃ td, td = zs.drop u := ⟨_, rfl⟩
                have HTa := Lib.hid hta
                have HTd := Lib.hid htd
                have HS2 : Hid (∀ Z, Below wr0.heap.size wr0 Z → RdL3 Z (some ⟨g, u * 7, none⟩) (cm - u) td) := fun Z b => by rw [htd]; exact (HRz.out _ b).dropN u
                have HL2 : Hid ((L - u) = td.length) := by
                  unfold Hid
                  rw [htd, List.length_drop, ← HLz.out]
                  try omega
                have HT1 : Hid (u = ta.length) := by
                  unfold Hid
                  rw [hta, List.length_take, ← HLz.out]
                  omega
                have HR1 : Hid (∀ Z, Below wr0.heap.size wr0 Z → RdL3 Z (some ⟨g, 0, none⟩) cm ta) := fun Z b => by rw [hta]; exact (HRz.out _ b).takeN u
                have HE1 : Hid (∀ y ∈ ta, O3 wr0 W.heap.size y) := fun y hy => HEz.out y (List.mem_of_mem_take (hta ▸ hy))
                have HE2 : Hid (∀ y ∈ td, O3 wr0 W.heap.size y) := fun y hy => HEz.out y (List.mem_of_mem_drop (htd ▸ hy))
                clear hta htd
                go_wp2_with (at_builtin; refine wpl_append_rd rfl _ _ rfl wr0.heap.size (.slice none 0 0) [] rfl (Rw.nil _ wr0.heap.size (fun _ => True)).row _ _ _ ta rfl HT1.out (HR1.out _ HBq.out) (fun z => by cases z) (fun y hy => (HE1.out y hy).cells_one) (by rw [← HT1.out]; simp only [List.length_nil]; omega) HBq.out.size ?_)
                intro n1 n2 n3 w5 hn5 row5 gr5
                have b5 : Below wr0.heap.size wr0 w5 := HBq.out.grown gr5 HBq.out.size (fun k hk => by cases hk)
                have B5 := Lib.hid b5
                have H5 : Hid (w5.ownsRow wr0.heap.size 84 7 (.slice n1 n2 n3) ta.length (evals ta)) := by unfold Hid; simpa using row5
                have HN2 : Hid (n2 = ta.length) := by unfold Hid; simpa using hn5
                obtain ⟨x0, x1, x2, x3, x4, x5, x6⟩ := HCx.out _ (HQ.out.below.trans (b5.mono HQ.out.below.size))
                have HCl := Lib.hid (cloneR_own ((HL.out.later (HQ.out.below.trans (b5.mono HQ.out.below.size))).ok x (List.mem_of_getElem? HX.out)) (HS.out x (List.mem_of_getElem? HX.out)))
                unfold EntD.cells at HCl
                clear row5 gr5 b5 hn5
                go_wp2_with fail
                refine Calls.mono HCl.out ?_
                rintro z1 w6 ⟨x', rfl, sx, ok1, o31, b6⟩
                have HSx := Lib.hid (EntD.dat_same.2 sx)
                have O31 := Lib.hid o31
                have B6 := Lib.hid b6
                obtain ⟨xr, xf, xq, xt, xs2, xk, xv, xrow, xqual, xval⟩ := x'
                obtain ⟨ar, cr, er⟩ := own_form' o31.row
                obtain ⟨aq, cq, eq⟩ := own_form' o31.qual
                obtain ⟨aw, cw, ew⟩ := own_form' o31.val
                simp only at er eq ew
                subst er eq ew
                dsimp only
                clear sx ok1 o31 b6 HCl x0 x1 x2 x3 x4 x5 x6
                have HAl := Lib.hid ((Below.refl w6.heap.size w6).alloc (Nat.le_refl _) (.cells #[.slice ar xrow.length cr, .int .i64 xf, .slice aq xqual.length cq, .int .i64 xt, .int .i64 xs2, .int .i64 xk, .slice aw xval.length cw] 84))
                have HRow : Hid ((w6.alloc (.cells #[.slice ar xrow.length cr, .int .i64 xf, .slice aq xqual.length cq, .int .i64 xt, .int .i64 xs2, .int .i64 xk, .slice aw xval.length cw] 84)).ownsRow wr0.heap.size 84 7 (.slice n1 n2 n3) ta.length (evals ta)) := row_same H5.out (fun g hg => (HAl.out.block g (Nat.lt_of_lt_of_le (H5.out.lt g hg).2 B6.out.size)).trans (B6.out.block g (H5.out.lt g hg).2))
                have HSz : Hid (wr0.heap.size ≤ (w6.alloc (.cells #[.slice ar xrow.length cr, .int .i64 xf, .slice aq xqual.length cq, .int .i64 xt, .int .i64 xs2, .int .i64 xk, .slice aw xval.length cw] 84)).heap.size) := Nat.le_trans B5.out.size (Nat.le_trans B6.out.size HAl.out.size)
                go_wp2_with (at_builtin; refine wpl_append_ent (x := (⟨.slice ar xrow.length cr, xf, .slice aq xqual.length cq, xt, xs2, xk, .slice aw xval.length cw, xrow, xqual, xval⟩ : EntD)) (xs := ta) rfl _ _ rfl rfl HRow.out ⟨w6.heap.size, 0, none⟩ rfl (ent_new w6 (⟨.slice ar xrow.length cr, xf, .slice aq xqual.length cq, xt, xs2, xk, .slice aw xval.length cw, xrow, xqual, xval⟩ : EntD)) (O3.cells_one O31.out) (by rw [← HT1.out]; omega) HSz.out ?_)
                intro a7 c7 w7 row7 gr7
                obtain ⟨xx, hxx⟩ : ∃ xx : EntD, xx = ⟨.slice ar xrow.length cr, xf, .slice aq xqual.length cq, xt, xs2, xk, .slice aw xval.length cw, xrow, xqual, xval⟩ := ⟨_, rfl⟩
                rw [← hxx] at row7 HSx O31
                have bA := B5.out.trans (B6.out.mono B5.out.size)
                have bB := bA.trans (HAl.out.mono bA.size)
                have b7 : Below wr0.heap.size wr0 w7 := bB.grown gr7 bB.size (fun k hk => (HRow.out.lt k hk).1)
                have ku7 : KU w6 w7 := (KU.of HAl.out).trans (row_ku (W := W) HRow.out gr7)
                have O7 : Hid (O3 w7 wr0.heap.size xx) := (O31.out.mono B5.out.size).ku ku7
                have B7 := Lib.hid b7
                have H7 : Hid (w7.ownsRow wr0.heap.size 84 7 (.slice a7 (ta.length + 1) c7) (ta ++ [xx]).length (evals (ta ++ [xx]))) := by
                  unfold Hid
                  rw [List.length_append]
                  exact row7
                have HXX := Lib.hid hxx
                clear row7 gr7 bA bB b7 ku7 hxx
                go_wp2_with (at_builtin; refine wpl_append_rd rfl _ _ rfl wr0.heap.size _ (ta ++ [xx]) rfl H7.out _ _ _ td rfl HL2.out (HS2.out _ B7.out) (fun z => by cases z) (fun y hy => (HE2.out y hy).cells_one) (by rw [List.length_append, ← HT1.out, ← HL2.out]; simp only [List.length_cons, List.length_nil]; omega) B7.out.size ?_)
                intro a8 n8 c8 w8 hn8 row8 gr8
                have HF8 : Hid (Od W w8 l (t + 1) (ta ++ [xx] ++ td) (.slice a8 n8 c8)) := by
                  have ku8 : KU w7 w8 := row_ku (W := W) H7.out gr8
                  have b8 : Below wr0.heap.size wr0 w8 := B7.out.grown gr8 B7.out.size (fun k hk => (H7.out.lt k hk).1)
                  refine ⟨row_low (by simpa using row8) HQ.out.below.size, fun y hy => ?_, HQ.out.below.trans (b8.mono HQ.out.below.size), by rw [HTa.out, HTd.out]; exact ins_srt HSx.out HQ.out.srt HU.out HUp.out, fun d => ?_, fun y hy => ?_⟩
                  · rcases List.mem_append.1 hy with q | q
                    · rcases List.mem_append.1 q with q | q
                      · exact (HE1.out y q).later b8
                      · rw [List.mem_singleton] at q
                        rw [q]
                        exact (O7.out.mono HQ.out.below.size).ku ku8
                    · exact (HE2.out y q).later b8
                  · rw [HTa.out, HTd.out, ins_mem, HQ.out.mem, List.take_add_one, HX.out, List.map_append, List.mem_append, HSx.out]
                    simp
                  · rcases List.mem_append.1 hy with q | q
                    · rcases List.mem_append.1 q with q | q
                      · exact HQ.out.by_ y (List.mem_of_mem_take (HTa.out ▸ q))
                      · rw [List.mem_singleton] at q
                        rw [q, HSx.out]
                        exact HL.out.by _ (List.mem_map_of_mem (List.mem_of_getElem? HX.out))
                    · exact HQ.out.by_ y (List.mem_of_mem_drop (HTd.out ▸ q))
                have HN8 : Hid (n8 = (ta ++ [xx] ++ td).length) := by unfold Hid; simpa using hn8
                have HLE : Hid ((ta ++ [xx] ++ td).length ≤ t + 1) := by
                  unfold Hid
                  rw [List.length_append, List.length_append, ← HT1.out, ← HL2.out]
                  simp only [List.length_cons, List.length_nil]
                  omega
                clear row8 gr8 hn8
                go_wp2
                go_roundw
                case rel => exact ⟨t + 1, _, a8, c8, by omega, by go_num, by rw [← HN8.out], by rw [← HN8.out]; exact HF8.out, HLE.out⟩
                case measure => simp only [intOf]; omega
          · have hgu : ¬ (u : Int) < (L : Int) := by omega
            have eu : u = L := by omega
            have HUp : Hid (∀ z, zs[u]? = some z → 0 < compareS z x) := fun z hz => by
              rw [List.getElem?_eq_none (by rw [← HLz.out]; omega)] at hz
              cases hz
            have HEu := Lib.hid eu
            clear eu
            by_cases hc2 : L < cm
            · have h7c : (u : Int) < (cm : Int) := by omega
              go_wp2_with fail
              go_quiet (fail)
              go_wp2_with fail
              go_quiet (fail)
              obtain ⟨ta, hta⟩ : ∃ ta, ta = zs.take u := ⟨_, rfl⟩
              obtain ⟨td, htd⟩ : ∃ td, td = zs.drop u := ⟨_, rfl⟩
              have HTa := Lib.hid hta
              have HTd := Lib.hid htd
              have HS2 : Hid (∀ Z, Below wr0.heap.size wr0 Z → RdL3 Z (some ⟨g, u * 7, none⟩) (cm - u) td) := fun Z b => by rw [htd]; exact (HRz.out _ b).dropN u
              have HL2 : Hid ((L - u) = td.length) := by
                unfold Hid
                rw [htd, List.length_drop, ← HLz.out]
                try omega
              have HT1 : Hid (u = ta.length) := by
                unfold Hid
                rw [hta, List.length_take, ← HLz.out]
                omega
              have HR1 : Hid (∀ Z, Below wr0.heap.size wr0 Z → RdL3 Z (some ⟨g, 0, none⟩) cm ta) := fun Z b => by rw [hta]; exact (HRz.out _ b).takeN u
              have HE1 : Hid (∀ y ∈ ta, O3 wr0 W.heap.size y) := fun y hy => HEz.out y (List.mem_of_mem_take (hta ▸ hy))
              have HE2 : Hid (∀ y ∈ td, O3 wr0 W.heap.size y) := fun y hy => HEz.out y (List.mem_of_mem_drop (htd ▸ hy))
              clear hta htd
              go_wp2_with (at_builtin; refine wpl_append_rd rfl _ _ rfl wr0.heap.size (.slice none 0 0) [] rfl (Rw.nil _ wr0.heap.size (fun _ => True)).row _ _ _ ta rfl HT1.out (HR1.out _ (below_dn HBq.out _)) (fun z => by cases z) (fun y hy => (HE1.out y hy).cells_one) (by rw [← HT1.out]; simp only [List.length_nil]; omega) (below_dn HBq.out _).size ?_)
              intro n1 n2 n3 w5 hn5 row5 gr5
              have b5 : Below wr0.heap.size wr0 w5 := (below_dn HBq.out _).grown gr5 (below_dn HBq.out _).size (fun k hk => by cases hk)
              have B5 := Lib.hid b5
              have H5 : Hid (w5.ownsRow wr0.heap.size 84 7 (.slice n1 n2 n3) ta.length (evals ta)) := by unfold Hid; simpa using row5
              have HN2 : Hid (n2 = ta.length) := by unfold Hid; simpa using hn5
              obtain ⟨x0, x1, x2, x3, x4, x5, x6⟩ := HCx.out _ (HQ.out.below.trans (b5.mono HQ.out.below.size))
              have HCl := Lib.hid (cloneR_own ((HL.out.later (HQ.out.below.trans (b5.mono HQ.out.below.size))).ok x (List.mem_of_getElem? HX.out)) (HS.out x (List.mem_of_getElem? HX.out)))
              unfold EntD.cells at HCl
              clear row5 gr5 b5 hn5
              go_wp2_with fail
              refine Calls.mono HCl.out ?_
              rintro z1 w6 ⟨x', rfl, sx, ok1, o31, b6⟩
              have HSx := Lib.hid (EntD.dat_same.2 sx)
              have O31 := Lib.hid o31
              have B6 := Lib.hid b6
              obtain ⟨xr, xf, xq, xt, xs2, xk, xv, xrow, xqual, xval⟩ := x'
              obtain ⟨ar, cr, er⟩ := own_form' o31.row
              obtain ⟨aq, cq, eq⟩ := own_form' o31.qual
              obtain ⟨aw, cw, ew⟩ := own_form' o31.val
              simp only at er eq ew
              subst er eq ew
              dsimp only
              clear sx ok1 o31 b6 HCl x0 x1 x2 x3 x4 x5 x6
              have HAl := Lib.hid ((Below.refl w6.heap.size w6).alloc (Nat.le_refl _) (.cells #[.slice ar xrow.length cr, .int .i64 xf, .slice aq xqual.length cq, .int .i64 xt, .int .i64 xs2, .int .i64 xk, .slice aw xval.length cw] 84))
              have HRow : Hid ((w6.alloc (.cells #[.slice ar xrow.length cr, .int .i64 xf, .slice aq xqual.length cq, .int .i64 xt, .int .i64 xs2, .int .i64 xk, .slice aw xval.length cw] 84)).ownsRow wr0.heap.size 84 7 (.slice n1 n2 n3) ta.length (evals ta)) := row_same H5.out (fun g hg => (HAl.out.block g (Nat.lt_of_lt_of_le (H5.out.lt g hg).2 B6.out.size)).trans (B6.out.block g (H5.out.lt g hg).2))
              have HSz : Hid (wr0.heap.size ≤ (w6.alloc (.cells #[.slice ar xrow.length cr, .int .i64 xf, .slice aq xqual.length cq, .int .i64 xt, .int .i64 xs2, .int .i64 xk, .slice aw xval.length cw] 84)).heap.size) := Nat.le_trans B5.out.size (Nat.le_trans B6.out.size HAl.out.size)
              go_wp2_with (at_builtin; refine wpl_append_ent (x := (⟨.slice ar xrow.length cr, xf, .slice aq xqual.length cq, xt, xs2, xk, .slice aw xval.length cw, xrow, xqual, xval⟩ : EntD)) (xs := ta) rfl _ _ rfl rfl HRow.out ⟨w6.heap.size, 0, none⟩ rfl (ent_new w6 (⟨.slice ar xrow.length cr, xf, .slice aq xqual.length cq, xt, xs2, xk, .slice aw xval.length cw, xrow, xqual, xval⟩ : EntD)) (O3.cells_one O31.out) (by rw [← HT1.out]; omega) HSz.out ?_)
              intro a7 c7 w7 row7 gr7
              obtain ⟨xx, hxx⟩ : ∃ xx : EntD, xx = ⟨.slice ar xrow.length cr, xf, .slice aq xqual.length cq, xt, xs2, xk, .slice aw xval.length cw, xrow, xqual, xval⟩ := ⟨_, rfl⟩
              rw [← hxx] at row7 HSx O31
              have bA := B5.out.trans (B6.out.mono B5.out.size)
              have bB := bA.trans (HAl.out.mono bA.size)
              have b7 : Below wr0.heap.size wr0 w7 := bB.grown gr7 bB.size (fun k hk => (HRow.out.lt k hk).1)
              have ku7 : KU w6 w7 := (KU.of HAl.out).trans (row_ku (W := W) HRow.out gr7)
              have O7 : Hid (O3 w7 wr0.heap.size xx) := (O31.out.mono B5.out.size).ku ku7
              have B7 := Lib.hid b7
              have H7 : Hid (w7.ownsRow wr0.heap.size 84 7 (.slice a7 (ta.length + 1) c7) (ta ++ [xx]).length (evals (ta ++ [xx]))) := by
                unfold Hid
                rw [List.length_append]
                exact row7
              have HXX := Lib.hid hxx
              clear row7 gr7 bA bB b7 ku7 hxx
              go_wp2_with (at_builtin; refine wpl_append_rd rfl _ _ rfl wr0.heap.size _ (ta ++ [xx]) rfl H7.out _ _ _ td rfl HL2.out (HS2.out _ B7.out) (fun z => by cases z) (fun y hy => (HE2.out y hy).cells_one) (by rw [List.length_append, ← HT1.out, ← HL2.out]; simp only [List.length_cons, List.length_nil]; omega) B7.out.size ?_)
              intro a8 n8 c8 w8 hn8 row8 gr8
              have HF8 : Hid (Od W w8 l (t + 1) (ta ++ [xx] ++ td) (.slice a8 n8 c8)) := by
                have ku8 : KU w7 w8 := row_ku (W := W) H7.out gr8
                have b8 : Below wr0.heap.size wr0 w8 := B7.out.grown gr8 B7.out.size (fun k hk => (H7.out.lt k hk).1)
                refine ⟨row_low (by simpa using row8) HQ.out.below.size, fun y hy => ?_, HQ.out.below.trans (b8.mono HQ.out.below.size), by rw [HTa.out, HTd.out]; exact ins_srt HSx.out HQ.out.srt HU.out HUp.out, fun d => ?_, fun y hy => ?_⟩
                · rcases List.mem_append.1 hy with q | q
                  · rcases List.mem_append.1 q with q | q
                    · exact (HE1.out y q).later b8
                    · rw [List.mem_singleton] at q
                      rw [q]
                      exact (O7.out.mono HQ.out.below.size).ku ku8
                  · exact (HE2.out y q).later b8
                · rw [HTa.out, HTd.out, ins_mem, HQ.out.mem, List.take_add_one, HX.out, List.map_append, List.mem_append, HSx.out]
                  simp
                · rcases List.mem_append.1 hy with q | q
                  · rcases List.mem_append.1 q with q | q
                    · exact HQ.out.by_ y (List.mem_of_mem_take (HTa.out ▸ q))
                    · rw [List.mem_singleton] at q
                      rw [q, HSx.out]
                      exact HL.out.by _ (List.mem_map_of_mem (List.mem_of_getElem? HX.out))
                  · exact HQ.out.by_ y (List.mem_of_mem_drop (HTd.out ▸ q))
              have HN8 : Hid (n8 = (ta ++ [xx] ++ td).length) := by unfold Hid; simpa using hn8
              have HLE : Hid ((ta ++ [xx] ++ td).length ≤ t + 1) := by
                unfold Hid
                rw [List.length_append, List.length_append, ← HT1.out, ← HL2.out]
                simp only [List.length_cons, List.length_nil]
                omega
              clear row8 gr8 hn8
              go_wp2
              go_roundw
              case rel => exact ⟨t + 1, _, a8, c8, by omega, by go_num, by rw [← HN8.out], by rw [← HN8.out]; exact HF8.out, HLE.out⟩
              case measure => simp only [intOf]; omega
            · have h7c : ¬ (u : Int) < (cm : Int) := by omega
              go_wp2_with fail
              go_quiet (fail)
              go_wp2_with fail
              go_quiet (fail)
              obtain ⟨ta, hta⟩ : ∃ ta, ta = zs.take u := ⟨_, rfl⟩
              obtain ⟨td, htd⟩ : ∃ td, td = zs.drop u := ⟨_, rfl⟩
              have HTa := Lib.hid hta
              have HTd := Lib.hid htd
              have HS2 : Hid (∀ Z, Below wr0.heap.size wr0 Z → RdL3 Z (some ⟨g, 0, none⟩) (cm - u) td) := fun Z b => by rw [htd]; exact by rw [List.drop_eq_nil_of_le (by rw [← HLz.out]; omega)]; exact ⟨⟨Nat.zero_le _, by have := (HRz.out _ b).cap.2; omega⟩, .inl rfl, fun x hx => by cases hx⟩
              have HL2 : Hid ((L - u) = td.length) := by
                unfold Hid
                rw [htd, List.length_drop, ← HLz.out]
                try omega
              have HT1 : Hid (u = ta.length) := by
                unfold Hid
                rw [hta, List.length_take, ← HLz.out]
                omega
              have HR1 : Hid (∀ Z, Below wr0.heap.size wr0 Z → RdL3 Z (some ⟨g, 0, none⟩) cm ta) := fun Z b => by rw [hta]; exact (HRz.out _ b).takeN u
              have HE1 : Hid (∀ y ∈ ta, O3 wr0 W.heap.size y) := fun y hy => HEz.out y (List.mem_of_mem_take (hta ▸ hy))
              have HE2 : Hid (∀ y ∈ td, O3 wr0 W.heap.size y) := fun y hy => HEz.out y (List.mem_of_mem_drop (htd ▸ hy))
              clear hta htd
              go_wp2_with (at_builtin; refine wpl_append_rd rfl _ _ rfl wr0.heap.size (.slice none 0 0) [] rfl (Rw.nil _ wr0.heap.size (fun _ => True)).row _ _ _ ta rfl HT1.out (HR1.out _ (below_dn HBq.out _)) (fun z => by cases z) (fun y hy => (HE1.out y hy).cells_one) (by rw [← HT1.out]; simp only [List.length_nil]; omega) (below_dn HBq.out _).size ?_)
              intro n1 n2 n3 w5 hn5 row5 gr5
              have b5 : Below wr0.heap.size wr0 w5 := (below_dn HBq.out _).grown gr5 (below_dn HBq.out _).size (fun k hk => by cases hk)
              have B5 := Lib.hid b5
              have H5 : Hid (w5.ownsRow wr0.heap.size 84 7 (.slice n1 n2 n3) ta.length (evals ta)) := by unfold Hid; simpa using row5
              have HN2 : Hid (n2 = ta.length) := by unfold Hid; simpa using hn5
              obtain ⟨x0, x1, x2, x3, x4, x5, x6⟩ := HCx.out _ (HQ.out.below.trans (b5.mono HQ.out.below.size))
              have HCl := Lib.hid (cloneR_own ((HL.out.later (HQ.out.below.trans (b5.mono HQ.out.below.size))).ok x (List.mem_of_getElem? HX.out)) (HS.out x (List.mem_of_getElem? HX.out)))
              unfold EntD.cells at HCl
              clear row5 gr5 b5 hn5
              go_wp2_with fail
              refine Calls.mono HCl.out ?_
              rintro z1 w6 ⟨x', rfl, sx, ok1, o31, b6⟩
              have HSx := Lib.hid (EntD.dat_same.2 sx)
              have O31 := Lib.hid o31
              have B6 := Lib.hid b6
              obtain ⟨xr, xf, xq, xt, xs2, xk, xv, xrow, xqual, xval⟩ := x'
              obtain ⟨ar, cr, er⟩ := own_form' o31.row
              obtain ⟨aq, cq, eq⟩ := own_form' o31.qual
              obtain ⟨aw, cw, ew⟩ := own_form' o31.val
              simp only at er eq ew
              subst er eq ew
              dsimp only
              clear sx ok1 o31 b6 HCl x0 x1 x2 x3 x4 x5 x6
              have HAl := Lib.hid ((Below.refl w6.heap.size w6).alloc (Nat.le_refl _) (.cells #[.slice ar xrow.length cr, .int .i64 xf, .slice aq xqual.length cq, .int .i64 xt, .int .i64 xs2, .int .i64 xk, .slice aw xval.length cw] 84))
              have HRow : Hid ((w6.alloc (.cells #[.slice ar xrow.length cr, .int .i64 xf, .slice aq xqual.length cq, .int .i64 xt, .int .i64 xs2, .int .i64 xk, .slice aw xval.length cw] 84)).ownsRow wr0.heap.size 84 7 (.slice n1 n2 n3) ta.length (evals ta)) := row_same H5.out (fun g hg => (HAl.out.block g (Nat.lt_of_lt_of_le (H5.out.lt g hg).2 B6.out.size)).trans (B6.out.block g (H5.out.lt g hg).2))
              have HSz : Hid (wr0.heap.size ≤ (w6.alloc (.cells #[.slice ar xrow.length cr, .int .i64 xf, .slice aq xqual.length cq, .int .i64 xt, .int .i64 xs2, .int .i64 xk, .slice aw xval.length cw] 84)).heap.size) := Nat.le_trans B5.out.size (Nat.le_trans B6.out.size HAl.out.size)
              go_wp2_with (at_builtin; refine wpl_append_ent (x := (⟨.slice ar xrow.length cr, xf, .slice aq xqual.length cq, xt, xs2, xk, .slice aw xval.length cw, xrow, xqual, xval⟩ : EntD)) (xs := ta) rfl _ _ rfl rfl HRow.out ⟨w6.heap.size, 0, none⟩ rfl (ent_new w6 (⟨.slice ar xrow.length cr, xf, .slice aq xqual.length cq, xt, xs2, xk, .slice aw xval.length cw, xrow, xqual, xval⟩ : EntD)) (O3.cells_one O31.out) (by rw [← HT1.out]; omega) HSz.out ?_)
              intro a7 c7 w7 row7 gr7
              obtain ⟨xx, hxx⟩ : ∃ xx : EntD, xx = ⟨.slice ar xrow.length cr, xf, .slice aq xqual.length cq, xt, xs2, xk, .slice aw xval.length cw, xrow, xqual, xval⟩ := ⟨_, rfl⟩
              rw [← hxx] at row7 HSx O31
              have bA := B5.out.trans (B6.out.mono B5.out.size)
              have bB := bA.trans (HAl.out.mono bA.size)
              have b7 : Below wr0.heap.size wr0 w7 := bB.grown gr7 bB.size (fun k hk => (HRow.out.lt k hk).1)
              have ku7 : KU w6 w7 := (KU.of HAl.out).trans (row_ku (W := W) HRow.out gr7)
              have O7 : Hid (O3 w7 wr0.heap.size xx) := (O31.out.mono B5.out.size).ku ku7
              have B7 := Lib.hid b7
              have H7 : Hid (w7.ownsRow wr0.heap.size 84 7 (.slice a7 (ta.length + 1) c7) (ta ++ [xx]).length (evals (ta ++ [xx]))) := by
                unfold Hid
                rw [List.length_append]
                exact row7
              have HXX := Lib.hid hxx
              clear row7 gr7 bA bB b7 ku7 hxx
              go_wp2_with (at_builtin; refine wpl_append_rd rfl _ _ rfl wr0.heap.size _ (ta ++ [xx]) rfl H7.out _ _ _ td rfl HL2.out (HS2.out _ B7.out) (fun z => by cases z) (fun y hy => (HE2.out y hy).cells_one) (by rw [List.length_append, ← HT1.out, ← HL2.out]; simp only [List.length_cons, List.length_nil]; omega) B7.out.size ?_)
              intro a8 n8 c8 w8 hn8 row8 gr8
              have HF8 : Hid (Od W w8 l (t + 1) (ta ++ [xx] ++ td) (.slice a8 n8 c8)) := by
                have ku8 : KU w7 w8 := row_ku (W := W) H7.out gr8
                have b8 : Below wr0.heap.size wr0 w8 := B7.out.grown gr8 B7.out.size (fun k hk => (H7.out.lt k hk).1)
                refine ⟨row_low (by simpa using row8) HQ.out.below.size, fun y hy => ?_, HQ.out.below.trans (b8.mono HQ.out.below.size), by rw [HTa.out, HTd.out]; exact ins_srt HSx.out HQ.out.srt HU.out HUp.out, fun d => ?_, fun y hy => ?_⟩
                · rcases List.mem_append.1 hy with q | q
                  · rcases List.mem_append.1 q with q | q
                    · exact (HE1.out y q).later b8
                    · rw [List.mem_singleton] at q
                      rw [q]
                      exact (O7.out.mono HQ.out.below.size).ku ku8
                  · exact (HE2.out y q).later b8
                · rw [HTa.out, HTd.out, ins_mem, HQ.out.mem, List.take_add_one, HX.out, List.map_append, List.mem_append, HSx.out]
                  simp
                · rcases List.mem_append.1 hy with q | q
                  · rcases List.mem_append.1 q with q | q
                    · exact HQ.out.by_ y (List.mem_of_mem_take (HTa.out ▸ q))
                    · rw [List.mem_singleton] at q
                      rw [q, HSx.out]
                      exact HL.out.by _ (List.mem_map_of_mem (List.mem_of_getElem? HX.out))
                  · exact HQ.out.by_ y (List.mem_of_mem_drop (HTd.out ▸ q))
              have HN8 : Hid (n8 = (ta ++ [xx] ++ td).length) := by unfold Hid; simpa using hn8
              have HLE : Hid ((ta ++ [xx] ++ td).length ≤ t + 1) := by
                unfold Hid
                rw [List.length_append, List.length_append, ← HT1.out, ← HL2.out]
                simp only [List.length_cons, List.length_nil]
                omega
              clear row8 gr8 hn8
              go_wp2
              go_roundw
              case rel => exact ⟨t + 1, _, a8, c8, by omega, by go_num, by rw [← HN8.out], by rw [← HN8.out]; exact HF8.out, HLE.out⟩
              case measure => simp only [intOf]; omega
    · have hge : ¬ (t : Int) < (N : Int) := by omega
      have HF : Hid (Od W wr0 l N zs (.slice am L cm)) := by
        have := HQ.out
        rw [show t = N by omega] at this
        exact this
      go_wp2
      go_ret
      exact ⟨_, rfl, zs, HF.out, by rw [← HLz.out]; omega⟩
end Go.Proofs.YthhkpkfpifllkaaGreat

namespace Go.Proofs.YthhkpkfpifllkaaGreat
open Go.RowKit Go.Maps
set_option linter.unusedVariables false

theorem cmp_one {x y : EntD} (h : x.dat = y.dat) : compareS x y = 0 := (compareS_same (EntD.dat_same.1 h) (EntD.dat_same.1 rfl)).trans (compareS_self y)
theorem Od.ord {W W' : World} {l zs : List EntD} {v : Value} {k : Nat} (h : Od W W' l l.length zs v) (hc : inOrderE (check3S k) l = 0) : IsOrd k (l.map EntD.dat) (zs.map EntD.dat) := by
  obtain ⟨hall, xs, hx⟩ := inOrder_ok hc
  have hO : OneS l := (oneS_once l).2 (by rw [hx]; simp)
  have mem : ∀ d, d ∈ zs.map EntD.dat ↔ d ∈ l.map EntD.dat := fun d => by rw [h.mem, List.take_length]
  have dat : ∀ y ∈ zs, ∃ x ∈ l, x.dat = y.dat := fun y hy => by
    obtain ⟨x, hx, e⟩ := List.mem_map.1 ((mem _).1 (List.mem_map_of_mem hy))
    exact ⟨x, hx, e⟩
  have hck : ∀ y ∈ zs, check3S k y = 0 := fun y hy => by
    obtain ⟨x, hx, e⟩ := dat y hy
    have := hall x hx
    rw [check_dat] at this ⊢
    rw [← e]
    exact this
  have hne : zs.Pairwise fun a b => compareS a b < 0 ∧ a.seq ≠ b.seq := h.srt.imp_of_mem fun {a b} ha hb q => ⟨q, fun z => by
    obtain ⟨x, hx, e⟩ := dat a ha
    obtain ⟨y, hy, f⟩ := dat b hb
    have xs : x.seq = a.seq := congrArg En.seq e
    have ys : y.seq = b.seq := congrArg En.seq f
    have := hO x hx y hy (by rw [xs, z, ys])
    rw [e, f] at this
    have := cmp_one this
    omega⟩
  refine ⟨?_, ?_, fun e he => ?_, fun e he => ?_, mem⟩
  · rw [List.pairwise_map]
    exact hne.imp fun q => ah_of (by omega) q.2
  · rw [List.pairwise_map]
    exact hne.imp fun q => q.2
  · obtain ⟨y, hy, rfl⟩ := List.mem_map.1 he
    exact va_of_check (hck y hy)
  · obtain ⟨y, hy, rfl⟩ := List.mem_map.1 he
    exact hck y hy
end Go.Proofs.YthhkpkfpifllkaaGreat

namespace Go.Proofs.YthhkpkfpifllkaaGreat
open Go.RowKit Go.Maps
set_option linter.unusedVariables false

structure Vw (W wr : World) (zs : List EntD) (v : Value) (p : List En) : Prop where
  row : wr.ownsRow W.heap.size 84 7 v zs.length (evals zs)
  ents : ∀ x ∈ zs, O3 wr W.heap.size x
  below : Below W.heap.size W wr
  dat : zs.map EntD.dat = p
  by_ : ∀ x ∈ zs, ByE x.dat
theorem Vw.later {W wr wr' : World} {zs : List EntD} {v : Value} {p : List En} (h : Vw W wr zs v p) (b : Below wr.heap.size wr wr') : Vw W wr' zs v p :=
  ⟨row_same h.row (fun g hg => b.block g (h.row.lt g hg).2), fun x hx => (h.ents x hx).later b, h.below.trans (b.mono h.below.size), h.dat, h.by_⟩
theorem Vw.form {W wr : World} {zs : List EntD} {v : Value} {p : List En} (h : Vw W wr zs v p) : ∃ a c, v = .slice a zs.length c := by
  obtain ⟨a, c, e, -⟩ := row_rdl h.row (fun x hx => (h.ents x hx).okB (h.by_ x hx))
  exact ⟨a, c, e⟩
end Go.Proofs.YthhkpkfpifllkaaGreat
