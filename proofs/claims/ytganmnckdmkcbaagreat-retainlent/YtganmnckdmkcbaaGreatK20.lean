import Derived.Test.YtganmnckdmkcbaaGreatK19
namespace Go.Proofs.YtganmnckdmkcbaaGreat
open Go.RowKit
set_option linter.unusedVariables false

set_option maxRecDepth 100000 in
set_option maxHeartbeats 8000000 in
theorem refCompare_any {a b : EntD} {w : World} (ha : EntD.Ok w a) (hb : EntD.Ok w b) :
    Calls Tryz.prog 85 #[.agg a.cells, .agg b.cells] w fun r w' => r = .returned (.int .i64 (compareS a b)) ∧ Below w.heap.size w w' := by
  have A1 := (Below.refl w.heap.size w).alloc (Nat.le_refl _) (.cells a.cells 84)
  have A2 := A1.alloc A1.size (.cells b.cells 84)
  have bxa0 := (EBox.new w a).later ((Below.refl (w.alloc (.cells a.cells 84)).heap.size (w.alloc (.cells a.cells 84))).alloc (Nat.le_refl _) (.cells b.cells 84))
  have bxb0 := EBox.new (w.alloc (.cells a.cells 84)) b
  rw [World.size_alloc] at bxb0
  have HX : Hid (EBox ((w.alloc (.cells a.cells 84)).alloc (.cells b.cells 84)) w.heap.size a ∧ EBox ((w.alloc (.cells a.cells 84)).alloc (.cells b.cells 84)) (w.heap.size + 1) b ∧ Below w.heap.size w ((w.alloc (.cells a.cells 84)).alloc (.cells b.cells 84))) := ⟨bxa0, bxb0, A2⟩
  have HA : Hid (EntD.Ok w a) := ha
  have HB : Hid (EntD.Ok w b) := hb
  have HCS : Hid (compareS a b = firstNZ (cmpsS a b)) := rfl
  clear A1 A2 bxa0 bxb0 ha hb
  simp only [EntD.cells] at HX ⊢
  obtain ⟨W, hW⟩ : ∃ W, W = ((w.alloc (.cells #[a.vr, .int .i64 a.fam, a.vq, .int .i64 a.ts, .int .i64 a.seq, .int .i64 a.kind, a.vv] 84)).alloc (.cells #[b.vr, .int .i64 b.fam, b.vq, .int .i64 b.ts, .int .i64 b.seq, .int .i64 b.kind, b.vv] 84)) := ⟨_, rfl⟩
  rw [← hW] at HX
  have KS : Hid (∀ wx, Below W.heap.size W wx → (wx.cell? ⟨w.heap.size, 0, none⟩ = some a.vr ∧ wx.cell? ⟨w.heap.size, 1, none⟩ = some (.int .i64 a.fam) ∧ wx.cell? ⟨w.heap.size, 2, none⟩ = some a.vq ∧ wx.cell? ⟨w.heap.size, 3, none⟩ = some (.int .i64 a.ts) ∧ wx.cell? ⟨w.heap.size, 4, none⟩ = some (.int .i64 a.seq) ∧ wx.cell? ⟨w.heap.size, 5, none⟩ = some (.int .i64 a.kind)) ∧ (wx.cell? ⟨w.heap.size + 1, 0, none⟩ = some b.vr ∧ wx.cell? ⟨w.heap.size + 1, 1, none⟩ = some (.int .i64 b.fam) ∧ wx.cell? ⟨w.heap.size + 1, 2, none⟩ = some b.vq ∧ wx.cell? ⟨w.heap.size + 1, 3, none⟩ = some (.int .i64 b.ts) ∧ wx.cell? ⟨w.heap.size + 1, 4, none⟩ = some (.int .i64 b.seq) ∧ wx.cell? ⟨w.heap.size + 1, 5, none⟩ = some (.int .i64 b.kind))) := fun wx h => by
    have e1 := HX.out.1.later h
    have e2 := HX.out.2.1.later h
    exact ⟨⟨e1.vr, e1.fam, e1.vq, e1.ts, e1.seq, e1.kind⟩, ⟨e2.vr, e2.fam, e2.vq, e2.ts, e2.seq, e2.kind⟩⟩
  have D0 : Below W.heap.size W W.drew := (Below.refl _ _).drew
  have RA : Hid (∀ wx, Below W.heap.size W wx → EntD.Ok wx a ∧ EntD.Ok wx b) := fun wx h => ⟨(HA.out.later HX.out.2.2).later h, (HB.out.later HX.out.2.2).later h⟩
  go_enter Tryz.func85, Tryz.ntmps85
  go_wp2_with fail
  rw [← hW]
  clear hW
  go_region_held3 (fun wx => (wx.cell? ⟨w.heap.size, 0, none⟩ = some a.vr ∧ wx.cell? ⟨w.heap.size, 1, none⟩ = some (.int .i64 a.fam) ∧ wx.cell? ⟨w.heap.size, 2, none⟩ = some a.vq ∧ wx.cell? ⟨w.heap.size, 3, none⟩ = some (.int .i64 a.ts) ∧ wx.cell? ⟨w.heap.size, 4, none⟩ = some (.int .i64 a.seq) ∧ wx.cell? ⟨w.heap.size, 5, none⟩ = some (.int .i64 a.kind)) ∧ (wx.cell? ⟨w.heap.size + 1, 0, none⟩ = some b.vr ∧ wx.cell? ⟨w.heap.size + 1, 1, none⟩ = some (.int .i64 b.fam) ∧ wx.cell? ⟨w.heap.size + 1, 2, none⟩ = some b.vq ∧ wx.cell? ⟨w.heap.size + 1, 3, none⟩ = some (.int .i64 b.ts) ∧ wx.cell? ⟨w.heap.size + 1, 4, none⟩ = some (.int .i64 b.seq) ∧ wx.cell? ⟨w.heap.size + 1, 5, none⟩ = some (.int .i64 b.kind)))
    (first | exact KS.out _ D0 | exact KS.out _ DD1 | exact KS.out _ DD2 | exact KS.out _ (DD2.alloc DD2.size _))
    (first
      | (go_at_call 114; refine (refNumber_any _ _ _).mono ?_; rintro e wn ⟨rfl, rfl⟩)
      | (go_at_call 115; have _t := T5.out; refine (refFirst_ahead (a := a) (b := b) 4 (by simp) (by simp) _).mono ?_; rintro e wn ⟨rfl, rfl⟩)
      | (go_at_call 115; refine (refFirst_ahead (a := a) (b := b) 5 (by simp) (by simp) _).mono ?_; rintro e wn ⟨rfl, rfl⟩; have T5 : Hid True := trivial)
      | (go_at_call 113; refine (refBytesOrd_any (RA.out _ DD1).1.2.1 (RA.out _ DD1).2.2.1).mono ?_; rintro e4 w4 ⟨rfl, hb4⟩; have DD2 := DD1.trans (hb4.mono DD1.size))
      | (go_at_call 113; refine (refBytesOrd_any (RA.out _ D0).1.1 (RA.out _ D0).2.1).mono ?_; rintro e3 w3 ⟨rfl, hb3⟩; have DD1 := D0.trans (hb3.mono D0.size)))
  have DW := HX.out.2.2.trans (DD2.mono HX.out.2.2.size)
  have DA := DW.alloc DW.size (.cells #[.int .i64 (ordC a.row b.row), .int .i64 (cmpI a.fam b.fam), .int .i64 (aheadS a b 5), .int .i64 (ordC a.qual b.qual), .int .i64 (aheadS a b 4), .int .i64 (cmpI b.ts a.ts), .int .i64 (cmpI b.seq a.seq), .int .i64 (cmpI a.kind b.kind)] 3)
  obtain ⟨U, hU⟩ : ∃ U, U = wn.alloc (.cells #[.int .i64 (ordC a.row b.row), .int .i64 (cmpI a.fam b.fam), .int .i64 (aheadS a b 5), .int .i64 (ordC a.qual b.qual), .int .i64 (aheadS a b 4), .int .i64 (cmpI b.ts a.ts), .int .i64 (cmpI b.seq a.seq), .int .i64 (cmpI a.kind b.kind)] 3) := ⟨_, rfl⟩
  have HCL : Hid (∀ t, t < 8 → U.cell? ⟨wn.heap.size, t, none⟩ = some (.int .i64 ((cmpsS a b).getD t 0))) := fun t ht => by
    have hh : U.heap[wn.heap.size]? = some (.cells #[.int .i64 (ordC a.row b.row), .int .i64 (cmpI a.fam b.fam), .int .i64 (aheadS a b 5), .int .i64 (ordC a.qual b.qual), .int .i64 (aheadS a b 4), .int .i64 (cmpI b.ts a.ts), .int .i64 (cmpI b.seq a.seq), .int .i64 (cmpI a.kind b.kind)] 3) := by rw [hU]; exact heap_new wn _
    have hc : ∀ j, U.cell? ⟨wn.heap.size, j, none⟩ = (#[.int .i64 (ordC a.row b.row), .int .i64 (cmpI a.fam b.fam), .int .i64 (aheadS a b 5), .int .i64 (ordC a.qual b.qual), .int .i64 (aheadS a b 4), .int .i64 (cmpI b.ts a.ts), .int .i64 (cmpI b.seq a.seq), .int .i64 (cmpI a.kind b.kind)] : Array Value)[j]? := fun j => by simp [World.cell?, hh]
    rw [hc]
    match t, ht with
    | 0, _ => rfl
    | 1, _ => rfl
    | 2, _ => rfl
    | 3, _ => rfl
    | 4, _ => rfl
    | 5, _ => rfl
    | 6, _ => rfl
    | 7, _ => rfl
  rw [← hU] at DA ⊢
  have HDA := Lib.hid DA
  have HLL : Hid ((cmpsS a b).length = 8) := rfl
  obtain ⟨l, hl⟩ : ∃ l, l = cmpsS a b := ⟨_, rfl⟩
  rw [← hl] at HCL HLL HCS
  obtain ⟨G, hG⟩ : ∃ G, G = wn.heap.size := ⟨_, rfl⟩
  rw [← hG] at HCL ⊢
  clear DA DW hU DD1 DD2 KS RA D0 HX HA HB hl hG
  rename_i hXX
  clear hXX
  go_wp2
  go_loopw [6] (fun i wr => ∃ t : Nat, t ≤ 8 ∧ i = .int .i64 (t : Int) ∧ Hid (∀ j, j < t → l.getD j 0 = 0) ∧ wr = U) (fun i _ => 8 - (intOf i).toNat)
  case atStart => exact ⟨0, by omega, rfl, fun j hj => by omega, rfl⟩
  case round =>
    obtain ⟨t, ht, rfl, hz, rfl⟩ := hrel
    by_cases hlt : t < 8
    · have hlt2 : (t : Int) < 8 := by omega
      have ht0 : (0 : Int) ≤ (t : Int) := by omega
      have ct := HCL.out t hlt
      obtain ⟨v, hv⟩ : ∃ v, v = l.getD t 0 := ⟨_, rfl⟩
      rw [← hv] at ct
      have HV := Lib.hid hv
      clear hv
      by_cases h0 : v = 0
      · subst h0
        go_wp2
        go_roundw
        case rel => exact ⟨t + 1, by omega, by go_num, fun j hj => by
          by_cases hjt : j = t
          · subst hjt; exact HV.out.symm
          · exact hz.out j (by omega), trivial⟩
        case measure => simp [intOf]; omega
      · have h1 : (v != 0) = true := by simpa using h0
        have h2 : (v == 0) = false := by simpa using h0
        have HR : Hid (compareS a b = v) := by unfold Hid; rw [HCS.out, firstNZ_at l t hz.out (by rw [← HV.out]; exact h0)]; exact HV.out.symm
        go_wp2
        go_ret
        rw [HR.out]
        exact ⟨rfl, HDA.out⟩
    · have hge : (8 : Int) ≤ (t : Int) := by omega
      obtain rfl : t = 8 := by omega
      have HR : Hid (compareS a b = 0) := by unfold Hid; rw [HCS.out]; exact firstNZ_none l (fun j hj => hz.out j (by rw [HLL.out] at hj; exact hj))
      go_wp2
      go_ret
      rw [HR.out]
      exact ⟨rfl, HDA.out⟩

end Go.Proofs.YtganmnckdmkcbaaGreat

namespace Go.Proofs.YtganmnckdmkcbaaGreat
open Go.RowKit Go.Maps
set_option linter.unusedVariables false

def selB (q : Nat → Bool) (l : List EntD) (t : Nat) : List EntD := ((List.range t).filter q).filterMap fun i => l[i]?
theorem selB_mem {q : Nat → Bool} {l : List EntD} {t : Nat} {x : EntD} : x ∈ selB q l t ↔ ∃ i, i < t ∧ q i = true ∧ l[i]? = some x := by
  unfold selB
  simp only [List.mem_filterMap, List.mem_filter, List.mem_range, and_assoc]
theorem selB_succ {q : Nat → Bool} {l : List EntD} {t : Nat} {x : EntD} (hx : l[t]? = some x) : selB q l (t + 1) = if q t = true then selB q l t ++ [x] else selB q l t := by
  unfold selB
  rw [List.range_succ, List.filter_append, List.filterMap_append]
  by_cases h : q t = true
  · rw [if_pos h]
    simp [h, hx]
  · rw [if_neg h]
    simp [h]
theorem selB_len {q r : Nat → Bool} {l : List EntD} (h : ∀ i, q i = true → r i = false) : ∀ t, (selB q l t).length + (selB r l t).length = (selB (fun i => q i || r i) l t).length
  | 0 => rfl
  | t + 1 => by
    have ih := selB_len (l := l) h t
    cases hx : l[t]? with
    | none =>
      have e : ∀ p : Nat → Bool, selB p l (t + 1) = selB p l t := fun p => by
        unfold selB
        rw [List.range_succ, List.filter_append, List.filterMap_append]
        by_cases hp : p t = true
        · simp [hp, hx]
        · simp [hp]
      rw [e, e, e, ih]
    | some x =>
      rw [selB_succ hx, selB_succ hx, selB_succ hx]
      cases hq : q t with
      | true =>
        have hr := h t hq
        simp [hr]
        omega
      | false =>
        cases hr : r t with
        | true => simp; omega
        | false => simp; omega
theorem selB_le {q : Nat → Bool} {l : List EntD} (t : Nat) : (selB q l t).length ≤ t := by
  unfold selB
  refine Nat.le_trans (List.length_filterMap_le _ _) (Nat.le_trans (List.length_filter_le _ _) ?_)
  rw [List.length_range]; exact Nat.le_refl _
def uniP (ks : Nat → Int) (l : List EntD) (p : Int) : List EntD := selB (fun i => decide (ks i < p)) l l.length
def parP (ks : Nat → Int) (l : List EntD) (p : Int) : List EntD := selB (fun i => decide (ks i = p)) l l.length
theorem uniP_len (ks : Nat → Int) (l : List EntD) (p : Int) : (uniP ks l p).length + (parP ks l p).length = (uniP ks l (p + 1)).length := by
  unfold uniP parP
  rw [selB_len (fun i h => by simp only [decide_eq_true_eq, decide_eq_false_iff_not] at *; omega)]
  congr 2
  funext i
  rw [Bool.eq_iff_iff]
  simp only [Bool.or_eq_true, decide_eq_true_eq]
  omega
theorem uniP_le (ks : Nat → Int) (l : List EntD) (p : Int) : (uniP ks l p).length ≤ l.length := selB_le _
theorem uniP_mem {ks : Nat → Int} {l : List EntD} {p : Int} {x : EntD} : x ∈ uniP ks l (p + 1) ↔ x ∈ uniP ks l p ∨ x ∈ parP ks l p := by
  unfold uniP parP
  rw [selB_mem, selB_mem, selB_mem]
  simp only [decide_eq_true_eq]
  constructor
  · rintro ⟨i, h1, h2, h3⟩
    by_cases z : ks i = p
    · exact .inr ⟨i, h1, z, h3⟩
    · exact .inl ⟨i, h1, by omega, h3⟩
  · rintro (⟨i, h1, h2, h3⟩ | ⟨i, h1, h2, h3⟩)
    · exact ⟨i, h1, by omega, h3⟩
    · exact ⟨i, h1, by omega, h3⟩
theorem sub_l {q : Nat → Bool} {l : List EntD} {t : Nat} {x : EntD} (h : x ∈ selB q l t) : x ∈ l := by
  obtain ⟨i, _, _, hx⟩ := selB_mem.1 h
  exact List.mem_of_getElem? hx
theorem dat_sub {q : Nat → Bool} {l : List EntD} {t : Nat} {e : En} (h : e ∈ (selB q l t).map EntD.dat) : e ∈ l.map EntD.dat := by
  obtain ⟨x, hx, rfl⟩ := List.mem_map.1 h
  exact List.mem_map_of_mem (sub_l hx)
theorem place_eq {l : List EntD} (h : l.Pairwise fun x y => x.seq ≠ y.seq) {i j : Nat} {x y : EntD} (hi : l[i]? = some x) (hj : l[j]? = some y) (e : x.seq = y.seq) : i = j := by
  have h' := List.pairwise_iff_getElem.1 h
  obtain ⟨li, ei⟩ := List.getElem?_eq_some_iff.1 hi
  obtain ⟨lj, ej⟩ := List.getElem?_eq_some_iff.1 hj
  rcases Nat.lt_trichotomy i j with z | z | z
  · have := h' i j li lj z
    rw [ei, ej] at this
    exact absurd e this
  · exact z
  · have := h' j i lj li z
    rw [ei, ej] at this
    exact absurd e.symm this
structure Mn (fs : List FamD) (clock : Int) (ks : Nat → Int) (l : List EntD) (p : Int) (zs : List EntD) : Prop where
  st : ∃ mU R, IsOrd fs.length ((uniP ks l p).map EntD.dat) mU ∧ IsOrd fs.length (zs.map EntD.dat) R ∧ Red (mt fs) clock mU R
  len : zs.length ≤ (uniP ks l p).length
theorem isOrd_nil (k : Nat) : IsOrd k [] [] := ⟨List.Pairwise.nil, List.Pairwise.nil, (fun e he => by cases he), (fun e he => by cases he), fun _ => Iff.rfl⟩
theorem Mn.start {fs : List FamD} {clock : Int} {ks : Nat → Int} {l : List EntD} (h0 : ∀ i, 0 ≤ ks i) : Mn fs clock ks l 0 [] := by
  have e : uniP ks l 0 = [] := by
    rw [List.eq_nil_iff_forall_not_mem]
    intro x hx
    obtain ⟨i, _, h2, _⟩ := selB_mem.1 hx
    have := h0 i
    simp only [decide_eq_true_eq] at h2
    omega
  refine ⟨⟨[], [], ?_, isOrd_nil _, Red.refl _⟩, Nat.zero_le _⟩
  rw [e]
  exact isOrd_nil _
theorem Red.seqs {fs : List (Int × Int)} {clock : Int} {m r : List En} (h : Red fs clock m r) {y : En} (hy : y ∈ r) : ∃ x ∈ m, x.seq = y.seq := by
  by_cases k : y.kind ≤ 3
  · obtain ⟨x, hx, _, e, _⟩ := h.frm y hy k
    exact ⟨x, hx, e⟩
  · exact ⟨y, h.marks y hy (by omega), rfl⟩
theorem len_of_dat2 {js zs ms : List EntD} (h : js.map EntD.dat = zs.map EntD.dat ++ ms.map EntD.dat) : js.length = zs.length + ms.length := by
  have := congrArg List.length h
  simpa using this
theorem Mn.join {fs : List FamD} {clock at_ : Int} {ks : Nat → Int} {l zs ms js : List EntD} {p : Int} {M mP : List En} (hS : SchemaOk fs) (h : Mn fs clock ks l p zs) (hat : at_ ≤ clock) (hM : IsOrd fs.length (l.map EntD.dat) M) (hd : l.Pairwise fun x y => x.seq ≠ y.seq) (hP : IsOrd fs.length ((parP ks l p).map EntD.dat) mP) (hm : ms.map EntD.dat = outS false 0 (verdictsS (mt fs) at_ mP)) (hl : ms.length ≤ (parP ks l p).length) (hj : js.map EntD.dat = zs.map EntD.dat ++ ms.map EntD.dat) :
    inOrderE (check3S fs.length) js = 0 ∧ Mn fs clock ks l (p + 1) js := by
  obtain ⟨⟨mU, R, hU, hR, red⟩, ln⟩ := h
  have hL := hP.left (fs := mt fs) (clock := at_) (low := 0) false
  have rl := (red_left (fs := mt fs) (clock := at_) (low := 0) hP.ah hP.va (famAt_nn hS)).later hat
  have eL : ∀ e, e ∈ ms.map EntD.dat ↔ e ∈ leftL (mt fs) at_ mP false 0 := fun e => by rw [hm, out_tld hP.ah hP.va]; rfl
  have q1 : ∀ e ∈ zs.map EntD.dat, ∃ i x, ks i < p ∧ l[i]? = some x ∧ x.seq = e.seq := fun e he => by
    obtain ⟨u, hu, eu⟩ := red.seqs ((hR.mem e).2 he)
    obtain ⟨x, hx, rfl⟩ := List.mem_map.1 ((hU.mem u).1 hu)
    obtain ⟨i, _, h2, h3⟩ := selB_mem.1 hx
    exact ⟨i, x, by simpa using h2, h3, eu⟩
  have q2 : ∀ e ∈ ms.map EntD.dat, ∃ i x, ks i = p ∧ l[i]? = some x ∧ x.seq = e.seq := fun e he => by
    obtain ⟨u, hu, eu⟩ := rl.seqs ((eL e).1 he)
    obtain ⟨x, hx, rfl⟩ := List.mem_map.1 ((hP.mem u).1 hu)
    obtain ⟨i, _, h2, h3⟩ := selB_mem.1 hx
    exact ⟨i, x, by simpa using h2, h3, eu⟩
  have two : ∀ x ∈ js, x.dat ∈ zs.map EntD.dat ∨ x.dat ∈ ms.map EntD.dat := fun x hx => by
    have : x.dat ∈ js.map EntD.dat := List.mem_map_of_mem hx
    rw [hj] at this
    exact List.mem_append.1 this
  have cross : ∀ {x y : EntD}, x.dat ∈ zs.map EntD.dat → y.dat ∈ ms.map EntD.dat → x.seq = y.seq → False := fun {x y} a b e => by
    obtain ⟨i, u, h1, h2, h3⟩ := q1 _ a
    obtain ⟨j, v, k1, k2, k3⟩ := q2 _ b
    have := place_eq hd h2 k2 (h3.trans (e.trans k3.symm))
    subst this
    omega
  have hio : inOrderE (check3S fs.length) js = 0 := by
    refine takes_of (fun x hx => ?_) (fun x hx y hy e => ?_)
    · rcases two x hx with q | q
      · exact hR.ck x.dat ((hR.mem _).2 q)
      · exact hL.ck x.dat (hm ▸ q)
    · rcases two x hx with a | a
      · rcases two y hy with b | b
        · exact hR.same a b e
        · exact (cross a b e).elim
      · rcases two y hy with b | b
        · exact (cross b a e.symm).elim
        · exact hL.same (hm ▸ a) (hm ▸ b) e
  refine ⟨hio, ?_, ?_⟩
  · obtain ⟨R', hR'⟩ := ord_exists hio
    obtain ⟨mU', hU'⟩ := ord_exists (hM.part (l := uniP ks l (p + 1)) (fun e he => dat_sub he))
    refine ⟨mU', R', hU', hR', Red.union red rl hU.ah hP.ah (fun e => ?_) (fun e => ?_)⟩
    · rw [hU'.mem, hU.mem, hP.mem]
      simp only [List.mem_map]
      constructor
      · rintro ⟨x, hx, rfl⟩
        rcases uniP_mem.1 hx with q | q
        · exact .inl ⟨x, q, rfl⟩
        · exact .inr ⟨x, q, rfl⟩
      · rintro (⟨x, hx, rfl⟩ | ⟨x, hx, rfl⟩)
        · exact ⟨x, uniP_mem.2 (.inl hx), rfl⟩
        · exact ⟨x, uniP_mem.2 (.inr hx), rfl⟩
    · rw [hR'.mem, hj, List.mem_append, hR.mem, eL]
  · have e := len_of_dat2 hj
    have := uniP_len ks l p
    omega
theorem Mn.again {fs : List FamD} {clock at_ : Int} {ks : Nat → Int} {l zs qs : List EntD} {p : Int} {R : List En} (hS : SchemaOk fs) (h : Mn fs clock ks l p zs) (hat : at_ ≤ clock) (hR : IsOrd fs.length (zs.map EntD.dat) R) (hq : qs.map EntD.dat = outS false 0 (verdictsS (mt fs) at_ R)) (hl : qs.length ≤ zs.length) : Mn fs clock ks l p qs := by
  obtain ⟨⟨mU, R0, hU, hR0, red⟩, ln⟩ := h
  have e := hR0.unique hR
  subst e
  have rl := (red_left (fs := mt fs) (clock := at_) (low := 0) hR.ah hR.va (famAt_nn hS)).later hat
  have hL := hR.left (fs := mt fs) (clock := at_) (low := 0) false
  refine ⟨⟨mU, leftL (mt fs) at_ R0 false 0, hU, ?_, red.trans rl hU.ah hU.va hR.ah⟩, by omega⟩
  rw [hq]
  rw [out_tld hR.ah hR.va] at hL ⊢
  exact hL
theorem Mn.take {fs : List FamD} {clock : Int} {ks : Nat → Int} {l zs : List EntD} {p : Int} (h : Mn fs clock ks l p zs) : inOrderE (check3S fs.length) zs = 0 := by
  obtain ⟨⟨mU, R, hU, hR, red⟩, ln⟩ := h
  exact hR.part (fun e he => he)
theorem Mn.final {fs : List FamD} {clock low : Int} {ks : Nat → Int} {l zs ws gs : List EntD} {M R : List En} (h : Mn fs clock ks l 4 zs) (h4 : ∀ i, ks i < 4) (hM : IsOrd fs.length (l.map EntD.dat) M) (hR : IsOrd fs.length (zs.map EntD.dat) R) (hw : ws.map EntD.dat = outS true low (verdictsS (mt fs) clock M)) (hg : gs.map EntD.dat = outS true low (verdictsS (mt fs) clock R)) : gs.map EntD.dat = ws.map EntD.dat := by
  obtain ⟨⟨mU, R0, hU, hR0, red⟩, ln⟩ := h
  have e := hR0.unique hR
  subst e
  have em : mU = M := by
    refine ord_unique hU.ah hM.ah fun e => ?_
    rw [hU.mem, hM.mem]
    refine ⟨fun he => dat_sub he, fun he => ?_⟩
    obtain ⟨x, hx, rfl⟩ := List.mem_map.1 he
    obtain ⟨i, hi⟩ := List.getElem?_of_mem hx
    exact List.mem_map_of_mem (selB_mem.2 ⟨i, (List.getElem?_eq_some_iff.1 hi).1, by simpa using h4 i, hi⟩)
  subst em
  have := red.major hM.ah hM.va hR.ah low
  rw [hg, hw, out_tld hR.ah hR.va, out_tld hM.ah hM.va]
  exact this
end Go.Proofs.YtganmnckdmkcbaaGreat

namespace Go.Proofs.YtganmnckdmkcbaaGreat
open Go.RowKit Go.Maps
set_option linter.unusedVariables false

def RdJ (w : World) (v : Value) (js : List Int) : Prop := ∃ a cap, v = .slice a js.length cap ∧ js.length ≤ cap ∧ cap ≤ maxLen ∧ (js = [] ∨ ∃ b off, a = some ⟨b, off, none⟩ ∧ ∀ (i : Nat) j, js[i]? = some j → w.cell? ⟨b, off + i, none⟩ = some (.int .i64 j)) ∧ ∀ j ∈ js, -9223372036854775808 ≤ j ∧ j ≤ 9223372036854775807
theorem RdJ.later {w w' : World} {v : Value} {js : List Int} (h : RdJ w v js) (hb : Below w.heap.size w w') : RdJ w' v js := by
  obtain ⟨a, cap, h1, h2, h3, h4, h5⟩ := h
  refine ⟨a, cap, h1, h2, h3, ?_, h5⟩
  rcases h4 with h4 | ⟨b, off, rfl, hc⟩
  · exact .inl h4
  · exact .inr ⟨b, off, rfl, fun i j hj => by rw [hb.cell (p := ⟨b, off + i, none⟩) (World.block_lt_of_cell? w _ (hc i j hj))]; exact hc i j hj⟩
theorem RdL3.takeN {w : World} {a : Option Addr} {cap : Nat} {xs : List EntD} (h : RdL3 w a cap xs) (t : Nat) : RdL3 w a cap (xs.take t) := by
  refine ⟨⟨Nat.le_trans (List.length_take_le' _ _) h.cap.1, h.cap.2⟩, ?_, fun x hx => h.ok x (List.mem_of_mem_take hx)⟩
  rcases h.at_ with h1 | ⟨b, off, e, hc⟩
  · exact .inl (by rw [h1]; simp)
  · refine .inr ⟨b, off, e, fun i x hi => ?_⟩
    rw [List.getElem?_take] at hi
    split at hi
    · exact hc i x hi
    · cases hi
theorem RdL3.oneN {w : World} {b off cap : Nat} {xs : List EntD} (h : RdL3 w (some ⟨b, off, none⟩) cap xs) {t : Nat} {x : EntD} (hx : xs[t]? = some x) : RdL3 w (some ⟨b, off + t * 7, none⟩) (cap - t) [x] := by
  have lt := (List.getElem?_eq_some_iff.1 hx).1
  have c1 := h.cap
  refine ⟨⟨by simp; omega, by omega⟩, .inr ⟨b, off + t * 7, rfl, fun i y hi j u hj => ?_⟩, fun y hy => ?_⟩
  · cases i with
    | succ i => simp at hi
    | zero =>
      simp only [List.getElem?_cons_zero, Option.some.injEq] at hi
      subst hi
      have := h.cells (Below.refl _ _) hx j u hj
      simpa using this
  · rw [List.mem_singleton] at hy
    rw [hy]
    exact h.ok x (List.mem_of_getElem? hx)
theorem row_rdl {W : World} {N : Nat} {v : Value} {zs : List EntD} (h : W.ownsRow N 84 7 v zs.length (evals zs)) (hok : ∀ x ∈ zs, EntD.Ok W x) : ∃ a cap, v = .slice a zs.length cap ∧ RdL3 W a cap zs := by
  rcases h.2 with ⟨h1, h2⟩ | ⟨g, cap, cur, h1, h2, h3, h4, h5, h6, h7⟩
  · have hz := List.eq_nil_of_length_eq_zero h2
    subst hz
    exact ⟨none, 0, h1, ⟨⟨Nat.le_refl _, Nat.zero_le _⟩, .inl rfl, hok⟩⟩
  · refine ⟨some ⟨g, 0, none⟩, cap, h1, ⟨⟨h4, h5⟩, ?_, hok⟩⟩
    refine .inr ⟨g, 0, rfl, fun i x hi j u hj => ?_⟩
    have hr := h
    rw [h1] at hr
    obtain ⟨g2, e, _, _, hc⟩ := row_cells3 hr hi
    cases e
    rw [Nat.zero_add]
    exact hc j u hj
theorem shrt_check {k : Nat} {x : EntD} (h : check3S k x = 0) : Shrt x := by
  have ck := check_zero.1 h
  unfold Shrt
  omega
def and3 (j : Int) : Int := bits .and .i64 j 3
theorem and3_ok (j : Int) : 0 ≤ and3 j ∧ and3 j < 4 := by
  unfold and3 bits
  simp
  have h : (j % 2 ^ IntKind.i64.bits).toNat &&& 3 % 2 ^ IntKind.i64.bits ≤ 3 := Nat.le_trans Nat.and_le_right (by decide)
  generalize (j % 2 ^ IntKind.i64.bits).toNat &&& 3 % 2 ^ IntKind.i64.bits = m at h ⊢
  have e : IntKind.i64.wrap (m : Int) = (m : Int) := by simp [IntKind.wrap, IntKind.bits, IntKind.signed]; omega
  rw [e]
  omega
theorem clock_of {C : Nat} {fs : List FamD} {clock low : Int} {l : List EntD} (h : squashE C fs clock low l = 0) : 0 ≤ clock ∧ clock ≤ 1099511627776 ∧ C = 0 := by
  unfold squashE at h
  by_cases y : boundsS C [clock, low] = 0
  · unfold boundsS at y
    by_cases c : C = 0
    · rw [if_neg (by simpa using c)] at y
      by_cases z : [clock, low].any badT = true
      · rw [if_pos z] at y; cases y
      · simp [badT] at z
        exact ⟨by omega, by omega, c⟩
    · rw [if_pos c] at y; omega
  · rw [if_pos y] at h; exact absurd h y
end Go.Proofs.YtganmnckdmkcbaaGreat
