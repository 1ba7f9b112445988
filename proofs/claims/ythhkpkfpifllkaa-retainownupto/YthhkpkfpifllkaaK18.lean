import Derived.Test.YthhkpkfpifllkaaK17
import Derived.Deep.CutRange
namespace Go.Proofs.Ythhkpkfpifllkaa
open Go.RowKit Go.Maps
set_option linter.unusedVariables false

theorem cmp_trans {x y z : EntD} (h : compareS x y ≤ 0) (k : compareS y z ≤ 0) : compareS x z ≤ 0 := by
  have t := compareS_tri x y z
  unfold Tri at t
  by_cases a : compareS x y = 0
  · by_cases b : compareS y z = 0
    · have := compareS_tri x y z
      unfold Tri at this
      have s1 := compareS_small x z
      omega
    · omega
  · omega
theorem ord_exists {k : Nat} {l : List EntD} (h : inOrderE (check3S k) l = 0) : ∃ m, IsOrd k (l.map EntD.dat) m := by
  obtain ⟨hc, xs, hx⟩ := inOrder_ok h
  refine ⟨_, isOrd_of h hx (List.mergeSort_perm xs (fun x y => decide (compareS x y ≤ 0))) ?_⟩
  have := List.pairwise_mergeSort (le := fun x y : EntD => decide (compareS x y ≤ 0)) (fun a b c h1 h2 => by
    simp only [decide_eq_true_eq] at *
    exact cmp_trans h1 h2) (fun a b => by
    have := compareS_swap a b
    simp only [Bool.or_eq_true, decide_eq_true_eq]
    omega) xs
  exact this.imp (fun h => by simpa using h)
theorem once_ok (l : List EntD) : ∀ (acc : List EntD), (∀ x ∈ acc ++ l, ∀ y ∈ acc ++ l, x.seq = y.seq → x.dat = y.dat) → ∃ xs, l.foldl (fun o e => o.bind fun xs => addO xs e) (some acc) = some xs := by
  induction l with
  | nil => intro acc _; exact ⟨acc, rfl⟩
  | cons e r ih =>
    intro acc h
    show ∃ xs, r.foldl (fun o e => o.bind fun xs => addO xs e) (addO acc e) = some xs
    cases hf : acc.find? (fun x => x.seq == e.seq) with
    | none =>
      have ha : addO acc e = some (acc ++ [e]) := by unfold addO; rw [hf]
      rw [ha]
      exact ih _ (by rw [List.append_assoc]; exact h)
    | some x =>
      have xm := List.mem_of_find?_eq_some hf
      have xs : x.seq = e.seq := by simpa using List.find?_some hf
      have hs : sameS x e = true := sameS_of (h x (List.mem_append_left _ xm) e (by simp) xs)
      rw [addO_old hf, hs, if_pos rfl]
      exact ih _ (fun a ha b hb => h a (by
        rcases List.mem_append.1 ha with q | q
        · exact List.mem_append_left _ q
        · exact List.mem_append_right _ (List.mem_cons_of_mem _ q)) b (by
        rcases List.mem_append.1 hb with q | q
        · exact List.mem_append_left _ q
        · exact List.mem_append_right _ (List.mem_cons_of_mem _ q)))
theorem takes_of {k : Nat} {l : List EntD} (hc : ∀ x ∈ l, check3S k x = 0) (hs : ∀ x ∈ l, ∀ y ∈ l, x.seq = y.seq → x.dat = y.dat) : inOrderE (check3S k) l = 0 := by
  obtain ⟨xs, hx⟩ := once_ok l [] (by simpa using hs)
  have ho : onceS l = some xs := hx
  unfold inOrderE
  rw [firstBad_zero hc, if_neg (by simp), if_neg (by rw [ho]; simp)]
theorem pair_eq : ∀ {m : List En}, m.Pairwise (fun a b => a.seq ≠ b.seq) → ∀ {x y : En}, x ∈ m → y ∈ m → x.seq = y.seq → x = y
  | [], _, x, y, hx, _, _ => by cases hx
  | a :: m, h, x, y, hx, hy, e => by
    have h1 := List.pairwise_cons.1 h
    rcases List.mem_cons.1 hx with p | p
    · rcases List.mem_cons.1 hy with q | q
      · rw [p, q]
      · exact absurd (p ▸ e) (h1.1 y q)
    · rcases List.mem_cons.1 hy with q | q
      · exact absurd (q ▸ e.symm) (h1.1 x p)
      · exact pair_eq h1.2 p q e
theorem IsOrd.same {k : Nat} {l m : List En} (h : IsOrd k l m) {x y : En} (hx : x ∈ l) (hy : y ∈ l) (e : x.seq = y.seq) : x = y :=
  pair_eq h.ne ((h.mem x).2 hx) ((h.mem y).2 hy) e
theorem IsOrd.part {k : Nat} {L m : List En} (h : IsOrd k L m) {l : List EntD} (hl : ∀ e ∈ l.map EntD.dat, e ∈ L) : inOrderE (check3S k) l = 0 :=
  takes_of (fun x hx => h.ck x.dat ((h.mem _).2 (hl _ (List.mem_map_of_mem hx)))) (fun x hx y hy e => h.same (hl _ (List.mem_map_of_mem hx)) (hl _ (List.mem_map_of_mem hy)) e)
theorem vis_of {C : Nat} {fs : List FamD} {clock : Int} {l : List EntD} (hC : C = 0) (h0 : 0 ≤ clock) (h1 : clock ≤ 1099511627776) (hi : inOrderE (check3S fs.length) l = 0) : visE C fs clock l = 0 := by
  unfold visE readE readerS boundsS
  have : ([clock, 1099511627776].any badT) = false := by simp [badT]; omega
  simp [hC, this, hi]
theorem squash_of {C : Nat} {fs : List FamD} {clock low : Int} {l : List EntD} (hC : C = 0) (h0 : 0 ≤ clock) (h1 : clock ≤ 1099511627776) (l0 : 0 ≤ low) (l1 : low ≤ 1099511627776) (hi : inOrderE (check3S fs.length) l = 0) : squashE C fs clock low l = 0 := by
  unfold squashE boundsS
  have : ([clock, low].any badT) = false := by simp [badT]; omega
  simp [hC, this, hi]
theorem left_takes {k : Nat} {fs : List (Int × Int)} {clock low : Int} {major : Bool} {la lb zs ls : List EntD} {mA : List En} {M : List En} (hA : IsOrd k (la.map EntD.dat) mA) (hM : IsOrd k M M) (hb : ∀ e ∈ lb.map EntD.dat, e ∈ M) (hz : zs.map EntD.dat = outS major low (verdictsS fs clock mA)) (ap : ∀ x ∈ la, ∀ y ∈ lb, x.seq ≠ y.seq) (hl : ls.map EntD.dat = zs.map EntD.dat ++ lb.map EntD.dat) : inOrderE (check3S k) ls = 0 := by
  have hL := hA.left (fs := fs) (clock := clock) (low := low) major
  have sq : ∀ e ∈ zs.map EntD.dat, ∃ x ∈ la, x.seq = e.seq := fun e he => by
    rw [hz, out_tld hA.ah hA.va] at he
    obtain ⟨x, hx, _, rfl⟩ := left_mem.1 he
    obtain ⟨y, hy, e1⟩ := List.mem_map.1 ((hA.mem x).1 hx)
    exact ⟨y, hy, by rw [(tld_eq mA x).2.2.2.2.1, ← e1]; rfl⟩
  have sb : ∀ e ∈ lb.map EntD.dat, ∃ y ∈ lb, y.seq = e.seq := fun e he => by
    obtain ⟨y, hy, e1⟩ := List.mem_map.1 he
    exact ⟨y, hy, by rw [← e1]; rfl⟩
  have two : ∀ x ∈ ls, x.dat ∈ zs.map EntD.dat ∨ x.dat ∈ lb.map EntD.dat := fun x hx => by
    have : x.dat ∈ ls.map EntD.dat := List.mem_map_of_mem hx
    rw [hl] at this
    exact List.mem_append.1 this
  refine takes_of (fun x hx => ?_) (fun x hx y hy e => ?_)
  · rcases two x hx with q | q
    · exact hL.ck x.dat (hz ▸ q)
    · exact hM.ck x.dat (hb _ q)
  · have e' : x.dat.seq = y.dat.seq := e
    rcases two x hx with p | p
    · rcases two y hy with q | q
      · exact hL.same (hz ▸ p) (hz ▸ q) e'
      · obtain ⟨u, hu, eu⟩ := sq _ p
        obtain ⟨v, hv, ev⟩ := sb _ q
        exact absurd (eu.trans (e'.trans ev.symm)) (ap u hu v hv)
    · rcases two y hy with q | q
      · obtain ⟨u, hu, eu⟩ := sq _ q
        obtain ⟨v, hv, ev⟩ := sb _ p
        exact absurd (eu.trans (e'.symm.trans ev.symm)) (ap u hu v hv)
      · exact hM.same (hb _ p) (hb _ q) e'
theorem IsOrd.self {k : Nat} {l m : List En} (h : IsOrd k l m) : IsOrd k m m := ⟨h.ah, h.ne, h.va, h.ck, fun _ => Iff.rfl⟩
theorem neverSeen_pure {fs : List FamD} (hS : SchemaOk fs) {clock d : Int} (hc : clock ≤ d) {la lb zs ls : List EntD} {mA M R : List En} (hA : IsOrd fs.length (la.map EntD.dat) mA) (hM : IsOrd fs.length (la.map EntD.dat ++ lb.map EntD.dat) M) (hz : zs.map EntD.dat = outS false 0 (verdictsS (mt fs) clock mA)) (hl : ls.map EntD.dat = zs.map EntD.dat ++ lb.map EntD.dat) (hR : IsOrd fs.length (ls.map EntD.dat) R) :
    (∀ tm n, showS tm n (verdictsS (mt fs) d M) = showS tm n (verdictsS (mt fs) d R)) ∧ topS (verdictsS (mt fs) d M) = topS (verdictsS (mt fs) d R) := by
  obtain ⟨mB, hB⟩ := ord_exists (hM.part (l := lb) (fun e he => List.mem_append_right _ he))
  have r1 := (red_left (fs := mt fs) (clock := clock) (low := 0) hA.ah hA.va (famAt_nn hS)).later hc
  have r := Red.union (m := M) (r := R) r1 (Red.refl mB) hA.ah hB.ah (fun e => by rw [hM.mem, List.mem_append, hA.mem, hB.mem]) (fun e => by
    rw [hR.mem, hl, List.mem_append, hz, out_tld hA.ah hA.va, hB.mem]
    rfl)
  have := (r.wk hM.ah hM.va).seen (hM.max hS) (hR.max hS) hM.ah hM.va hR.ah hR.va
  exact this.2
theorem majorUnseen_pure {fs : List FamD} (hS : SchemaOk fs) {clock d low : Int} (hc : clock ≤ d) {la lb zs ls : List EntD} {mA M R : List En} (hA : IsOrd fs.length (la.map EntD.dat) mA) (hM : IsOrd fs.length (la.map EntD.dat ++ lb.map EntD.dat) M) (hz : zs.map EntD.dat = outS true low (verdictsS (mt fs) clock mA)) (hl : ls.map EntD.dat = zs.map EntD.dat ++ lb.map EntD.dat) (hR : IsOrd fs.length (ls.map EntD.dat) R) (hb : ∀ y ∈ lb, low < y.ts ∧ ∀ x ∈ la, x.seq < y.seq) :
    (∀ tm n, showS tm n (verdictsS (mt fs) d M) = showS tm n (verdictsS (mt fs) d R)) ∧ topS (verdictsS (mt fs) d M) = topS (verdictsS (mt fs) d R) := by
  have w : Wk5 (mt fs) d M R := major_wk (c := clock) (low := low) (b := lb.map EntD.dat) hc hA.ah hA.va (famAt_nn hS) (fun e => by rw [hM.mem, List.mem_append, hA.mem]) (fun e => by
    rw [hR.mem, hl, List.mem_append, hz, out_tld hA.ah hA.va]
    rfl) (fun y hy => by
    obtain ⟨y', hy', rfl⟩ := List.mem_map.1 hy
    refine ⟨(hb y' hy').1, fun x hx => ?_⟩
    obtain ⟨x', hx', rfl⟩ := List.mem_map.1 ((hA.mem x).1 hx)
    exact (hb y' hy').2 x' hx')
  exact (w.seen (hM.max hS) (hR.max hS) hM.ah hM.va hR.ah hR.va).2
theorem nothingBack_pure {fs : List FamD} (hS : SchemaOk fs) {clock d : Int} (hc : clock ≤ d) {la lb vs us : List EntD} {mA M : List En} (hA : IsOrd fs.length (la.map EntD.dat) mA) (hM : IsOrd fs.length (la.map EntD.dat ++ lb.map EntD.dat) M) (hv : vs.map EntD.dat = (mA.filter fun x => shw 1099511627776 (sv (mt fs) clock mA x)).map (tld mA)) (hu : us.map EntD.dat = (M.filter fun x => shw 1099511627776 (sv (mt fs) d M x)).map (tld M)) {x : EntD} (hx : x ∈ la) (k1 : x.kind = 1) (h : ∃ y ∈ us, hit y.dat x.dat) : ∃ y ∈ vs, hit y.dat x.dat := by
  obtain ⟨y, hy, ht⟩ := h
  have hy' : y.dat ∈ us.map EntD.dat := List.mem_map_of_mem hy
  rw [hu] at hy'
  obtain ⟨z, hz, e⟩ := List.mem_map.1 hy'
  obtain ⟨zm, hz⟩ := List.mem_filter.1 hz
  have xA : x.dat ∈ mA := (hA.mem _).2 (List.mem_map_of_mem hx)
  have sub : ∀ e ∈ mA, e ∈ M := fun e he => (hM.mem e).2 (List.mem_append_left _ ((hA.mem e).1 he))
  have ez : z = x.dat := by
    refine pair_eq hM.ne zm (sub _ xA) ?_
    rw [← (tld_eq M z).2.2.2.2.1, e]
    exact ht.2.2.1
  subst ez
  have hz' := of_decide_eq_true hz
  have f5 := nothing_back (fs := mt fs) hc hA.ah hM.ah sub xA k1 hz'.1
  have i5 := (five_iff xA).1 f5
  have et : tld mA x.dat = x.dat := by
    rw [tld_hk i5.1 i5.2.1 i5.2.2.1]
    unfold hk
    rw [if_neg (by show ¬ x.kind = 3; omega)]
  have hm : x.dat ∈ vs.map EntD.dat := by
    rw [hv]
    refine List.mem_map.2 ⟨x.dat, List.mem_filter.2 ⟨xA, ?_⟩, et⟩
    unfold shw
    rw [decide_eq_true_eq, sv_e, et]
    refine ⟨f5, k1, ?_⟩
    have := (check_zero.1 (hA.ck _ xA)).1.2.2.2.1
    simp only [EntD.ofEn] at this
    omega
  obtain ⟨u, hu, e⟩ := List.mem_map.1 hm
  exact ⟨u, hu, by rw [e]; exact ⟨rfl, rfl, rfl, rfl, rfl, rfl⟩⟩
end Go.Proofs.Ythhkpkfpifllkaa

namespace Go.Proofs.Ythhkpkfpifllkaa
open Go.RowKit Go.Maps
set_option linter.unusedVariables false

def RdE3U (W : World) (v : Value) (xs : List EntD) : Prop := ∃ a c, v = .slice a xs.length c ∧ RdL3 W a c xs ∧ xs.length ≤ 1048576 ∧ ∀ x ∈ xs, Shrt x
theorem shrt_left {k : Nat} {fs : List (Int × Int)} {clock low : Int} {major : Bool} {l m : List En} {zs : List EntD} (h : IsOrd k l m) (hz : zs.map EntD.dat = outS major low (verdictsS fs clock m)) : ∀ x ∈ zs, Shrt x := fun x hx => by
  have := (h.left (fs := fs) (clock := clock) (low := low) major).ck x.dat (by rw [← hz]; exact List.mem_map_of_mem hx)
  have ck := check_zero.1 this
  simp only [EntD.ofEn, EntD.dat] at ck
  unfold Shrt
  omega
theorem len_of_dat {zs : List EntD} {l : List En} (h : zs.map EntD.dat = l) : zs.length = l.length := by rw [← h, List.length_map]
end Go.Proofs.Ythhkpkfpifllkaa

namespace Go.Proofs.Ythhkpkfpifllkaa
open Go.RowKit Go.Maps
set_option linter.unusedVariables false

def selB (q : Nat → Bool) (l : List EntD) (t : Nat) : List EntD := ((List.range t).filter q).filterMap fun i => l[i]?
theorem selB_mem {q : Nat → Bool} {l : List EntD} {t : Nat} {x : EntD} : x ∈ selB q l t ↔ ∃ i, i < t ∧ q i = true ∧ l[i]? = some x := by
  unfold selB
  simp only [List.mem_filterMap, List.mem_filter, List.mem_range, and_assoc]
theorem selB_succ {q : Nat → Bool} {l : List EntD} {t : Nat} {x : EntD} (hx : l[t]? = some x) : selB q l (t + 1) = if q t = true then selB q l t ++ [x] else selB q l t := by
  unfold selB
  rw [List.range_succ, List.filter_append, List.filterMap_append]
  by_cases h : q t = true
  · rw [if_pos h]
    simp [h, hx]
  · rw [if_neg h]
    simp [h]
theorem selB_len {q r : Nat → Bool} {l : List EntD} (h : ∀ i, q i = true → r i = false) : ∀ t, (selB q l t).length + (selB r l t).length = (selB (fun i => q i || r i) l t).length
  | 0 => rfl
  | t + 1 => by
    have ih := selB_len (l := l) h t
    cases hx : l[t]? with
    | none =>
      have e : ∀ p : Nat → Bool, selB p l (t + 1) = selB p l t := fun p => by
        unfold selB
        rw [List.range_succ, List.filter_append, List.filterMap_append]
        by_cases hp : p t = true
        · simp [hp, hx]
        · simp [hp]
      rw [e, e, e, ih]
    | some x =>
      rw [selB_succ hx, selB_succ hx, selB_succ hx]
      cases hq : q t with
      | true =>
        have hr := h t hq
        simp [hr]
        omega
      | false =>
        cases hr : r t with
        | true => simp; omega
        | false => simp; omega
theorem selB_le {q : Nat → Bool} {l : List EntD} (t : Nat) : (selB q l t).length ≤ t := by
  unfold selB
  refine Nat.le_trans (List.length_filterMap_le _ _) (Nat.le_trans (List.length_filter_le _ _) ?_)
  rw [List.length_range]; exact Nat.le_refl _
def uniP (ks : Nat → Int) (l : List EntD) (p : Int) : List EntD := selB (fun i => decide (ks i < p)) l l.length
def parP (ks : Nat → Int) (l : List EntD) (p : Int) : List EntD := selB (fun i => decide (ks i = p)) l l.length
theorem uniP_len (ks : Nat → Int) (l : List EntD) (p : Int) : (uniP ks l p).length + (parP ks l p).length = (uniP ks l (p + 1)).length := by
  unfold uniP parP
  rw [selB_len (fun i h => by simp only [decide_eq_true_eq, decide_eq_false_iff_not] at *; omega)]
  congr 2
  funext i
  rw [Bool.eq_iff_iff]
  simp only [Bool.or_eq_true, decide_eq_true_eq]
  omega
theorem uniP_le (ks : Nat → Int) (l : List EntD) (p : Int) : (uniP ks l p).length ≤ l.length := selB_le _
theorem uniP_mem {ks : Nat → Int} {l : List EntD} {p : Int} {x : EntD} : x ∈ uniP ks l (p + 1) ↔ x ∈ uniP ks l p ∨ x ∈ parP ks l p := by
  unfold uniP parP
  rw [selB_mem, selB_mem, selB_mem]
  simp only [decide_eq_true_eq]
  constructor
  · rintro ⟨i, h1, h2, h3⟩
    by_cases z : ks i = p
    · exact .inr ⟨i, h1, z, h3⟩
    · exact .inl ⟨i, h1, by omega, h3⟩
  · rintro (⟨i, h1, h2, h3⟩ | ⟨i, h1, h2, h3⟩)
    · exact ⟨i, h1, by omega, h3⟩
    · exact ⟨i, h1, by omega, h3⟩
theorem sub_l {q : Nat → Bool} {l : List EntD} {t : Nat} {x : EntD} (h : x ∈ selB q l t) : x ∈ l := by
  obtain ⟨i, _, _, hx⟩ := selB_mem.1 h
  exact List.mem_of_getElem? hx
theorem dat_sub {q : Nat → Bool} {l : List EntD} {t : Nat} {e : En} (h : e ∈ (selB q l t).map EntD.dat) : e ∈ l.map EntD.dat := by
  obtain ⟨x, hx, rfl⟩ := List.mem_map.1 h
  exact List.mem_map_of_mem (sub_l hx)
theorem place_eq {l : List EntD} (h : l.Pairwise fun x y => x.seq ≠ y.seq) {i j : Nat} {x y : EntD} (hi : l[i]? = some x) (hj : l[j]? = some y) (e : x.seq = y.seq) : i = j := by
  have h' := List.pairwise_iff_getElem.1 h
  obtain ⟨li, ei⟩ := List.getElem?_eq_some_iff.1 hi
  obtain ⟨lj, ej⟩ := List.getElem?_eq_some_iff.1 hj
  rcases Nat.lt_trichotomy i j with z | z | z
  · have := h' i j li lj z
    rw [ei, ej] at this
    exact absurd e this
  · exact z
  · have := h' j i lj li z
    rw [ei, ej] at this
    exact absurd e.symm this
structure Mn (fs : List FamD) (clock : Int) (ks : Nat → Int) (l : List EntD) (p : Int) (zs : List EntD) : Prop where
  st : ∃ mU R, IsOrd fs.length ((uniP ks l p).map EntD.dat) mU ∧ IsOrd fs.length (zs.map EntD.dat) R ∧ Red (mt fs) clock mU R
  len : zs.length ≤ (uniP ks l p).length
theorem isOrd_nil (k : Nat) : IsOrd k [] [] := ⟨List.Pairwise.nil, List.Pairwise.nil, (fun e he => by cases he), (fun e he => by cases he), fun _ => Iff.rfl⟩
theorem Mn.start {fs : List FamD} {clock : Int} {ks : Nat → Int} {l : List EntD} (h0 : ∀ i, 0 ≤ ks i) : Mn fs clock ks l 0 [] := by
  have e : uniP ks l 0 = [] := by
    rw [List.eq_nil_iff_forall_not_mem]
    intro x hx
    obtain ⟨i, _, h2, _⟩ := selB_mem.1 hx
    have := h0 i
    simp only [decide_eq_true_eq] at h2
    omega
  refine ⟨⟨[], [], ?_, isOrd_nil _, Red.refl _⟩, Nat.zero_le _⟩
  rw [e]
  exact isOrd_nil _
theorem Red.seqs {fs : List (Int × Int)} {clock : Int} {m r : List En} (h : Red fs clock m r) {y : En} (hy : y ∈ r) : ∃ x ∈ m, x.seq = y.seq := by
  by_cases k : y.kind ≤ 3
  · obtain ⟨x, hx, _, e, _⟩ := h.frm y hy k
    exact ⟨x, hx, e⟩
  · exact ⟨y, h.marks y hy (by omega), rfl⟩
theorem len_of_dat2 {js zs ms : List EntD} (h : js.map EntD.dat = zs.map EntD.dat ++ ms.map EntD.dat) : js.length = zs.length + ms.length := by
  have := congrArg List.length h
  simpa using this
theorem Mn.join {fs : List FamD} {clock at_ : Int} {ks : Nat → Int} {l zs ms js : List EntD} {p : Int} {M mP : List En} (hS : SchemaOk fs) (h : Mn fs clock ks l p zs) (hat : at_ ≤ clock) (hM : IsOrd fs.length (l.map EntD.dat) M) (hd : l.Pairwise fun x y => x.seq ≠ y.seq) (hP : IsOrd fs.length ((parP ks l p).map EntD.dat) mP) (hm : ms.map EntD.dat = outS false 0 (verdictsS (mt fs) at_ mP)) (hl : ms.length ≤ (parP ks l p).length) (hj : js.map EntD.dat = zs.map EntD.dat ++ ms.map EntD.dat) :
    inOrderE (check3S fs.length) js = 0 ∧ Mn fs clock ks l (p + 1) js := by
  obtain ⟨⟨mU, R, hU, hR, red⟩, ln⟩ := h
  have hL := hP.left (fs := mt fs) (clock := at_) (low := 0) false
  have rl := (red_left (fs := mt fs) (clock := at_) (low := 0) hP.ah hP.va (famAt_nn hS)).later hat
  have eL : ∀ e, e ∈ ms.map EntD.dat ↔ e ∈ leftL (mt fs) at_ mP false 0 := fun e => by rw [hm, out_tld hP.ah hP.va]; rfl
  have q1 : ∀ e ∈ zs.map EntD.dat, ∃ i x, ks i < p ∧ l[i]? = some x ∧ x.seq = e.seq := fun e he => by
    obtain ⟨u, hu, eu⟩ := red.seqs ((hR.mem e).2 he)
    obtain ⟨x, hx, rfl⟩ := List.mem_map.1 ((hU.mem u).1 hu)
    obtain ⟨i, _, h2, h3⟩ := selB_mem.1 hx
    exact ⟨i, x, by simpa using h2, h3, eu⟩
  have q2 : ∀ e ∈ ms.map EntD.dat, ∃ i x, ks i = p ∧ l[i]? = some x ∧ x.seq = e.seq := fun e he => by
    obtain ⟨u, hu, eu⟩ := rl.seqs ((eL e).1 he)
    obtain ⟨x, hx, rfl⟩ := List.mem_map.1 ((hP.mem u).1 hu)
    obtain ⟨i, _, h2, h3⟩ := selB_mem.1 hx
    exact ⟨i, x, by simpa using h2, h3, eu⟩
  have two : ∀ x ∈ js, x.dat ∈ zs.map EntD.dat ∨ x.dat ∈ ms.map EntD.dat := fun x hx => by
    have : x.dat ∈ js.map EntD.dat := List.mem_map_of_mem hx
    rw [hj] at this
    exact List.mem_append.1 this
  have cross : ∀ {x y : EntD}, x.dat ∈ zs.map EntD.dat → y.dat ∈ ms.map EntD.dat → x.seq = y.seq → False := fun {x y} a b e => by
    obtain ⟨i, u, h1, h2, h3⟩ := q1 _ a
    obtain ⟨j, v, k1, k2, k3⟩ := q2 _ b
    have := place_eq hd h2 k2 (h3.trans (e.trans k3.symm))
    subst this
    omega
  have hio : inOrderE (check3S fs.length) js = 0 := by
    refine takes_of (fun x hx => ?_) (fun x hx y hy e => ?_)
    · rcases two x hx with q | q
      · exact hR.ck x.dat ((hR.mem _).2 q)
      · exact hL.ck x.dat (hm ▸ q)
    · rcases two x hx with a | a
      · rcases two y hy with b | b
        · exact hR.same a b e
        · exact (cross a b e).elim
      · rcases two y hy with b | b
        · exact (cross b a e.symm).elim
        · exact hL.same (hm ▸ a) (hm ▸ b) e
  refine ⟨hio, ?_, ?_⟩
  · obtain ⟨R', hR'⟩ := ord_exists hio
    obtain ⟨mU', hU'⟩ := ord_exists (hM.part (l := uniP ks l (p + 1)) (fun e he => dat_sub he))
    refine ⟨mU', R', hU', hR', Red.union red rl hU.ah hP.ah (fun e => ?_) (fun e => ?_)⟩
    · rw [hU'.mem, hU.mem, hP.mem]
      simp only [List.mem_map]
      constructor
      · rintro ⟨x, hx, rfl⟩
        rcases uniP_mem.1 hx with q | q
        · exact .inl ⟨x, q, rfl⟩
        · exact .inr ⟨x, q, rfl⟩
      · rintro (⟨x, hx, rfl⟩ | ⟨x, hx, rfl⟩)
        · exact ⟨x, uniP_mem.2 (.inl hx), rfl⟩
        · exact ⟨x, uniP_mem.2 (.inr hx), rfl⟩
    · rw [hR'.mem, hj, List.mem_append, hR.mem, eL]
  · have e := len_of_dat2 hj
    have := uniP_len ks l p
    omega
theorem Mn.again {fs : List FamD} {clock at_ : Int} {ks : Nat → Int} {l zs qs : List EntD} {p : Int} {R : List En} (hS : SchemaOk fs) (h : Mn fs clock ks l p zs) (hat : at_ ≤ clock) (hR : IsOrd fs.length (zs.map EntD.dat) R) (hq : qs.map EntD.dat = outS false 0 (verdictsS (mt fs) at_ R)) (hl : qs.length ≤ zs.length) : Mn fs clock ks l p qs := by
  obtain ⟨⟨mU, R0, hU, hR0, red⟩, ln⟩ := h
  have e := hR0.unique hR
  subst e
  have rl := (red_left (fs := mt fs) (clock := at_) (low := 0) hR.ah hR.va (famAt_nn hS)).later hat
  have hL := hR.left (fs := mt fs) (clock := at_) (low := 0) false
  refine ⟨⟨mU, leftL (mt fs) at_ R0 false 0, hU, ?_, red.trans rl hU.ah hU.va hR.ah⟩, by omega⟩
  rw [hq]
  rw [out_tld hR.ah hR.va] at hL ⊢
  exact hL
theorem Mn.take {fs : List FamD} {clock : Int} {ks : Nat → Int} {l zs : List EntD} {p : Int} (h : Mn fs clock ks l p zs) : inOrderE (check3S fs.length) zs = 0 := by
  obtain ⟨⟨mU, R, hU, hR, red⟩, ln⟩ := h
  exact hR.part (fun e he => he)
theorem Mn.final {fs : List FamD} {clock low : Int} {ks : Nat → Int} {l zs ws gs : List EntD} {M R : List En} (h : Mn fs clock ks l 4 zs) (h4 : ∀ i, ks i < 4) (hM : IsOrd fs.length (l.map EntD.dat) M) (hR : IsOrd fs.length (zs.map EntD.dat) R) (hw : ws.map EntD.dat = outS true low (verdictsS (mt fs) clock M)) (hg : gs.map EntD.dat = outS true low (verdictsS (mt fs) clock R)) : gs.map EntD.dat = ws.map EntD.dat := by
  obtain ⟨⟨mU, R0, hU, hR0, red⟩, ln⟩ := h
  have e := hR0.unique hR
  subst e
  have em : mU = M := by
    refine ord_unique hU.ah hM.ah fun e => ?_
    rw [hU.mem, hM.mem]
    refine ⟨fun he => dat_sub he, fun he => ?_⟩
    obtain ⟨x, hx, rfl⟩ := List.mem_map.1 he
    obtain ⟨i, hi⟩ := List.getElem?_of_mem hx
    exact List.mem_map_of_mem (selB_mem.2 ⟨i, (List.getElem?_eq_some_iff.1 hi).1, by simpa using h4 i, hi⟩)
  subst em
  have := red.major hM.ah hM.va hR.ah low
  rw [hg, hw, out_tld hR.ah hR.va, out_tld hM.ah hM.va]
  exact this
end Go.Proofs.Ythhkpkfpifllkaa

namespace Go.Proofs.Ythhkpkfpifllkaa
open Go.RowKit Go.Maps
set_option linter.unusedVariables false

def RdJ (w : World) (v : Value) (js : List Int) : Prop := ∃ a cap, v = .slice a js.length cap ∧ js.length ≤ cap ∧ cap ≤ maxLen ∧ (js = [] ∨ ∃ b off, a = some ⟨b, off, none⟩ ∧ ∀ (i : Nat) j, js[i]? = some j → w.cell? ⟨b, off + i, none⟩ = some (.int .i64 j)) ∧ ∀ j ∈ js, -9223372036854775808 ≤ j ∧ j ≤ 9223372036854775807
theorem RdJ.later {w w' : World} {v : Value} {js : List Int} (h : RdJ w v js) (hb : Below w.heap.size w w') : RdJ w' v js := by
  obtain ⟨a, cap, h1, h2, h3, h4, h5⟩ := h
  refine ⟨a, cap, h1, h2, h3, ?_, h5⟩
  rcases h4 with h4 | ⟨b, off, rfl, hc⟩
  · exact .inl h4
  · exact .inr ⟨b, off, rfl, fun i j hj => by rw [hb.cell (p := ⟨b, off + i, none⟩) (World.block_lt_of_cell? w _ (hc i j hj))]; exact hc i j hj⟩
theorem RdL3.takeN {w : World} {a : Option Addr} {cap : Nat} {xs : List EntD} (h : RdL3 w a cap xs) (t : Nat) : RdL3 w a cap (xs.take t) := by
  refine ⟨⟨Nat.le_trans (List.length_take_le' _ _) h.cap.1, h.cap.2⟩, ?_, fun x hx => h.ok x (List.mem_of_mem_take hx)⟩
  rcases h.at_ with h1 | ⟨b, off, e, hc⟩
  · exact .inl (by rw [h1]; simp)
  · refine .inr ⟨b, off, e, fun i x hi => ?_⟩
    rw [List.getElem?_take] at hi
    split at hi
    · exact hc i x hi
    · cases hi
theorem RdL3.oneN {w : World} {b off cap : Nat} {xs : List EntD} (h : RdL3 w (some ⟨b, off, none⟩) cap xs) {t : Nat} {x : EntD} (hx : xs[t]? = some x) : RdL3 w (some ⟨b, off + t * 7, none⟩) (cap - t) [x] := by
  have lt := (List.getElem?_eq_some_iff.1 hx).1
  have c1 := h.cap
  refine ⟨⟨by simp; omega, by omega⟩, .inr ⟨b, off + t * 7, rfl, fun i y hi j u hj => ?_⟩, fun y hy => ?_⟩
  · cases i with
    | succ i => simp at hi
    | zero =>
      simp only [List.getElem?_cons_zero, Option.some.injEq] at hi
      subst hi
      have := h.cells (Below.refl _ _) hx j u hj
      simpa using this
  · rw [List.mem_singleton] at hy
    rw [hy]
    exact h.ok x (List.mem_of_getElem? hx)
theorem row_rdl {W : World} {N : Nat} {v : Value} {zs : List EntD} (h : W.ownsRow N 45 7 v zs.length (evals zs)) (hok : ∀ x ∈ zs, EntD.Ok W x) : ∃ a cap, v = .slice a zs.length cap ∧ RdL3 W a cap zs := by
  rcases h.2 with ⟨h1, h2⟩ | ⟨g, cap, cur, h1, h2, h3, h4, h5, h6, h7⟩
  · have hz := List.eq_nil_of_length_eq_zero h2
    subst hz
    exact ⟨none, 0, h1, ⟨⟨Nat.le_refl _, Nat.zero_le _⟩, .inl rfl, hok⟩⟩
  · refine ⟨some ⟨g, 0, none⟩, cap, h1, ⟨⟨h4, h5⟩, ?_, hok⟩⟩
    refine .inr ⟨g, 0, rfl, fun i x hi j u hj => ?_⟩
    have hr := h
    rw [h1] at hr
    obtain ⟨g2, e, _, _, hc⟩ := row_cells3 hr hi
    cases e
    rw [Nat.zero_add]
    exact hc j u hj
theorem shrt_check {k : Nat} {x : EntD} (h : check3S k x = 0) : Shrt x := by
  have ck := check_zero.1 h
  unfold Shrt
  omega
def and3 (j : Int) : Int := bits .and .i64 j 3
theorem and3_ok (j : Int) : 0 ≤ and3 j ∧ and3 j < 4 := by
  unfold and3 bits
  simp
  have h : (j % 2 ^ IntKind.i64.bits).toNat &&& 3 % 2 ^ IntKind.i64.bits ≤ 3 := Nat.le_trans Nat.and_le_right (by decide)
  generalize (j % 2 ^ IntKind.i64.bits).toNat &&& 3 % 2 ^ IntKind.i64.bits = m at h ⊢
  have e : IntKind.i64.wrap (m : Int) = (m : Int) := by simp [IntKind.wrap, IntKind.bits, IntKind.signed]; omega
  rw [e]
  omega
theorem clock_of {C : Nat} {fs : List FamD} {clock low : Int} {l : List EntD} (h : squashE C fs clock low l = 0) : 0 ≤ clock ∧ clock ≤ 1099511627776 ∧ C = 0 := by
  unfold squashE at h
  by_cases y : boundsS C [clock, low] = 0
  · unfold boundsS at y
    by_cases c : C = 0
    · rw [if_neg (by simpa using c)] at y
      by_cases z : [clock, low].any badT = true
      · rw [if_pos z] at y; cases y
      · simp [badT] at z
        exact ⟨by omega, by omega, c⟩
    · rw [if_pos c] at y; omega
  · rw [if_pos y] at h; exact absurd h y
end Go.Proofs.Ythhkpkfpifllkaa

namespace Go.Proofs.Ythhkpkfpifllkaa
open Go.RowKit Go.Maps
set_option linter.unusedVariables false

theorem ebox_set7 {w : World} {g : Nat} {b : EntD} (h : EBox w g b) (x : EntD) :
    EBox (((((((w.setCell ⟨g, 0, none⟩ x.vr).setCell ⟨g, 1, none⟩ (.int .i64 x.fam)).setCell ⟨g, 2, none⟩ x.vq).setCell ⟨g, 3, none⟩ (.int .i64 x.ts)).setCell ⟨g, 4, none⟩ (.int .i64 x.seq)).setCell ⟨g, 5, none⟩ (.int .i64 x.kind)).setCell ⟨g, 6, none⟩ x.vv) g x ∧ w.grownBy (((((((w.setCell ⟨g, 0, none⟩ x.vr).setCell ⟨g, 1, none⟩ (.int .i64 x.fam)).setCell ⟨g, 2, none⟩ x.vq).setCell ⟨g, 3, none⟩ (.int .i64 x.ts)).setCell ⟨g, 4, none⟩ (.int .i64 x.seq)).setCell ⟨g, 5, none⟩ (.int .i64 x.kind)).setCell ⟨g, 6, none⟩ x.vv) (some g) := by
  refine ⟨?_, ?_⟩
  · have := ((((((h.set0 x.vr x.row).set1 x.fam).set2 x.vq x.qual).set3 x.ts).set4 x.seq).set5 x.kind).set6 x.vv x.val
    exact this
  · have s1 : ∀ (w : World) (i : Nat) (v : Value), w.grownBy (w.setCell ⟨g, i, none⟩ v) (some g) := fun w i v => by
      refine ⟨rfl, rfl, rfl, by rw [World.size_setCell]; exact Nat.le_refl _, fun j hj hne => Below.heap_setCell w ⟨g, i, none⟩ v j (fun z => hne (by rw [z]))⟩
    have tr : ∀ {a b c : World}, a.grownBy b (some g) → b.grownBy c (some g) → a.grownBy c (some g) := fun {a b c} h k => ⟨k.os.trans h.os, k.tape.trans h.tape, k.output.trans h.output, Nat.le_trans h.size k.size, fun j hj hne => (k.block j (Nat.lt_of_lt_of_le hj h.size) hne).trans (h.block j hj hne)⟩
    exact tr (tr (tr (tr (tr (tr (s1 _ _ _) (s1 _ _ _)) (s1 _ _ _)) (s1 _ _ _)) (s1 _ _ _)) (s1 _ _ _)) (s1 _ _ _)
structure Gw (w wr : World) (l : List EntD) (e bst : EntD) (t : Nat) : Prop where
  be : EBox wr w.heap.size e
  bb : EBox wr (w.heap.size + 1) bst
  best : Bst ((l.take t).map EntD.dat) e.dat bst.dat
  mem : bst = e ∨ bst ∈ l
  below : Below w.heap.size w wr
theorem Gw.later {w wr wr' : World} {l : List EntD} {e bst : EntD} {t : Nat} (h : Gw w wr l e bst t) (b : Below wr.heap.size wr wr') : Gw w wr' l e bst t :=
  ⟨h.be.later b, h.bb.later b, h.best, h.mem, h.below.trans (b.mono h.below.size)⟩
end Go.Proofs.Ythhkpkfpifllkaa

namespace Go.Proofs.Ythhkpkfpifllkaa
open Go.RowKit Go.Maps
set_option linter.unusedVariables false

structure LU (fs : List FamD) (l : List EntD) : Prop where
  va : ∀ e ∈ l.map EntD.dat, Va e
  un : ∀ x ∈ l, UndE fs x
  tl : ∀ f ∈ fs, 0 ≤ f.tl ∧ f.tl ≤ 1099511627776
end Go.Proofs.Ythhkpkfpifllkaa

namespace Go.Proofs.Ythhkpkfpifllkaa
open Go.RowKit Go.Maps
set_option linter.unusedVariables false

def chkC (e : EntD) : Int := ((checkS e : Nat) : Int)
theorem seq_of_chkC {e : EntD} (h : chkC e = 0) : 0 ≤ e.seq ∧ e.seq ≤ 17592186044431 := by
  unfold chkC at h
  have hc : checkS e = 0 := by omega
  unfold checkS at hc
  repeat' split at hc
  all_goals first | (exfalso; omega) | skip
  omega

set_option maxRecDepth 100000 in
set_option maxHeartbeats 4000000 in
theorem inOrderC_any {W : World} {cap : Nat} {a : Option Addr} {l : List EntD} (hr : RdL3 W a cap l) (hl : l.length ≤ 1353245080300)
    (HSort : ∀ Z a' c' xs, onceS l = some xs → Below W.heap.size W Z → Z.ownsRow W.heap.size 45 7 (.slice a' xs.length c') xs.length (evals xs) → Calls Try.prog 34 #[.slice a' xs.length c', .func (.func 35) #[] #[]] Z fun r Z' => r = .returned (.tuple #[]) ∧ ∃ ys : List EntD, ys.Perm xs ∧ (ys.Pairwise fun x y => compareS x y ≤ 0) ∧ Z'.ownsRow W.heap.size 45 7 (.slice a' xs.length c') xs.length (evals ys) ∧ Z.grownBy Z' (Value.slice a' xs.length c').ownBlock) :
    Calls Try.prog 20 #[.slice a l.length cap, .func (.func 21) #[] #[]] W fun r W' => Below W.heap.size W W' ∧ (inOrderE (chkC) l ≠ 0 → r = .returned (.tuple #[.slice none 0 0, .int .i64 (inOrderE (chkC) l)])) ∧ (inOrderE (chkC) l = 0 → ∃ xs ys a' c', onceS l = some xs ∧ ys.Perm xs ∧ (ys.Pairwise fun x y => compareS x y ≤ 0) ∧ r = .returned (.tuple #[.slice a' ys.length c', .int .i64 0]) ∧ W'.ownsRow W.heap.size 45 7 (.slice a' ys.length c') ys.length (evals ys)) := by
  obtain ⟨R, hR⟩ : ∃ R, R = inOrderE (chkC) l := ⟨_, rfl⟩
  obtain ⟨N, hN⟩ : ∃ N, N = l.length := ⟨_, rfl⟩
  rw [← hN] at hl ⊢
  rw [← hR]
  have HRR := Lib.hid hR
  have HN := Lib.hid hN
  have HRd := Lib.hid hr
  have HSo := Lib.hid HSort
  clear hR hN hr HSort
  go_enter Try.func20, Try.ntmps20
  go_wp2
  go_loopw [13] (fun i wr => ∃ t : Nat, t ≤ N ∧ i = .int .i64 (t : Int) ∧ Hid (Below W.heap.size W wr) ∧ Hid (∀ x ∈ l.take t, chkC x = 0)) (fun i _ => N - (intOf i).toNat)
  case atStart => exact ⟨0, Nat.zero_le _, rfl, Below.refl _ _, by unfold Hid; simp⟩
  case round =>
    obtain ⟨t, ht, rfl, HBw, HAll⟩ := hrel
    have t0 : (0 : Int) ≤ (t : Int) := by omega
    by_cases hlt : t < N
    · have hlt2 : (t : Int) < (N : Int) := by omega
      obtain ⟨e, he⟩ : ∃ e, l[t]? = some e := ⟨l[t]'(by rw [← HN.out]; exact hlt), List.getElem?_eq_getElem _⟩
      have hrd := HRd.out.later HBw.out
      have hok := hrd.ok e (List.mem_of_getElem? he)
      rcases hrd.at_ with h0 | ⟨b, off, rfl, hc⟩
      · rw [h0] at he; simp at he
      have d0 := hc t e he 0 e.vr rfl
      have d1 := hc t e he 1 (.int .i64 e.fam) rfl
      have d2 := hc t e he 2 e.vq rfl
      have d3 := hc t e he 3 (.int .i64 e.ts) rfl
      have d4 := hc t e he 4 (.int .i64 e.seq) rfl
      have d5 := hc t e he 5 (.int .i64 e.kind) rfl
      have d6 := hc t e he 6 e.vv rfl
      simp only [Nat.add_zero] at d0
      have A5 := (Below.refl wr.heap.size wr).alloc (Nat.le_refl _) (.cells e.cells 45)
      have B5 := HBw.out.trans (A5.mono HBw.out.size)
      have HCk := Lib.hid (check_any (hok.later A5))
      obtain ⟨_, a1, n1, e1, -⟩ := hok.1
      obtain ⟨_, a2, n2, e2, -⟩ := hok.2.1
      obtain ⟨_, a3, n3, e3, -⟩ := hok.2.2
      have hXe : e.cells = #[.slice a1 e.row.length n1, .int .i64 e.fam, .slice a2 e.qual.length n2, .int .i64 e.ts, .int .i64 e.seq, .int .i64 e.kind, .slice a3 e.val.length n3] := by unfold EntD.cells; rw [e1, e2, e3]
      rw [e1] at d0
      rw [e2] at d2
      rw [e3] at d6
      rw [hXe] at HCk B5
      have HB5 := Lib.hid B5
      have HE := Lib.hid he
      obtain ⟨c, hc2⟩ : ∃ c, c = chkC e := ⟨_, rfl⟩
      rw [show ((checkS e : Nat) : Int) = c from hc2.symm] at HCk
      have HC2 := Lib.hid hc2
      clear hrd hok hc A5 B5 e1 e2 e3 hXe he hc2
      go_wp2_with fail
      refine Calls.mono HCk.out ?_
      rintro z X2 ⟨rfl, b2⟩
      have HB2 := Lib.hid (HB5.out.trans (b2.mono HB5.out.size))
      clear b2 d0 d1 d2 d3 d4 d5 d6 HCk HB5
      by_cases h0 : c = 0
      · have HAll2 : Hid (∀ x ∈ l.take (t + 1), chkC x = 0) := by
          unfold Hid
          rw [List.take_add_one, HE.out]
          intro x hx
          rcases List.mem_append.1 hx with q | q
          · exact HAll.out x q
          · simp at q
            rw [q, ← HC2.out]; exact h0
        subst h0
        go_wp2
        go_roundw
        case rel => exact ⟨t + 1, by omega, by go_num, HB2, HAll2⟩
        case measure => simp only [intOf]; omega
      · have q : Hid (R = c ∧ R ≠ 0) := by
          have hd : l = l.take t ++ e :: l.drop (t + 1) := by
            have h1 := (List.getElem?_eq_some_iff.1 HE.out)
            rw [← h1.2, ← List.drop_eq_getElem_cons, List.take_append_drop]
          have hfb : firstBad (chkC) l = c := by
            rw [hd, HC2.out]
            exact firstBad_at HAll.out (by rw [← HC2.out]; exact h0)
          have : R = c := by rw [HRR.out, inOrderE, if_pos (by rw [hfb]; exact h0), hfb]
          exact ⟨this, by rw [this]; exact h0⟩
        have b0 : (c != 0) = true := by simp [h0]
        clear h0
        go_wp2
        go_ret2
        exact ⟨HB2.out, fun _ => by rw [q.out.1]; rfl, fun z => absurd z q.out.2⟩
    · have hge : ¬ (t : Int) < (N : Int) := by omega
      have e : t = N := by omega
      have hall : ∀ x ∈ l, chkC x = 0 := by have := HAll.out; rwa [e, HN.out, List.take_length] at this
      have HOn := Lib.hid (once_any (HRd.out.later HBw.out) (by rw [← HN.out]; omega) (fun x hx => seq_of_chkC (hall x hx)))
      have hRv : R = if onceS l = none then 31 else 0 := by rw [HRR.out, inOrderE, if_neg (by rw [firstBad_zero hall]; simp)]
      rw [← HN.out] at HOn
      have HRv := Lib.hid hRv
      clear hRv hall e
      go_wp2_with fail
      refine Calls.mono HOn.out ?_
      rintro z W2 ⟨b2, hnone, hsome⟩
      have HB2 := Lib.hid (HBw.out.trans (b2.mono HBw.out.size))
      clear HOn b2
      cases ho : onceS l with
      | none =>
        have hz := hnone ho
        subst hz
        have q : Hid (R = 31) := by unfold Hid; rw [HRv.out, if_pos ho]
        clear hnone hsome ho
        go_wp2
        go_ret2
        exact ⟨HB2.out, fun _ => by rw [q.out]; rfl, fun z => by have := q.out; omega⟩
      | some xs =>
        obtain ⟨a', c', hz, hrow⟩ := hsome xs ho
        subst hz
        have q : Hid (R = 0) := by unfold Hid; rw [HRv.out, if_neg (by rw [ho]; simp)]
        have hrow2 := row_low hrow HBw.out.size
        have HSc := Lib.hid (HSo.out W2 a' c' xs ho HB2.out hrow2)
        have HRw := Lib.hid hrow2
        have HOo := Lib.hid ho
        clear hnone hsome ho hrow hrow2
        go_wp2_with fail
        refine Calls.mono HSc.out ?_
        rintro z W3 ⟨rfl, ys, hp, hsrt, hrow3, hgr⟩
        have HF := Lib.hid (And.intro hp (And.intro hsrt (And.intro hrow3 hgr)))
        clear hp hsrt hrow3 hgr HSc
        go_wp2
        go_ret2
        obtain ⟨hp, hsrt, hrow3, hgr⟩ := HF.out
        have el := hp.length_eq
        refine ⟨HB2.out.grown hgr HB2.out.size (fun g hg => (HRw.out.lt g hg).1), fun z => absurd q.out z, fun _ => ⟨xs, ys, a', c', HOo.out, hp, hsrt, by rw [el]; rfl, by rw [el]; exact hrow3⟩⟩
end Go.Proofs.Ythhkpkfpifllkaa

namespace Go.Proofs.Ythhkpkfpifllkaa
open Go.RowKit Go.Maps
set_option linter.unusedVariables false

theorem row_set {w : World} {B s n c g k : Nat} {e : TypeId} {vs : List Value} (h : w.ownsRow B e s (.slice (some ⟨g, 0, none⟩) n c) n vs) (hk : k < vs.length) (u : Value) : (w.setCell ⟨g, k, none⟩ u).ownsRow B e s (.slice (some ⟨g, 0, none⟩) n c) n (vs.set k u) := by
  rcases h.2 with ⟨h1, _⟩ | ⟨g', cap, cur, h1, h2, h3, h4, h5, h6, h7⟩
  · cases h1
  · simp only [Value.slice.injEq, Option.some.injEq, Addr.mk.injEq] at h1
    obtain ⟨⟨rfl, -, -⟩, -, rfl⟩ := h1
    refine ⟨by have := h.1; simpa using this, .inr ⟨g, c, cur.setIfInBounds k u, rfl, h2, ?_, h4, h5, by simp [h6], ?_⟩⟩
    · simp [World.setCell, Array.getElem?_modify, h3]
    · rw [Array.toList_setIfInBounds, List.take_set, h7]
theorem evals_set {zs : List EntD} {t : Nat} (x : EntD) (ht : t < zs.length) : evals (zs.set t x) = (((((((evals zs).set (t * 7) x.vr).set (t * 7 + 1) (.int .i64 x.fam)).set (t * 7 + 2) x.vq).set (t * 7 + 3) (.int .i64 x.ts)).set (t * 7 + 4) (.int .i64 x.seq)).set (t * 7 + 5) (.int .i64 x.kind)).set (t * 7 + 6) x.vv := by
  induction zs generalizing t with
  | nil => simp at ht
  | cons y ys ih =>
    cases t with
    | zero =>
      rw [List.set_cons_zero, evals_cons, evals_cons]
      unfold EntD.cells
      simp
    | succ t =>
      have e : ∀ (L : List Value) (j : Nat) (v : Value), (y.cells.toList ++ L).set ((t + 1) * 7 + j) v = y.cells.toList ++ L.set (t * 7 + j) v := fun L j v => by
        rw [List.set_append_right _ _ (by rw [EntD.cells_len]; omega), EntD.cells_len]
        congr 2
        omega
      have e0 : ∀ (L : List Value) (v : Value), (y.cells.toList ++ L).set ((t + 1) * 7) v = y.cells.toList ++ L.set (t * 7) v := fun L v => e L 0 v
      rw [List.set_cons_succ, evals_cons, evals_cons, ih (by simpa using ht), e0, e, e, e, e, e, e]
theorem row_fz {w : World} {B s n c g : Nat} {e : TypeId} {vs : List Value} (h : w.ownsRow B e s (.slice (some ⟨g, 0, none⟩) n c) n vs) (i : Nat) : w.frozen? ⟨g, i, none⟩ = false := by
  rcases h.2 with ⟨h1, _⟩ | ⟨g', cap, cur, h1, h2, h3, h4, h5, h6, h7⟩
  · cases h1
  · simp only [Value.slice.injEq, Option.some.injEq, Addr.mk.injEq] at h1
    obtain ⟨⟨rfl, -, -⟩, -, rfl⟩ := h1
    simp [World.frozen?, h3]
theorem row_set7 {w : World} {B n c g t : Nat} {zs : List EntD} (h : w.ownsRow B 45 7 (.slice (some ⟨g, 0, none⟩) n c) n (evals zs)) (hn : n = zs.length) (ht : t < zs.length) (x : EntD) :
    (((((((w.setCell ⟨g, t * 7, none⟩ x.vr).setCell ⟨g, t * 7 + 1, none⟩ (.int .i64 x.fam)).setCell ⟨g, t * 7 + 2, none⟩ x.vq).setCell ⟨g, t * 7 + 3, none⟩ (.int .i64 x.ts)).setCell ⟨g, t * 7 + 4, none⟩ (.int .i64 x.seq)).setCell ⟨g, t * 7 + 5, none⟩ (.int .i64 x.kind)).setCell ⟨g, t * 7 + 6, none⟩ x.vv).ownsRow B 45 7 (.slice (some ⟨g, 0, none⟩) n c) n (evals (zs.set t x)) ∧ w.grownBy (((((((w.setCell ⟨g, t * 7, none⟩ x.vr).setCell ⟨g, t * 7 + 1, none⟩ (.int .i64 x.fam)).setCell ⟨g, t * 7 + 2, none⟩ x.vq).setCell ⟨g, t * 7 + 3, none⟩ (.int .i64 x.ts)).setCell ⟨g, t * 7 + 4, none⟩ (.int .i64 x.seq)).setCell ⟨g, t * 7 + 5, none⟩ (.int .i64 x.kind)).setCell ⟨g, t * 7 + 6, none⟩ x.vv) (some g) := by
  have l := evals_len zs
  refine ⟨?_, ?_⟩
  · rw [evals_set x ht]
    refine row_set (row_set (row_set (row_set (row_set (row_set (row_set h ?_ _) ?_ _) ?_ _) ?_ _) ?_ _) ?_ _) ?_ _
    all_goals first | omega | (simp only [List.length_set]; omega)
  · have s1 : ∀ (w : World) (i : Nat) (v : Value), w.grownBy (w.setCell ⟨g, i, none⟩ v) (some g) := fun w i v => by
      refine ⟨rfl, rfl, rfl, by rw [World.size_setCell]; exact Nat.le_refl _, fun j hj hne => Below.heap_setCell w ⟨g, i, none⟩ v j (fun z => hne (by rw [z]))⟩
    have tr : ∀ {a b c : World}, a.grownBy b (some g) → b.grownBy c (some g) → a.grownBy c (some g) := fun {a b c} h k => ⟨k.os.trans h.os, k.tape.trans h.tape, k.output.trans h.output, Nat.le_trans h.size k.size, fun j hj hne => (k.block j (Nat.lt_of_lt_of_le hj h.size) hne).trans (h.block j hj hne)⟩
    exact tr (tr (tr (tr (tr (tr (s1 _ _ _) (s1 _ _ _)) (s1 _ _ _)) (s1 _ _ _)) (s1 _ _ _)) (s1 _ _ _)) (s1 _ _ _)
structure Pc (W wr : World) (ys : List EntD) (t : Nat) (zs : List EntD) (v : Value) : Prop where
  row : wr.ownsRow W.heap.size 45 7 v zs.length (evals zs)
  ents : ∀ (i : Nat) x, i < t → zs[i]? = some x → O3 wr W.heap.size x
  ap : ∀ (i j : Nat) x y, i < j → j < t → zs[i]? = some x → zs[j]? = some y → Dsj x y
  below : Below W.heap.size W wr
  rest : ∀ i, t ≤ i → zs[i]? = ys[i]?
  dat : zs.map EntD.dat = ys.map EntD.dat
  ok : ∀ y ∈ ys, EntD.Ok W y
theorem Pc.step {W wr w1 w2 : World} {ys zs : List EntD} {t g n c : Nat} {x y : EntD} (h : Pc W wr ys t zs (.slice (some ⟨g, 0, none⟩) n c)) (hn : n = zs.length) (hy : ys[t]? = some y) (b : Below wr.heap.size wr w1) (o : O3 w1 wr.heap.size x) (e : x.dat = y.dat) (gr : w1.grownBy w2 (some g)) (r : w2.ownsRow W.heap.size 45 7 (.slice (some ⟨g, 0, none⟩) n c) n (evals (zs.set t x))) : Pc W w2 ys (t + 1) (zs.set t x) (.slice (some ⟨g, 0, none⟩) n c) := by
  have hlen : zs.length = ys.length := by have := congrArg List.length h.dat; simpa using this
  have ht : t < zs.length := by rw [hlen]; exact (List.getElem?_eq_some_iff.1 hy).1
  have gl := (h.row.lt g rfl)
  have ku : KU w1 w2 := KU.grown gr fun r hr => by
    cases hr
    have e1 := b.block g gl.2
    rcases h.row.2 with ⟨h1, _⟩ | ⟨g', cap, cur, h1, h2, h3, _⟩
    · cases h1
    · simp only [Value.slice.injEq, Option.some.injEq, Addr.mk.injEq] at h1
      obtain ⟨⟨rfl, -, -⟩, -⟩ := h1
      exact ⟨cur, _, _, e1.trans h3, by decide⟩
  have bb := h.below.trans (b.mono h.below.size)
  have old : ∀ (i : Nat) z, i < t → zs[i]? = some z → O3 w2 W.heap.size z ∧ ∀ k, (z.vr.ownBlock = some k ∨ z.vq.ownBlock = some k ∨ z.vv.ownBlock = some k) → k < wr.heap.size := fun i z hi hz => ⟨((h.ents i z hi hz).later b).ku ku, fun k hk => ((h.ents i z hi hz).lt k hk).2⟩
  refine ⟨by rw [List.length_set, ← hn]; exact r, fun i z hi hz => ?_, fun i j p q hij hj hp hq => ?_, bb.grown gr bb.size (fun k hk => by cases hk; exact gl.1), fun i hi => ?_, ?_, h.ok⟩
  · by_cases e1 : i = t
    · subst e1
      rw [List.getElem?_set_self ht] at hz
      cases hz
      exact (o.mono h.below.size).ku ku
    · rw [List.getElem?_set_ne (by omega)] at hz
      exact (old i z (by omega) hz).1
  · rw [List.getElem?_set_ne (by omega)] at hp
    by_cases e1 : j = t
    · subst e1
      rw [List.getElem?_set_self ht] at hq
      cases hq
      intro k hk hk2
      have := (old i p hij hp).2 k hk
      have := (o.lt k hk2).1
      omega
    · rw [List.getElem?_set_ne (by omega)] at hq
      exact h.ap i j p q hij (by omega) hp hq
  · rw [List.getElem?_set_ne (by omega)]
    exact h.rest i (by omega)
  · rw [List.map_set, h.dat, e]
    apply List.ext_getElem?
    intro i
    by_cases e1 : i = t
    · subst e1
      rw [List.getElem?_set_self (by simp; omega), List.getElem?_map, hy]
      rfl
    · rw [List.getElem?_set_ne (by omega)]
theorem Pc.done {W wr : World} {ys zs : List EntD} {v : Value} (h : Pc W wr ys zs.length zs v) : Rw wr W.heap.size v zs (fun i => W.heap.size ≤ i ∧ i < wr.heap.size) := by
  refine ⟨h.row, fun x hx => ?_, ?_, fun k hk => h.row.lt k hk, fun x hx k hk => ?_⟩
  · obtain ⟨i, hi⟩ := List.getElem?_of_mem hx
    exact h.ents i x (List.getElem?_eq_some_iff.1 hi).1 hi
  · rw [List.pairwise_iff_getElem]
    intro i j hi hj hij
    exact h.ap i j _ _ hij hj (List.getElem?_eq_getElem hi) (List.getElem?_eq_getElem hj)
  · obtain ⟨i, hi⟩ := List.getElem?_of_mem hx
    exact (h.ents i x (List.getElem?_eq_some_iff.1 hi).1 hi).lt k hk
end Go.Proofs.Ythhkpkfpifllkaa

namespace Go.Proofs.Ythhkpkfpifllkaa
open Go.RowKit Go.Maps
set_option linter.unusedVariables false

theorem chkC_8 (e : EntD) : chkC e = 0 ↔ check3S 8 e = 0 := by
  unfold chkC check3S
  by_cases h : checkS e = 0
  · have hf : ¬ ((8 : Nat) : Int) ≤ e.fam := by
      unfold checkS at h
      repeat' split at h
      all_goals first | (exfalso; omega) | skip
      omega
    simp [h]
    omega
  · simp [h]
theorem inOrderC_8 {l : List EntD} (h : inOrderE chkC l = 0) : inOrderE (check3S 8) l = 0 := by
  obtain ⟨h1, xs, h2⟩ := inOrder_ok h
  unfold inOrderE
  rw [firstBad_zero (fun x hx => (chkC_8 x).1 (h1 x hx)), if_neg (by simp), if_neg (by rw [h2]; simp)]
theorem chkC_len {e : EntD} (h : chkC e = 0) : e.row.length ≤ 140737488355328 ∧ e.qual.length ≤ 140737488355328 ∧ e.val.length ≤ 140737488355328 := by
  have ck := check_zero.1 ((chkC_8 e).1 h)
  omega
set_option maxRecDepth 100000 in
set_option maxHeartbeats 8000000 in
theorem sort_any {W : World} {cap : Nat} {a : Option Addr} {l : List EntD} (h0 : RdL3 W a cap l) (hl : l.length ≤ 1353245080300) :
    Calls Try.prog 6 #[.slice a l.length cap] W fun r W' => Below W.heap.size W W' ∧ (inOrderE chkC l ≠ 0 → r = .returned (.tuple #[.slice none 0 0, .int .i64 (inOrderE chkC l)])) ∧ (inOrderE chkC l = 0 → ∃ (zs : List EntD) (m : List En) (v : Value) (O : Nat → Prop), IsOrd 8 (l.map EntD.dat) m ∧ r = .returned (.tuple #[v, .int .i64 0]) ∧ Rw W' W.heap.size v zs O ∧ (∀ i, O i → W.heap.size ≤ i ∧ i < W'.heap.size) ∧ zs.map EntD.dat = m ∧ zs.length ≤ l.length) := by
  have HI := Lib.hid (inOrderC_any h0 hl (fun Z a' c' xs ho b own => sort_ok W.heap.size Z a' c' xs (fun x hx => (h0.ok x (onceS_mem ho x hx)).later b) (Nat.le_trans (onceS_len ho) hl) b.size own))
  obtain ⟨E, hE⟩ : ∃ E, E = inOrderE chkC l := ⟨_, rfl⟩
  obtain ⟨N, hN⟩ : ∃ N, N = l.length := ⟨_, rfl⟩
  rw [← hE, ← hN] at HI
  rw [← hE, ← hN]
  have HE := Lib.hid hE
  have HN := Lib.hid hN
  have H0 := Lib.hid h0
  have HL := Lib.hid hl
  clear hE hN h0 hl
  go_enter Try.func6, Try.ntmps6
  go_wp2_with fail
  refine Calls.mono HI.out ?_
  rintro z w1 ⟨b1, h1, h2⟩
  have B1 := Lib.hid b1
  clear b1 HI
  by_cases hz : E = 0
  · obtain ⟨xs, ys, a', c', k1, k2, k3, rfl, k5⟩ := h2 hz
    have hio : inOrderE chkC l = 0 := HE.out.symm.trans hz
    have hord := isOrd_of (inOrderC_8 hio) k1 k2 k3
    have hck : ∀ y ∈ ys, chkC y = 0 := fun y hy => (inOrder_ok hio).1 y (onceS_mem k1 y (k2.mem_iff.1 hy))
    have hokW : ∀ y ∈ ys, EntD.Ok W y := fun y hy => H0.out.ok y (onceS_mem k1 y (k2.mem_iff.1 hy))
    have hln : ys.length ≤ N := by rw [k2.length_eq, HN.out]; exact onceS_len k1
    have HO := Lib.hid (And.intro hord (And.intro hck (And.intro hokW hln)))
    have HP : Hid (Pc W w1 ys 0 ys (.slice a' ys.length c')) := ⟨k5, (fun i x hi => by omega), (fun i j x y _ hj => by omega), B1.out, fun _ _ => rfl, rfl, hokW⟩
    obtain ⟨n, hn⟩ : ∃ n, n = ys.length := ⟨_, rfl⟩
    rw [← hn] at HP ⊢
    have HNn := Lib.hid hn
    have hnN : n ≤ 1353245080300 := by have := HL.out; rw [← HN.out] at this; omega
    subst hz
    clear h1 h2 k1 k2 k3 k5 hio hord hck hokW hln hn
    go_wp2
    go_loopw [6, 7, 18] (fun _ _ i wr => ∃ (t : Nat) (zs : List EntD), t ≤ n ∧ i = .int .i64 (t : Int) ∧ Hid (Pc W wr ys t zs (.slice a' n c'))) (fun _ _ i _ => n - (intOf i).toNat)
    case atStart => exact ⟨0, ys, Nat.zero_le _, rfl, HP⟩
    case round =>
      obtain ⟨t, zs, ht, rfl, HQ⟩ := hrel
      have t0 : (0 : Int) ≤ (t : Int) := by omega
      have hzl : zs.length = n := by
        have := congrArg List.length HQ.out.dat
        rw [List.length_map, List.length_map] at this
        rw [this, ← HNn.out]
      by_cases hlt : t < n
      · have hlt2 : (t : Int) < (n : Int) := by omega
        obtain ⟨y, hy⟩ : ∃ y, ys[t]? = some y := ⟨ys[t]'(by rw [← HNn.out]; exact hlt), List.getElem?_eq_getElem _⟩
        have hzy : zs[t]? = some y := by rw [HQ.out.rest t (Nat.le_refl _)]; exact hy
        have hrw := HQ.out.row
        rw [hzl] at hrw
        have hrw2 := hrw
        rw [← hzl] at hrw2
        obtain ⟨g, rfl, hnc, hcm, hc⟩ := row_cells3 hrw2 hzy
        have hokc := (HO.out.2.2.1 y (List.mem_of_getElem? hy)).later HQ.out.below
        obtain ⟨_, a1, n1, e1, -⟩ := id hokc.1
        obtain ⟨_, a3, n3, e3, -⟩ := id hokc.2.1
        obtain ⟨_, a5, n5, e5, -⟩ := id hokc.2.2
        have hlen3 := chkC_len (HO.out.2.1 y (List.mem_of_getElem? hy))
        obtain ⟨xr, xf, xq, xt, xsq, xk, xv, xrow, xqual, xval⟩ := y
        simp only at e1 e3 e5
        subst e1 e3 e5
        have y0 := hc 0 _ rfl
        have y1 := hc 1 _ rfl
        have y2 := hc 2 _ rfl
        have y3 := hc 3 _ rfl
        have y4 := hc 4 _ rfl
        have y5 := hc 5 _ rfl
        have y6 := hc 6 _ rfl
        simp only [Nat.add_zero] at y0
        have A := (Below.refl wr.heap.size wr).alloc (Nat.le_refl _) (.cells #[.slice a1 xrow.length n1, .int .i64 xf, .slice a3 xqual.length n3, .int .i64 xt, .int .i64 xsq, .int .i64 xk, .slice a5 xval.length n5] 45)
        have eb := EBox.new wr (⟨.slice a1 xrow.length n1, xf, .slice a3 xqual.length n3, xt, xsq, xk, .slice a5 xval.length n5, xrow, xqual, xval⟩ : EntD)
        obtain ⟨X, hX⟩ : ∃ X, X = wr.alloc (.cells #[.slice a1 xrow.length n1, .int .i64 xf, .slice a3 xqual.length n3, .int .i64 xt, .int .i64 xsq, .int .i64 xk, .slice a5 xval.length n5] 45) := ⟨_, rfl⟩
        have eb' : EBox X wr.heap.size (⟨.slice a1 xrow.length n1, xf, .slice a3 xqual.length n3, xt, xsq, xk, .slice a5 xval.length n5, xrow, xqual, xval⟩ : EntD) := by rw [hX]; exact eb
        rw [← hX] at A
        have HX := Lib.hid hX
        have HA := Lib.hid A
        have z0 := eb'.vr
        have z1 := eb'.fam
        have z2 := eb'.vq
        have z3 := eb'.ts
        have z4 := eb'.seq
        have z5 := eb'.kind
        have z6 := eb'.vv
        simp only at z0 z1 z2 z3 z4 z5 z6
        have HCl := Lib.hid (clone3_own (hokc.later A) hlen3)
        unfold EntD.cells at HCl
        have HRr : Hid (wr.ownsRow W.heap.size 45 7 (.slice (some ⟨g, 0, none⟩) n c') n (evals zs)) := hrw
        have HZy := Lib.hid hzy
        have HYy := Lib.hid hy
        have HZl := Lib.hid hzl
        clear hrw hrw2 hc hokc hlen3 hX A eb eb' hy hzy hzl HP
        go_upto_region 7 with fail
        rw [← HX.out]
        clear HX y0 y1 y2 y3 y4 y5 y6
        go_wp2_with fail
        refine Calls.mono HCl.out ?_
        rintro q1 w2 ⟨x, rfl, sx, ok1, o31, b2⟩
        have HSx := Lib.hid (EntD.dat_same.2 sx)
        obtain ⟨ur, uf, uq, ut, us, uk, uv, urow, uqual, uval⟩ := x
        obtain ⟨ar, cr, er⟩ := own_form' o31.row
        obtain ⟨aq, cq, eq⟩ := own_form' o31.qual
        obtain ⟨aw, cw, ew⟩ := own_form' o31.val
        simp only at er eq ew
        subst er eq ew
        dsimp only
        have BX := Lib.hid (HA.out.trans (b2.mono HA.out.size))
        have hr2 : w2.ownsRow W.heap.size 45 7 (.slice (some ⟨g, 0, none⟩) n c') n (evals zs) := row_same HRr.out (fun k hk => BX.out.block k (HRr.out.lt k hk).2)
        have hr3 := hr2
        rw [← HZl.out] at hr3
        obtain ⟨g', eg, -, -, hc2⟩ := row_cells3 hr3 HZy.out
        cases eg
        have y0 := hc2 0 _ rfl
        have y1 := hc2 1 _ rfl
        have y2 := hc2 2 _ rfl
        have y3 := hc2 3 _ rfl
        have y4 := hc2 4 _ rfl
        have y5 := hc2 5 _ rfl
        have y6 := hc2 6 _ rfl
        simp only [Nat.add_zero] at y0
        have f0 := row_fz hr2 (t * 7)
        have f1 := row_fz hr2 (t * 7 + 1)
        have f2 := row_fz hr2 (t * 7 + 2)
        have f3 := row_fz hr2 (t * 7 + 3)
        have f4 := row_fz hr2 (t * 7 + 4)
        have f5 := row_fz hr2 (t * 7 + 5)
        have f6 := row_fz hr2 (t * 7 + 6)
        have HR2 := Lib.hid hr2
        have O31 := Lib.hid o31
        clear hr2 hr3 hc2 sx ok1 o31 b2 HCl z0 z1 z2 z3 z4 z5 z6
        go_upto_region 8 with fail
        have hs7 := row_set7 (t := t) HR2.out HZl.out.symm (by rw [HZl.out]; exact hlt) (⟨.slice ar urow.length cr, uf, .slice aq uqual.length cq, ut, us, uk, .slice aw uval.length cw, urow, uqual, uval⟩ : EntD)
        simp only at hs7
        generalize (((((((w2.setCell ⟨g, t * 7, none⟩ (.slice ar urow.length cr)).setCell ⟨g, t * 7 + 1, none⟩ (.int .i64 uf)).setCell ⟨g, t * 7 + 2, none⟩ (.slice aq uqual.length cq)).setCell ⟨g, t * 7 + 3, none⟩ (.int .i64 ut)).setCell ⟨g, t * 7 + 4, none⟩ (.int .i64 us)).setCell ⟨g, t * 7 + 5, none⟩ (.int .i64 uk)).setCell ⟨g, t * 7 + 6, none⟩ (.slice aw uval.length cw)) = X2 at hs7 ⊢
        have HN2 : Hid (Pc W X2 ys (t + 1) (zs.set t (⟨.slice ar urow.length cr, uf, .slice aq uqual.length cq, ut, us, uk, .slice aw uval.length cw, urow, uqual, uval⟩ : EntD)) (.slice (some ⟨g, 0, none⟩) n c')) := HQ.out.step HZl.out.symm HYy.out BX.out (O31.out.mono HA.out.size) HSx.out hs7.2 hs7.1
        clear hs7 y0 y1 y2 y3 y4 y5 y6 f0 f1 f2 f3 f4 f5 f6
        go_wp2
        go_roundw
        case rel => exact ⟨t + 1, _, by omega, by go_num, HN2.out⟩
        case measure => simp only [intOf]; omega
      · have hgt : ¬ (t : Int) < (n : Int) := by omega
        have HD : Hid (Pc W wr ys zs.length zs (.slice a' n c')) := by
          have := HQ.out
          rw [show t = zs.length by omega] at this
          exact this
        go_wp2
        go_ret2
        obtain ⟨o1, o2, o3, o4⟩ := HO.out
        exact ⟨HD.out.below, zs, _, o1, _, rfl, _, HD.out.done, fun i hi => hi, HD.out.dat, by rw [hzl, HNn.out]; exact o4⟩
  · have b0 : (E != 0) = true := by simp [hz]
    have hr := h1 hz
    subst hr
    have HZ := Lib.hid hz
    clear h1 h2 hz
    go_wp2
    go_ret2
    exact ⟨B1.out, fun _ => rfl, fun z => absurd z HZ.out⟩
end Go.Proofs.Ythhkpkfpifllkaa

namespace Go.Proofs.Ythhkpkfpifllkaa
open Go.RowKit Go.Maps
set_option linter.unusedVariables false

def chkF (k : Int) (e : EntD) : Int := if checkS e ≠ 0 then (checkS e : Int) else if 0 ≤ k ∧ k ≤ e.fam then 21 else 0
theorem chkF_k (k : Nat) (e : EntD) : chkF (k : Int) e = check3S k e := by
  unfold chkF check3S
  by_cases h : checkS e ≠ 0
  · rw [if_pos h, if_pos h]
  · rw [if_neg h, if_neg h]
    by_cases z : (k : Int) ≤ e.fam
    · rw [if_pos ⟨by omega, z⟩, if_pos z]
    · rw [if_neg (fun y => z y.2), if_neg z]
theorem chkF_neg {k : Int} (hk : k < 0) (e : EntD) : chkF k e = chkC e := by
  unfold chkF chkC
  by_cases h : checkS e ≠ 0
  · rw [if_pos h]
  · rw [if_neg h, if_neg (by omega)]
    have : checkS e = 0 := by simpa using h
    rw [this]; rfl
def OneS (l : List EntD) : Prop := ∀ x ∈ l, ∀ y ∈ l, x.seq = y.seq → x.dat = y.dat
theorem oneS_once (l : List EntD) : OneS l ↔ onceS l ≠ none := by
  constructor
  · intro h z
    obtain ⟨xs, hx⟩ := once_ok l [] (by rw [List.nil_append]; exact h)
    have : onceS l = some xs := hx
    rw [this] at z
    cases z
  · intro h x hx y hy e
    cases ho : onceS l with
    | none => exact absurd ho h
    | some xs =>
      obtain ⟨h1, h2⟩ := once_all l [] xs List.Pairwise.nil ho
      have m1 := (h2 x.dat).2 (by simpa using List.mem_map_of_mem hx)
      have m2 := (h2 y.dat).2 (by simpa using List.mem_map_of_mem hy)
      have hp : (xs.map EntD.dat).Pairwise fun a b => a.seq ≠ b.seq := by rw [List.pairwise_map]; exact h1
      exact pair_eq hp m1 m2 e
end Go.Proofs.Ythhkpkfpifllkaa
