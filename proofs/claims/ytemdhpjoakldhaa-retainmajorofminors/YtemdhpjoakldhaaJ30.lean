import Derived.Test.YtemdhpjoakldhaaJ29
import Derived.Test.YtemdhpjoakldhaaJ26
namespace Go.Proofs.Ytemdhpjoakldhaa
open Go.RowKit Go.Maps
set_option linter.unusedVariables false

/-- A list that was handed in, not too long to be joined to another. -/
def RdE3U (W : World) (v : Value) (xs : List EntD) : Prop := ∃ a c, v = .slice a xs.length c ∧ RdL3 W a c xs ∧ xs.length ≤ 1048576 ∧ ∀ x ∈ xs, Shrt x
theorem shrt_left {k : Nat} {fs : List (Int × Int)} {clock low : Int} {major : Bool} {l m : List En} {zs : List EntD} (h : IsOrd k l m) (hz : zs.map EntD.dat = outS major low (verdictsS fs clock m)) : ∀ x ∈ zs, Shrt x := fun x hx => by
  have := (h.left (fs := fs) (clock := clock) (low := low) major).ck x.dat (by rw [← hz]; exact List.mem_map_of_mem hx)
  have ck := check_zero.1 this
  simp only [EntD.ofEn, EntD.dat] at ck
  unfold Shrt
  omega
theorem len_of_dat {zs : List EntD} {l : List En} (h : zs.map EntD.dat = l) : zs.length = l.length := by rw [← h, List.length_map]
set_option maxRecDepth 100000 in
set_option maxHeartbeats 8000000 in
theorem neverSeen_walk {W : World} {fa : Option Addr} {nf fc : Nat} {fs : List FamD} (hr : RdF W (.slice fa nf fc) fs) (hn : fa = none → fc = 0) (clock more t n : Int) {va vb : Value} {la lb : List EntD} (h0 : RdE3U W va la) (h1 : RdE3U W vb lb) :
    Calls Try.prog 3 #[.agg #[.slice fa nf fc], .int .i64 clock, .int .i64 more, .int .i64 t, .int .i64 n, va, vb] W fun e w' => e = .returned (.bool true) ∧ Below W.heap.size W w' := by
  obtain ⟨aa, ca, rfl, h0, la1, sa⟩ := h0
  obtain ⟨ab, cb, rfl, h1, lb1, sb⟩ := h1
  obtain ⟨C, hC⟩ : ∃ C : Nat, (C = 0 ↔ SchemaOk fs) ∧ (C = 0 ∨ C = 28) := by
    by_cases h : SchemaOk fs
    · exact ⟨0, ⟨fun _ => h, fun _ => rfl⟩, .inl rfl⟩
    · exact ⟨28, ⟨(fun z => by cases z), fun z => absurd z h⟩, .inr rfl⟩
  obtain rfl : nf = fs.length := by
    obtain ⟨_, _, e, _⟩ := hr
    simp only [Value.slice.injEq] at e
    exact e.2.1
  obtain ⟨K, hK⟩ : ∃ K, K = fs.length := ⟨_, rfl⟩
  obtain ⟨NA, hNA⟩ : ∃ N, N = la.length := ⟨_, rfl⟩
  obtain ⟨NB, hNB⟩ : ∃ N, N = lb.length := ⟨_, rfl⟩
  obtain ⟨X0, hX0, A1, hcell⟩ := sch_box W fa K fc
  have up : ∀ Z, Below X0.heap.size X0 Z → Below W.heap.size W Z := fun Z b => A1.trans (b.mono A1.size)
  have HAp := Lib.hid (fun (Z : World) (b : Below X0.heap.size X0 Z) => apart_any (h0.later (up Z b)) (h1.later (up Z b)) (by omega) (by omega))
  have HJ := Lib.hid (fun (Z : World) (b : Below X0.heap.size X0 Z) => join_any (h0.later (up Z b)) (h1.later (up Z b)) sa sb (by omega))
  have HSd := Lib.hid (fun (Z : World) (b : Below X0.heap.size X0 Z) (zs : List EntD) (a' : Option Addr) (c' : Nat) (hz : RdL3 Z a' c' zs) (hl : zs.length ≤ 1353245080300) => sound_q (hr.later (up Z b)) hn C hC clock hz hl)
  have HSq := Lib.hid (fun (Z : World) (b : Below X0.heap.size X0 Z) (hE : squashE C fs clock 0 la = 0) => squash_good (hr.later (up Z b)) hn C hC clock 0 false (h0.later (up Z b)) (by omega) hE)
  have HJ2 := Lib.hid (fun (Z : World) (b : Below X0.heap.size X0 Z) (zs : List EntD) (a' : Option Addr) (c' : Nat) (hz : RdL3 Z a' c' zs) (hs : ∀ x ∈ zs, Shrt x) (hl : zs.length ≤ 1048576) => join_any hz (h1.later (up Z b)) hs sb (by omega))
  have HAg := Lib.hid (fun (Z : World) (b : Below X0.heap.size X0 Z) (xs ys : List EntD) (a1 a2 : Option Addr) (c1 c2 : Nat) (k1 : RdL3 Z a1 c1 xs) (k2 : RdL3 Z a2 c2 ys) (l1 : xs.length ≤ 1353245080300) (l2 : ys.length ≤ 1353245080300) (e1 : visE C fs (clock + more) xs = 0) (e2 : visE C fs (clock + more) ys = 0) (M R : List En) (m1 : IsOrd fs.length (xs.map EntD.dat) M) (m2 : IsOrd fs.length (ys.map EntD.dat) R) hs ht => agree_ok (hr.later (up Z b)) hn C hC (clock + more) t n k1 k2 l1 l2 e1 e2 m1 m2 hs ht)
  have HC := Lib.hid hC
  have HLn : Hid (la.length ≤ 1048576 ∧ lb.length ≤ 1048576) := ⟨la1, lb1⟩
  rw [← hNA, ← hNB] at HAp HJ
  rw [← hK] at HSd HAg HSq
  rw [← hNA] at HSq
  rw [← hNB] at HJ2
  rw [← hK, ← hNA, ← hNB]
  have HK := Lib.hid hK
  have HNA := Lib.hid hNA
  have HNB := Lib.hid hNB
  have HA1 := Lib.hid A1
  have HX0 := Lib.hid hX0
  have HC0 := Lib.hid hcell
  clear hr hn hC h0 h1 la1 lb1 sa sb hK hNA hNB hX0 A1 hcell up
  go_enter Try.func3, Try.ntmps3
  go_wp2_with fail
  rw [← HX0.out]
  refine Calls.mono (started3 _) ?_
  rintro e1 w1 ⟨rfl, b1⟩
  have B1 := Lib.hid b1
  have s1 := HC0.out _ b1
  have KW := Lib.hid (HA1.out.trans (b1.mono HA1.out.size))
  clear b1 HX0
  by_cases c1 : clock < 0
  · go_wp2_with fail
    go_quiet (fail)
    go_wp2
    go_ret
    exact ⟨rfl, below_drewN KW.out _⟩
  have d1 : decide (clock < 0) = false := decide_eq_false c1
  by_cases c2 : more < 0
  · go_wp2_with fail
    go_quiet (fail)
    go_wp2
    go_ret
    exact ⟨rfl, below_drewN KW.out _⟩
  have d2 : decide (more < 0) = false := decide_eq_false c2
  by_cases c3 : (1099511627776 : Int) < clock
  · go_wp2_with fail
    go_quiet (fail)
    go_wp2
    go_ret
    exact ⟨rfl, below_drewN KW.out _⟩
  have d3 : decide ((1099511627776 : Int) < clock) = false := decide_eq_false c3
  have wr0 : IntKind.i64.wrap (1099511627776 - clock) = 1099511627776 - clock := by simp [IntKind.wrap, IntKind.bits, IntKind.signed]; omega
  by_cases c4 : (1099511627776 - clock : Int) < more
  · go_wp2_with fail
    go_quiet (fail)
    go_wp2
    go_ret
    exact ⟨rfl, below_drewN KW.out _⟩
  have d4 : decide ((1099511627776 - clock : Int) < more) = false := decide_eq_false c4
  have HB0 : Hid (0 ≤ clock ∧ clock ≤ 1099511627776 ∧ 0 ≤ more ∧ clock + more ≤ 1099511627776) := ⟨by omega, by omega, by omega, by omega⟩
  cases hap : apartS la lb with
  | false =>
    have HAf : Hid (∀ Z, Below X0.heap.size X0 Z → Calls Try.prog 11 #[.slice aa NA ca, .slice ab NB cb] Z fun r w' => r = .returned (.bool false) ∧ ∃ n, w' = Z.drewN n) := fun Z b => by
      have := HAp.out Z b
      rw [hap] at this
      exact this
    clear hap HAp
    go_wp2_with fail
    go_quiet (first | (go_at_call 11; with_reducible exact Calls.quiet_of (HAf.out _ (below_dn B1.out _))))
    go_wp2
    go_ret
    exact ⟨rfl, below_drewN KW.out _⟩
  | true =>
    have HAf : Hid (∀ Z, Below X0.heap.size X0 Z → Calls Try.prog 11 #[.slice aa NA ca, .slice ab NB cb] Z fun r w' => r = .returned (.bool true) ∧ ∃ n, w' = Z.drewN n) := fun Z b => by
      have := HAp.out Z b
      rw [hap] at this
      exact this
    have HApt := Lib.hid (apart_iff.1 hap)
    have D0 : Below X0.heap.size X0 w1.drew := B1.out.drew
    clear hap HAp
    go_wp2_with fail
    go_region_held3 (fun wx => wx.cell? ⟨W.heap.size, 0, none⟩ = some (.slice fa K fc)) (first | exact HC0.out _ D3 | exact HC0.out _ D2 | exact HC0.out _ D1 | exact HC0.out _ D0) (first | (have hq := D2; clear hq; (go_at_call 12; refine Calls.mono (HSd.out _ D2 zs aj cj FJ.out.1 FJ.out.2.2) ?_; rintro e2 z3 ⟨q, rfl, hq9, t3⟩; have HQ9 := Lib.hid hq9; clear hq9; have D3 := D2.trans (t3.mono D2.size))) | (have hq := D1; clear hq; (go_at_call 13; refine Calls.mono (HJ.out _ D1) ?_; rintro e2 z2 ⟨t2, zs, aj, cj, rfl, rdj, dj⟩; have D2 := D1.trans (t2.mono D1.size); have FJ := Lib.hid (And.intro rdj (And.intro dj (show zs.length ≤ 1353245080300 by have := len_of_dat dj; rw [List.length_append, List.length_map, List.length_map] at this; have := HLn.out; omega))); clear rdj dj t2)) | (go_at_call 11; refine Calls.mono (HAf.out _ D0) ?_; rintro e2 z1 ⟨rfl, t1⟩; have D1 := D0.trans ((dn_below t1).mono D0.size); clear t1))
    have s3 := HC0.out _ D3
    have B3 := Lib.hid D3
    clear t3 D0 D1 D2 D3 HAf s1
    cases q with
    | true =>
      have hv := HQ9.out.1 rfl
      obtain ⟨hc0, hio⟩ := vis_zero hv
      obtain ⟨M, hM⟩ := ord_exists hio
      rw [FJ.out.2.1] at hM
      have hiA := hM.part (l := la) (fun e he => List.mem_append_left _ he)
      obtain ⟨mA, hA⟩ := ord_exists hiA
      have hSq : squashE C fs clock 0 la = 0 := squash_of hc0 HB0.out.1 HB0.out.2.1 (by decide) (by decide) hiA
      have HF := Lib.hid (And.intro hc0 (And.intro hM (And.intro hA hSq)))
      clear hc0 hio hM hiA hA hSq hv
      go_wp2_with fail
      refine Calls.mono (HSq.out _ B3.out HF.out.2.2.2) ?_
      rintro e4 w4 ⟨b4, ys, m, a4, c4, ho, rfl, rd4, dy, ln4⟩
      rw [HK.out] at ho
      have em := ho.unique HF.out.2.2.1
      subst em
      have B4 := Lib.hid (B3.out.trans (b4.mono B3.out.size))
      have s4 := HC0.out _ B4.out
      obtain ⟨hc0, hM, hA, hSq⟩ := HF.out
      have hS : SchemaOk fs := HC.out.1.1 hc0
      have cm0 : 0 ≤ clock + more := by have := HB0.out; omega
      have HJw := Lib.hid (fun (Z : World) (b : Below w4.heap.size w4 Z) => HJ.out Z (B4.out.trans (b.mono B4.out.size)))
      have HJ2w := Lib.hid (fun (Z : World) (b : Below w4.heap.size w4 Z) => HJ2.out Z (B4.out.trans (b.mono B4.out.size)) ys a4 c4 (rd4.later b) (shrt_left hA dy) (by have := HLn.out; rw [HNA.out] at ln4; omega))
      have HAgw : Hid (∀ (Z : World), Below w4.heap.size w4 Z → ∀ (xs us : List EntD) (a1 a2 : Option Addr) (c1 c2 : Nat), RdL3 Z a1 c1 xs → RdL3 Z a2 c2 us → xs.map EntD.dat = la.map EntD.dat ++ lb.map EntD.dat → us.map EntD.dat = ys.map EntD.dat ++ lb.map EntD.dat → Calls Try.prog 16 #[.agg #[.slice fa K fc], .int .i64 (clock + more), .int .i64 t, .int .i64 n, .slice a1 xs.length c1, .slice a2 us.length c2] Z fun r W' => r = .returned (.bool true) ∧ Below Z.heap.size Z W') := fun Z b xs us a1 a2 c1 c2 k1 k2 dx du => by
        have hi1 : inOrderE (check3S fs.length) xs = 0 := hM.part (fun e he => dx ▸ he)
        have hi2 : inOrderE (check3S fs.length) us = 0 := left_takes (fs := mt fs) (clock := clock) (low := 0) (major := false) hA hM.self (fun e he => (hM.mem e).2 (List.mem_append_right _ he)) dy HApt.out du
        obtain ⟨R, hR⟩ := ord_exists hi2
        have hM' : IsOrd fs.length (xs.map EntD.dat) M := by rw [dx]; exact hM
        have pr := neverSeen_pure hS (show clock ≤ clock + more by have := HB0.out; omega) hA hM dy du hR
        have l1 : xs.length ≤ 1353245080300 := by have := len_of_dat dx; rw [List.length_append, List.length_map, List.length_map] at this; have := HLn.out; omega
        have l2 : us.length ≤ 1353245080300 := by have := len_of_dat du; rw [List.length_append, List.length_map, List.length_map] at this; have := HLn.out; rw [HNA.out] at ln4; omega
        have e1 := vis_of (C := C) (fs := fs) hc0 cm0 HB0.out.2.2.2 hi1
        have e2 := vis_of (C := C) (fs := fs) hc0 cm0 HB0.out.2.2.2 hi2
        exact HAg.out Z (B4.out.trans (b.mono B4.out.size)) xs us a1 a2 c1 c2 k1 k2 l1 l2 e1 e2 M R (by rw [HK.out]; exact hM') (by rw [HK.out]; exact hR) pr.1 pr.2
      have wr1 : IntKind.i64.wrap (clock + more) = clock + more := by have := HB0.out; simp [IntKind.wrap, IntKind.bits, IntKind.signed]; omega
      have HC4 : Hid (∀ Z, Below w4.heap.size w4 Z → Z.cell? ⟨W.heap.size, 0, none⟩ = some (.slice fa K fc)) := fun Z b => HC0.out _ (B4.out.trans (b.mono B4.out.size))
      have KW4 := Lib.hid (HA1.out.trans (B4.out.mono HA1.out.size))
      have D0 : Below w4.heap.size w4 w4.drew := (Below.refl _ _).drew
      clear b4 ho rd4 dy ln4 hc0 hM hA hSq hS cm0 s3 HAg HJ HJ2 HSd HSq HF FJ B3 B4 KW d1 d2 d3 d4 wr0
      go_wp2_with fail
      go_region_held3 (fun wx => wx.cell? ⟨W.heap.size, 0, none⟩ = some (.slice fa K fc)) (first | exact HC4.out _ D3 | exact HC4.out _ D2 | exact HC4.out _ D1 | exact HC4.out _ D0) (first | (have hq := D2; clear hq; (go_at_call 16; refine Calls.mono (HAgw.out _ D2 xs us a5 a6 c5 c6 F6.out.1 F6.out.2.1 F6.out.2.2.1 F6.out.2.2.2) ?_; rintro e6 z3 ⟨rfl, t3⟩; have D3 := D2.trans (t3.mono D2.size))) | (have hq := D1; clear hq; (go_at_call 13; refine Calls.mono (HJ2w.out _ D1) ?_; rintro e6 z2 ⟨t2, us, a6, c6, rfl, rd6, d6⟩; have D2 := D1.trans (t2.mono D1.size); have F6 := Lib.hid (And.intro (F5.out.1.later t2) (And.intro rd6 (And.intro F5.out.2 d6))); clear rd6 d6 t2)) | (go_at_call 13; refine Calls.mono (HJw.out _ D0) ?_; rintro e6 z1 ⟨t1, xs, a5, c5, rfl, rd5, d5⟩; have D1 := D0.trans (t1.mono D0.size); have F5 := Lib.hid (And.intro rd5 d5); clear rd5 d5 t1) | (go_at_call 15; refine (num_sym _ _).mono ?_; rintro e6 wn ⟨rfl, rfl⟩))
      go_wp2
      go_ret
      exact ⟨rfl, KW4.out.trans (D3.mono KW4.out.size)⟩
    | false =>
      go_wp2
      go_ret
      exact ⟨rfl, HA1.out.trans (B3.out.mono HA1.out.size)⟩
end Go.Proofs.Ytemdhpjoakldhaa

namespace Go.Proofs.Ytemdhpjoakldhaa
open Go.RowKit Go.Maps
set_option linter.unusedVariables false

/-- Of the first t entries those whose place is told so. -/
def selB (q : Nat → Bool) (l : List EntD) (t : Nat) : List EntD := ((List.range t).filter q).filterMap fun i => l[i]?
theorem selB_mem {q : Nat → Bool} {l : List EntD} {t : Nat} {x : EntD} : x ∈ selB q l t ↔ ∃ i, i < t ∧ q i = true ∧ l[i]? = some x := by
  unfold selB
  simp only [List.mem_filterMap, List.mem_filter, List.mem_range, and_assoc]
theorem selB_succ {q : Nat → Bool} {l : List EntD} {t : Nat} {x : EntD} (hx : l[t]? = some x) : selB q l (t + 1) = if q t = true then selB q l t ++ [x] else selB q l t := by
  unfold selB
  rw [List.range_succ, List.filter_append, List.filterMap_append]
  by_cases h : q t = true
  · rw [if_pos h]
    simp [h, hx]
  · rw [if_neg h]
    simp [h]
theorem selB_len {q r : Nat → Bool} {l : List EntD} (h : ∀ i, q i = true → r i = false) : ∀ t, (selB q l t).length + (selB r l t).length = (selB (fun i => q i || r i) l t).length
  | 0 => rfl
  | t + 1 => by
    have ih := selB_len (l := l) h t
    cases hx : l[t]? with
    | none =>
      have e : ∀ p : Nat → Bool, selB p l (t + 1) = selB p l t := fun p => by
        unfold selB
        rw [List.range_succ, List.filter_append, List.filterMap_append]
        by_cases hp : p t = true
        · simp [hp, hx]
        · simp [hp]
      rw [e, e, e, ih]
    | some x =>
      rw [selB_succ hx, selB_succ hx, selB_succ hx]
      cases hq : q t with
      | true =>
        have hr := h t hq
        simp [hr]
        omega
      | false =>
        cases hr : r t with
        | true => simp; omega
        | false => simp; omega
theorem selB_le {q : Nat → Bool} {l : List EntD} (t : Nat) : (selB q l t).length ≤ t := by
  unfold selB
  refine Nat.le_trans (List.length_filterMap_le _ _) (Nat.le_trans (List.length_filter_le _ _) ?_)
  rw [List.length_range]; exact Nat.le_refl _
/-- The parts of a number below p; the part p. -/
def uniP (ks : Nat → Int) (l : List EntD) (p : Int) : List EntD := selB (fun i => decide (ks i < p)) l l.length
def parP (ks : Nat → Int) (l : List EntD) (p : Int) : List EntD := selB (fun i => decide (ks i = p)) l l.length
theorem uniP_len (ks : Nat → Int) (l : List EntD) (p : Int) : (uniP ks l p).length + (parP ks l p).length = (uniP ks l (p + 1)).length := by
  unfold uniP parP
  rw [selB_len (fun i h => by simp only [decide_eq_true_eq, decide_eq_false_iff_not] at *; omega)]
  congr 2
  funext i
  rw [Bool.eq_iff_iff]
  simp only [Bool.or_eq_true, decide_eq_true_eq]
  omega
theorem uniP_le (ks : Nat → Int) (l : List EntD) (p : Int) : (uniP ks l p).length ≤ l.length := selB_le _
theorem uniP_mem {ks : Nat → Int} {l : List EntD} {p : Int} {x : EntD} : x ∈ uniP ks l (p + 1) ↔ x ∈ uniP ks l p ∨ x ∈ parP ks l p := by
  unfold uniP parP
  rw [selB_mem, selB_mem, selB_mem]
  simp only [decide_eq_true_eq]
  constructor
  · rintro ⟨i, h1, h2, h3⟩
    by_cases z : ks i = p
    · exact .inr ⟨i, h1, z, h3⟩
    · exact .inl ⟨i, h1, by omega, h3⟩
  · rintro (⟨i, h1, h2, h3⟩ | ⟨i, h1, h2, h3⟩)
    · exact ⟨i, h1, by omega, h3⟩
    · exact ⟨i, h1, by omega, h3⟩
theorem sub_l {q : Nat → Bool} {l : List EntD} {t : Nat} {x : EntD} (h : x ∈ selB q l t) : x ∈ l := by
  obtain ⟨i, _, _, hx⟩ := selB_mem.1 h
  exact List.mem_of_getElem? hx
theorem dat_sub {q : Nat → Bool} {l : List EntD} {t : Nat} {e : En} (h : e ∈ (selB q l t).map EntD.dat) : e ∈ l.map EntD.dat := by
  obtain ⟨x, hx, rfl⟩ := List.mem_map.1 h
  exact List.mem_map_of_mem (sub_l hx)
/-- Two places with one Seq are one. -/
theorem place_eq {l : List EntD} (h : l.Pairwise fun x y => x.seq ≠ y.seq) {i j : Nat} {x y : EntD} (hi : l[i]? = some x) (hj : l[j]? = some y) (e : x.seq = y.seq) : i = j := by
  have h' := List.pairwise_iff_getElem.1 h
  obtain ⟨li, ei⟩ := List.getElem?_eq_some_iff.1 hi
  obtain ⟨lj, ej⟩ := List.getElem?_eq_some_iff.1 hj
  rcases Nat.lt_trichotomy i j with z | z | z
  · have := h' i j li lj z
    rw [ei, ej] at this
    exact absurd e this
  · exact z
  · have := h' j i lj li z
    rw [ei, ej] at this
    exact absurd e.symm this
/-- What is left of the parts of a number below p. -/
structure Mn (fs : List FamD) (clock : Int) (ks : Nat → Int) (l : List EntD) (p : Int) (zs : List EntD) : Prop where
  st : ∃ mU R, IsOrd fs.length ((uniP ks l p).map EntD.dat) mU ∧ IsOrd fs.length (zs.map EntD.dat) R ∧ Red (mt fs) clock mU R
  len : zs.length ≤ (uniP ks l p).length
theorem isOrd_nil (k : Nat) : IsOrd k [] [] := ⟨List.Pairwise.nil, List.Pairwise.nil, (fun e he => by cases he), (fun e he => by cases he), fun _ => Iff.rfl⟩
theorem Mn.start {fs : List FamD} {clock : Int} {ks : Nat → Int} {l : List EntD} (h0 : ∀ i, 0 ≤ ks i) : Mn fs clock ks l 0 [] := by
  have e : uniP ks l 0 = [] := by
    rw [List.eq_nil_iff_forall_not_mem]
    intro x hx
    obtain ⟨i, _, h2, _⟩ := selB_mem.1 hx
    have := h0 i
    simp only [decide_eq_true_eq] at h2
    omega
  refine ⟨⟨[], [], ?_, isOrd_nil _, Red.refl _⟩, Nat.zero_le _⟩
  rw [e]
  exact isOrd_nil _
theorem Red.seqs {fs : List (Int × Int)} {clock : Int} {m r : List En} (h : Red fs clock m r) {y : En} (hy : y ∈ r) : ∃ x ∈ m, x.seq = y.seq := by
  by_cases k : y.kind ≤ 3
  · obtain ⟨x, hx, _, e, _⟩ := h.frm y hy k
    exact ⟨x, hx, e⟩
  · exact ⟨y, h.marks y hy (by omega), rfl⟩
theorem len_of_dat2 {js zs ms : List EntD} (h : js.map EntD.dat = zs.map EntD.dat ++ ms.map EntD.dat) : js.length = zs.length + ms.length := by
  have := congrArg List.length h
  simpa using this
/-- One part more. -/
theorem Mn.join {fs : List FamD} {clock at_ : Int} {ks : Nat → Int} {l zs ms js : List EntD} {p : Int} {M mP : List En} (hS : SchemaOk fs) (h : Mn fs clock ks l p zs) (hat : at_ ≤ clock) (hM : IsOrd fs.length (l.map EntD.dat) M) (hd : l.Pairwise fun x y => x.seq ≠ y.seq) (hP : IsOrd fs.length ((parP ks l p).map EntD.dat) mP) (hm : ms.map EntD.dat = outS false 0 (verdictsS (mt fs) at_ mP)) (hl : ms.length ≤ (parP ks l p).length) (hj : js.map EntD.dat = zs.map EntD.dat ++ ms.map EntD.dat) :
    inOrderE (check3S fs.length) js = 0 ∧ Mn fs clock ks l (p + 1) js := by
  obtain ⟨⟨mU, R, hU, hR, red⟩, ln⟩ := h
  have hL := hP.left (fs := mt fs) (clock := at_) (low := 0) false
  have rl := (red_left (fs := mt fs) (clock := at_) (low := 0) hP.ah hP.va (famAt_nn hS)).later hat
  have eL : ∀ e, e ∈ ms.map EntD.dat ↔ e ∈ leftL (mt fs) at_ mP false 0 := fun e => by rw [hm, out_tld hP.ah hP.va]; rfl
  have q1 : ∀ e ∈ zs.map EntD.dat, ∃ i x, ks i < p ∧ l[i]? = some x ∧ x.seq = e.seq := fun e he => by
    obtain ⟨u, hu, eu⟩ := red.seqs ((hR.mem e).2 he)
    obtain ⟨x, hx, rfl⟩ := List.mem_map.1 ((hU.mem u).1 hu)
    obtain ⟨i, _, h2, h3⟩ := selB_mem.1 hx
    exact ⟨i, x, by simpa using h2, h3, eu⟩
  have q2 : ∀ e ∈ ms.map EntD.dat, ∃ i x, ks i = p ∧ l[i]? = some x ∧ x.seq = e.seq := fun e he => by
    obtain ⟨u, hu, eu⟩ := rl.seqs ((eL e).1 he)
    obtain ⟨x, hx, rfl⟩ := List.mem_map.1 ((hP.mem u).1 hu)
    obtain ⟨i, _, h2, h3⟩ := selB_mem.1 hx
    exact ⟨i, x, by simpa using h2, h3, eu⟩
  have two : ∀ x ∈ js, x.dat ∈ zs.map EntD.dat ∨ x.dat ∈ ms.map EntD.dat := fun x hx => by
    have : x.dat ∈ js.map EntD.dat := List.mem_map_of_mem hx
    rw [hj] at this
    exact List.mem_append.1 this
  have cross : ∀ {x y : EntD}, x.dat ∈ zs.map EntD.dat → y.dat ∈ ms.map EntD.dat → x.seq = y.seq → False := fun {x y} a b e => by
    obtain ⟨i, u, h1, h2, h3⟩ := q1 _ a
    obtain ⟨j, v, k1, k2, k3⟩ := q2 _ b
    have := place_eq hd h2 k2 (h3.trans (e.trans k3.symm))
    subst this
    omega
  have hio : inOrderE (check3S fs.length) js = 0 := by
    refine takes_of (fun x hx => ?_) (fun x hx y hy e => ?_)
    · rcases two x hx with q | q
      · exact hR.ck x.dat ((hR.mem _).2 q)
      · exact hL.ck x.dat (hm ▸ q)
    · rcases two x hx with a | a
      · rcases two y hy with b | b
        · exact hR.same a b e
        · exact (cross a b e).elim
      · rcases two y hy with b | b
        · exact (cross b a e.symm).elim
        · exact hL.same (hm ▸ a) (hm ▸ b) e
  refine ⟨hio, ?_, ?_⟩
  · obtain ⟨R', hR'⟩ := ord_exists hio
    obtain ⟨mU', hU'⟩ := ord_exists (hM.part (l := uniP ks l (p + 1)) (fun e he => dat_sub he))
    refine ⟨mU', R', hU', hR', Red.union red rl hU.ah hP.ah (fun e => ?_) (fun e => ?_)⟩
    · rw [hU'.mem, hU.mem, hP.mem]
      simp only [List.mem_map]
      constructor
      · rintro ⟨x, hx, rfl⟩
        rcases uniP_mem.1 hx with q | q
        · exact .inl ⟨x, q, rfl⟩
        · exact .inr ⟨x, q, rfl⟩
      · rintro (⟨x, hx, rfl⟩ | ⟨x, hx, rfl⟩)
        · exact ⟨x, uniP_mem.2 (.inl hx), rfl⟩
        · exact ⟨x, uniP_mem.2 (.inr hx), rfl⟩
    · rw [hR'.mem, hj, List.mem_append, hR.mem, eL]
  · have e := len_of_dat2 hj
    have := uniP_len ks l p
    omega
/-- Squashed again, at a clock that is not later. -/
theorem Mn.again {fs : List FamD} {clock at_ : Int} {ks : Nat → Int} {l zs qs : List EntD} {p : Int} {R : List En} (hS : SchemaOk fs) (h : Mn fs clock ks l p zs) (hat : at_ ≤ clock) (hR : IsOrd fs.length (zs.map EntD.dat) R) (hq : qs.map EntD.dat = outS false 0 (verdictsS (mt fs) at_ R)) (hl : qs.length ≤ zs.length) : Mn fs clock ks l p qs := by
  obtain ⟨⟨mU, R0, hU, hR0, red⟩, ln⟩ := h
  have e := hR0.unique hR
  subst e
  have rl := (red_left (fs := mt fs) (clock := at_) (low := 0) hR.ah hR.va (famAt_nn hS)).later hat
  have hL := hR.left (fs := mt fs) (clock := at_) (low := 0) false
  refine ⟨⟨mU, leftL (mt fs) at_ R0 false 0, hU, ?_, red.trans rl hU.ah hU.va hR.ah⟩, by omega⟩
  rw [hq]
  rw [out_tld hR.ah hR.va] at hL ⊢
  exact hL
theorem Mn.take {fs : List FamD} {clock : Int} {ks : Nat → Int} {l zs : List EntD} {p : Int} (h : Mn fs clock ks l p zs) : inOrderE (check3S fs.length) zs = 0 := by
  obtain ⟨⟨mU, R, hU, hR, red⟩, ln⟩ := h
  exact hR.part (fun e he => he)
/-- The major squash of all that they leave. -/
theorem Mn.final {fs : List FamD} {clock low : Int} {ks : Nat → Int} {l zs ws gs : List EntD} {M R : List En} (h : Mn fs clock ks l 4 zs) (h4 : ∀ i, ks i < 4) (hM : IsOrd fs.length (l.map EntD.dat) M) (hR : IsOrd fs.length (zs.map EntD.dat) R) (hw : ws.map EntD.dat = outS true low (verdictsS (mt fs) clock M)) (hg : gs.map EntD.dat = outS true low (verdictsS (mt fs) clock R)) : gs.map EntD.dat = ws.map EntD.dat := by
  obtain ⟨⟨mU, R0, hU, hR0, red⟩, ln⟩ := h
  have e := hR0.unique hR
  subst e
  have em : mU = M := by
    refine ord_unique hU.ah hM.ah fun e => ?_
    rw [hU.mem, hM.mem]
    refine ⟨fun he => dat_sub he, fun he => ?_⟩
    obtain ⟨x, hx, rfl⟩ := List.mem_map.1 he
    obtain ⟨i, hi⟩ := List.getElem?_of_mem hx
    exact List.mem_map_of_mem (selB_mem.2 ⟨i, (List.getElem?_eq_some_iff.1 hi).1, by simpa using h4 i, hi⟩)
  subst em
  have := red.major hM.ah hM.va hR.ah low
  rw [hg, hw, out_tld hR.ah hR.va, out_tld hM.ah hM.va]
  exact this
end Go.Proofs.Ytemdhpjoakldhaa
