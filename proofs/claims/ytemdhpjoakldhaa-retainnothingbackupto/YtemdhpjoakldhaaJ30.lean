import Derived.Test.YtemdhpjoakldhaaJ29
import Derived.Test.YtemdhpjoakldhaaJ26
namespace Go.Proofs.Ytemdhpjoakldhaa
open Go.RowKit Go.Maps
set_option linter.unusedVariables false

/-- A list that was handed in, not too long to be joined to another. -/
def RdE3U (W : World) (v : Value) (xs : List EntD) : Prop := ∃ a c, v = .slice a xs.length c ∧ RdL3 W a c xs ∧ xs.length ≤ 1048576 ∧ ∀ x ∈ xs, Shrt x
theorem shrt_left {k : Nat} {fs : List (Int × Int)} {clock low : Int} {major : Bool} {l m : List En} {zs : List EntD} (h : IsOrd k l m) (hz : zs.map EntD.dat = outS major low (verdictsS fs clock m)) : ∀ x ∈ zs, Shrt x := fun x hx => by
  have := (h.left (fs := fs) (clock := clock) (low := low) major).ck x.dat (by rw [← hz]; exact List.mem_map_of_mem hx)
  have ck := check_zero.1 this
  simp only [EntD.ofEn, EntD.dat] at ck
  unfold Shrt
  omega
theorem len_of_dat {zs : List EntD} {l : List En} (h : zs.map EntD.dat = l) : zs.length = l.length := by rw [← h, List.length_map]
set_option maxRecDepth 100000 in
set_option maxHeartbeats 8000000 in
theorem neverSeen_walk {W : World} {fa : Option Addr} {nf fc : Nat} {fs : List FamD} (hr : RdF W (.slice fa nf fc) fs) (hn : fa = none → fc = 0) (clock more t n : Int) {va vb : Value} {la lb : List EntD} (h0 : RdE3U W va la) (h1 : RdE3U W vb lb) :
    Calls Try.prog 3 #[.agg #[.slice fa nf fc], .int .i64 clock, .int .i64 more, .int .i64 t, .int .i64 n, va, vb] W fun e w' => e = .returned (.bool true) ∧ Below W.heap.size W w' := by
  obtain ⟨aa, ca, rfl, h0, la1, sa⟩ := h0
  obtain ⟨ab, cb, rfl, h1, lb1, sb⟩ := h1
  obtain ⟨C, hC⟩ : ∃ C : Nat, (C = 0 ↔ SchemaOk fs) ∧ (C = 0 ∨ C = 28) := by
    by_cases h : SchemaOk fs
    · exact ⟨0, ⟨fun _ => h, fun _ => rfl⟩, .inl rfl⟩
    · exact ⟨28, ⟨(fun z => by cases z), fun z => absurd z h⟩, .inr rfl⟩
  obtain rfl : nf = fs.length := by
    obtain ⟨_, _, e, _⟩ := hr
    simp only [Value.slice.injEq] at e
    exact e.2.1
  obtain ⟨K, hK⟩ : ∃ K, K = fs.length := ⟨_, rfl⟩
  obtain ⟨NA, hNA⟩ : ∃ N, N = la.length := ⟨_, rfl⟩
  obtain ⟨NB, hNB⟩ : ∃ N, N = lb.length := ⟨_, rfl⟩
  obtain ⟨X0, hX0, A1, hcell⟩ := sch_box W fa K fc
  have up : ∀ Z, Below X0.heap.size X0 Z → Below W.heap.size W Z := fun Z b => A1.trans (b.mono A1.size)
  have HAp := Lib.hid (fun (Z : World) (b : Below X0.heap.size X0 Z) => apart_any (h0.later (up Z b)) (h1.later (up Z b)) (by omega) (by omega))
  have HJ := Lib.hid (fun (Z : World) (b : Below X0.heap.size X0 Z) => join_any (h0.later (up Z b)) (h1.later (up Z b)) sa sb (by omega))
  have HSd := Lib.hid (fun (Z : World) (b : Below X0.heap.size X0 Z) (zs : List EntD) (a' : Option Addr) (c' : Nat) (hz : RdL3 Z a' c' zs) (hl : zs.length ≤ 1353245080300) => sound_q (hr.later (up Z b)) hn C hC clock hz hl)
  have HSq := Lib.hid (fun (Z : World) (b : Below X0.heap.size X0 Z) (hE : squashE C fs clock 0 la = 0) => squash_good (hr.later (up Z b)) hn C hC clock 0 false (h0.later (up Z b)) (by omega) hE)
  have HJ2 := Lib.hid (fun (Z : World) (b : Below X0.heap.size X0 Z) (zs : List EntD) (a' : Option Addr) (c' : Nat) (hz : RdL3 Z a' c' zs) (hs : ∀ x ∈ zs, Shrt x) (hl : zs.length ≤ 1048576) => join_any hz (h1.later (up Z b)) hs sb (by omega))
  have HAg := Lib.hid (fun (Z : World) (b : Below X0.heap.size X0 Z) (xs ys : List EntD) (a1 a2 : Option Addr) (c1 c2 : Nat) (k1 : RdL3 Z a1 c1 xs) (k2 : RdL3 Z a2 c2 ys) (l1 : xs.length ≤ 1353245080300) (l2 : ys.length ≤ 1353245080300) (e1 : visE C fs (clock + more) xs = 0) (e2 : visE C fs (clock + more) ys = 0) (M R : List En) (m1 : IsOrd fs.length (xs.map EntD.dat) M) (m2 : IsOrd fs.length (ys.map EntD.dat) R) hs ht => agree_ok (hr.later (up Z b)) hn C hC (clock + more) t n k1 k2 l1 l2 e1 e2 m1 m2 hs ht)
  have HC := Lib.hid hC
  have HLn : Hid (la.length ≤ 1048576 ∧ lb.length ≤ 1048576) := ⟨la1, lb1⟩
  rw [← hNA, ← hNB] at HAp HJ
  rw [← hK] at HSd HAg HSq
  rw [← hNA] at HSq
  rw [← hNB] at HJ2
  rw [← hK, ← hNA, ← hNB]
  have HK := Lib.hid hK
  have HNA := Lib.hid hNA
  have HNB := Lib.hid hNB
  have HA1 := Lib.hid A1
  have HX0 := Lib.hid hX0
  have HC0 := Lib.hid hcell
  clear hr hn hC h0 h1 la1 lb1 sa sb hK hNA hNB hX0 A1 hcell up
  go_enter Try.func3, Try.ntmps3
  go_wp2_with fail
  rw [← HX0.out]
  refine Calls.mono (started3 _) ?_
  rintro e1 w1 ⟨rfl, b1⟩
  have B1 := Lib.hid b1
  have s1 := HC0.out _ b1
  have KW := Lib.hid (HA1.out.trans (b1.mono HA1.out.size))
  clear b1 HX0
  by_cases c1 : clock < 0
  · go_wp2_with fail
    go_quiet (fail)
    go_wp2
    go_ret
    exact ⟨rfl, below_drewN KW.out _⟩
  have d1 : decide (clock < 0) = false := decide_eq_false c1
  by_cases c2 : more < 0
  · go_wp2_with fail
    go_quiet (fail)
    go_wp2
    go_ret
    exact ⟨rfl, below_drewN KW.out _⟩
  have d2 : decide (more < 0) = false := decide_eq_false c2
  by_cases c3 : (1099511627776 : Int) < clock
  · go_wp2_with fail
    go_quiet (fail)
    go_wp2
    go_ret
    exact ⟨rfl, below_drewN KW.out _⟩
  have d3 : decide ((1099511627776 : Int) < clock) = false := decide_eq_false c3
  have wr0 : IntKind.i64.wrap (1099511627776 - clock) = 1099511627776 - clock := by simp [IntKind.wrap, IntKind.bits, IntKind.signed]; omega
  by_cases c4 : (1099511627776 - clock : Int) < more
  · go_wp2_with fail
    go_quiet (fail)
    go_wp2
    go_ret
    exact ⟨rfl, below_drewN KW.out _⟩
  have d4 : decide ((1099511627776 - clock : Int) < more) = false := decide_eq_false c4
  have HB0 : Hid (0 ≤ clock ∧ clock ≤ 1099511627776 ∧ 0 ≤ more ∧ clock + more ≤ 1099511627776) := ⟨by omega, by omega, by omega, by omega⟩
  cases hap : apartS la lb with
  | false =>
    have HAf : Hid (∀ Z, Below X0.heap.size X0 Z → Calls Try.prog 11 #[.slice aa NA ca, .slice ab NB cb] Z fun r w' => r = .returned (.bool false) ∧ ∃ n, w' = Z.drewN n) := fun Z b => by
      have := HAp.out Z b
      rw [hap] at this
      exact this
    clear hap HAp
    go_wp2_with fail
    go_quiet (first | (go_at_call 11; with_reducible exact Calls.quiet_of (HAf.out _ (below_dn B1.out _))))
    go_wp2
    go_ret
    exact ⟨rfl, below_drewN KW.out _⟩
  | true =>
    have HAf : Hid (∀ Z, Below X0.heap.size X0 Z → Calls Try.prog 11 #[.slice aa NA ca, .slice ab NB cb] Z fun r w' => r = .returned (.bool true) ∧ ∃ n, w' = Z.drewN n) := fun Z b => by
      have := HAp.out Z b
      rw [hap] at this
      exact this
    have HApt := Lib.hid (apart_iff.1 hap)
    have D0 : Below X0.heap.size X0 w1.drew := B1.out.drew
    clear hap HAp
    go_wp2_with fail
    go_region_held3 (fun wx => wx.cell? ⟨W.heap.size, 0, none⟩ = some (.slice fa K fc)) (first | exact HC0.out _ D3 | exact HC0.out _ D2 | exact HC0.out _ D1 | exact HC0.out _ D0) (first | (have hq := D2; clear hq; (go_at_call 12; refine Calls.mono (HSd.out _ D2 zs aj cj FJ.out.1 FJ.out.2.2) ?_; rintro e2 z3 ⟨q, rfl, hq9, t3⟩; have HQ9 := Lib.hid hq9; clear hq9; have D3 := D2.trans (t3.mono D2.size))) | (have hq := D1; clear hq; (go_at_call 13; refine Calls.mono (HJ.out _ D1) ?_; rintro e2 z2 ⟨t2, zs, aj, cj, rfl, rdj, dj⟩; have D2 := D1.trans (t2.mono D1.size); have FJ := Lib.hid (And.intro rdj (And.intro dj (show zs.length ≤ 1353245080300 by have := len_of_dat dj; rw [List.length_append, List.length_map, List.length_map] at this; have := HLn.out; omega))); clear rdj dj t2)) | (go_at_call 11; refine Calls.mono (HAf.out _ D0) ?_; rintro e2 z1 ⟨rfl, t1⟩; have D1 := D0.trans ((dn_below t1).mono D0.size); clear t1))
    have s3 := HC0.out _ D3
    have B3 := Lib.hid D3
    clear t3 D0 D1 D2 D3 HAf s1
    cases q with
    | true =>
      have hv := HQ9.out.1 rfl
      obtain ⟨hc0, hio⟩ := vis_zero hv
      obtain ⟨M, hM⟩ := ord_exists hio
      rw [FJ.out.2.1] at hM
      have hiA := hM.part (l := la) (fun e he => List.mem_append_left _ he)
      obtain ⟨mA, hA⟩ := ord_exists hiA
      have hSq : squashE C fs clock 0 la = 0 := squash_of hc0 HB0.out.1 HB0.out.2.1 (by decide) (by decide) hiA
      have HF := Lib.hid (And.intro hc0 (And.intro hM (And.intro hA hSq)))
      clear hc0 hio hM hiA hA hSq hv
      go_wp2_with fail
      refine Calls.mono (HSq.out _ B3.out HF.out.2.2.2) ?_
      rintro e4 w4 ⟨b4, ys, m, a4, c4, ho, rfl, rd4, dy, ln4⟩
      rw [HK.out] at ho
      have em := ho.unique HF.out.2.2.1
      subst em
      have B4 := Lib.hid (B3.out.trans (b4.mono B3.out.size))
      have s4 := HC0.out _ B4.out
      obtain ⟨hc0, hM, hA, hSq⟩ := HF.out
      have hS : SchemaOk fs := HC.out.1.1 hc0
      have cm0 : 0 ≤ clock + more := by have := HB0.out; omega
      have HJw := Lib.hid (fun (Z : World) (b : Below w4.heap.size w4 Z) => HJ.out Z (B4.out.trans (b.mono B4.out.size)))
      have HJ2w := Lib.hid (fun (Z : World) (b : Below w4.heap.size w4 Z) => HJ2.out Z (B4.out.trans (b.mono B4.out.size)) ys a4 c4 (rd4.later b) (shrt_left hA dy) (by have := HLn.out; rw [HNA.out] at ln4; omega))
      have HAgw : Hid (∀ (Z : World), Below w4.heap.size w4 Z → ∀ (xs us : List EntD) (a1 a2 : Option Addr) (c1 c2 : Nat), RdL3 Z a1 c1 xs → RdL3 Z a2 c2 us → xs.map EntD.dat = la.map EntD.dat ++ lb.map EntD.dat → us.map EntD.dat = ys.map EntD.dat ++ lb.map EntD.dat → Calls Try.prog 16 #[.agg #[.slice fa K fc], .int .i64 (clock + more), .int .i64 t, .int .i64 n, .slice a1 xs.length c1, .slice a2 us.length c2] Z fun r W' => r = .returned (.bool true) ∧ Below Z.heap.size Z W') := fun Z b xs us a1 a2 c1 c2 k1 k2 dx du => by
        have hi1 : inOrderE (check3S fs.length) xs = 0 := hM.part (fun e he => dx ▸ he)
        have hi2 : inOrderE (check3S fs.length) us = 0 := left_takes (fs := mt fs) (clock := clock) (low := 0) (major := false) hA hM.self (fun e he => (hM.mem e).2 (List.mem_append_right _ he)) dy HApt.out du
        obtain ⟨R, hR⟩ := ord_exists hi2
        have hM' : IsOrd fs.length (xs.map EntD.dat) M := by rw [dx]; exact hM
        have pr := neverSeen_pure hS (show clock ≤ clock + more by have := HB0.out; omega) hA hM dy du hR
        have l1 : xs.length ≤ 1353245080300 := by have := len_of_dat dx; rw [List.length_append, List.length_map, List.length_map] at this; have := HLn.out; omega
        have l2 : us.length ≤ 1353245080300 := by have := len_of_dat du; rw [List.length_append, List.length_map, List.length_map] at this; have := HLn.out; rw [HNA.out] at ln4; omega
        have e1 := vis_of (C := C) (fs := fs) hc0 cm0 HB0.out.2.2.2 hi1
        have e2 := vis_of (C := C) (fs := fs) hc0 cm0 HB0.out.2.2.2 hi2
        exact HAg.out Z (B4.out.trans (b.mono B4.out.size)) xs us a1 a2 c1 c2 k1 k2 l1 l2 e1 e2 M R (by rw [HK.out]; exact hM') (by rw [HK.out]; exact hR) pr.1 pr.2
      have wr1 : IntKind.i64.wrap (clock + more) = clock + more := by have := HB0.out; simp [IntKind.wrap, IntKind.bits, IntKind.signed]; omega
      have HC4 : Hid (∀ Z, Below w4.heap.size w4 Z → Z.cell? ⟨W.heap.size, 0, none⟩ = some (.slice fa K fc)) := fun Z b => HC0.out _ (B4.out.trans (b.mono B4.out.size))
      have KW4 := Lib.hid (HA1.out.trans (B4.out.mono HA1.out.size))
      have D0 : Below w4.heap.size w4 w4.drew := (Below.refl _ _).drew
      clear b4 ho rd4 dy ln4 hc0 hM hA hSq hS cm0 s3 HAg HJ HJ2 HSd HSq HF FJ B3 B4 KW d1 d2 d3 d4 wr0
      go_wp2_with fail
      go_region_held3 (fun wx => wx.cell? ⟨W.heap.size, 0, none⟩ = some (.slice fa K fc)) (first | exact HC4.out _ D3 | exact HC4.out _ D2 | exact HC4.out _ D1 | exact HC4.out _ D0) (first | (have hq := D2; clear hq; (go_at_call 16; refine Calls.mono (HAgw.out _ D2 xs us a5 a6 c5 c6 F6.out.1 F6.out.2.1 F6.out.2.2.1 F6.out.2.2.2) ?_; rintro e6 z3 ⟨rfl, t3⟩; have D3 := D2.trans (t3.mono D2.size))) | (have hq := D1; clear hq; (go_at_call 13; refine Calls.mono (HJ2w.out _ D1) ?_; rintro e6 z2 ⟨t2, us, a6, c6, rfl, rd6, d6⟩; have D2 := D1.trans (t2.mono D1.size); have F6 := Lib.hid (And.intro (F5.out.1.later t2) (And.intro rd6 (And.intro F5.out.2 d6))); clear rd6 d6 t2)) | (go_at_call 13; refine Calls.mono (HJw.out _ D0) ?_; rintro e6 z1 ⟨t1, xs, a5, c5, rfl, rd5, d5⟩; have D1 := D0.trans (t1.mono D0.size); have F5 := Lib.hid (And.intro rd5 d5); clear rd5 d5 t1) | (go_at_call 15; refine (num_sym _ _).mono ?_; rintro e6 wn ⟨rfl, rfl⟩))
      go_wp2
      go_ret
      exact ⟨rfl, KW4.out.trans (D3.mono KW4.out.size)⟩
    | false =>
      go_wp2
      go_ret
      exact ⟨rfl, HA1.out.trans (B3.out.mono HA1.out.size)⟩
end Go.Proofs.Ytemdhpjoakldhaa

namespace Go.Proofs.Ytemdhpjoakldhaa
open Go.RowKit Go.Maps
set_option linter.unusedVariables false

set_option maxRecDepth 100000 in
set_option maxHeartbeats 8000000 in
theorem nothingBack_walk {W : World} {fa : Option Addr} {nf fc : Nat} {fs : List FamD} (hr : RdF W (.slice fa nf fc) fs) (hn : fa = none → fc = 0) (clock more : Int) {va vb : Value} {la lb : List EntD} (h0 : RdE3U W va la) (h1 : RdE3U W vb lb) :
    Calls Try.prog 8 #[.agg #[.slice fa nf fc], .int .i64 clock, .int .i64 more, va, vb] W fun e w' => e = .returned (.bool true) ∧ Below W.heap.size W w' := by
  obtain ⟨aa, ca, rfl, h0, la1, sa⟩ := h0
  obtain ⟨ab, cb, rfl, h1, lb1, sb⟩ := h1
  obtain ⟨C, hC⟩ : ∃ C : Nat, (C = 0 ↔ SchemaOk fs) ∧ (C = 0 ∨ C = 28) := by
    by_cases h : SchemaOk fs
    · exact ⟨0, ⟨fun _ => h, fun _ => rfl⟩, .inl rfl⟩
    · exact ⟨28, ⟨(fun z => by cases z), fun z => absurd z h⟩, .inr rfl⟩
  obtain rfl : nf = fs.length := by
    obtain ⟨_, _, e, _⟩ := hr
    simp only [Value.slice.injEq] at e
    exact e.2.1
  obtain ⟨K, hK⟩ : ∃ K, K = fs.length := ⟨_, rfl⟩
  obtain ⟨NA, hNA⟩ : ∃ N, N = la.length := ⟨_, rfl⟩
  obtain ⟨NB, hNB⟩ : ∃ N, N = lb.length := ⟨_, rfl⟩
  obtain ⟨X0, hX0, A1, hcell⟩ := sch_box W fa K fc
  have up : ∀ Z, Below X0.heap.size X0 Z → Below W.heap.size W Z := fun Z b => A1.trans (b.mono A1.size)
  have HAp := Lib.hid (fun (Z : World) (b : Below X0.heap.size X0 Z) => apart_any (h0.later (up Z b)) (h1.later (up Z b)) (by omega) (by omega))
  have HJ := Lib.hid (fun (Z : World) (b : Below X0.heap.size X0 Z) => join_any (h0.later (up Z b)) (h1.later (up Z b)) sa sb (by omega))
  have HSd := Lib.hid (fun (Z : World) (b : Below X0.heap.size X0 Z) (zs : List EntD) (a' : Option Addr) (c' : Nat) (hz : RdL3 Z a' c' zs) (hl : zs.length ≤ 1353245080300) => sound_q (hr.later (up Z b)) hn C hC clock hz hl)
  have HVa := Lib.hid (fun (Z : World) (b : Below X0.heap.size X0 Z) (hE : visE C fs clock la = 0) => vis_good (hr.later (up Z b)) hn C hC clock (h0.later (up Z b)) (by omega) hE)
  have HVb := Lib.hid (fun (Z : World) (b : Below X0.heap.size X0 Z) (xs : List EntD) (a1 : Option Addr) (c1 : Nat) (k1 : RdL3 Z a1 c1 xs) (l1 : xs.length ≤ 1353245080300) (e1 : visE C fs (clock + more) xs = 0) => vis_good (hr.later (up Z b)) hn C hC (clock + more) k1 l1 e1)
  have HRa := Lib.hid (fun (Z : World) (b : Below X0.heap.size X0 Z) => h0.later (up Z b))
  have HC := Lib.hid hC
  have HLn : Hid (la.length ≤ 1048576 ∧ lb.length ≤ 1048576) := ⟨la1, lb1⟩
  rw [← hNA, ← hNB] at HAp HJ
  rw [← hK] at HSd HVa HVb
  rw [← hNA] at HVa
  rw [← hK, ← hNA, ← hNB]
  have HK := Lib.hid hK
  have HNA := Lib.hid hNA
  have HNB := Lib.hid hNB
  have HA1 := Lib.hid A1
  have HX0 := Lib.hid hX0
  have HC0 := Lib.hid hcell
  clear hr hn hC h0 h1 la1 lb1 sa sb hK hNA hNB hX0 A1 hcell up
  go_enter Try.func8, Try.ntmps8
  go_wp2_with fail
  rw [← HX0.out]
  refine Calls.mono (started3 _) ?_
  rintro e1 w1 ⟨rfl, b1⟩
  have B1 := Lib.hid b1
  have s1 := HC0.out _ b1
  have KW := Lib.hid (HA1.out.trans (b1.mono HA1.out.size))
  clear b1 HX0
  by_cases c1 : clock < 0
  · go_wp2_with fail
    go_quiet (fail)
    go_wp2
    go_ret
    exact ⟨rfl, below_drewN KW.out _⟩
  have d1 : decide (clock < 0) = false := decide_eq_false c1
  by_cases c2 : more < 0
  · go_wp2_with fail
    go_quiet (fail)
    go_wp2
    go_ret
    exact ⟨rfl, below_drewN KW.out _⟩
  have d2 : decide (more < 0) = false := decide_eq_false c2
  by_cases c3 : (1099511627776 : Int) < clock
  · go_wp2_with fail
    go_quiet (fail)
    go_wp2
    go_ret
    exact ⟨rfl, below_drewN KW.out _⟩
  have d3 : decide ((1099511627776 : Int) < clock) = false := decide_eq_false c3
  have wr0 : IntKind.i64.wrap (1099511627776 - clock) = 1099511627776 - clock := by simp [IntKind.wrap, IntKind.bits, IntKind.signed]; omega
  by_cases c4 : (1099511627776 - clock : Int) < more
  · go_wp2_with fail
    go_quiet (fail)
    go_wp2
    go_ret
    exact ⟨rfl, below_drewN KW.out _⟩
  have d4 : decide ((1099511627776 - clock : Int) < more) = false := decide_eq_false c4
  have HB0 : Hid (0 ≤ clock ∧ clock ≤ 1099511627776 ∧ 0 ≤ more ∧ clock + more ≤ 1099511627776) := ⟨by omega, by omega, by omega, by omega⟩
  cases hap : apartS la lb with
  | false =>
    have HAf : Hid (∀ Z, Below X0.heap.size X0 Z → Calls Try.prog 11 #[.slice aa NA ca, .slice ab NB cb] Z fun r w' => r = .returned (.bool false) ∧ ∃ n, w' = Z.drewN n) := fun Z b => by
      have := HAp.out Z b
      rw [hap] at this
      exact this
    clear hap HAp
    go_wp2_with fail
    go_quiet (first | (go_at_call 11; with_reducible exact Calls.quiet_of (HAf.out _ (below_dn B1.out _))))
    go_wp2
    go_ret
    exact ⟨rfl, below_drewN KW.out _⟩
  | true =>
    have HAf : Hid (∀ Z, Below X0.heap.size X0 Z → Calls Try.prog 11 #[.slice aa NA ca, .slice ab NB cb] Z fun r w' => r = .returned (.bool true) ∧ ∃ n, w' = Z.drewN n) := fun Z b => by
      have := HAp.out Z b
      rw [hap] at this
      exact this
    have HApt := Lib.hid (apart_iff.1 hap)
    have D0 : Below X0.heap.size X0 w1.drew := B1.out.drew
    clear hap HAp
    go_wp2_with fail
    go_region_held3 (fun wx => wx.cell? ⟨W.heap.size, 0, none⟩ = some (.slice fa K fc)) (first | exact HC0.out _ D3 | exact HC0.out _ D2 | exact HC0.out _ D1 | exact HC0.out _ D0) (first | (have hq := D2; clear hq; (go_at_call 12; refine Calls.mono (HSd.out _ D2 zs aj cj FJ.out.1 FJ.out.2.2) ?_; rintro e2 z3 ⟨q, rfl, hq9, t3⟩; have HQ9 := Lib.hid hq9; clear hq9; have D3 := D2.trans (t3.mono D2.size))) | (have hq := D1; clear hq; (go_at_call 13; refine Calls.mono (HJ.out _ D1) ?_; rintro e2 z2 ⟨t2, zs, aj, cj, rfl, rdj, dj⟩; have D2 := D1.trans (t2.mono D1.size); have FJ := Lib.hid (And.intro rdj (And.intro dj (show zs.length ≤ 1353245080300 by have := len_of_dat dj; rw [List.length_append, List.length_map, List.length_map] at this; have := HLn.out; omega))); clear rdj dj t2)) | (go_at_call 11; refine Calls.mono (HAf.out _ D0) ?_; rintro e2 z1 ⟨rfl, t1⟩; have D1 := D0.trans ((dn_below t1).mono D0.size); clear t1))
    have s3 := HC0.out _ D3
    have B3 := Lib.hid D3
    clear t3 D0 D1 D2 D3 HAf s1
    cases q with
    | true =>
      have hv := HQ9.out.1 rfl
      obtain ⟨hc0, hio⟩ := vis_zero hv
      obtain ⟨M, hM⟩ := ord_exists hio
      rw [FJ.out.2.1] at hM
      have hiA := hM.part (l := la) (fun e he => List.mem_append_left _ he)
      have hVi : visE C fs clock la = 0 := vis_of hc0 HB0.out.1 HB0.out.2.1 hiA
      have HF := Lib.hid (And.intro hc0 (And.intro hM hVi))
      clear hc0 hio hM hiA hVi hv
      go_wp2_with fail
      refine Calls.mono (HVa.out _ B3.out HF.out.2.2) ?_
      rintro e4 w4 ⟨b4, vs, mA, a4, c4, hA, rfl, rd4, dv, ln4⟩
      rw [HK.out] at hA
      have B4 := Lib.hid (B3.out.trans (b4.mono B3.out.size))
      have s4 := HC0.out _ B4.out
      have F4 := Lib.hid (And.intro hA (And.intro rd4 (And.intro dv ln4)))
      have HJw := Lib.hid (fun (Z : World) (b : Below w4.heap.size w4 Z) => HJ.out Z (B4.out.trans (b.mono B4.out.size)))
      have HVw : Hid (∀ (Z : World), Below w4.heap.size w4 Z → ∀ (xs : List EntD) (a1 : Option Addr) (c1 : Nat), RdL3 Z a1 c1 xs → xs.map EntD.dat = la.map EntD.dat ++ lb.map EntD.dat → Calls Try.prog 18 #[.agg #[.slice fa K fc], .int .i64 (clock + more), .slice a1 xs.length c1] Z fun r W' => Below Z.heap.size Z W' ∧ ∃ (us : List EntD) (a' : Option Addr) (c' : Nat), r = .returned (.tuple #[.slice a' us.length c', .int .i64 0]) ∧ RdL3 W' a' c' us ∧ us.length ≤ 1353245080300 ∧ us.map EntD.dat = (M.filter fun x => shw 1099511627776 (sv (mt fs) (clock + more) M x)).map (tld M)) := fun Z b xs a1 c1 k1 dx => by
        have hi1 : inOrderE (check3S fs.length) xs = 0 := HF.out.2.1.part (fun e he => dx ▸ he)
        have l1 : xs.length ≤ 1353245080300 := by have := len_of_dat dx; rw [List.length_append, List.length_map, List.length_map] at this; have := HLn.out; omega
        have e1 := vis_of (C := C) (fs := fs) (clock := clock + more) HF.out.1 (by have := HB0.out; omega) HB0.out.2.2.2 hi1
        refine Calls.mono (HVb.out Z (B4.out.trans (b.mono B4.out.size)) xs a1 c1 k1 l1 e1) ?_
        rintro r W' ⟨bb, us, m', a', c', ho, rfl, hrd, e, ln⟩
        rw [HK.out, dx] at ho
        have em := ho.unique HF.out.2.1
        subst em
        exact ⟨bb, us, a', c', rfl, hrd, by omega, e⟩
      have wr1 : IntKind.i64.wrap (clock + more) = clock + more := by have := HB0.out; simp [IntKind.wrap, IntKind.bits, IntKind.signed]; omega
      have HC4 : Hid (∀ Z, Below w4.heap.size w4 Z → Z.cell? ⟨W.heap.size, 0, none⟩ = some (.slice fa K fc)) := fun Z b => HC0.out _ (B4.out.trans (b.mono B4.out.size))
      have D0 : Below w4.heap.size w4 w4.drew := (Below.refl _ _).drew
      clear b4 hA rd4 dv ln4 s3 HJ HSd HVa HVb FJ B3 KW d1 d2 d3 d4 wr0
      go_wp2_with fail
      go_region_held3 (fun wx => wx.cell? ⟨W.heap.size, 0, none⟩ = some (.slice fa K fc)) (first | exact HC4.out _ D2 | exact HC4.out _ D1 | exact HC4.out _ D0) (first | (have hq := D1; clear hq; (go_at_call 18; refine Calls.mono (HVw.out _ D1 xs a5 c5 F5.out.1 F5.out.2) ?_; rintro e6 z3 ⟨t3, us, a6, c6, rfl, rd6, l6, d6⟩; have D2 := D1.trans (t3.mono D1.size); have F6 := Lib.hid (And.intro rd6 (And.intro l6 d6)); clear t3 rd6 l6 d6)) | (go_at_call 13; refine Calls.mono (HJw.out _ D0) ?_; rintro e6 z1 ⟨t1, xs, a5, c5, rfl, rd5, d5⟩; have D1 := D0.trans (t1.mono D0.size); have F5 := Lib.hid (And.intro rd5 d5); clear rd5 d5 t1))
      have BW := Lib.hid (B4.out.trans (D2.mono B4.out.size))
      have HSv : Hid (∀ Z, Below z3.heap.size z3 Z → ∀ x ∈ la, Calls Try.prog 20 #[.slice a4 vs.length c4, .agg x.cells] Z fun r w' => ∃ q : Bool, r = .returned (.bool q) ∧ (q = true ↔ ∃ y ∈ vs, hit y.dat x.dat) ∧ Below Z.heap.size Z w') := fun Z b x hx => by
        have b4 := D2.trans (b.mono D2.size)
        exact shown_any (F4.out.2.1.later b4) ((HRa.out Z (B4.out.trans (b4.mono B4.out.size))).ok x hx) (by have := F4.out.2.2.2; rw [HNA.out] at this; have := HLn.out; omega)
      have HSu : Hid (∀ Z, Below z3.heap.size z3 Z → ∀ x ∈ la, Calls Try.prog 20 #[.slice a6 us.length c6, .agg x.cells] Z fun r w' => ∃ q : Bool, r = .returned (.bool q) ∧ (q = true ↔ ∃ y ∈ us, hit y.dat x.dat) ∧ Below Z.heap.size Z w') := fun Z b x hx => by
        have b4 := D2.trans (b.mono D2.size)
        exact shown_any (F6.out.1.later b) ((HRa.out Z (B4.out.trans (b4.mono B4.out.size))).ok x hx) F6.out.2.1
      have HRz : Hid (∀ Z, Below z3.heap.size z3 Z → RdL3 Z aa ca la) := fun Z b => HRa.out Z (BW.out.trans (b.mono BW.out.size))
      have HNb : Hid (∀ x ∈ la, x.kind = 1 → (∃ y ∈ us, hit y.dat x.dat) → ∃ y ∈ vs, hit y.dat x.dat) := fun x hx k1 h => nothingBack_pure (HC.out.1.1 HF.out.1) (show clock ≤ clock + more by have := HB0.out; omega) F4.out.1 HF.out.2.1 F4.out.2.2.1 F6.out.2.2 hx k1 h
      have KZ := Lib.hid (HA1.out.trans (BW.out.mono HA1.out.size))
      have hca : NA ≤ ca := by rw [HNA.out]; exact (HRz.out _ (Below.refl _ _)).cap.1
      have hna : NA ≤ 1048576 := by rw [HNA.out]; exact HLn.out.1
      clear D0 D1 D2 F4 F5 F6 HF HC4 s4 HVw HJw HRa B4 BW
      go_wp2_with (go_at_call 15; refine (num_sym _ _).mono ?_; rintro e1 wn ⟨rfl, rfl⟩)
      go_loopw [16] (fun i wr => ∃ k : Nat, k ≤ NA ∧ i = .int .i64 (k : Int) ∧ Hid (Below z3.heap.size z3 wr)) (fun i _ => NA - (intOf i).toNat)
      case atStart => exact ⟨0, Nat.zero_le _, rfl, Below.refl _ _⟩
      case round =>
        obtain ⟨k, hk, rfl, HB⟩ := hrel
        have k0 : (0 : Int) ≤ (k : Int) := by omega
        by_cases hlt : k < NA
        · have hlt2 : (k : Int) < (NA : Int) := by omega
          obtain ⟨x, hx⟩ : ∃ x, la[k]? = some x := ⟨la[k]'(by rw [← HNA.out]; exact hlt), List.getElem?_eq_getElem _⟩
          obtain ⟨ba, oa, rfl⟩ : ∃ b off, aa = some ⟨b, off, none⟩ := by
            rcases (HRz.out _ HB.out).at_ with h0 | ⟨b, off, q, _⟩
            · rw [h0] at hx; simp at hx
            · exact ⟨b, off, q⟩
          have HXm := Lib.hid (List.mem_of_getElem? hx)
          have HCs : Hid (∀ Z, Below z3.heap.size z3 Z → Z.cell? ⟨ba, oa + k * 7, none⟩ = some x.vr ∧ Z.cell? ⟨ba, oa + k * 7 + 1, none⟩ = some (.int .i64 x.fam) ∧ Z.cell? ⟨ba, oa + k * 7 + 2, none⟩ = some x.vq ∧ Z.cell? ⟨ba, oa + k * 7 + 3, none⟩ = some (.int .i64 x.ts) ∧ Z.cell? ⟨ba, oa + k * 7 + 4, none⟩ = some (.int .i64 x.seq) ∧ Z.cell? ⟨ba, oa + k * 7 + 5, none⟩ = some (.int .i64 x.kind) ∧ Z.cell? ⟨ba, oa + k * 7 + 6, none⟩ = some x.vv) := fun Z b => by
            have cx := (HRz.out _ b).cells (Below.refl _ _) hx
            exact ⟨by have := cx 0 _ rfl; simpa using this, cx 1 _ rfl, cx 2 _ rfl, cx 3 _ rfl, cx 4 _ rfl, cx 5 _ rfl, cx 6 _ rfl⟩
          obtain ⟨y0, y1, y2, y3, y4, y5, y6⟩ := HCs.out _ HB.out
          clear hx
          by_cases k1 : x.kind = 1
          · have k9 : (x.kind == 1) = true := by simpa using k1
            have HK1 := Lib.hid k1
            have HS1 := Lib.hid (HSv.out _ HB.out x HXm.out)
            unfold EntD.cells at HS1
            clear k1
            go_wp2_with fail
            refine Calls.mono HS1.out ?_
            rintro r5 w5 ⟨q5, rfl, hq5, b5⟩
            have B5 := Lib.hid (HB.out.trans (b5.mono HB.out.size))
            have HQ5 := Lib.hid hq5
            clear b5 hq5 HS1 y0 y1 y2 y3 y4 y5 y6
            obtain ⟨y0, y1, y2, y3, y4, y5, y6⟩ := HCs.out _ B5.out
            cases q5 with
            | true =>
              go_wp2
              go_roundw
              case rel => exact ⟨k + 1, by omega, by go_num, B5.out⟩
              case measure => simp only [intOf]; omega
            | false =>
              have HS2 := Lib.hid (HSu.out _ B5.out x HXm.out)
              unfold EntD.cells at HS2
              go_wp2_with fail
              refine Calls.mono HS2.out ?_
              rintro r6 w6 ⟨q6, rfl, hq6, b6⟩
              have B6 := Lib.hid (B5.out.trans (b6.mono B5.out.size))
              obtain rfl : q6 = false := by
                cases q6 with
                | false => rfl
                | true => exact absurd (HQ5.out.2 (HNb.out x HXm.out HK1.out (hq6.1 rfl))) (by simp)
              clear b6 hq6 HS2
              go_wp2
              go_roundw
              case rel => exact ⟨k + 1, by omega, by go_num, B6.out⟩
              case measure => simp only [intOf]; omega
          · have k9 : (x.kind == 1) = false := by simpa using k1
            clear k1
            go_wp2
            go_roundw
            case rel => exact ⟨k + 1, by omega, by go_num, HB.out⟩
            case measure => simp only [intOf]; omega
        · have hgt : ¬ (k : Int) < (NA : Int) := by omega
          go_wp2
          go_ret
          exact ⟨rfl, KZ.out.trans (HB.out.mono KZ.out.size)⟩
    | false =>
      go_wp2
      go_ret
      exact ⟨rfl, HA1.out.trans (B3.out.mono HA1.out.size)⟩
end Go.Proofs.Ytemdhpjoakldhaa

namespace Go.Proofs.Ytemdhpjoakldhaa
open Go.ChangeShapes Go.WideShapes Go.ChangeAt Go.RowKit
set_option linter.unusedVariables false

set_option maxRecDepth 100000 in
theorem open_entcU {H : Type} {enc : TypeId × Value → H} {W : World} {base fuel : Nat} {held : Bool} {cs : List Value} {x : DataW H × List MemPlace} (h : DataW.trod enc Try.prog W base (fun _ => true) held fuel 38 cs = some x) (hl : cs.length = 7) (hk : (x.1.weights Try.prog 38).all (fun x => decide (x ≤ reachBytes)) = true) :
    ∃ e : EntD, cs = e.cells.toList ∧ EntD.Ok W e ∧ Shrt e := by
  obtain ⟨d, p⟩ := x
  obtain ⟨e, h1, h2, _, h4⟩ := open_entry (v := .agg cs.toArray) (d := d) (p := p) ⟨fuel, by simpa [Value.cells] using h⟩ ⟨cs.toArray, rfl, by rw [cells_entry]; simpa using hl⟩
  have h5 := h4 hk
  refine ⟨e, ?_, h2 ⟨by omega, by omega, by omega⟩, by unfold Shrt; omega⟩
  have : cs.toArray = e.cells := by injection h1
  rw [← this]

set_option maxRecDepth 100000 in
/-- A list of entries that came in. -/
theorem open_entsU {H : Type} {enc : TypeId × Value → H} {W : World} {base : Nat} {held : Bool} {v : Value} {d : DataW H} {p : List MemPlace} (h0 : DataW.Trod enc Try.prog W base (fun _ => true) held 25 v d p) (hv : ∃ a n c, v = .slice a n c)
    (hk : (d.weights Try.prog 25).all (fun x => decide (x ≤ reachBytes)) = true) (hu : Rows.uptoBulk d ≤ 1048576) :
    ∃ xs, RdE3U W v xs := by
  obtain ⟨a, n, c, rfl⟩ := hv
  obtain ⟨fuel2, hf2⟩ := h0
  have hs2 : (DataW.weightsEach Try.prog [25] ([d] ++ [])).all (fun x => decide (x ≤ reachBytes)) = true := by
    simpa [DataW.weightsEach] using hk
  rcases Deep.open_slice und_ents hf2 with ⟨hcs, hx⟩ | ⟨x, l, c', m, k, D, Pl, hcs, _, hl, hm, hmm, hx, hel⟩
  · simp [Value.cells] at hcs
    obtain ⟨rfl, rfl, rfl⟩ := hcs
    exact ⟨[], none, 0, rfl, ⟨⟨Nat.le_refl _, Nat.zero_le _⟩, .inl rfl, fun x hx => by cases hx⟩, by simp, fun x hx => by cases hx⟩
  · simp [Value.cells] at hcs
    obtain ⟨rfl, rfl, rfl⟩ := hcs
    simp only [if_true] at hmm
    simp only [Prod.mk.injEq] at hx
    obtain ⟨hx1, _⟩ := hx
    have hn : n ≤ 1353245080300 := by
      rw [hx1] at hs2
      have := sized_slice hs2 (j := 0) (t := 25) rfl rfl und_ents
      rw [show Try.prog.bytesOf 38 = 104 by kernel_rfl] at this
      simp at this
      unfold reachBytes at this
      omega
    have hbk : n ≤ 1048576 := by
      rw [hx1] at hu
      simp only [Rows.uptoBulk] at hu
      have key : ∀ ds : List (DataW H), ds.length ≤ Rows.uptoBulkAll ds := by
        intro ds
        induction ds with
        | nil => exact Nat.zero_le _
        | cons d ds ih =>
          have h1 : 1 ≤ Rows.uptoBulk d := by
            cases d with
            | lit l => cases l <;> simp only [Rows.uptoBulk] <;> omega
            | nil => simp only [Rows.uptoBulk]; omega
            | ptr d => simp only [Rows.uptoBulk]; omega
            | slice e s => simp only [Rows.uptoBulk]; omega
            | agg p => simp only [Rows.uptoBulk]; omega
            | iface t d => simp only [Rows.uptoBulk]; omega
            | map e => simp only [Rows.uptoBulk]; omega
            | held h => simp only [Rows.uptoBulk]; omega
          simp only [Rows.uptoBulkAll, List.length_cons]
          omega
      have := key ((List.range n).map D)
      rw [List.length_map, List.length_range] at this
      omega
    have hwt : ∀ j, j < n → ((D j).weights Try.prog 38).all (fun x => decide (x ≤ reachBytes)) = true := by
      intro j hj
      rw [hx1] at hk
      simp only [DataW.weights, und_ents, List.all_cons, List.all_append, Bool.and_eq_true] at hk
      exact weight_allE hk.2.1 (by simp only [List.mem_map, List.mem_range]; exact ⟨j, hj, rfl⟩)
    rw [cells_entry] at hel
    have hop : ∀ i, i < n → ∃ e : EntD, (∀ j y, e.cells.toList[j]? = some y → W.cell? ((x.add (i * 7)).add j) = some y) ∧ EntD.Ok W e ∧ Shrt e := by
      intro i hi
      obtain ⟨cs', hc1, hc2⟩ := hel i (by omega)
      obtain ⟨_, hlen, hget⟩ := World.cells?_some hc1
      obtain ⟨e, rfl, hok⟩ := open_entcU hc2 hlen (hwt i hi)
      refine ⟨e, fun j y hj => ?_, hok⟩
      have hj7 : j < 7 := by
        have := (List.getElem?_eq_some_iff.1 hj).1
        simpa [EntD.cells] using this
      rw [hget j hj7]
      exact hj
    have build : ∀ q, q ≤ n → ∃ fs : List EntD, fs.length = q ∧ ∀ i f, fs[i]? = some f → (∀ j y, f.cells.toList[j]? = some y → W.cell? ((x.add (i * 7)).add j) = some y) ∧ EntD.Ok W f ∧ Shrt f := by
      intro q
      induction q with
      | zero => intro _; exact ⟨[], rfl, fun i o h => by simp at h⟩
      | succ q ih =>
        intro hq
        obtain ⟨os, hol, hos⟩ := ih (by omega)
        obtain ⟨o, ho⟩ := hop q (by omega)
        refine ⟨os ++ [o], by simp [hol], fun i o' h => ?_⟩
        by_cases hi : i < os.length
        · rw [List.getElem?_append_left hi] at h
          exact hos i o' h
        · rw [List.getElem?_append_right (by omega)] at h
          have hi2 : i = q := by
            by_cases h9 : i - os.length = 0
            · omega
            · rw [List.getElem?_eq_none (by simp; omega)] at h; cases h
          subst hi2
          rw [hol, Nat.sub_self] at h
          simp at h
          subst h
          exact ho
    obtain ⟨fs, hol, hos⟩ := build n (Nat.le_refl _)
    refine ⟨fs, some x, c, by rw [hol], ⟨⟨by omega, hm⟩, ?_, fun f hf => ?_⟩, by omega, fun f hf => ?_⟩
    · by_cases h0 : fs = []
      · exact .inl h0
      · have hin : 0 < fs.length := List.length_pos_iff.2 h0
        obtain ⟨b, off, spot⟩ := x
        obtain ⟨o, hc, _⟩ := hop 0 (by omega)
        have hc0 := hc 0 _ rfl
        have hspot : spot = none := by simpa [Addr.add] using World.cell?_spot hc0
        subst hspot
        have e : ∀ q r : Nat, ((⟨b, q, none⟩ : Addr).add r) = ⟨b, q + r, none⟩ := fun q r => by unfold Addr.add; split <;> simp_all
        refine .inr ⟨b, off, rfl, fun i f hi j u hj => ?_⟩
        have := (hos i f hi).1 j u hj
        rw [e, e] at this
        exact this
    · obtain ⟨i, hi⟩ := List.getElem?_of_mem hf
      exact (hos i f hi).2.1
    · obtain ⟨i, hi⟩ := List.getElem?_of_mem hf
      exact (hos i f hi).2.2
end Go.Proofs.Ytemdhpjoakldhaa
