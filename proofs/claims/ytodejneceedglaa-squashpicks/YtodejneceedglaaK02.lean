import Derived.Test.YtodejneceedglaaK01
namespace Go.Proofs.Ytodejneceedglaa
open Go.RowKit Go.Maps
set_option linter.unusedVariables false

def RunsOk (l : List MtD) : Prop := l.length ≤ 64 ∧ OkR l
open Classical in
noncomputable def ansR (w q m : Int) (l : List MtD) : List Int × Bool × Int :=
  if polS w q m = false then ([], false, 124) else if RunsOk l then ((wantR w.toNat q m.toNat l).1, (wantR w.toNat q m.toNat l).2, 0) else ([], false, 120)
theorem ans_pol {w q m : Int} {l : List MtD} (h : polS w q m = false) : ansR w q m l = ([], false, 124) := by unfold ansR; rw [if_pos h]
theorem ans_bad {w q m : Int} {l : List MtD} (h : polS w q m = true) (k : ¬ RunsOk l) : ansR w q m l = ([], false, 120) := by unfold ansR; rw [if_neg (by simp [h]), if_neg k]
theorem ans_ok {w q m : Int} {l : List MtD} (h : polS w q m = true) (k : RunsOk l) : ansR w q m l = ((wantR w.toNat q m.toNat l).1, (wantR w.toNat q m.toNat l).2, 0) := by unfold ansR; rw [if_neg (by simp [h]), if_pos k]
theorem pol_nums {w q m : Int} (h : polS w q m = true) : ∃ wn mn : Nat, w = (wn : Int) ∧ m = (mn : Int) ∧ 2 ≤ wn ∧ wn ≤ 16 ∧ 2 ≤ q ∧ q ≤ 64 ∧ mn ≤ 64 := by
  unfold polS at h
  simp only [Bool.and_eq_true, decide_eq_true_eq] at h
  exact ⟨w.toNat, m.toNat, by omega, by omega, by omega, by omega, by omega, by omega, by omega⟩
def PickP (W : World) (A : List Int × Bool × Int) (e : Ending) (W' : World) : Prop := ∃ v, e = .returned (.tuple #[v, .bool A.2.1, .int .i64 A.2.2]) ∧ OwnI W' W.heap.size v A.1 ∧ Below W.heap.size W W'
theorem pickL_snoc (l t : List MtD) (e : MtD) : pickL (l ++ [e]) t = pickL l t ++ (if (t.any fun x => x.num == e.num) = true then [e.num] else []) := by
  unfold pickL
  rw [List.filter_append, List.map_append]
  congr 1
  cases h : t.any fun x => x.num == e.num <;> simp [h]
structure Ch (W : World) (t : List MtD) (mb : Nat) (wr : World) (k : Nat) : Prop where
  map : ∃ n D, n ≤ k ∧ wr.ownsMap Try.prog 3 (plainElem Try.prog 3) mb n D ∧ MapN D (t.take k)
  below : Below W.heap.size W wr
  new : W.heap.size ≤ mb
theorem Ch.later {W wr wr' : World} {t : List MtD} {mb k : Nat} (h : Ch W t mb wr k) (b : Below wr.heap.size wr wr') : Ch W t mb wr' k := by
  obtain ⟨n, D, hn, hm, hq⟩ := h.map
  exact ⟨⟨n, D, hn, hm.kept (row := none) ⟨b.os, b.tape, b.output, b.size, fun i hi _ => b.block i hi⟩ (by simp), hq⟩, h.below.trans (b.mono h.below.size), h.new⟩
theorem pickL_le (l t : List MtD) : (pickL l t).length ≤ l.length := by
  unfold pickL
  rw [List.length_map]
  exact List.length_filter_le _ _
theorem own_ne_map {w : World} {B : Nat} {v : Value} {xs : List Int} {mb n : Nat} {D : DataW Unit} {R : Value → Option (DataW Unit × List MemPlace)} (h : OwnI w B v xs) (hm : w.ownsMap Try.prog 3 R mb n D) : v.ownBlock ≠ some mb := fun z => by
  obtain ⟨es, clock, hb, _⟩ := hm
  rcases h.2 with ⟨h1, _⟩ | ⟨g, cap, cur, h1, _, h3, _⟩
  · rw [h1] at z; cases z
  · rw [h1] at z
    cases z
    rw [h3] at hb
    cases hb
structure Pk (W Y : World) (l t : List MtD) (mb : Nat) (wr : World) (k pk : Nat) (v : Value) : Prop where
  len : pk = (pickL (l.take k) t).length
  own : OwnI wr Y.heap.size v (pickL (l.take k) t)
  map : ∃ n D, wr.ownsMap Try.prog 3 (plainElem Try.prog 3) mb n D ∧ MapN D t
  bw : Below W.heap.size W wr
  byy : Below Y.heap.size Y wr
theorem Pk.later {W Y wr wr' : World} {l t : List MtD} {mb k pk : Nat} {v : Value} (h : Pk W Y l t mb wr k pk v) (b : Below wr.heap.size wr wr') : Pk W Y l t mb wr' k pk v := by
  obtain ⟨n, D, hm, hq⟩ := h.map
  exact ⟨h.len, h.own.later b, ⟨n, D, hm.kept (row := none) ⟨b.os, b.tape, b.output, b.size, fun i hi _ => b.block i hi⟩ (by simp), hq⟩, h.bw.trans (b.mono h.bw.size), h.byy.trans (b.mono h.byy.size)⟩
set_option maxRecDepth 100000 in
set_option maxHeartbeats 4000000 in
theorem pick_any {W : World} {a : Option Addr} {cap : Nat} {w q m : Int} {l : List MtD} (hr : RdM W a cap l) :
    Calls Try.prog 4 #[.agg #[.int .i64 w, .int .i64 q, .int .i64 m], .slice a l.length cap] W fun e W' => PickP W (ansR w q m l) e W' := by
  obtain ⟨N, hN⟩ : ∃ N, N = l.length := ⟨_, rfl⟩
  obtain ⟨A, hA⟩ : ∃ A, A = ansR w q m l := ⟨_, rfl⟩
  rw [← hN, ← hA]
  have A1 := (Below.refl W.heap.size W).alloc (Nat.le_refl _) (.cells #[.int .i64 w, .int .i64 q, .int .i64 m] 23)
  have pb := PBox.new W w q m
  obtain ⟨X, hX⟩ : ∃ X, X = W.alloc (.cells #[.int .i64 w, .int .i64 q, .int .i64 m] 23) := ⟨_, rfl⟩
  rw [← hX] at A1 pb
  have HX := Lib.hid hX
  have HA := Lib.hid hA
  have HN := Lib.hid hN
  have HR := Lib.hid hr
  have HB := Lib.hid A1
  have HP := Lib.hid pb
  have p0 := pb.c0
  have p1 := pb.c1
  have p2 := pb.c2
  have HC1 := Lib.hid (isPolicy_any (W := X) w q m)
  obtain ⟨B1, hB1⟩ : ∃ B, B = polS w q m := ⟨_, rfl⟩
  rw [← hB1] at HC1
  have HB1 := Lib.hid hB1
  have hNm : N ≤ 9223372036854775807 := by have := hr.cap; unfold maxLen at this; omega
  clear hX hA hN hr A1 pb hB1
  go_enter Try.func4, Try.ntmps4
  go_upto_region 1 with fail
  rw [← HX.out]
  clear HX
  go_wp2_with fail
  refine Calls.mono HC1.out ?_
  rintro z X1 ⟨rfl, bx1⟩
  have b1 := HB.out.trans (bx1.mono HB.out.size)
  have HBb := Lib.hid b1
  have HP1 := Lib.hid (HP.out.later bx1)
  clear HC1 bx1 p0 p1 p2 HB HP
  cases B1 with
  | false =>
    have hA2 : A = ([], false, 124) := by rw [HA.out, ans_pol HB1.out.symm]
    clear b1
    go_wp2
    go_ret3
    rw [hA2]
    exact ⟨_, rfl, OwnI.nil _ _, HBb.out⟩
  | true =>
  obtain ⟨wn, mn, rfl, rfl, w2, w16, q2, q64, m64⟩ := pol_nums HB1.out.symm
  have HC2 := Lib.hid (areRuns_any (HR.out.later b1))
  rw [← HN.out] at HC2
  clear b1
  go_wp2_with fail
  refine Calls.mono HC2.out ?_
  rintro z X2 ⟨B2, rfl, hB2, bx2⟩
  have b2 := HBb.out.trans (bx2.mono HBb.out.size)
  have pb2 := HP1.out.later bx2
  have HB2 := Lib.hid hB2
  have HBc := Lib.hid b2
  clear HC2 bx2 hB2 HBb HP1
  cases B2 with
  | false =>
    have hA2 : A = ([], false, 120) := by
      rw [HA.out, ans_bad HB1.out.symm (fun k => by have := HB2.out.2 k; cases this)]
    clear b2 pb2
    go_wp2
    go_ret3
    rw [hA2]
    exact ⟨_, rfl, OwnI.nil _ _, HBc.out⟩
  | true =>
  have hok := HB2.out.1 rfl
  have HOk := Lib.hid hok
  have hA2 : A = ((wantR wn q mn l).1, (wantR wn q mn l).2, 0) := by
    rw [HA.out, ans_ok HB1.out.symm hok]
    simp
  have HA2 := Lib.hid hA2
  have p2 := pb2.c2
  have N64 : N ≤ 64 := by rw [HN.out]; exact hok.1
  have hr2 := HR.out.later b2
  have HR2 := Lib.hid hr2
  have HC3 := Lib.hid (fit_any hr2 hok.2.byt)
  rw [← HN.out] at HC3
  obtain ⟨F, hF⟩ : ∃ F, F = fitS maxB l := ⟨_, rfl⟩
  rw [← hF] at HC3
  have HF := Lib.hid hF
  have HP2 := Lib.hid pb2
  have HC4 := Lib.hid (fun wx (h : Below X2.heap.size X2 wx) => numsOf_any (hr2.later h) hok.1)
  rw [← HN.out] at HC4
  have HMain : Hid (¬ (mn < N ∧ F = true) → ∀ s, s.Perm l → Srt s → A = (pickL l (tierS wn q s), decide (0 < (pickL l (tierS wn q s)).length ∧ (pickL l (tierS wn q s)).length = N), 0)) := by
    intro hno s hp hs
    rw [HA2.out, ← want_is w2 hok.2 hp hs]
    unfold wantP
    rw [HN.out, HF.out] at hno
    rw [if_neg hno, HN.out]
  have HAll : Hid (mn < N → F = true → A = (l.map MtD.num, true, 0)) := by
    intro h1 h2
    rw [HA2.out, ← want_is w2 hok.2 (sortS_perm l) (sortS_srt hok.2.two)]
    unfold wantP
    rw [HN.out] at h1
    rw [HF.out] at h2
    rw [if_pos ⟨h1, h2⟩]
  clear hok hA2 hF hr2 pb2 HA HA2 HB1 HB2
  obtain ⟨C, hC⟩ : ∃ C : Bool, C = decide (mn < N ∧ F = true) := ⟨_, rfl⟩
  have HCe := Lib.hid hC
  clear hC
  go_upto_region 5 with fail
  go_cut [30] (fun b30 wx => b30 = .bool C ∧ Hid (Below X2.heap.size X2 wx ∧ Below W.heap.size W wx ∧ PBox wx W.heap.size (wn : Int) q (mn : Int)))
  case first =>
    by_cases hmn : mn < N
    · have hmn2 : (mn : Int) < (N : Int) := by omega
      have hCF : C = F := by rw [HCe.out]; cases F <;> simp [hmn]
      go_wp2_with fail
      refine Calls.mono HC3.out ?_
      rintro z X3 ⟨rfl, bx3⟩
      have HR3 : Hid (Below X2.heap.size X2 X3 ∧ Below W.heap.size W X3 ∧ PBox X3 W.heap.size (wn : Int) q (mn : Int)) := ⟨bx3, HBc.out.trans (bx3.mono HBc.out.size), HP2.out.later bx3⟩
      clear bx3 p2 HC3 HC4
      go_wp2_with fail
      go_meet
      exact ⟨by rw [hCF], HR3⟩
    · have hmn2 : ¬ (mn : Int) < (N : Int) := by omega
      have hCF : C = false := by rw [HCe.out]; simp [hmn]
      have HR3 : Hid (Below X2.heap.size X2 X2 ∧ Below W.heap.size W X2 ∧ PBox X2 W.heap.size (wn : Int) q (mn : Int)) := ⟨Below.refl _ _, HBc.out, HP2.out⟩
      clear HC4 HC3
      go_wp2_with fail
      go_meet
      exact ⟨by rw [hCF], HR3⟩
  case rest =>
    obtain ⟨rfl, HX3⟩ := hcut
    clear HC3 HP2 p2 b2
    cases C with
    | true =>
      have hcc : mn < N ∧ F = true := of_decide_eq_true HCe.out.symm
      have HC5 := Lib.hid (HC4.out _ HX3.out.1)
      have HA3 := Lib.hid (HAll.out hcc.1 hcc.2)
      clear HC4 hcc HCe HMain
      go_wp2_with fail
      refine Calls.mono HC5.out ?_
      rintro z X4 ⟨v, rfl, own, bx4⟩
      obtain ⟨av, cv, rfl⟩ := own.form
      rw [List.length_map, ← HN.out] at own ⊢
      have HO := Lib.hid own
      have HB4 := Lib.hid bx4
      clear own bx4 HC5
      go_wp2
      go_ret3
      rw [HA3.out]
      have h3 := HX3.out.2.1
      exact ⟨_, rfl, HO.out.low h3.size, h3.trans (HB4.out.mono h3.size)⟩
    | false =>
      have hno : ¬ (mn < N ∧ F = true) := of_decide_eq_false HCe.out.symm
      have HM := Lib.hid (HMain.out hno)
      clear HC4 HBc HAll HR2 HMain hno HCe
      have hr3 := HR.out.later HX3.out.2.1
      have HRw := Lib.hid hr3
      have HC6 := Lib.hid (fun wx (h : Below wc.heap.size wc wx) => rising_any (hr3.later h) HOk.out.1 HOk.out.2)
      rw [← HN.out] at HC6
      have HPw := Lib.hid HX3.out.2.2
      have HBw := Lib.hid HX3.out.2.1
      clear hr3 HX3
      go_upto_region 7 with fail
      have BD : Below wc.heap.size wc wc.drew := (Below.refl _ _).drew
      refine wp_region_noPanic ?_
      refine wp_region_held_drew (S := fun wx => Below wc.heap.size wc wx) (by kernel_rfl) BD (fun hHeld => ?_)
      refine wpAnyH_take (i := 0) (oi := { dst := some 33, op := _, type := _, pos := _, after := _, guard := _ }) (v := .agg #[.int .i64 (wn : Int), .int .i64 q, .int .i64 (mn : Int)]) rfl (by kernel_rfl) (by kernel_rfl) (by kernel_rfl) (fun _ _ _ h => h) (Or.inl ⟨by kernel_rfl, fun wy hy => by (have pb := HPw.out.later hy; have x0 := pb.c0; have x1 := pb.c1; have x2 := pb.c2; go_simp; done)⟩) (by assumption) ?_
      try simp only [Act.put, List.setIfInBounds_toArray, List.set_cons_zero, List.set_cons_succ]
      refine wpAnyH_take (i := 1) (oi := { dst := some 34, op := _, type := _, pos := _, after := _, guard := _ }) (v := .slice a N cap) rfl (by kernel_rfl) (by kernel_rfl) (by kernel_rfl) (fun _ _ _ h => h) (Or.inl ⟨by kernel_rfl, fun wy hy => by first | (go_simp; done)⟩) (by assumption) ?_
      try simp only [Act.put, List.setIfInBounds_toArray, List.set_cons_zero, List.set_cons_succ]
      refine wpAnyH_ready (rs := [2]) (by kernel_rfl) (by simp) ?_
      refine AllReadyH.cons (o := { dst := some 35, op := _, type := _, pos := _, after := _, guard := _ }) rfl (fun K hK => ?_) AllReadyH.nil
      go_simp
      go_at_call 13
      refine (HC6.out _ BD).mono ?_
      rintro e1 wf ⟨a7, c7, s7, rfl, len7, perm7, srt7, rd7, hbf⟩
      have hbf2 : Below wc.heap.size wc wf := BD.trans (hbf.mono BD.size)
      have HC7 := Lib.hid (firstTier_any (q := q) (m := (mn : Int)) ⟨w2, w16⟩ ⟨q2, q64⟩ rd7 (fun x hx => HOk.out.2.byt x (perm7.subset hx)) (by rw [len7]; exact N64))
      rw [len7] at HC7
      have HA7 := Lib.hid (HM.out s7 perm7 srt7)
      obtain ⟨t, ht⟩ : ∃ t, t = tierS wn q s7 := ⟨_, rfl⟩
      rw [← ht] at HC7 HA7
      clear hbf BD HC6 HM len7 perm7 srt7 rd7 ht
      go_wp2_with fail
      refine hK.out _ _ hbf2 (fun hHeld => ?_)
      clear hK K
      try simp only [Act.put, List.setIfInBounds_toArray, List.set_cons_zero, List.set_cons_succ]
      refine wpAnyH_ready (rs := [3]) (by kernel_rfl) (by simp) ?_
      refine AllReadyH.cons (o := { dst := some 36, op := _, type := _, pos := _, after := _, guard := _ }) rfl (fun K hK => ?_) AllReadyH.nil
      go_simp
      go_at_call 12
      refine HC7.out.mono ?_
      rintro e1 Y ⟨a8, c8, rfl, rd8, hb8⟩
      have hb9 : Below wc.heap.size wc Y := hbf2.trans (hb8.mono hbf2.size)
      clear hb8 hbf2 HC7
      go_wp2_with fail
      refine hK.out _ _ hb9 (fun hHeld => ?_)
      clear hK K
      try simp only [Act.put, List.setIfInBounds_toArray, List.set_cons_zero, List.set_cons_succ]
      refine wpAnyH_take (i := 4) (oi := { dst := some 7, op := _, type := _, pos := _, after := _, guard := _ }) (v := .slice a8 t.length c8) rfl (by kernel_rfl) (by kernel_rfl) (by kernel_rfl) (fun _ _ _ h => h) (Or.inl ⟨by kernel_rfl, fun wy hy => by first | (go_simp; done)⟩) (by assumption) ?_
      try simp only [Act.put, List.setIfInBounds_toArray, List.set_cons_zero, List.set_cons_succ]
      refine wpAnyH_done (by kernel_rfl) (NoPanic.normal ?_) _
      have HBy := Lib.hid (HBw.out.trans (hb9.mono HBw.out.size))
      have HRt := Lib.hid rd8
      have HRl := Lib.hid (HRw.out.later hb9)
      clear hb9 rd8 hHeld HBw HRw HPw
      go_simp
      go_step
      obtain ⟨tn, htn⟩ : ∃ tn, tn = t.length := ⟨_, rfl⟩
      rw [← htn]
      have HTn := Lib.hid htn
      have tm : tn ≤ 9223372036854775807 := by have := HRt.out.cap; unfold maxLen at this; omega
      have hmm := mkmap3 Y (tn : Int)
      have A3 := (Below.refl Y.heap.size Y).alloc (Nat.le_refl _) (.map #[] 0)
      obtain ⟨Y2, hY2⟩ : ∃ Y2, Y2 = Y.alloc (.map #[] 0) := ⟨_, rfl⟩
      have H2 : Hid (Ch W t Y.heap.size Y2 0) := by
        rw [hY2]
        exact ⟨⟨0, .map [], Nat.le_refl _, World.ownsMap_made Y Try.prog 3 (plainElem Try.prog 3), by simpa using MapN.nil⟩, HBy.out.trans (A3.mono HBy.out.size), HBy.out.size⟩
      rw [← hY2] at hmm A3
      have HA3 := Lib.hid A3
      obtain ⟨mb, hmb⟩ : ∃ mb, mb = Y.heap.size := ⟨_, rfl⟩
      have HWYe := Lib.hid HBy.out.size
      have Hmb : Hid (Y.heap.size ≤ mb) := Nat.le_of_eq hmb.symm
      rw [← hmb] at hmm H2
      clear hY2 A3 htn hmb HBy
      go_wp2
      go_loopw [42] (fun i wr => ∃ (k : Nat), k ≤ tn ∧ i = .int .i64 (k : Int) ∧ Hid (Ch W t mb wr k ∧ Below Y.heap.size Y wr)) (fun i _ => tn - (intOf i).toNat)
      case atStart => exact ⟨0, Nat.zero_le _, rfl, H2.out, HA3.out⟩
      case round =>
        clear hmm H2
        obtain ⟨k, hk, rfl, HO⟩ := hrel
        have k0 : (0 : Int) ≤ (k : Int) := by omega
        by_cases hlt : k < tn
        · have hlt2 := len_int hlt
          have hl2 : k < t.length := by rw [← HTn.out]; exact hlt
          obtain ⟨e, he⟩ : ∃ e, t[k]? = some e := ⟨t[k], List.getElem?_eq_getElem hl2⟩
          have hrd := HRt.out.later HO.out.2
          obtain ⟨b, off, rfl, cel⟩ := hrd.cel he
          obtain ⟨d0, d1, d2, d3, d4, d5, d6, d7⟩ := cel
          have hcap := hrd.cap
          have h64 := hrd.num e (List.mem_of_getElem? he)
          have A5 := (Below.refl wr.heap.size wr).alloc (Nat.le_refl _) (.cells e.cells 31)
          have eb := MBox.new wr e
          obtain ⟨X, hX⟩ : ∃ X, X = wr.alloc (.cells e.cells 31) := ⟨_, rfl⟩
          rw [← hX] at A5 eb
          have HO2 := Lib.hid (HO.out.1.later A5)
          have HBx := Lib.hid (HO.out.2.trans (A5.mono HO.out.2.size))
          have e0 := eb.num
          have HT : Hid (t.take (k + 1) = t.take k ++ [e]) := by
            unfold Hid; rw [List.take_add_one, he]; rfl
          have HK := Lib.hid (key64 h64.1)
          unfold MtD.cells at hX
          have HX := Lib.hid hX
          clear hrd he A5 eb hX hl2 HO h64
          go_upto_region 12 with fail
          rw [← HX.out]
          clear HX d0 d1 d2 d3 d4 d5 d6 d7
          obtain ⟨n, D, hnk, hm, hmq⟩ := HO2.out.map
          have HM := Lib.hid hm
          have HMQ := Lib.hid hmq
          clear hm hmq
          have hnm : n < maxLen := by unfold maxLen; omega
          have hvl : plainElem (H := Unit) Try.prog 3 (.int .i64 (k : Int)) = some (.lit (.int .i64 (k : Int)), []) := plainElem_int und_int (wf64 ⟨by omega, by omega⟩)
          have HVl := Lib.hid hvl
          clear hvl
          go_wp2_with (refine wpList_mapUpdate_own (H := Unit) X rfl _ _ _ 42 rfl 3 3 keyed3 und_mii (plainElem Try.prog 3) mb n D rfl HM.out hnm _ _ (.int .i64 e.num) rfl rfl HK.out _ _ HVl.out ?_)
          intro X2 hm2 hg2
          have HO4 : Hid (Ch W t mb X2 (k + 1) ∧ Below Y.heap.size Y X2) := by
            have o := HO2.out
            refine ⟨⟨⟨n + 1, _, by omega, hm2, ?_⟩, o.below.grown hg2 o.below.size (fun g z => by cases z; exact o.new), o.new⟩, HBx.out.grown hg2 HBx.out.size (fun g z => by cases z; exact Hmb.out)⟩
            rw [HT.out]
            exact HMQ.out.put e (k : Int)
          clear hm2 hg2
          go_wp2
          go_roundw
          case rel => exact ⟨k + 1, by omega, by go_num, HO4⟩
          case measure => simp only [intOf]; omega
        · have hge : ¬ (k : Int) < (tn : Int) := by omega
          have hk2 : t.take k = t := List.take_of_length_le (by rw [← HTn.out]; omega)
          have HMt : Hid (∃ n D, wr.ownsMap Try.prog 3 (plainElem Try.prog 3) mb n D ∧ MapN D t) := by
            obtain ⟨n, D, _, h1, h2⟩ := HO.out.1.map
            rw [hk2] at h2
            exact ⟨n, D, h1, h2⟩
          have HBr := Lib.hid HO.out.1.below
          have HBy := Lib.hid HO.out.2
          have Hnew := Lib.hid HO.out.1.new
          clear hk2 HO HRt HTn
          have H3 : Hid (Pk W Y l t mb wr 0 0 (.slice none 0 0)) := ⟨by simp [pickL], by simpa [pickL] using OwnI.nil _ _, HMt.out, HBr.out, HBy.out⟩
          clear HMt HBr Hnew
          have HWY : Hid (W.heap.size ≤ Y.heap.size) := HWYe.out
          go_wp2
          clear hge hk k0 hlt
          go_loopw [11, 54] (fun o i wr => ∃ (k pk : Nat) (a' : Option Addr) (c' : Nat), k ≤ N ∧ i = .int .i64 (k : Int) ∧ o = .slice a' pk c' ∧ Hid (Pk W Y l t mb wr k pk (.slice a' pk c'))) (fun _ i _ => N - (intOf i).toNat)
          case atStart => exact ⟨0, 0, none, 0, Nat.zero_le _, rfl, rfl, H3⟩
          case round =>
            clear H3
            obtain ⟨k, pk, a', c', hk, rfl, rfl, HO⟩ := hrel
            have k0 : (0 : Int) ≤ (k : Int) := by omega
            by_cases hlt : k < N
            · have hlt2 := len_int hlt
              have hl2 : k < l.length := by rw [← HN.out]; exact hlt
              obtain ⟨e, he⟩ : ∃ e, l[k]? = some e := ⟨l[k], List.getElem?_eq_getElem hl2⟩
              have hrd := HRl.out.later HO.out.byy
              obtain ⟨b, off, rfl, cel⟩ := hrd.cel he
              obtain ⟨d0, d1, d2, d3, d4, d5, d6, d7⟩ := cel
              have hcap := hrd.cap
              have h64 := hrd.num e (List.mem_of_getElem? he)
              have A5 := (Below.refl wr.heap.size wr).alloc (Nat.le_refl _) (.cells e.cells 31)
              have eb := MBox.new wr e
              obtain ⟨X, hX⟩ : ∃ X, X = wr.alloc (.cells e.cells 31) := ⟨_, rfl⟩
              rw [← hX] at A5 eb
              have HO2 := Lib.hid (HO.out.later A5)
              have e0 := eb.num
              have HT : Hid (l.take (k + 1) = l.take k ++ [e]) := by
                unfold Hid; rw [List.take_add_one, he]; rfl
              have HK := Lib.hid (key64 h64.1)
              have hpk : pk ≤ 64 := by
                have h1 := HO.out.len
                have h2 := pickL_le (l.take k) t
                rw [List.length_take] at h2
                omega
              unfold MtD.cells at hX
              have HX := Lib.hid hX
              clear hrd he A5 eb hX hl2 HO h64
              go_upto_region 18 with fail
              rw [← HX.out]
              clear HX d0 d1 d2 d3 d4 d5 d6 d7
              obtain ⟨n, D, hm, hmq⟩ := HO2.out.map
              have HM := Lib.hid hm
              have HMQ := Lib.hid hmq
              clear hm hmq
              go_wp2_with (at_lookup; refine wpList_lookup_own_ok_int (H := Unit) X rfl _ _ 42 rfl 3 3 .i64 keyed3 und_mii und_int (zero3 X) mb n D rfl HM.out _ (.int .i64 e.num) rfl HK.out ?_)
              intro c hat hwc
              rw [HMQ.out.has]
              clear hat hwc
              obtain ⟨y, hy⟩ : ∃ y, y = t.any fun x => x.num == e.num := ⟨_, rfl⟩
              rw [← hy]
              have HY := Lib.hid hy
              clear hy
              cases y with
              | false =>
                have HO4 : Hid (Pk W Y l t mb X (k + 1) pk (.slice a' pk c')) := by
                  have o := HO2.out
                  have hpe : pickL (l.take (k + 1)) t = pickL (l.take k) t := by rw [HT.out, pickL_snoc, ← HY.out]; simp
                  exact ⟨by rw [hpe]; exact o.len, by rw [hpe]; exact o.own, o.map, o.bw, o.byy⟩
                go_wp2
                go_roundw
                case rel => exact ⟨k + 1, pk, a', c', by omega, by go_num, rfl, HO4⟩
                case measure => simp only [intOf]; omega
              | true =>
                go_wp2_with (at_builtin; refine wpl_append_num rfl _ _ rfl Y.heap.size a' c' _ pk HO2.out.len rfl HO2.out.own e.num rfl (by rw [← HO2.out.len]; omega) HO2.out.byy.size ?_)
                intro a4 c4 X4 row4 gr4 bel4
                have HO4 : Hid (Pk W Y l t mb X4 (k + 1) (pk + 1) (.slice a4 (pk + 1) c4)) := by
                  have o := HO2.out
                  have hpe : pickL (l.take (k + 1)) t = pickL (l.take k) t ++ [e.num] := by rw [HT.out, pickL_snoc, ← HY.out]; simp
                  exact ⟨by rw [hpe, List.length_append, ← o.len]; rfl, by rw [hpe]; exact row4, ⟨n, D, HM.out.kept gr4 (fun z => own_ne_map o.own HM.out z.symm), HMQ.out⟩, o.bw.trans (bel4.mono HWY.out), o.byy.trans bel4⟩
                clear row4 gr4 bel4
                go_wp2
                go_roundw
                case rel => exact ⟨k + 1, pk + 1, a4, c4, by omega, by go_num, rfl, HO4⟩
                case measure => simp only [intOf]; omega
            · have hge : ¬ (k : Int) < (N : Int) := by omega
              have hk2 : l.take k = l := List.take_of_length_le (by rw [← HN.out]; omega)
              have hpl := HO.out.len
              have hown := HO.out.own
              rw [hk2] at hpl hown
              have HOw := Lib.hid hown
              have HBe := Lib.hid HO.out.bw
              have hA9 := HA7.out
              rw [← hpl] at hA9
              have hpk : pk ≤ 64 := by
                have h2 := pickL_le l t
                rw [← HN.out] at h2
                omega
              have HA9 := Lib.hid hA9
              clear hk2 hpl hown hA9 HO
              have hend : ∀ B : Bool, decide (0 < pk ∧ pk = N) = B → PickP W A (.returned (.tuple #[.slice a' pk c', .bool B, .int .i64 0])) wr := by
                intro B hB
                rw [HA9.out, hB]
                exact ⟨_, rfl, HOw.out.low HWY.out, HBe.out⟩
              have HEnd := Lib.hid hend
              clear hend HA9 HOw HBe
              by_cases hp0 : 0 < pk
              · have hp1 : (0 : Int) < (pk : Int) := by omega
                have HB := Lib.hid (HEnd.out ((pk : Int) == (N : Int)) (by
                  by_cases hpN : pk = N
                  · rw [decide_eq_true ⟨hp0, hpN⟩, hpN]; simp
                  · rw [decide_eq_false (fun z => hpN z.2)]
                    have : ¬ (pk : Int) = (N : Int) := by omega
                    simp [this]))
                clear HEnd
                go_wp2
                go_ret3
                exact HB.out
              · have hp1 : ¬ (0 : Int) < (pk : Int) := by omega
                have HB := Lib.hid (HEnd.out false (decide_eq_false (fun z => hp0 z.1)))
                clear HEnd
                go_wp2
                go_ret3
                exact HB.out
end Go.Proofs.Ytodejneceedglaa

namespace Go.Proofs.Ytodejneceedglaa
open Go.RowKit Go.Maps
set_option linter.unusedVariables false

def addS (a b : Int) : Int := if 1099511627776 < a ∨ 1099511627776 < b then 2199023255552 else a + b
set_option maxRecDepth 100000 in
theorem added_any {W : World} {a b : Int} (ha : 0 ≤ a) (hb : 0 ≤ b) : Calls Try.prog 14 #[.int .i64 a, .int .i64 b] W fun e W' => e = .returned (.int .i64 (addS a b)) ∧ W' = W := by
  obtain ⟨z, hz⟩ : ∃ z, z = addS a b := ⟨_, rfl⟩
  rw [← hz]
  have HZ := Lib.hid hz
  clear hz
  go_enter Try.func14, Try.ntmps14
  by_cases h1 : 1099511627776 < a
  · have e : z = 2199023255552 := by rw [HZ.out, addS, if_pos (.inl h1)]
    go_wp2
    go_ret
    exact ⟨by rw [e]; rfl, rfl⟩
  · by_cases h2 : 1099511627776 < b
    · have e : z = 2199023255552 := by rw [HZ.out, addS, if_pos (.inr h2)]
      go_wp2
      go_ret
      exact ⟨rfl, rfl⟩
    · have e : z = a + b := by rw [HZ.out, addS, if_neg (by omega)]
      go_wp2
      go_ret
      exact ⟨rfl, rfl⟩
set_option maxRecDepth 100000 in
set_option maxHeartbeats 1000000 in
theorem numbers_any {W : World} {a : Option Addr} {cap : Nat} {l : List MtD} (hr : RdM W a cap l) (hl : l.length ≤ 64) :
    Calls Try.prog 15 #[.slice a l.length cap] W fun e W' => ∃ v, e = .returned v ∧ OwnI W' W.heap.size v (l.map MtD.num) ∧ Below W.heap.size W W' := by
  obtain ⟨N, hN⟩ : ∃ N, N = l.length := ⟨_, rfl⟩
  rw [← hN] at hl ⊢
  have HN := Lib.hid hN
  have HR := Lib.hid hr
  clear hN hr
  go_enter Try.func15, Try.ntmps15
  go_wp2
  go_loopw [3, 4] (fun o i wr => ∃ (k : Nat) (a' : Option Addr) (c' : Nat), k ≤ N ∧ i = .int .i64 (k : Int) ∧ o = .slice a' k c' ∧ Hid (OwnI wr W.heap.size (.slice a' k c') ((l.map MtD.num).take k)) ∧ Hid (Below W.heap.size W wr)) (fun _ i _ => N - (intOf i).toNat)
  case atStart => exact ⟨0, none, 0, Nat.zero_le _, rfl, rfl, OwnI.nil _ _, Below.refl _ _⟩
  case round =>
    obtain ⟨k, a', c', hk, rfl, rfl, HO, HBe⟩ := hrel
    have k0 : (0 : Int) ≤ (k : Int) := by omega
    by_cases hlt : k < N
    · have hlt2 := len_int hlt
      have hl2 : k < l.length := by rw [← HN.out]; exact hlt
      obtain ⟨e, he⟩ : ∃ e, l[k]? = some e := ⟨l[k], List.getElem?_eq_getElem hl2⟩
      have hrd := HR.out.later HBe.out
      obtain ⟨b, off, rfl, cel⟩ := hrd.cel he
      have d0 := cel.c0
      have hcap := hrd.cap
      have HT : Hid ((l.map MtD.num).take (k + 1) = (l.map MtD.num).take k ++ [e.num]) := by
        unfold Hid; rw [List.take_add_one, List.getElem?_map, he]; rfl
      have HL : Hid (k = ((l.map MtD.num).take k).length) := by
        unfold Hid; rw [List.length_take, List.length_map]; omega
      clear hrd he hl2 cel
      go_wp2_with (at_builtin; refine wpl_append_num rfl _ _ rfl W.heap.size a' c' _ k HL.out rfl HO.out e.num rfl (by rw [← HL.out]; omega) HBe.out.size ?_)
      intro a4 c4 X4 row4 gr4 bel4
      rw [← HT.out] at row4
      have HO4 := Lib.hid row4
      have HB4 := Lib.hid (HBe.out.trans bel4)
      clear row4 gr4 bel4
      go_wp2
      go_roundw
      case rel => exact ⟨k + 1, a4, c4, by omega, by go_num, rfl, HO4, HB4⟩
      case measure => simp only [intOf]; omega
    · have hge : ¬ (k : Int) < (N : Int) := by omega
      have hk2 : (l.map MtD.num).take k = l.map MtD.num := List.take_of_length_le (by rw [List.length_map, ← HN.out]; omega)
      have HK2 := Lib.hid hk2
      clear hk2
      go_wp2
      go_ret
      refine ⟨_, rfl, ?_, HBe.out⟩
      have := HO.out
      rw [HK2.out] at this
      exact this
def pkE (e : MtD) (t : List MtD) : List Int := (t.filter fun x => x.num == e.num).map fun _ => e.num
theorem pkE_snoc (e : MtD) (t : List MtD) (x : MtD) : pkE e (t ++ [x]) = pkE e t ++ (if x.num = e.num then [e.num] else []) := by
  unfold pkE
  rw [List.filter_append, List.map_append]
  congr 1
  by_cases h : x.num = e.num <;> simp [h]
theorem pickR_snoc (l t : List MtD) (e : MtD) : pickR (l ++ [e]) t = pickR l t ++ pkE e t := by
  unfold pickR pkE
  simp
theorem pkE_le (e : MtD) (t : List MtD) : (pkE e t).length ≤ t.length := by
  unfold pkE
  rw [List.length_map]
  exact List.length_filter_le _ _
theorem pickR_le (l t : List MtD) : (pickR l t).length ≤ l.length * t.length := by
  induction l with
  | nil => simp [pickR]
  | cons e l ih =>
    have e1 : pickR (e :: l) t = pkE e t ++ pickR l t := rfl
    have := pkE_le e t
    rw [e1, List.length_append, List.length_cons, Nat.succ_mul]
    omega
theorem below_dn {X X1 : World} (h : Below X.heap.size X X1) (n : Nat) : Below X.heap.size X (X1.drewN n) := ⟨h.os, h.tape, h.output, h.size, h.block⟩
set_option maxRecDepth 100000 in
set_option maxHeartbeats 4000000 in
theorem picked_any {W : World} {a ta : Option Addr} {cap tc : Nat} {l t : List MtD} (hr : RdM W a cap l) (ht : RdM W ta tc t) (hl : l.length ≤ 64) (htl : t.length ≤ 64) :
    Calls Try.prog 17 #[.slice a l.length cap, .slice ta t.length tc] W fun e W' => ∃ v, e = .returned v ∧ OwnI W' W.heap.size v (pickR l t) ∧ Below W.heap.size W W' := by
  obtain ⟨N, hN⟩ : ∃ N, N = l.length := ⟨_, rfl⟩
  obtain ⟨M, hM⟩ : ∃ M, M = t.length := ⟨_, rfl⟩
  rw [← hN] at hl ⊢
  rw [← hM] at htl ⊢
  have HN := Lib.hid hN
  have HM := Lib.hid hM
  have HR := Lib.hid hr
  have HT := Lib.hid ht
  clear hN hr hM ht
  go_enter Try.func17, Try.ntmps17
  go_wp2
  go_loopw [5, 6] (fun o i wr => ∃ (k n : Nat) (a' : Option Addr) (c' : Nat), k ≤ N ∧ i = .int .i64 (k : Int) ∧ o = .slice a' n c' ∧ Hid (n = (pickR (l.take k) t).length ∧ OwnI wr W.heap.size (.slice a' n c') (pickR (l.take k) t)) ∧ Hid (Below W.heap.size W wr)) (fun _ i _ => N - (intOf i).toNat)
  case atStart => exact ⟨0, 0, none, 0, Nat.zero_le _, rfl, rfl, ⟨by simp [pickR], by simpa [pickR] using OwnI.nil _ _⟩, Below.refl _ _⟩
  case round =>
    obtain ⟨k, n, a', c', hk, rfl, rfl, HO, HBe⟩ := hrel
    have k0 : (0 : Int) ≤ (k : Int) := by omega
    by_cases hlt : k < N
    · have hlt2 := len_int hlt
      have hl2 : k < l.length := by rw [← HN.out]; exact hlt
      obtain ⟨e, he⟩ : ∃ e, l[k]? = some e := ⟨l[k], List.getElem?_eq_getElem hl2⟩
      have HE := Lib.hid he
      have HTk : Hid (l.take (k + 1) = l.take k ++ [e]) := by
        unfold Hid; rw [List.take_add_one, he]; rfl
      have HS0 : Hid (n = (pickR (l.take k) t ++ pkE e (t.take 0)).length ∧ OwnI wr W.heap.size (.slice a' n c') (pickR (l.take k) t ++ pkE e (t.take 0))) := by
        have h0 : pkE e (t.take 0) = [] := by simp [pkE]
        rw [h0, List.append_nil]
        exact HO.out
      clear hl2 he HO
      go_wp2
      go_loopw [5, 7] (fun o i wr => ∃ (j n : Nat) (a' : Option Addr) (c' : Nat), j ≤ M ∧ i = .int .i64 (j : Int) ∧ o = .slice a' n c' ∧ Hid (n = (pickR (l.take k) t ++ pkE e (t.take j)).length ∧ OwnI wr W.heap.size (.slice a' n c') (pickR (l.take k) t ++ pkE e (t.take j))) ∧ Hid (Below W.heap.size W wr)) (fun _ i _ => M - (intOf i).toNat)
      case atStart => exact ⟨0, n, a', c', Nat.zero_le _, rfl, rfl, HS0, HBe⟩
      case round =>
        clear HS0 HBe
        obtain ⟨j, n, a', c', hj, rfl, rfl, HO, HBe⟩ := hrel
        have j0 : (0 : Int) ≤ (j : Int) := by omega
        by_cases hjl : j < M
        · have hjl2 := len_int hjl
          have hj2 : j < t.length := by rw [← HM.out]; exact hjl
          obtain ⟨x, hx⟩ : ∃ x, t[j]? = some x := ⟨t[j], List.getElem?_eq_getElem hj2⟩
          have hrd := HR.out.later HBe.out
          have htd := HT.out.later HBe.out
          obtain ⟨b, off, rfl, cel⟩ := hrd.cel HE.out
          obtain ⟨b2, off2, rfl, cel2⟩ := htd.cel hx
          have d0 := cel.c0
          have y0 := cel2.c0
          have HTj : Hid (t.take (j + 1) = t.take j ++ [x]) := by
            unfold Hid; rw [List.take_add_one, hx]; rfl
          have hn : n ≤ 8192 := by
            have h1 := HO.out.1
            have h2 := pickR_le (l.take k) t
            have h3 := pkE_le e (t.take j)
            rw [List.length_append] at h1
            rw [List.length_take] at h2 h3
            have h4 : min k l.length * t.length ≤ 64 * 64 := Nat.mul_le_mul (by omega) (by rw [← HM.out]; omega)
            omega
          have hc1 := hrd.cap
          have hc2 := htd.cap
          clear hrd htd cel cel2 hx hj2
          go_upto_region 8 with fail
          go_quiet (fail)
          have B3 : Below wr.heap.size wr (wr.drewN nq) := below_dn (Below.refl _ _) nq
          obtain ⟨X, hX⟩ : ∃ X, X = wr.drewN nq := ⟨_, rfl⟩
          rw [← hX] at B3 ⊢
          have x0 : X.cell? ⟨b, off + k * 8, none⟩ = some (.int .i64 e.num) := by rw [B3.cell (World.block_lt_of_cell? _ _ d0)]; exact d0
          have HOx : Hid (n = (pickR (l.take k) t ++ pkE e (t.take j)).length ∧ OwnI X W.heap.size (.slice a' n c') (pickR (l.take k) t ++ pkE e (t.take j))) := ⟨HO.out.1, HO.out.2.later B3⟩
          have HBx := Lib.hid (HBe.out.trans (B3.mono HBe.out.size))
          clear hX B3 d0 y0 HO HBe
          by_cases hq : x.num = e.num
          · have hq2 : (x.num == e.num) = true := by simpa using hq
            rw [hq2]
            have HP : Hid (pickR (l.take k) t ++ pkE e (t.take (j + 1)) = (pickR (l.take k) t ++ pkE e (t.take j)) ++ [e.num]) := by
              unfold Hid; rw [HTj.out, pkE_snoc, if_pos hq, List.append_assoc]
            clear hq hq2
            go_wp2_with (at_builtin; refine wpl_append_num rfl _ _ rfl W.heap.size a' c' _ n HOx.out.1 rfl HOx.out.2 e.num rfl (by rw [← HOx.out.1]; omega) HBx.out.size ?_)
            intro a4 c4 X4 row4 gr4 bel4
            have HO4 : Hid (n + 1 = (pickR (l.take k) t ++ pkE e (t.take (j + 1))).length ∧ OwnI X4 W.heap.size (.slice a4 (n + 1) c4) (pickR (l.take k) t ++ pkE e (t.take (j + 1)))) := by
              unfold Hid
              rw [HP.out]
              refine ⟨?_, by rw [List.append_assoc]; exact row4⟩
              have := HOx.out.1
              rw [List.length_append, ← this]
              rfl
            have HB4 := Lib.hid (HBx.out.trans bel4)
            clear row4 gr4 bel4
            go_wp2
            go_roundw
            case rel => exact ⟨j + 1, n + 1, a4, c4, by omega, by go_num, rfl, HO4, HB4⟩
            case measure => simp only [intOf]; omega
          · have hq2 : (x.num == e.num) = false := by simpa using hq
            rw [hq2]
            have HO4 : Hid (n = (pickR (l.take k) t ++ pkE e (t.take (j + 1))).length ∧ OwnI X W.heap.size (.slice a' n c') (pickR (l.take k) t ++ pkE e (t.take (j + 1)))) := by
              unfold Hid
              rw [HTj.out, pkE_snoc, if_neg hq, List.append_nil]
              exact HOx.out
            clear hq hq2
            go_wp2
            go_roundw
            case rel => exact ⟨j + 1, n, a', c', by omega, by go_num, rfl, HO4, HBx⟩
            case measure => simp only [intOf]; omega
        · have hje : ¬ (j : Int) < (M : Int) := by omega
          have hj2 : t.take j = t := List.take_of_length_le (by rw [← HM.out]; omega)
          have HO4 : Hid (n = (pickR (l.take (k + 1)) t).length ∧ OwnI wr W.heap.size (.slice a' n c') (pickR (l.take (k + 1)) t)) := by
            unfold Hid
            rw [HTk.out, pickR_snoc]
            have := HO.out
            rw [hj2] at this
            exact this
          clear hj2 HO
          go_wp2
          go_roundw
          case rel => exact ⟨k + 1, n, a', c', by omega, by go_num, rfl, HO4, HBe⟩
          case measure => simp only [intOf]; omega
    · have hge : ¬ (k : Int) < (N : Int) := by omega
      have hk2 : l.take k = l := List.take_of_length_le (by rw [← HN.out]; omega)
      have HO4 := HO.out.2
      rw [hk2] at HO4
      have HO5 := Lib.hid HO4
      clear hk2 HO4
      go_wp2
      go_ret
      exact ⟨_, rfl, HO5.out, HBe.out⟩
end Go.Proofs.Ytodejneceedglaa

namespace Go.Proofs.Ytodejneceedglaa
open Go.RowKit Go.Maps
set_option linter.unusedVariables false

theorem insS_split {x : MtD} : ∀ {zs : List MtD} {u : Nat}, (∀ y ∈ zs.take u, ltM y x) → (∀ y, zs[u]? = some y → ¬ ltM y x) → insS x zs = zs.take u ++ x :: zs.drop u
  | [], u, _, _ => by simp [insS]
  | y :: t, 0, _, h2 => by
    have := h2 y rfl
    simp [insS, this]
  | y :: t, u + 1, h1, h2 => by
    have hy : ltM y x := h1 y (by simp)
    have := insS_split (x := x) (zs := t) (u := u) (fun z hz => h1 z (by simp [hz])) (fun z hz => h2 z (by simpa using hz))
    simp [insS, hy, this]
theorem sortS_len (l : List MtD) : (sortS l).length = l.length := (sortS_perm l).length_eq
theorem RdM.one {w : World} {x : MtD} (h : In64 x.num ∧ In64 x.byt) : RdM (w.alloc (.cells x.cells 31)) (some ⟨w.heap.size, 0, none⟩) 1 [x] := by
  refine ⟨⟨Nat.le_refl _, by unfold maxLen; omega⟩, .inr ⟨w.heap.size, 0, rfl, fun i y hi j u hj => ?_⟩, (fun y hy => by simp at hy; rw [hy]; exact h), fun z => by cases z⟩
  have hi0 : i = 0 := by
    have := (List.getElem?_eq_some_iff.1 hi).1
    simp at this
    exact this
  subst hi0
  simp at hi
  subst hi
  simp only [Nat.zero_mul, Nat.zero_add]
  unfold World.cell?
  rw [heap_alloc_new]
  simpa using hj
theorem RdM.none {w : World} {a : Option Addr} (h : a = none → True) : RdM w a 0 [] := ⟨⟨Nat.le_refl _, Nat.zero_le _⟩, .inl rfl, (fun x hx => by cases hx), fun _ => rfl⟩
theorem dn_dn (w : World) (n m : Nat) : (w.drewN n).drewN m = w.drewN (n + m) := by unfold World.drewN; simp [Nat.add_assoc]
theorem ltM_iff (y x : MtD) : ltM y x ↔ y.byt < x.byt ∨ y.byt = x.byt ∧ y.num < x.num := Iff.rfl
set_option maxRecDepth 100000 in
set_option maxHeartbeats 4000000 in
theorem sorted_any {W : World} {a : Option Addr} {cap : Nat} {l : List MtD} (hr : RdM W a cap l) (hl : l.length ≤ 64) :
    Calls Try.prog 16 #[.slice a l.length cap] W fun e W' => ∃ a' c', e = .returned (.slice a' l.length c') ∧ RdM W' a' c' (sortS l) ∧ Below W.heap.size W W' := by
  obtain ⟨N, hN⟩ : ∃ N, N = l.length := ⟨_, rfl⟩
  rw [← hN] at hl ⊢
  have HN := Lib.hid hN
  have HR := Lib.hid hr
  clear hN hr
  go_enter Try.func16, Try.ntmps16
  go_wp2
  go_loopw [3, 4, 5, 6] (fun o i _ _ wr => ∃ (k : Nat) (a' : Option Addr) (c' : Nat), k ≤ N ∧ i = .int .i64 (k : Int) ∧ o = .slice a' k c' ∧ Hid (k = (sortS (l.take k)).length ∧ wr.ownsRow W.heap.size 31 8 (.slice a' k c') (sortS (l.take k)).length (mvals (sortS (l.take k)))) ∧ Hid (Below W.heap.size W wr)) (fun _ i _ _ _ => N - (intOf i).toNat)
  case atStart => exact ⟨0, none, 0, Nat.zero_le _, rfl, rfl, ⟨by simp [sortS], by simpa [sortS, mvals] using World.ownsRow_nil W W.heap.size 31 8⟩, Below.refl _ _⟩
  case round =>
    obtain ⟨k, a', c', hk, rfl, rfl, HO, HBe⟩ := hrel
    have k0 : (0 : Int) ≤ (k : Int) := by omega
    by_cases hlt : k < N
    · have hlt2 := len_int hlt
      have hl2 : k < l.length := by rw [← HN.out]; exact hlt
      obtain ⟨x, hx⟩ : ∃ e, l[k]? = some e := ⟨l[k], List.getElem?_eq_getElem hl2⟩
      have HX := Lib.hid hx
      have HTk : Hid (sortS (l.take (k + 1)) = insS x (sortS (l.take k))) := by
        unfold Hid; rw [List.take_add_one, hx, ← sortS_snoc]; rfl
      obtain ⟨zs, hzs⟩ : ∃ zs, zs = sortS (l.take k) := ⟨_, rfl⟩
      rw [← hzs] at HO HTk
      have HNz : Hid (∀ y ∈ zs, In64 y.num ∧ In64 y.byt) := by
        intro y hy
        rw [hzs] at hy
        exact HR.out.num y (List.mem_of_mem_take ((sortS_perm _).subset hy))
      have hrz : RdM wr a' c' zs := by
        have h1 := HO.out.2
        have h2 := HO.out.1
        rw [h2] at h1
        exact row_rdm h1 HNz.out
      have HRz := Lib.hid hrz
      have hcz := hrz.cap
      have hkc : k ≤ c' := by rw [HO.out.1]; exact hcz.1
      have hcm : c' ≤ 9223372036854775807 := by have := hcz.2; unfold maxLen at this; exact this
      have hrd := HR.out.later HBe.out
      obtain ⟨b, off, rfl, cel⟩ := hrd.cel hx
      have HCx : Hid (∀ Z, Below wr.heap.size wr Z → Cel Z b (off + k * 8) x) := by
        intro Z hZ
        obtain ⟨b', o', e1, e2⟩ := (hrd.later hZ).cel HX.out
        cases e1
        exact e2
      have HL := Lib.hid HO.out.1
      obtain ⟨wr0, hw0⟩ : ∃ wr0, wr0 = wr := ⟨_, rfl⟩
      rw [← hw0] at HO HBe HRz HCx ⊢
      clear hl2 hx hzs hrz hcz hrd cel hw0
      go_wp2
      go_loopw [5] (fun at_ wq => ∃ u n : Nat, u ≤ k ∧ at_ = .int .i64 (u : Int) ∧ wq = wr0.drewN n ∧ Hid (∀ y ∈ zs.take u, ltM y x)) (fun at_ _ => k - (intOf at_).toNat)
      case atStart => exact ⟨0, 0, Nat.zero_le _, rfl, rfl, fun y hy => by simp at hy⟩
      case round =>
        obtain ⟨u, n, hu, rfl, rfl, HU⟩ := hrel
        have u0 : (0 : Int) ≤ (u : Int) := by omega
        have BQ := below_dn (Below.refl wr0.heap.size wr0) n
        obtain ⟨B, hB⟩ : ∃ B : Bool, (B = true ↔ ∃ y, zs[u]? = some y ∧ ltM y x) := by
          by_cases h : ∃ y, zs[u]? = some y ∧ ltM y x
          · exact ⟨true, by simp [h]⟩
          · exact ⟨false, by simp [h]⟩
        have HB := Lib.hid hB
        clear hB
        go_upto_region 6 with fail
        go_cut [55] (fun c wx => c = .bool B ∧ ∃ n' : Nat, wx = wr0.drewN n')
        case first =>
          by_cases hul : u < k
          · have hul2 := len_int hul
            obtain ⟨y, hy⟩ : ∃ y, zs[u]? = some y := ⟨zs[u]'(by rw [← HL.out]; exact hul), List.getElem?_eq_getElem _⟩
            obtain ⟨bz, oz, rfl, cz⟩ := HRz.out.cel hy
            have y0 := cz.c0
            have y5 := cz.c5
            have cx := HCx.out _ (Below.refl _ _)
            have x0 := cx.c0
            have x5 := cx.c5
            have HBy : Hid (B = true ↔ ltM y x) := by
              unfold Hid
              rw [HB.out]
              constructor
              · rintro ⟨z, hz, h⟩; rw [hy] at hz; cases hz; exact h
              · exact fun h => ⟨y, hy, h⟩
            clear cx cz hy HB
            by_cases h1 : y.byt < x.byt
            · have hB : B = true := HBy.out.2 (.inl h1)
              go_quiet (fail)
              go_wp2_with fail
              go_meet
              exact ⟨by rw [hB], n + nq, by first | rfl | exact dn_dn _ _ _⟩
            · have h1' : decide (y.byt < x.byt) = false := by simp; omega
              by_cases h2 : y.byt = x.byt
              · have h2' : (y.byt == x.byt) = true := by simp [h2]
                by_cases h3 : y.num < x.num
                · have hB : B = true := HBy.out.2 (.inr ⟨h2, h3⟩)
                  go_quiet (fail)
                  go_wp2_with fail
                  go_meet
                  exact ⟨by rw [hB], n + nq, by first | rfl | exact dn_dn _ _ _⟩
                · have h3' : decide (y.num < x.num) = false := by simp; omega
                  have hB : B = false := by
                    cases hb : B with
                    | false => rfl
                    | true => have := HBy.out.1 hb; unfold ltM at this; omega
                  go_quiet (fail)
                  go_wp2_with fail
                  go_meet
                  exact ⟨by rw [hB], n + nq, by first | rfl | exact dn_dn _ _ _⟩
              · have h2' : (y.byt == x.byt) = false := by simp [h2]
                have hB : B = false := by
                  cases hb : B with
                  | false => rfl
                  | true => have := HBy.out.1 hb; unfold ltM at this; omega
                go_quiet (fail)
                go_wp2_with fail
                go_meet
                exact ⟨by rw [hB], n + nq, by first | rfl | exact dn_dn _ _ _⟩
          · have hul2 : decide ((u : Int) < (k : Int)) = false := by simp; omega
            have hB : B = false := by
              cases hb : B with
              | false => rfl
              | true =>
                obtain ⟨y, hy, _⟩ := HB.out.1 hb
                have := (List.getElem?_eq_some_iff.1 hy).1
                rw [← HL.out] at this
                omega
            go_quiet (fail)
            go_wp2_with fail
            go_meet
            exact ⟨by rw [hB], n + nq, by first | rfl | exact dn_dn _ _ _⟩
        case rest =>
          obtain ⟨rfl, n', rfl⟩ := hcut
          cases B with
          | true =>
            obtain ⟨y, hy, hlt⟩ := HB.out.1 rfl
            have hul : u < k := by
              have := (List.getElem?_eq_some_iff.1 hy).1
              rw [← HL.out] at this
              exact this
            have HU2 : Hid (∀ z ∈ zs.take (u + 1), ltM z x) := by
              intro z hz
              rw [List.take_add_one, hy] at hz
              rcases List.mem_append.1 hz with q | q
              · exact HU.out z q
              · simp at q; rw [q]; exact hlt
            clear hy hlt HB
            go_wp2
            go_roundw
            case rel => exact ⟨u + 1, n', by omega, by go_num, rfl, HU2⟩
            case measure => simp only [intOf]; omega
          | false =>
            have HNo : Hid (∀ y, zs[u]? = some y → ¬ ltM y x) := fun y hy h => by
              have := HB.out.2 ⟨y, hy, h⟩
              cases this
            clear HB
            have BZ := below_dn (Below.refl wr0.heap.size wr0) n'
            obtain ⟨Z, hZ⟩ : ∃ Z, Z = wr0.drewN n' := ⟨_, rfl⟩
            rw [← hZ] at BZ ⊢
            obtain ⟨ta, hta⟩ : ∃ ta, ta = zs.take u := ⟨_, rfl⟩
            obtain ⟨td, htd⟩ : ∃ td, td = zs.drop u := ⟨_, rfl⟩
            have HIns : Hid (sortS (l.take (k + 1)) = ta ++ x :: td) := by
              unfold Hid; rw [HTk.out, insS_split HU.out HNo.out, hta, htd]
            have HLa : Hid (u = ta.length) := by
              unfold Hid; rw [hta, List.length_take, ← HL.out]; omega
            have HLd : Hid (k - u = td.length) := by
              unfold Hid; rw [htd, List.length_drop, ← HL.out]
            have HRa : Hid (∀ Y, Below wr0.heap.size wr0 Y → RdM Y a' c' ta) := fun Y hY => by rw [hta]; exact (HRz.out.later hY).take u
            have HRd : Hid (∀ Y, Below wr0.heap.size wr0 Y → ∀ b o, a' = some ⟨b, o, none⟩ → u < c' → RdM Y (some ⟨b, o + u * 8, none⟩) (c' - u) td) := fun Y hY b o e h => by
              rw [htd]
              subst e
              exact (HRz.out.later hY).drop u h
            have HNx := Lib.hid (HR.out.num x (List.mem_of_getElem? HX.out))
            have HNn := Lib.hid HRz.out.nn
            have uc : (u : Int) ≤ (c' : Int) := by omega
            have HFm : Hid (a' = none ∨ ∃ g, a' = some ⟨g, 0, none⟩) := by
              rcases HO.out.2.2 with ⟨h, _⟩ | ⟨g, cap, cur, h, _⟩
              · simp only [Value.slice.injEq] at h; exact .inl h.1
              · simp only [Value.slice.injEq] at h; exact .inr ⟨g, h.1⟩
            clear hta htd hZ HU HNo HTk HO
            go_wp2_with (at_builtin; refine wpl_append_runs rfl _ _ rfl wr0.heap.size (.slice none 0 0) [] rfl (World.ownsRow_nil _ _ _ _) a' u c' ta rfl HLa.out (HRa.out Z BZ) (by rw [← HLa.out]; simp only [List.length_nil]; omega) BZ.size ?_)
            intro a6 n6 c6 Z1 hn6 row6 gr6
            have e6 : u = n6 := by rw [hn6]; exact HLa.out
            subst e6
            have b6 : Below wr0.heap.size wr0 Z1 := BZ.grown gr6 BZ.size (fun k hk => by cases hk)
            have H6 : Hid (Z1.ownsRow wr0.heap.size 31 8 (.slice a6 u c6) ta.length (mvals ta)) := row6
            have HB6 := Lib.hid b6
            obtain ⟨x0, x1, x2, x3, x4, x5, x6, x7⟩ := HCx.out Z1 b6
            clear row6 gr6 hn6 BZ b6
            have A7 := (Below.refl Z1.heap.size Z1).alloc (Nat.le_refl _) (.cells x.cells 31)
            have hone := RdM.one (w := Z1) HNx.out
            have H7 := Lib.hid (row_later H6.out A7)
            have b7 := HB6.out.trans (A7.mono HB6.out.size)
            unfold MtD.cells at A7 hone H7 b7
            have HA7 := Lib.hid A7
            have HOne := Lib.hid hone
            have HB7 := Lib.hid b7
            clear A7 hone b7
            go_wp2_with (at_builtin; refine wpl_append_runs rfl _ _ rfl wr0.heap.size (.slice a6 u c6) ta rfl H7.out (some ⟨Z1.heap.size, 0, none⟩) 1 1 [x] rfl rfl HOne.out (by rw [← HLa.out]; simp only [List.length_cons, List.length_nil]; omega) HB7.out.size ?_)
            intro a8 n8 c8 Z2 hn8 row8 gr8
            have e8 : u + 1 = n8 := by rw [hn8, ← HLa.out]
            subst e8
            obtain ⟨tx, htx⟩ : ∃ tx, tx = ta ++ [x] := ⟨_, rfl⟩
            have HLx : Hid (tx.length = u + 1) := by unfold Hid; rw [htx, List.length_append, ← HLa.out]; rfl
            have HTx := Lib.hid htx
            rw [← htx] at row8
            have row8' : Z2.ownsRow wr0.heap.size 31 8 (.slice a8 (u + 1) c8) tx.length (mvals tx) := by rw [HLx.out]; rw [← HLa.out] at row8; exact row8
            have HB8 : Hid (Below wr0.heap.size wr0 Z2) := HB7.out.grown gr8 HB7.out.size (fun k hk => (H7.out.lt k hk).1)
            have H8 := Lib.hid row8'
            clear row8 row8' htx gr8 hn8 x0 x1 x2 x3 x4 x5 x6 x7 HOne HA7 H7 H6 HB7 HB6
            have hfin : ∀ (a9 : Option Addr) (n9 c9 : Nat) (Z3 : World), n9 = (tx ++ td).length → Z3.ownsRow wr0.heap.size 31 8 (.slice a9 n9 c9) (tx ++ td).length (mvals (tx ++ td)) → Z2.grownBy Z3 (Value.slice a8 (u + 1) c8).ownBlock → n9 = k + 1 ∧ Hid (k + 1 = (sortS (l.take (k + 1))).length ∧ Z3.ownsRow W.heap.size 31 8 (.slice a9 (k + 1) c9) (sortS (l.take (k + 1))).length (mvals (sortS (l.take (k + 1))))) ∧ Hid (Below W.heap.size W Z3) := by
              intro a9 n9 c9 Z3 h1 h2 h3
              have hk1 : n9 = k + 1 := by
                have q1 := HLa.out
                have q2 := HLd.out
                have q3 := HLx.out
                rw [h1, List.length_append]
                omega
              have hi : sortS (l.take (k + 1)) = tx ++ td := by rw [HIns.out, HTx.out]; simp
              have hb : Below wr0.heap.size wr0 Z3 := HB8.out.grown h3 HB8.out.size (fun k hk => (H8.out.lt k hk).1)
              refine ⟨hk1, ?_, HBe.out.trans (hb.mono HBe.out.size)⟩
              unfold Hid
              rw [hi, ← hk1]
              exact ⟨h1, row_low h2 HBe.out.size⟩
            have HFin := Lib.hid hfin
            clear hfin
            go_upto_region 11 with fail
            rcases HFm.out with rfl | ⟨g, rfl⟩
            · have c0 := HNn.out rfl
              obtain rfl := c0
              obtain rfl : u = 0 := by omega
              have hk0 : k = 0 := by omega
              have htd0 : td = [] := List.eq_nil_of_length_eq_zero (by have := HLd.out; omega)
              have HTd0 := Lib.hid htd0
              clear htd0
              subst hk0
              go_wp2_with (at_builtin; refine wpl_append_runs rfl _ _ rfl wr0.heap.size (.slice a8 (0 + 1) c8) tx rfl H8.out none 0 0 td rfl (by rw [HTd0.out]; rfl) (by rw [HTd0.out]; exact RdM.none (fun _ => trivial)) (by rw [HTd0.out, HLx.out]; simp only [List.length_nil]; omega) HB8.out.size ?_)
              intro a9 n9 c9 Z3 h1 h2 h3
              rw [← List.length_append] at h1 h2
              obtain ⟨rfl, HZ, HW⟩ := HFin.out a9 n9 c9 Z3 h1 h2 h3
              clear h1 h2 h3 HFin H8
              go_wp2
              go_roundw
              case rel => exact ⟨0 + 1, a9, c9, by omega, by go_num, rfl, HZ, HW⟩
              case measure => simp only [intOf]; omega
            · by_cases hu3 : u < c'
              · have hu4 : (u : Int) < (c' : Int) := by omega
                have hu5 : ¬ (u : Int) = (c' : Int) := by omega
                have hu6 : ¬ u = c' := by omega
                have hu7 : ¬ c' = u := by omega
                have hu8 : (u : Int) ≤ (k : Int) := by omega
                have hR9 := HRd.out Z2 HB8.out g 0 rfl hu3
                simp only [Nat.zero_add] at hR9
                have HR9 := Lib.hid hR9
                clear hR9
                go_wp2_with (at_builtin; refine wpl_append_runs rfl _ _ rfl wr0.heap.size (.slice a8 (u + 1) c8) tx rfl H8.out (some ⟨g, u * 8, none⟩) (k - u) (c' - u) td rfl HLd.out HR9.out (by rw [← HLd.out, HLx.out]; omega) HB8.out.size ?_)
                intro a9 n9 c9 Z3 h1 h2 h3
                rw [← List.length_append] at h1 h2
                obtain ⟨rfl, HZ, HW⟩ := HFin.out a9 n9 c9 Z3 h1 h2 h3
                clear h1 h2 h3 HFin H8 HR9
                go_wp2
                go_roundw
                case rel => exact ⟨k + 1, a9, c9, by omega, by go_num, rfl, HZ, HW⟩
                case measure => simp only [intOf]; omega
              · have hu4 : ¬ (u : Int) < (c' : Int) := by omega
                obtain rfl : u = c' := by omega
                have hku : k = u := by omega
                subst hku
                have htd0 : td = [] := List.eq_nil_of_length_eq_zero (by have := HLd.out; omega)
                have HTd0 := Lib.hid htd0
                clear htd0
                go_wp2_with (at_builtin; refine wpl_append_runs rfl _ _ rfl wr0.heap.size (.slice a8 (k + 1) c8) tx rfl H8.out (some ⟨g, 0, none⟩) 0 0 td rfl (by rw [HTd0.out]; rfl) (by rw [HTd0.out]; exact RdM.none (fun _ => trivial)) (by rw [HTd0.out, HLx.out]; simp only [List.length_nil]; omega) HB8.out.size ?_)
                intro a9 n9 c9 Z3 h1 h2 h3
                rw [← List.length_append] at h1 h2
                obtain ⟨rfl, HZ, HW⟩ := HFin.out a9 n9 c9 Z3 h1 h2 h3
                clear h1 h2 h3 HFin H8
                go_wp2
                go_roundw
                case rel => exact ⟨k + 1, a9, c9, by omega, by go_num, rfl, HZ, HW⟩
                case measure => simp only [intOf]; omega
    · have hge : ¬ (k : Int) < (N : Int) := by omega
      have hk2 : l.take k = l := List.take_of_length_le (by rw [← HN.out]; omega)
      have HO4 := HO.out
      rw [hk2] at HO4
      have HO5 := Lib.hid HO4
      have HNz : Hid (∀ y ∈ sortS l, In64 y.num ∧ In64 y.byt) := fun y hy => HR.out.num y ((sortS_perm _).subset hy)
      have hkN : k = N := by omega
      clear hk2 HO4 HO
      subst hkN
      go_wp2
      go_ret
      refine ⟨a', c', rfl, ?_, HBe.out⟩
      have h1 := HO5.out.2
      rw [HO5.out.1] at h1
      exact row_rdm h1 HNz.out
end Go.Proofs.Ytodejneceedglaa
