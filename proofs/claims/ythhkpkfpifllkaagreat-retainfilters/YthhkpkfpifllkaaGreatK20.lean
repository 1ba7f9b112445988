import Derived.Test.YthhkpkfpifllkaaGreatK19
namespace Go.Proofs.YthhkpkfpifllkaaGreat
open Go.RowKit Go.Maps
set_option linter.unusedVariables false

set_option maxRecDepth 100000 in
set_option maxHeartbeats 16000000 in
theorem refFate_ver {W0 : World} {fa a : Option Addr} {fc cap : Nat} {fs : List FamD} {l : List EntD} {i : Nat} {e : EntD} (clock low : Int) (major : Bool) (hr : RdF W0 (.slice fa fs.length fc) fs) (hU : LU fs l) (hl : RdL3 W0 a cap l) (hn : l.length ≤ 1353245080300) (hi : l[i]? = some e) (hne : (l.map EntD.dat).Pairwise (fun a b => a.seq ≠ b.seq)) (k4 : ¬ 4 ≤ e.kind) :
    Calls Tryz.prog 56 #[.agg #[.slice fa fs.length fc], .int .i64 clock, .bool major, .int .i64 low, .slice a l.length cap, .int .i64 (i : Int)] W0 fun r W' => ∃ (N : Int) (y : EntD), r = .returned (.tuple #[.agg y.cells, .int .i64 N]) ∧ FateP fs clock major low (l.map EntD.dat) W0 e N y W' := by
  have em := List.mem_of_getElem? hi
  have hil : i < l.length := (List.getElem?_eq_some_iff.1 hi).1
  have he := hl.ok e em
  obtain ⟨X1, W, hX1, hW, hs1, A1, A, hb⟩ := box_fate W0 fa fs.length fc e
  obtain ⟨N, hN⟩ : ∃ N, N = l.length := ⟨_, rfl⟩
  obtain ⟨K, hK⟩ : ∃ K, K = fs.length := ⟨_, rfl⟩
  obtain ⟨m, hm⟩ : ∃ m, m = l.map EntD.dat := ⟨_, rfl⟩
  have up : ∀ Z, Below W.heap.size W Z → Below W0.heap.size W0 Z := fun Z b => A.trans (b.mono A.size)
  have hc := hl.cap
  obtain ⟨kf, hkf⟩ : ∃ kf : Nat, e.fam = (kf : Int) := ⟨e.fam.toNat, by have := (hU.un e em).f0; omega⟩
  have hkl : kf < fs.length := by have := (hU.un e em).fK; omega
  obtain ⟨bf, of, fd, rfl, hfd, hcf⟩ := fam_cell hr hkl
  have HFm : Hid (famAt (mt fs) e.dat.fam = (fd.mx, fd.tl)) := by
    show famAt (mt fs) e.fam = _
    rw [hkf, fam_mt hfd]
  have HL := Lib.hid (fun (Z : World) (b : Below W.heap.size W Z) => hl.later (up Z b))
  have HOk := Lib.hid (fun (Z : World) (b : Below W.heap.size W Z) => he.later (up Z b))
  have HGr := Lib.hid (fun (h3 : e.kind ≤ 3) (Z : World) (b : Below W.heap.size W Z) => group_in (fa := some ⟨bf, of, none⟩) (fc := fc) clock hU (hl.later (up Z b)) em h3 hn)
  have HMk := Lib.hid (fun (h3 : e.kind ≤ 3) (Z : World) (b : Below W.heap.size W Z) => refMask_any (hl.later (up Z b)) (he.later (up Z b)) h3 hn)
  have HEx := Lib.hid (fun (Z : World) (b : Below W.heap.size W Z) => refExpired_any clock (hr.later (up Z b)) (hU.un e em) hU.tl)
  have HRk := Lib.hid (fun (Z : World) (b : Below W.heap.size W Z) => refRank_any clock (hr.later (up Z b)) hU (hl.later (up Z b)) (he.later (up Z b)) hn)
  have HCf : Hid (∀ Z, Below W.heap.size W Z → Z.cell? ⟨bf, of + kf * 3 + 1, none⟩ = some (.int .i64 fd.mx)) := fun Z b => (hcf Z (up Z b)).1
  have HMi : Hid (m[i]? = some e.dat) := by unfold Hid; rw [hm, List.getElem?_map, hi]; rfl
  have HVa : Hid (Va e.dat) := hU.va e.dat (List.mem_map_of_mem em)
  have hat := hl.at_
  rcases hat with h0 | ⟨bl, ol, rfl, -⟩
  · rw [h0] at hi; simp at hi
  have hcl := fun j u hj => (hl.later A1).cells (Below.refl _ _) hi j u hj
  have d0 := hcl 0 _ rfl
  have d1 := hcl 1 _ rfl
  have d2 := hcl 2 _ rfl
  have d3 := hcl 3 _ rfl
  have d4 := hcl 4 _ rfl
  have d5 := hcl 5 _ rfl
  have d6 := hcl 6 _ rfl
  simp only [Nat.add_zero] at d0
  obtain ⟨_, a1, n1, e1, -⟩ := id he.1
  obtain ⟨_, a2, n2, e2, -⟩ := id he.2.1
  obtain ⟨_, a3, n3, e3, -⟩ := id he.2.2
  rw [← hN, ← hm] at HGr HMk
  rw [← hK] at HEx
  rw [← hN, ← hK, ← hm] at HRk
  rw [← hK] at hb hX1 hkl
  rw [← hN] at hn hc hil
  rw [← hm] at hne ⊢
  rw [← hN, ← hK]
  have HFk : Hid (∀ Z, Below W.heap.size W Z → FK Z W0.heap.size (W0.heap.size + 1) X1.heap.size (.slice (some ⟨bf, of, none⟩) K fc) e) := fun Z b => ⟨(hb Z b).1, (hb Z b).2.1, (hb Z b).2.2⟩
  have HC : Hid (∀ Z, Below W.heap.size W Z → Z.cell? ⟨X1.heap.size, 0, none⟩ = some (.slice a1 e.row.length n1) ∧ Z.cell? ⟨X1.heap.size, 1, none⟩ = some (.int .i64 e.fam) ∧ Z.cell? ⟨X1.heap.size, 2, none⟩ = some (.slice a2 e.qual.length n2) ∧ Z.cell? ⟨X1.heap.size, 3, none⟩ = some (.int .i64 e.ts) ∧ Z.cell? ⟨X1.heap.size, 4, none⟩ = some (.int .i64 e.seq) ∧ Z.cell? ⟨X1.heap.size, 5, none⟩ = some (.int .i64 e.kind) ∧ Z.cell? ⟨X1.heap.size, 6, none⟩ = some (.slice a3 e.val.length n3)) := fun Z b => by
    have h := (HFk.out Z b).be.cells7
    rw [e1, e2, e3] at h
    exact h
  unfold EntD.cells at hW HGr HMk HEx HRk
  simp only [e1, e2, e3] at HGr HMk HEx HRk
  rw [e1, e2, e3] at hW
  rw [e1] at d0
  rw [e2] at d2
  rw [e3] at d6
  have HEe := Lib.hid (And.intro e1 (And.intro e2 e3))
  have HW := Lib.hid hW
  have HX1 := Lib.hid hX1
  have HS1 := Lib.hid hs1
  have HA := Lib.hid A
  have HN := Lib.hid hN
  have HM := Lib.hid hm
  have HUp := Lib.hid up
  have HE := Lib.hid he
  have HNe := Lib.hid hne
  have HPt := Lib.hid hi
  have hi0 : (0 : Int) ≤ (i : Int) := by omega
  have hiN : (i : Int) < (N : Int) := by omega
  have k0 : (0 : Int) ≤ (kf : Int) := by omega
  have kK : (kf : Int) < (K : Int) := by omega
  have HKf := Lib.hid hkf
  clear hX1 hs1 A1 hW A hb hN hl hr hU up hm hK he hne hi hfd hcf hkf e1 e2 e3 hcl em
  go_enter Tryz.func56, Tryz.ntmps56
  go_upto_region 1 with fail
  rw [← HX1.out]
  clear HX1
  go_upto_region 2 with fail
  rw [← HW.out]
  clear HW d0 d1 d2 d3 d4 d5 d6
  have HV : Hid (Calls Tryz.prog 61 #[.agg e.cells] W fun r w' => r = .returned (.bool (decide (e.kind ≤ 3))) ∧ Below W.heap.size W w') := version_any
  unfold EntD.cells at HV
  rw [HEe.out.1, HEe.out.2.1, HEe.out.2.2] at HV
  obtain ⟨y0, y1, y2, y3, y4, y5, y6⟩ := HC.out W (Below.refl _ _)
  go_wp2_with fail
  refine Calls.mono HV.out ?_
  rintro r w1 ⟨rfl, b1⟩
  have B1 := Lib.hid b1
  clear b1 y0 y1 y2 y3 y4 y5 y6 HV
  have k3 : e.kind ≤ 3 := by omega
  rw [decide_eq_true k3]
  have HFn : Hid (fateN (mt fs) clock major low m e.dat = _) := fateN_ver (show e.dat.kind ≤ 3 from k3)
  have HSm : Hid (fateE m e.dat = if hasPut m e.dat = false then e.dat else hk e.dat) := by unfold Hid fateE; rw [if_neg (show ¬ 4 ≤ e.dat.kind from by have := k4; show ¬ 4 ≤ e.kind; omega)]
  have HG := Lib.hid (HGr.out k3)
  have HMk2 := Lib.hid (HMk.out k3)
  clear k3 k4 HGr HMk
  obtain ⟨dd, hdd⟩ : ∃ dd, dd = decidesS m e.dat := ⟨_, rfl⟩
  obtain ⟨mk, hmk⟩ : ∃ mk, mk = maskOf m e.dat := ⟨_, rfl⟩
  obtain ⟨xx, hxx⟩ : ∃ xx, xx = expS (mt fs) clock e.dat := ⟨_, rfl⟩
  obtain ⟨rk, hrk⟩ : ∃ rk, rk = above (mt fs) clock m e.dat + 1 := ⟨_, rfl⟩
  rw [← hdd] at HG HFn
  rw [← hmk] at HMk2 HFn
  rw [← hxx] at HEx HFn
  rw [← hrk] at HRk HFn
  rw [HFm.out] at HFn
  have HDd := Lib.hid hdd
  clear hdd hmk hxx hrk
  obtain ⟨y0, y1, y2, y3, y4, y5, y6⟩ := HC.out _ B1.out
  go_wp2_with fail
  refine Calls.mono (HG.out _ B1.out) ?_
  rintro r w2 ⟨kk, rfl, hk0, hkk, b2⟩
  have B2 := Lib.hid (B1.out.trans (b2.mono B1.out.size))
  have HK0 := Lib.hid hk0
  have HKk := Lib.hid (hkk HNe.out)
  clear b2 hk0 hkk HG y0 y1 y2 y3 y4 y5 y6
  cases dd with
  | false =>
    have HF5 : Hid ((1 : Int) = fateN (mt fs) clock major low m e.dat) := by unfold Hid; rw [HFn.out]; rfl
    obtain ⟨y0, y1, y2, y3, y4, y5, y6⟩ := HC.out _ B2.out
    obtain ⟨z0, z1, z2, z3, z4, z5, z6⟩ := (HFk.out _ B2.out).z
    obtain ⟨f0, f1, f2, f3, f4, f5, f6⟩ := (HFk.out _ B2.out).f
    have HBr := Lib.hid (HUp.out _ B2.out)
    go_wp2
    refine bodyPost_ret (v := .tuple #[.agg #[.slice a1 e.row.length n1, .int .i64 e.fam, .slice a2 e.qual.length n2, .int .i64 e.ts, .int .i64 e.seq, .int .i64 e.kind, .slice a3 e.val.length n3], .int .i64 1]) ?_ rfl ?_
    · simp [results, Tryz.results56, go_sem, z0, z1, z2, z3, z4, z5, z6]
    · exact ⟨_, e, by simp only [EntD.cells, HEe.out.1, HEe.out.2.1, HEe.out.2.2], FateP.same (HF5.out) HE.out (below7 HBr.out (by omega) _ _ _ _ _ _ _) (fun z => absurd z (by decide))⟩
  | true =>
    have D0 : Below W.heap.size W w2.drew := B2.out.drew
    skip
    go_wp2_with fail
    go_region_held3 (fun Z => Z.cell? ⟨X1.heap.size, 0, none⟩ = some (.slice a1 e.row.length n1) ∧ Z.cell? ⟨X1.heap.size, 1, none⟩ = some (.int .i64 e.fam) ∧ Z.cell? ⟨X1.heap.size, 2, none⟩ = some (.slice a2 e.qual.length n2) ∧ Z.cell? ⟨X1.heap.size, 3, none⟩ = some (.int .i64 e.ts) ∧ Z.cell? ⟨X1.heap.size, 4, none⟩ = some (.int .i64 e.seq) ∧ Z.cell? ⟨X1.heap.size, 5, none⟩ = some (.int .i64 e.kind) ∧ Z.cell? ⟨X1.heap.size, 6, none⟩ = some (.slice a3 e.val.length n3)) (first | exact HC.out _ D1 | exact HC.out _ D0) ((go_at_call 90; refine Calls.mono (HMk2.out _ D0) ?_; rintro e1 w3 ⟨rfl, hb1⟩; have D1 := D0.trans (hb1.mono D0.size)))
    have B3 := Lib.hid D1
    clear D0 D1 HMk2
    by_cases cm : e.ts ≤ mk
    · have qm : decide (e.ts ≤ mk) = true := decide_eq_true cm
      have HF5 : Hid ((2 : Int) = fateN (mt fs) clock major low m e.dat) := by unfold Hid; rw [HFn.out]; simp [EntD.dat, cm]

      obtain ⟨y0, y1, y2, y3, y4, y5, y6⟩ := HC.out _ B3.out
      obtain ⟨z0, z1, z2, z3, z4, z5, z6⟩ := (HFk.out _ B3.out).z
      obtain ⟨f0, f1, f2, f3, f4, f5, f6⟩ := (HFk.out _ B3.out).f
      have HBr := Lib.hid (HUp.out _ B3.out)
      go_wp2
      refine bodyPost_ret (v := .tuple #[.agg #[.slice a1 e.row.length n1, .int .i64 e.fam, .slice a2 e.qual.length n2, .int .i64 e.ts, .int .i64 e.seq, .int .i64 e.kind, .slice a3 e.val.length n3], .int .i64 2]) ?_ rfl ?_
      · simp [results, Tryz.results56, go_sem, z0, z1, z2, z3, z4, z5, z6]
      · exact ⟨_, e, by simp only [EntD.cells, HEe.out.1, HEe.out.2.1, HEe.out.2.2], FateP.same (HF5.out) HE.out (below7 HBr.out (by omega) _ _ _ _ _ _ _) (fun z => absurd z (by decide))⟩
    · have qm : decide (e.ts ≤ mk) = false := decide_eq_false cm
      have HFn2 : Hid (fateN (mt fs) clock major low m e.dat = if xx = true then 3 else if hasPut m e.dat = false then (if major = true then 5 else 0) else if fd.mx < rk then 4 else 0) := by unfold Hid; rw [HFn.out]; simp [EntD.dat, cm]
      clear HFn
      obtain ⟨y0, y1, y2, y3, y4, y5, y6⟩ := HC.out _ B3.out
      have sc := (HFk.out _ B3.out).sc
      go_wp2_with fail
      refine Calls.mono (HEx.out _ B3.out) ?_
      rintro r w4 ⟨rfl, b4⟩
      have B4 := Lib.hid (B3.out.trans (b4.mono B3.out.size))
      clear b4 HEx y0 y1 y2 y3 y4 y5 y6 sc
      cases xx with
      | true =>
        have HF5 : Hid ((3 : Int) = fateN (mt fs) clock major low m e.dat) := by unfold Hid; rw [HFn2.out]; rfl
        obtain ⟨y0, y1, y2, y3, y4, y5, y6⟩ := HC.out _ B4.out
        obtain ⟨z0, z1, z2, z3, z4, z5, z6⟩ := (HFk.out _ B4.out).z
        obtain ⟨f0, f1, f2, f3, f4, f5, f6⟩ := (HFk.out _ B4.out).f
        have HBr := Lib.hid (HUp.out _ B4.out)
        go_wp2
        refine bodyPost_ret (v := .tuple #[.agg #[.slice a1 e.row.length n1, .int .i64 e.fam, .slice a2 e.qual.length n2, .int .i64 e.ts, .int .i64 e.seq, .int .i64 e.kind, .slice a3 e.val.length n3], .int .i64 3]) ?_ rfl ?_
        · simp [results, Tryz.results56, go_sem, z0, z1, z2, z3, z4, z5, z6]
        · exact ⟨_, e, by simp only [EntD.cells, HEe.out.1, HEe.out.2.1, HEe.out.2.2], FateP.same (HF5.out) HE.out (below7 HBr.out (by omega) _ _ _ _ _ _ _) (fun z => absurd z (by decide))⟩
      | false =>
        by_cases ck : kk = 0
        · have qk : (kk == 0) = true := by simpa using ck
          have hp : Hid (hasPut m e.dat = false) := HK0.out.1 ck
          clear ck
          cases major with
          | true =>
            have HF5 : Hid ((5 : Int) = fateN (mt fs) clock true low m e.dat) := by unfold Hid; rw [HFn2.out, hp.out]; rfl
            obtain ⟨y0, y1, y2, y3, y4, y5, y6⟩ := HC.out _ B4.out
            obtain ⟨z0, z1, z2, z3, z4, z5, z6⟩ := (HFk.out _ B4.out).z
            obtain ⟨f0, f1, f2, f3, f4, f5, f6⟩ := (HFk.out _ B4.out).f
            have HBr := Lib.hid (HUp.out _ B4.out)
            go_wp2
            refine bodyPost_ret (v := .tuple #[.agg #[.slice a1 e.row.length n1, .int .i64 e.fam, .slice a2 e.qual.length n2, .int .i64 e.ts, .int .i64 e.seq, .int .i64 e.kind, .slice a3 e.val.length n3], .int .i64 5]) ?_ rfl ?_
            · simp [results, Tryz.results56, go_sem, z0, z1, z2, z3, z4, z5, z6]
            · exact ⟨_, e, by simp only [EntD.cells, HEe.out.1, HEe.out.2.1, HEe.out.2.2], FateP.same (HF5.out) HE.out (below7 HBr.out (by omega) _ _ _ _ _ _ _) (fun z => absurd z (by decide))⟩
          | false =>
            have HF5 : Hid ((0 : Int) = fateN (mt fs) clock false low m e.dat) := by unfold Hid; rw [HFn2.out, hp.out]; rfl
            have HSame : Hid (e.dat = fateE m e.dat) := by unfold Hid; rw [HSm.out, hp.out]; rfl
            obtain ⟨y0, y1, y2, y3, y4, y5, y6⟩ := HC.out _ B4.out
            obtain ⟨z0, z1, z2, z3, z4, z5, z6⟩ := (HFk.out _ B4.out).z
            obtain ⟨f0, f1, f2, f3, f4, f5, f6⟩ := (HFk.out _ B4.out).f
            have HBr := Lib.hid (HUp.out _ B4.out)
            go_wp2
            refine bodyPost_ret (v := .tuple #[.agg #[.slice a1 e.row.length n1, .int .i64 e.fam, .slice a2 e.qual.length n2, .int .i64 e.ts, .int .i64 e.seq, .int .i64 e.kind, .slice a3 e.val.length n3], .int .i64 0]) ?_ rfl ?_
            · simp [results, Tryz.results56, go_sem, z0, z1, z2, z3, z4, z5, z6]
            · exact ⟨_, e, by simp only [EntD.cells, HEe.out.1, HEe.out.2.1, HEe.out.2.2], FateP.same (HF5.out) HE.out (below7 HBr.out (by omega) _ _ _ _ _ _ _) (fun _ => HSame.out)⟩
        · have qk : (kk == 0) = false := by simpa using ck
          have hp : Hid (hasPut m e.dat = true) := by
            unfold Hid
            cases z : hasPut m e.dat with
            | true => rfl
            | false => exact absurd (HK0.out.2 z) ck
          have HFn3 : Hid (fateN (mt fs) clock major low m e.dat = if fd.mx < rk then 4 else 0) := by unfold Hid; rw [HFn2.out, hp.out]; rfl
          have HSm2 : Hid (fateE m e.dat = hk e.dat) := by unfold Hid; rw [HSm.out, hp.out]; rfl
          have HKe : Hid (kk = (hk e.dat).kind) := HKk.out (by first | exact trivial | rfl) hp.out
          clear ck HFn2
          have D0 : Below W.heap.size W w4.drew := B4.out.drew
          have HC2 : Hid (∀ Z, Below W.heap.size W Z → Z.cell? ⟨W0.heap.size, 0, none⟩ = some (.slice (some ⟨bf, of, none⟩) K fc) ∧ Z.cell? ⟨bf, of + kf * 3 + 1, none⟩ = some (.int .i64 fd.mx) ∧ Z.cell? ⟨X1.heap.size, 0, none⟩ = some (.slice a1 e.row.length n1) ∧ Z.cell? ⟨X1.heap.size, 1, none⟩ = some (.int .i64 (kf : Int)) ∧ Z.cell? ⟨X1.heap.size, 2, none⟩ = some (.slice a2 e.qual.length n2) ∧ Z.cell? ⟨X1.heap.size, 3, none⟩ = some (.int .i64 e.ts) ∧ Z.cell? ⟨X1.heap.size, 4, none⟩ = some (.int .i64 e.seq) ∧ Z.cell? ⟨X1.heap.size, 5, none⟩ = some (.int .i64 e.kind) ∧ Z.cell? ⟨X1.heap.size, 6, none⟩ = some (.slice a3 e.val.length n3)) := fun Z b => by
            obtain ⟨q0, q1, q2, q3, q4, q5, q6⟩ := HC.out Z b
            rw [HKf.out] at q1
            exact ⟨(HFk.out Z b).sc, HCf.out Z b, q0, q1, q2, q3, q4, q5, q6⟩
          rw [HKf.out] at HRk
          go_wp2_with fail
          go_region_held3 (fun Z => Z.cell? ⟨W0.heap.size, 0, none⟩ = some (.slice (some ⟨bf, of, none⟩) K fc) ∧ Z.cell? ⟨bf, of + kf * 3 + 1, none⟩ = some (.int .i64 fd.mx) ∧ Z.cell? ⟨X1.heap.size, 0, none⟩ = some (.slice a1 e.row.length n1) ∧ Z.cell? ⟨X1.heap.size, 1, none⟩ = some (.int .i64 (kf : Int)) ∧ Z.cell? ⟨X1.heap.size, 2, none⟩ = some (.slice a2 e.qual.length n2) ∧ Z.cell? ⟨X1.heap.size, 3, none⟩ = some (.int .i64 e.ts) ∧ Z.cell? ⟨X1.heap.size, 4, none⟩ = some (.int .i64 e.seq) ∧ Z.cell? ⟨X1.heap.size, 5, none⟩ = some (.int .i64 e.kind) ∧ Z.cell? ⟨X1.heap.size, 6, none⟩ = some (.slice a3 e.val.length n3)) (first | exact HC2.out _ D1 | exact HC2.out _ D0) ((go_at_call 88; refine Calls.mono (HRk.out _ D0) ?_; rintro e1 w5 ⟨rfl, hb1⟩; have D1 := D0.trans (hb1.mono D0.size)))
          have B5 := Lib.hid D1
          clear D0 D1 HRk HC2
          by_cases cr : fd.mx < rk
          · have qr : decide (fd.mx < rk) = true := decide_eq_true cr
            have HF5 : Hid ((4 : Int) = fateN (mt fs) clock major low m e.dat) := by unfold Hid; rw [HFn3.out, if_pos cr]
            obtain ⟨y0, y1, y2, y3, y4, y5, y6⟩ := HC.out _ B5.out
            rw [HKf.out] at y1
            obtain ⟨z0, z1, z2, z3, z4, z5, z6⟩ := (HFk.out _ B5.out).z
            obtain ⟨f0, f1, f2, f3, f4, f5, f6⟩ := (HFk.out _ B5.out).f
            have HBr := Lib.hid (HUp.out _ B5.out)
            go_wp2
            refine bodyPost_ret (v := .tuple #[.agg #[.slice a1 e.row.length n1, .int .i64 (kf : Int), .slice a2 e.qual.length n2, .int .i64 e.ts, .int .i64 e.seq, .int .i64 e.kind, .slice a3 e.val.length n3], .int .i64 4]) ?_ rfl ?_
            · simp [results, Tryz.results56, go_sem, z0, z1, z2, z3, z4, z5, z6]
            · exact ⟨_, e, by unfold EntD.cells; rw [HEe.out.1, HEe.out.2.1, HEe.out.2.2, HKf.out], FateP.same (HF5.out) HE.out (below7 HBr.out (by omega) _ _ _ _ _ _ _) (fun z => absurd z (by decide))⟩
          · have qr : decide (fd.mx < rk) = false := decide_eq_false cr
            have HF5 : Hid ((0 : Int) = fateN (mt fs) clock major low m e.dat) := by unfold Hid; rw [HFn3.out, if_neg cr]

            by_cases c2 : kk = 2
            · have q2 : (kk == 2) = true := by simpa using c2
              have Hk2 : Hid ((hk e.dat).kind = 2) := HKe.out.symm.trans c2
              clear c2 HKe HKk HK0 qk
              have HEb := Lib.hid (HFk.out _ B5.out)
              have y5 := HEb.out.be.kind
              have y6 := HEb.out.be.vv
              have g5 := HEb.out.be.fzA 5
              have g6 := HEb.out.be.fzA 6
              go_upto_region 30 with fail
              obtain ⟨X, hX⟩ : ∃ X : World, X = (w5.setCell ⟨X1.heap.size, 5, none⟩ (.int .i64 2)).setCell ⟨X1.heap.size, 6, none⟩ (.slice none 0 0) := ⟨_, rfl⟩
              have HKX : Hid (FK X W0.heap.size (W0.heap.size + 1) X1.heap.size (.slice (some ⟨bf, of, none⟩) K fc) ⟨e.vr, e.fam, e.vq, e.ts, e.seq, 2, .slice none 0 0, e.row, e.qual, []⟩) := by
                have k1 : ∀ g, g ≠ X1.heap.size → X.heap[g]? = w5.heap[g]? := fun g hg => by
                  rw [hX, Below.heap_setCell _ _ _ _ hg, Below.heap_setCell _ _ _ _ hg]
                refine ⟨?_, (k1 _ (by have := HS1.out; omega)).trans HEb.out.rz, ?_⟩
                · have := HEb.out.sc
                  unfold World.cell? at this ⊢
                  rw [k1 _ (show W0.heap.size ≠ X1.heap.size by have := HS1.out; omega)]
                  exact this
                · rw [hX]
                  exact (HEb.out.be.set5 2).set6 (.slice none 0 0) []
              have HBX : Hid (Below W0.heap.size W0 X) := by
                unfold Hid
                rw [hX]
                exact ((HUp.out _ B5.out).setCell (p := ⟨X1.heap.size, 5, none⟩) (by have := HS1.out; show W0.heap.size ≤ X1.heap.size; omega) _).setCell (p := ⟨X1.heap.size, 6, none⟩) (by have := HS1.out; show W0.heap.size ≤ X1.heap.size; omega) _
              rw [← hX]
              clear hX y5 y6 g5 g6
              obtain ⟨y0, y1, y2, y3, y4, y5, y6⟩ := HKX.out.be.cells7
              rw [HEe.out.1] at y0
              rw [HEe.out.2.1] at y2
              obtain ⟨z0, z1, z2, z3, z4, z5, z6⟩ := HKX.out.z
              obtain ⟨f0, f1, f2, f3, f4, f5, f6⟩ := HKX.out.f
              have HDt := Lib.hid (husk_dat HVa.out Hk2.out)
              have HBb := Lib.hid ( below7 (gr := W0.heap.size + 1) HBX.out (by omega) (.slice a1 e.row.length n1) (.int .i64 e.fam) (.slice a2 e.qual.length n2) (.int .i64 e.ts) (.int .i64 e.seq) (.int .i64 2) (.slice none 0 0))
              go_wp2
              refine bodyPost_ret (v := .tuple #[.agg #[.slice a1 e.row.length n1, .int .i64 e.fam, .slice a2 e.qual.length n2, .int .i64 e.ts, .int .i64 e.seq, .int .i64 2, .slice none 0 0], .int .i64 0]) ?_ rfl ?_
              · simp [results, Tryz.results56, go_sem, z0, z1, z2, z3, z4, z5, z6]
              · exact ⟨_, ⟨e.vr, e.fam, e.vq, e.ts, e.seq, 2, .slice none 0 0, e.row, e.qual, []⟩, by simp only [EntD.cells, HEe.out.1, HEe.out.2.1], HF5.out, ⟨(HE.out.later HBb.out).1, (HE.out.later HBb.out).2.1, rd_none _⟩, ⟨rfl, rfl, .inr rfl⟩, fun _ => HDt.out.trans HSm2.out.symm, HBb.out⟩
            · have q2 : (kk == 2) = false := by simpa using c2
              have HSame : Hid (e.dat = fateE m e.dat) := by
                unfold Hid
                rw [HSm2.out]
                rcases (hk_eq e.dat).2.2.2.2.2.2 with ⟨_, q⟩ | ⟨q, _⟩
                · exact absurd (HKe.out.trans q) c2
                · unfold hk; rw [if_neg q]
              clear c2
              obtain ⟨y0, y1, y2, y3, y4, y5, y6⟩ := HC.out _ B5.out
              rw [HKf.out] at y1
              obtain ⟨z0, z1, z2, z3, z4, z5, z6⟩ := (HFk.out _ B5.out).z
              obtain ⟨f0, f1, f2, f3, f4, f5, f6⟩ := (HFk.out _ B5.out).f
              have HBr := Lib.hid (HUp.out _ B5.out)
              go_wp2
              refine bodyPost_ret (v := .tuple #[.agg #[.slice a1 e.row.length n1, .int .i64 (kf : Int), .slice a2 e.qual.length n2, .int .i64 e.ts, .int .i64 e.seq, .int .i64 e.kind, .slice a3 e.val.length n3], .int .i64 0]) ?_ rfl ?_
              · simp [results, Tryz.results56, go_sem, z0, z1, z2, z3, z4, z5, z6]
              · exact ⟨_, e, by unfold EntD.cells; rw [HEe.out.1, HEe.out.2.1, HEe.out.2.2, HKf.out], FateP.same (HF5.out) HE.out (below7 HBr.out (by omega) _ _ _ _ _ _ _) (fun _ => HSame.out)⟩
end Go.Proofs.YthhkpkfpifllkaaGreat

namespace Go.Proofs.YthhkpkfpifllkaaGreat
open Go.RowKit Go.Maps
set_option linter.unusedVariables false

theorem refFate_any {W0 : World} {fa a : Option Addr} {fc cap : Nat} {fs : List FamD} {l : List EntD} {i : Nat} {e : EntD} (clock low : Int) (major : Bool) (hr : RdF W0 (.slice fa fs.length fc) fs) (hU : LU fs l) (hl : RdL3 W0 a cap l) (hn : l.length ≤ 1353245080300) (hi : l[i]? = some e) (hne : (l.map EntD.dat).Pairwise (fun a b => a.seq ≠ b.seq)) :
    Calls Tryz.prog 56 #[.agg #[.slice fa fs.length fc], .int .i64 clock, .bool major, .int .i64 low, .slice a l.length cap, .int .i64 (i : Int)] W0 fun r W' => ∃ (N : Int) (y : EntD), r = .returned (.tuple #[.agg y.cells, .int .i64 N]) ∧ FateP fs clock major low (l.map EntD.dat) W0 e N y W' := by
  by_cases k4 : 4 ≤ e.kind
  · exact refFate_mark clock low major hr hU hl hn hi hne k4
  · exact refFate_ver clock low major hr hU hl hn hi hne k4
theorem shrt_fate {x y : EntD} (hs : Shrt x) (h : y.row = x.row ∧ y.qual = x.qual ∧ (y.val = x.val ∨ y.val = [])) : Shrt y := by
  obtain ⟨h1, h2, h3⟩ := h
  unfold Shrt at hs ⊢
  rw [h1, h2]
  rcases h3 with h3 | h3
  · rw [h3]; exact hs
  · rw [h3]; exact ⟨hs.1, hs.2.1, by simp⟩
set_option maxRecDepth 100000 in
set_option maxHeartbeats 8000000 in
theorem refSquash_any {W : World} {fa a : Option Addr} {fc cap : Nat} {fs : List FamD} {l : List EntD} (hr : RdF W (.slice fa fs.length fc) fs) (C : Nat) (hC : (C = 0 ↔ SchemaOk fs) ∧ (C = 0 ∨ C = 28)) (clock low : Int) (major : Bool) (hl : RdL3 W a cap l) (hn : l.length ≤ 1353245080300) :
    Calls Tryz.prog 24 #[.agg #[.slice fa fs.length fc], .int .i64 clock, .bool major, .int .i64 low, .slice a l.length cap] W fun r W' => Below W.heap.size W W' ∧ (askE C fs clock low 0 1 l ≠ 0 → r = .returned (.tuple #[.slice none 0 0, .int .i64 (askE C fs clock low 0 1 l)])) ∧ (askE C fs clock low 0 1 l = 0 → ∃ (zs : List EntD) (v : Value) (m : List En), r = .returned (.tuple #[v, .int .i64 0]) ∧ IsOrd fs.length (l.map EntD.dat) m ∧ Vw W W' zs v (leftL (mt fs) clock m major low)) := by
  obtain ⟨W1, hW, A, hb⟩ := sch_box W fa fs.length fc
  obtain ⟨E, hE⟩ : ∃ E, E = askE C fs clock low 0 1 l := ⟨_, rfl⟩
  have up : ∀ Z, Below W1.heap.size W1 Z → Below W.heap.size W Z := fun Z b => A.trans (b.mono A.size)
  have HAs := Lib.hid (refAsked_any (hr.later A) C hC clock low 0 1 (hl.later A) hn)
  rw [← hE] at HAs ⊢
  have HOr : Hid (E = 0 → ∀ Z, Below W1.heap.size W1 Z → Calls Tryz.prog 51 #[.slice a l.length cap] Z _) := fun z Z b => ordered_ok (fs := fs) (hl.later (up Z b)) hn (askE_ok (hE.symm.trans z)).2 (hC.1.1 (askE_ok (hE.symm.trans z)).1)
  have HFt := Lib.hid (fun (zs : List EntD) (hU : LU fs zs) (hln : zs.length ≤ l.length) (hne : (zs.map EntD.dat).Pairwise (fun a b => a.seq ≠ b.seq)) (Z : World) (b : Below W1.heap.size W1 Z) (a' : Option Addr) (c' : Nat) (hz : RdL3 Z a' c' zs) (q : Nat) (x : EntD) (hx : zs[q]? = some x) => refFate_any clock low major (hr.later (up Z b)) hU hz (Nat.le_trans hln hn) hx hne)
  obtain ⟨N, hN⟩ : ∃ N, N = l.length := ⟨_, rfl⟩
  obtain ⟨K, hK⟩ : ∃ K, K = fs.length := ⟨_, rfl⟩
  rw [← hN, ← hK] at HAs
  rw [← hN] at HOr
  rw [← hK] at HFt hb hW
  rw [← hN, ← hK]
  have HHn := Lib.hid hn
  have HK := Lib.hid hK
  have HN := Lib.hid hN
  have HW := Lib.hid hW
  have HA := Lib.hid A
  have HB := Lib.hid hb
  clear hl hE hN hr hC hn hK hW A hb up
  go_enter Tryz.func24, Tryz.ntmps24
  go_upto_region 1 with fail
  rw [← HW.out]
  clear HW
  have s0 := HB.out _ (Below.refl _ _)
  go_wp2_with fail
  refine Calls.mono HAs.out ?_
  rintro z w1 ⟨rfl, b1⟩
  have B1 := Lib.hid b1
  have s1 := HB.out _ b1
  clear s0
  by_cases hz : E = 0
  · have HK2 := Lib.hid (HOr.out hz _ b1)
    subst hz
    clear b1 HAs HOr
    go_wp2_with fail
    refine Calls.mono HK2.out ?_
    rintro z w2 ⟨zs, a', c', rfl, b2, ho, hU, hs, hrd, hle⟩
    have HBz := Lib.hid (B1.out.trans (b2.mono B1.out.size))
    have hle' : zs.length ≤ l.length := by rw [← HN.out]; exact hle
    have HF := Lib.hid (HFt.out zs hU hle' ho.ne)
    obtain ⟨m, hm⟩ : ∃ m, m = zs.map EntD.dat := ⟨_, rfl⟩
    have HOd : Hid (IsOrd K (l.map EntD.dat) m) := by rw [HK.out, hm]; exact ho
    have HRd : Hid (∀ Z, Below w2.heap.size w2 Z → RdL3 Z a' c' zs) := fun Z b => hrd.later b
    have HSh := Lib.hid hs
    obtain ⟨M, hM⟩ : ∃ M, M = zs.length := ⟨_, rfl⟩
    have hMn : M ≤ 1353245080300 := by rw [hM]; exact Nat.le_trans hle' HHn.out
    have hMc := hrd.cap
    rw [← hM, ← hm] at HF
    rw [← hM] at hMc ⊢
    have HM := Lib.hid hM
    have HMd := Lib.hid hm
    have HDb : Hid (∀ Z, Below w2.heap.size w2 Z → Below W1.heap.size W1 Z) := fun Z b => HBz.out.trans (b.mono HBz.out.size)
    clear b2 ho hU hs hrd hle hle' hM hm HFt HK2 s1
    go_wp2
    go_loopw [14, 15, 16, 17] (fun rv i _ _ wr => ∃ (q : Nat) (rs : List EntD) (ar : Option Addr) (cr : Nat), q ≤ M ∧ i = .int .i64 (q : Int) ∧ rv = .slice ar rs.length cr ∧ Hid (Vw w2 wr rs (.slice ar rs.length cr) (((zs.take q).map EntD.dat).filterMap (fateR (mt fs) clock major low m))) ∧ rs.length ≤ q) (fun _ i _ _ _ => M - (intOf i).toNat)
    case atStart => exact ⟨0, [], none, 0, Nat.zero_le _, rfl, rfl, ⟨(Rw.nil w2 w2.heap.size (fun _ => True)).row, by simp, Below.refl _ _, by simp, by simp⟩, Nat.le_refl _⟩
    case round =>
      obtain ⟨q, rs, ar, cr, hq, rfl, rfl, HQ, hrq⟩ := hrel
      have q0 : (0 : Int) ≤ (q : Int) := by omega
      obtain ⟨L, hL⟩ : ∃ L, L = rs.length := ⟨_, rfl⟩
      have HLz := Lib.hid hL
      rw [← hL] at HQ hrq ⊢
      clear hL
      by_cases hlt : q < M
      · have hlt2 : (q : Int) < (M : Int) := by omega
        obtain ⟨x, hx⟩ : ∃ x, zs[q]? = some x := ⟨zs[q]'(by rw [← HM.out]; exact hlt), List.getElem?_eq_getElem _⟩
        have HXm := Lib.hid (List.mem_of_getElem? hx)
        have HBw := Lib.hid HQ.out.below
        have HF1 := Lib.hid (HF.out _ (HDb.out _ HBw.out) a' c' (HRd.out _ HBw.out) q x hx)
        have HS : Hid (((zs.take (q + 1)).map EntD.dat).filterMap (fateR (mt fs) clock major low m) = ((zs.take q).map EntD.dat).filterMap (fateR (mt fs) clock major low m) ++ (if fateN (mt fs) clock major low m x.dat = 0 then [fateE m x.dat] else [])) := by
          unfold Hid
          rw [List.take_add_one, hx, List.map_append, List.filterMap_append]
          congr 1
          simp only [Option.toList_some, List.map_singleton, List.filterMap_cons, List.filterMap_nil, fate_ref]
          by_cases z : fateN (mt fs) clock major low m x.dat = 0
          · simp [z]
          · simp [z]
        clear hx
        have s1 := HB.out _ (HDb.out _ HBw.out)
        go_wp2_with fail
        refine Calls.mono HF1.out ?_
        rintro r w4 ⟨Nn, y, rfl, hP⟩
        obtain ⟨hN4, hok4, hsm4, hd4, b4⟩ := hP
        obtain ⟨_, a1, n1, e1, -⟩ := id hok4.1
        obtain ⟨_, a2, n2, e2, -⟩ := id hok4.2.1
        obtain ⟨_, a3, n3, e3, -⟩ := id hok4.2.2
        obtain ⟨X, hX, AX, hbx, -⟩ := box1 w4 y
        have HXb := Lib.hid (And.intro AX (And.intro hbx (hok4.later AX)))
        have HB4 := Lib.hid b4
        have HN4 := Lib.hid hN4
        have HD4 := Lib.hid hd4
        have HSy := Lib.hid (shrt_fate (HSh.out x HXm.out) hsm4)
        unfold EntD.cells at hX ⊢
        rw [e1, e2, e3] at hX ⊢
        have HX := Lib.hid hX
        clear hX hN4 hok4 hsm4 hd4 b4 AX hbx e1 e2 e3 s1 HF1
        go_upto_region 10 with fail
        rw [← HX.out]
        clear HX
        obtain ⟨AX, hbx, hokX⟩ := HXb.out
        have HBX : Hid (Below wr.heap.size wr X) := HB4.out.trans (AX.mono HB4.out.size)
        obtain ⟨y0, y1, y2, y3, y4, y5, y6⟩ := (hbx X (Below.refl _ _)).cells7
        have HC1 := Lib.hid (cloneR_own hokX HSy.out)
        unfold EntD.cells at HC1
        have HBy := Lib.hid hokX.by
        clear AX hbx hokX
        by_cases cN : Nn = 0
        · have qN : (Nn == 0) = true := by simpa using cN
          have HDy := Lib.hid (HD4.out cN)
          have HS2 : Hid (((zs.take (q + 1)).map EntD.dat).filterMap (fateR (mt fs) clock major low m) = ((zs.take q).map EntD.dat).filterMap (fateR (mt fs) clock major low m) ++ [y.dat]) := by unfold Hid; rw [HS.out, if_pos (HN4.out.symm.trans cN), HDy.out]
          clear cN
          go_wp2_with fail
          refine Calls.mono HC1.out ?_
          rintro z1 w6 ⟨x', rfl, sx, ok1, o31, b6⟩
          have HSx := Lib.hid (EntD.dat_same.2 sx)
          have O31 := Lib.hid o31
          have B6 := Lib.hid b6
          obtain ⟨xr, xf, xq, xt, xs2, xk, xv, xrow, xqual, xval⟩ := x'
          obtain ⟨ar', cr', er⟩ := own_form' o31.row
          obtain ⟨aq, cq, eq⟩ := own_form' o31.qual
          obtain ⟨aw, cw, ew⟩ := own_form' o31.val
          simp only at er eq ew
          subst er eq ew
          dsimp only
          clear sx ok1 o31 b6 y0 y1 y2 y3 y4 y5 y6
          have HAl := Lib.hid ((Below.refl w6.heap.size w6).alloc (Nat.le_refl _) (.cells #[.slice ar' xrow.length cr', .int .i64 xf, .slice aq xqual.length cq, .int .i64 xt, .int .i64 xs2, .int .i64 xk, .slice aw xval.length cw] 84))
          have HQ6 := Lib.hid (HQ.out.later HBX.out |>.later B6.out |>.later HAl.out)
          have HRow := HQ6.out.row
          have HSz := HQ6.out.below.size
          have HRr := Lib.hid HRow
          have HSs := Lib.hid HSz
          clear HRow HSz
          go_wp2_with (at_builtin; refine wpl_append_ent (x := (⟨.slice ar' xrow.length cr', xf, .slice aq xqual.length cq, xt, xs2, xk, .slice aw xval.length cw, xrow, xqual, xval⟩ : EntD)) (xs := rs) rfl _ _ rfl rfl HRr.out ⟨w6.heap.size, 0, none⟩ rfl (ent_new w6 (⟨.slice ar' xrow.length cr', xf, .slice aq xqual.length cq, xt, xs2, xk, .slice aw xval.length cw, xrow, xqual, xval⟩ : EntD)) (O3.cells_one O31.out) (by rw [← HLz.out]; omega) HSs.out ?_)
          intro a7 c7 w7 row7 gr7
          obtain ⟨xx, hxx⟩ : ∃ xx : EntD, xx = ⟨.slice ar' xrow.length cr', xf, .slice aq xqual.length cq, xt, xs2, xk, .slice aw xval.length cw, xrow, xqual, xval⟩ := ⟨_, rfl⟩
          rw [← hxx] at row7 HSx O31
          have HF7 : Hid (Vw w2 w7 (rs ++ [xx]) (.slice a7 (L + 1) c7) (((zs.take (q + 1)).map EntD.dat).filterMap (fateR (mt fs) clock major low m))) := by
            have bw := HQ6.out.below
            have ku7 : KU w6 w7 := (KU.of HAl.out).trans (row_ku (W := w2) HRr.out gr7)
            have kz : KU (w6.alloc (.cells #[.slice ar' xrow.length cr', .int .i64 xf, .slice aq xqual.length cq, .int .i64 xt, .int .i64 xs2, .int .i64 xk, .slice aw xval.length cw] 84)) w7 := row_ku (W := w2) HRr.out gr7
            refine ⟨by rw [List.length_append]; rw [HLz.out]; exact row7, fun y' hy => ?_, bw.grown gr7 bw.size (fun k hk => (HRr.out.lt k hk).1), ?_, fun y' hy => ?_⟩
            · rcases List.mem_append.1 hy with q | q
              · exact (HQ6.out.ents y' q).ku kz
              · rw [List.mem_singleton] at q
                rw [q]
                exact (O31.out.mono (Nat.le_trans HBw.out.size HBX.out.size)).ku ku7
            · rw [HS2.out, List.map_append, HQ.out.dat, List.map_singleton, HSx.out]
            · rcases List.mem_append.1 hy with q | q
              · exact HQ.out.by_ y' q
              · rw [List.mem_singleton] at q
                rw [q, HSx.out]
                exact HBy.out
          clear row7 gr7
          rw [← HLz.out]
          go_wp2
          go_roundw
          case rel => exact ⟨q + 1, rs ++ [xx], a7, c7, by omega, by go_num, by rw [List.length_append, ← HLz.out]; rfl, by rw [List.length_append, ← HLz.out]; exact HF7.out, by rw [List.length_append, ← HLz.out]; simp; omega⟩
          case measure => simp only [intOf]; omega
        · have qN : (Nn == 0) = false := by simpa using cN
          have HV2 : Hid (Vw w2 X rs (.slice ar L cr) (((zs.take (q + 1)).map EntD.dat).filterMap (fateR (mt fs) clock major low m))) := by
            have h := HQ.out.later HBX.out
            unfold Hid
            rw [HS.out, if_neg (fun z => cN (HN4.out.trans z)), List.append_nil]
            exact h
          clear cN
          go_wp2
          go_roundw
          case rel => exact ⟨q + 1, rs, ar, cr, by omega, by go_num, by rw [← HLz.out], by rw [← HLz.out]; exact HV2.out, by rw [← HLz.out]; omega⟩
          case measure => simp only [intOf]; omega
      · have hge : ¬ (q : Int) < (M : Int) := by omega
        have HF9 : Hid (Vw W wr rs (.slice ar L cr) (leftL (mt fs) clock m major low)) := by
          have h := HQ.out
          rw [List.take_of_length_le (by rw [← HM.out]; omega), ← HMd.out, ← squash_ref] at h
          exact h.low (HA.out.trans (HBz.out.mono HA.out.size))
        go_wp2
        go_ret2
        exact ⟨HF9.out.below, rs, _, rfl, _, HOd.out, HF9.out⟩
  · have hz2 : (E == 0) = false := by simpa using hz
    clear b1 HAs HOr
    go_wp2
    go_ret2
    exact ⟨HA.out.trans (B1.out.mono HA.out.size), fun _ => rfl, fun z => absurd z hz⟩
end Go.Proofs.YthhkpkfpifllkaaGreat

namespace Go.Proofs.YthhkpkfpifllkaaGreat
open Go.RowKit Go.Maps
set_option linter.unusedVariables false

def CtBx (w : World) (d : Nat) (c : Ct) : Prop := w.heap[d]? = some (.cells #[.int .i64 c.o, .int .i64 c.m, .int .i64 c.x, .int .i64 c.a, .int .i64 c.k] 105 (0, 0))
section
variable {w w' : World} {d : Nat} {c : Ct}
theorem CtBx.keep (h : CtBx w d c) (k : w'.heap[d]? = w.heap[d]?) : CtBx w' d c := k.trans h
theorem CtBx.lt (h : CtBx w d c) : d < w.heap.size := (Array.getElem?_eq_some_iff.1 h).1
theorem CtBx.later (h : CtBx w d c) (b : Below w.heap.size w w') : CtBx w' d c := h.keep (b.block d h.lt)
theorem CtBx.c0 (h : CtBx w d c) : w.cell? ⟨d, 0, none⟩ = some (.int .i64 c.o) := cell_at9 h rfl
theorem CtBx.c1 (h : CtBx w d c) : w.cell? ⟨d, 1, none⟩ = some (.int .i64 c.m) := cell_at9 h rfl
theorem CtBx.c2 (h : CtBx w d c) : w.cell? ⟨d, 2, none⟩ = some (.int .i64 c.x) := cell_at9 h rfl
theorem CtBx.c3 (h : CtBx w d c) : w.cell? ⟨d, 3, none⟩ = some (.int .i64 c.a) := cell_at9 h rfl
theorem CtBx.c4 (h : CtBx w d c) : w.cell? ⟨d, 4, none⟩ = some (.int .i64 c.k) := cell_at9 h rfl
theorem CtBx.fz (h : CtBx w d c) (i : Nat) : w.frozen? ⟨d, i, none⟩ = false := by unfold CtBx at h; simp [World.frozen?, h]
theorem CtBx.set1 (h : CtBx w d c) : CtBx (w.setCell ⟨d, 0, none⟩ (.int .i64 (c.o + 1))) d (c.incN 1) := by unfold CtBx Ct.incN at *; simp [World.setCell, Array.getElem?_modify, h]
theorem CtBx.set2 (h : CtBx w d c) : CtBx (w.setCell ⟨d, 1, none⟩ (.int .i64 (c.m + 1))) d (c.incN 2) := by unfold CtBx Ct.incN at *; simp [World.setCell, Array.getElem?_modify, h]
theorem CtBx.set3 (h : CtBx w d c) : CtBx (w.setCell ⟨d, 2, none⟩ (.int .i64 (c.x + 1))) d (c.incN 3) := by unfold CtBx Ct.incN at *; simp [World.setCell, Array.getElem?_modify, h]
theorem CtBx.set4 (h : CtBx w d c) : CtBx (w.setCell ⟨d, 3, none⟩ (.int .i64 (c.a + 1))) d (c.incN 4) := by unfold CtBx Ct.incN at *; simp [World.setCell, Array.getElem?_modify, h]
theorem CtBx.set5 (h : CtBx w d c) : CtBx (w.setCell ⟨d, 4, none⟩ (.int .i64 (c.k + 1))) d (c.incN 5) := by unfold CtBx Ct.incN at *; simp [World.setCell, Array.getElem?_modify, h]
end
theorem box_drop (w : World) (fa : Option Addr) (K fc : Nat) : ∃ W, W = (w.alloc (.cells #[.slice fa K fc] 27)).alloc (.cells #[.int .i64 0, .int .i64 0, .int .i64 0, .int .i64 0, .int .i64 0] 105) ∧ Below w.heap.size w W ∧ (∀ Z, Below W.heap.size W Z → Z.cell? ⟨w.heap.size, 0, none⟩ = some (.slice fa K fc) ∧ CtBx Z (w.heap.size + 1) ⟨0, 0, 0, 0, 0⟩) := by
  obtain ⟨X0, hX0, A1, hc⟩ := sch_box w fa K fc
  have A2 := (Below.refl X0.heap.size X0).alloc (Nat.le_refl _) (.cells #[.int .i64 0, .int .i64 0, .int .i64 0, .int .i64 0, .int .i64 0] 105)
  have hz : CtBx (X0.alloc (.cells #[.int .i64 0, .int .i64 0, .int .i64 0, .int .i64 0, .int .i64 0] 105)) X0.heap.size ⟨0, 0, 0, 0, 0⟩ := heap_new X0 _
  have sz : X0.heap.size = w.heap.size + 1 := by rw [hX0]; simp
  rw [← hX0]
  refine ⟨_, rfl, A1.trans (A2.mono A1.size), fun Z k => ⟨hc Z (A2.trans (k.mono A2.size)), ?_⟩⟩
  rw [← sz]
  exact hz.later k
set_option maxRecDepth 100000 in
set_option maxHeartbeats 8000000 in
theorem refDropped_any {w : World} {fa a : Option Addr} {fc cap : Nat} {fs : List FamD} {l : List EntD} (hr : RdF w (.slice fa fs.length fc) fs) (hS : SchemaOk fs) (clock low : Int) (major : Bool) (hl : RdL3 w a cap l) (hn : l.length ≤ 1353245080300) (hio : inOrderE (check3S fs.length) l = 0) :
    Calls Tryz.prog 99 #[.agg #[.slice fa fs.length fc], .int .i64 clock, .bool major, .int .i64 low, .slice a l.length cap] w fun r w' => ∃ (m : List En) (c : Ct), r = .returned (.agg #[.int .i64 c.o, .int .i64 c.m, .int .i64 c.x, .int .i64 c.a, .int .i64 c.k]) ∧ IsOrd fs.length (l.map EntD.dat) m ∧ c = refCt (mt fs) clock major low l.length m ∧ Below w.heap.size w w' := by
  obtain ⟨W, hW, A, hb⟩ := box_drop w fa fs.length fc
  have HOr := Lib.hid (ordered_ok (fs := fs) (hl.later A) hn hio hS)
  have HFt := Lib.hid (fun (zs : List EntD) (hU : LU fs zs) (hln : zs.length ≤ l.length) (hne : (zs.map EntD.dat).Pairwise (fun a b => a.seq ≠ b.seq)) (Z : World) (b : Below W.heap.size W Z) (a' : Option Addr) (c' : Nat) (hz : RdL3 Z a' c' zs) (q : Nat) (x : EntD) (hx : zs[q]? = some x) => refFate_any clock low major (hr.later (A.trans (b.mono A.size))) hU hz (Nat.le_trans hln hn) hx hne)
  obtain ⟨n, hnl⟩ : ∃ n, n = l.length := ⟨_, rfl⟩
  obtain ⟨K, hK⟩ : ∃ K, K = fs.length := ⟨_, rfl⟩
  rw [← hnl] at HOr hn
  rw [← hK] at HFt hb hW
  rw [← hnl, ← hK]
  have HK := Lib.hid hK
  have HNl := Lib.hid hnl
  have HW := Lib.hid hW
  have HA := Lib.hid A
  have HB := Lib.hid hb
  clear hl hr hS hio hnl hK hW A hb
  go_enter Tryz.func99, Tryz.ntmps99
  go_wp2_with fail
  rw [← HW.out]
  clear HW
  refine Calls.mono HOr.out ?_
  rintro z W1 ⟨zs, a', c', rfl, b1, ho, hU, hs, hrd, hle⟩
  have HB1 := Lib.hid b1
  have HI := Lib.hid (And.intro ho (And.intro hU hs))
  have HRd := Lib.hid hrd
  have hcap := hrd.cap
  unfold maxLen at hcap
  obtain ⟨N, hN⟩ : ∃ N, N = zs.length := ⟨_, rfl⟩
  rw [← hN] at hcap hle ⊢
  have HN := Lib.hid hN
  clear HOr b1 ho hU hs hrd hN
  have hle2 : (0 : Int) ≤ (n : Int) - (N : Int) := by omega
  have hle3 : (n : Int) - (N : Int) ≤ 1353245080300 := by omega
  obtain ⟨V, hV⟩ : ∃ V, V = W1.alloc (.cells #[.int .i64 ((n : Int) - (N : Int)), .int .i64 0, .int .i64 0, .int .i64 0, .int .i64 0] 105) := ⟨_, rfl⟩
  have HV := Lib.hid hV
  have AV : Hid (Below W1.heap.size W1 V) := by unfold Hid; rw [hV]; exact (Below.refl _ _).alloc (Nat.le_refl _) _
  obtain ⟨d, hd⟩ : ∃ d, d = W1.heap.size := ⟨_, rfl⟩
  have HCt : Hid (CtBx V d ⟨(n : Int) - (N : Int), 0, 0, 0, 0⟩) := by unfold Hid; rw [hV, hd]; exact heap_new W1 _
  have hd' := hd.symm
  have HDl : Hid (W1.heap.size ≤ d) := by unfold Hid; rw [hd]; exact Nat.le_refl _
  clear hV hd
  go_upto_region 3 with fail
  rw [← HV.out]
  (try rw [hd'])
  clear HV hd'
  have HSt : Hid (refCtP (mt fs) clock major low n (zs.map EntD.dat) [] = ⟨(n : Int) - (N : Int), 0, 0, 0, 0⟩) := by unfold Hid refCtP; rw [List.length_map, ← HN.out]; simp
  go_wp2
  go_loopw [13] (fun i wr => ∃ t : Nat, t ≤ N ∧ i = .int .i64 (t : Int) ∧ Hid (CtBx wr d (refCtP (mt fs) clock major low n (zs.map EntD.dat) ((zs.take t).map EntD.dat))) ∧ Hid (Below W1.heap.size W1 wr)) (fun i _ => N - (intOf i).toNat)
  case atStart => exact ⟨0, Nat.zero_le _, rfl, (by unfold Hid; rw [List.take_zero, List.map_nil, HSt.out]; exact HCt.out), AV.out⟩
  case round =>
    obtain ⟨t, ht, rfl, HCb, HBw⟩ := hrel
    have t0 : (0 : Int) ≤ (t : Int) := by omega
    have bw := HB1.out.trans (HBw.out.mono HB1.out.size)
    obtain ⟨s1, rz⟩ := HB.out wr bw
    have hok0 := refCtP_ok (fs := mt fs) (clock := clock) (major := major) (low := low) (n := n) (m := zs.map EntD.dat) (p := (zs.take t).map EntD.dat) (by rw [List.length_map, ← HN.out]; exact hle) (by rw [List.length_map, List.length_map, List.length_take]; omega)
    rw [List.length_map, ← HN.out] at hok0
    obtain ⟨c, hc⟩ : ∃ c, c = refCtP (mt fs) clock major low n (zs.map EntD.dat) ((zs.take t).map EntD.dat) := ⟨_, rfl⟩
    rw [← hc] at HCb hok0
    have HCc := Lib.hid hc
    clear hc
    by_cases hlt : t < N
    · have hlt2 : (t : Int) < (N : Int) := by omega
      obtain ⟨x, hx⟩ : ∃ x, zs[t]? = some x := ⟨zs[t]'(by rw [← HN.out]; exact hlt), List.getElem?_eq_getElem _⟩
      have HC6 := Lib.hid (HFt.out zs HI.out.2.1 (by rw [← HN.out, ← HNl.out]; exact hle) HI.out.1.ne wr bw a' c' (HRd.out.later HBw.out) t x hx)
      rw [← HN.out] at HC6
      have HNx0 : Hid (∀ k, k = fateN (mt fs) clock major low (zs.map EntD.dat) x.dat → refCtP (mt fs) clock major low n (zs.map EntD.dat) ((zs.take (t + 1)).map EntD.dat) = c.incN k) := fun k hk => by
        rw [List.take_add_one, hx, List.map_append, HCc.out, hk]
        exact refCtP_snoc
      have HRg := Lib.hid (fateN_range (fs := mt fs) (clock := clock) (m := zs.map EntD.dat) (major := major) (low := low) (e := x.dat))
      clear hx rz bw
      go_wp2_with fail
      refine Calls.mono HC6.out ?_
      rintro z X2 ⟨k, y, rfl, hk, hok, -, -, b2⟩
      have HRk : Hid (k = 0 ∨ k = 1 ∨ k = 2 ∨ k = 3 ∨ k = 4 ∨ k = 5) := by unfold Hid; have := HRg.out; omega
      have HNext := Lib.hid (HNx0.out k hk)
      obtain ⟨vr, fam, vq, ts, sq, kd, vv, row, qual, val⟩ := y
      obtain ⟨ar, nr, cr, er⟩ := rd_slice hok.1
      obtain ⟨aq, nq, cq, eq⟩ := rd_slice hok.2.1
      obtain ⟨av, nv, cv, ev⟩ := rd_slice hok.2.2
      simp only at er eq ev
      subst er eq ev
      unfold EntD.cells
      simp only
      have HCb2 := Lib.hid (HCb.out.later b2)
      have HB2 : Hid (Below W1.heap.size W1 X2) := HBw.out.trans (b2.mono HBw.out.size)
      clear hk hok b2 s1 HC6 HNx0 HRg HCb HBw
      obtain ⟨X3, hX3⟩ : ∃ X3, X3 = X2.alloc (.cells #[.slice ar nr cr, .int .i64 fam, .slice aq nq cq, .int .i64 ts, .int .i64 sq, .int .i64 kd, .slice av nv cv] 84) := ⟨_, rfl⟩
      have HX3 := Lib.hid hX3
      have HB3 : Hid (Below W1.heap.size W1 X3) := by unfold Hid; rw [hX3]; exact HB2.out.alloc HB2.out.size _
      have HCb3 : Hid (CtBx X3 d c) := by unfold Hid; rw [hX3]; exact HCb2.out.later ((Below.refl _ _).alloc (Nat.le_refl _) _)
      clear hX3 HB2 HCb2
      go_upto_region 7 with fail
      rw [← HX3.out]
      clear HX3
      obtain ⟨⟨o0, o1⟩, ⟨m0, m1⟩, ⟨x0, x1⟩, ⟨a0, a1⟩, k0, k1⟩ := hok0
      rcases HRk.out with rfl | rfl | rfl | rfl | rfl | rfl
      · have HNx := Lib.hid HNext.out
        clear HNext
        go_wp2
        go_roundw
        case rel => exact ⟨t + 1, by omega, by go_num, (by unfold Hid; rw [HNx.out]; exact HCb3.out), HB3.out⟩
        case measure => simp only [intOf]; omega
      · have cd := HCb3.out.c0
        have fd := HCb3.out.fz 0
        have HNx := Lib.hid HNext.out
        clear HNext
        go_wp2
        go_roundw
        case rel => exact ⟨t + 1, by omega, by go_num, (by unfold Hid; rw [HNx.out]; exact HCb3.out.set1), HB3.out.setCell (p := ⟨d, 0, none⟩) HDl.out _⟩
        case measure => simp only [intOf]; omega
      · have cd := HCb3.out.c1
        have fd := HCb3.out.fz 1
        have HNx := Lib.hid HNext.out
        clear HNext
        go_wp2
        go_roundw
        case rel => exact ⟨t + 1, by omega, by go_num, (by unfold Hid; rw [HNx.out]; exact HCb3.out.set2), HB3.out.setCell (p := ⟨d, 1, none⟩) HDl.out _⟩
        case measure => simp only [intOf]; omega
      · have cd := HCb3.out.c2
        have fd := HCb3.out.fz 2
        have HNx := Lib.hid HNext.out
        clear HNext
        go_wp2
        go_roundw
        case rel => exact ⟨t + 1, by omega, by go_num, (by unfold Hid; rw [HNx.out]; exact HCb3.out.set3), HB3.out.setCell (p := ⟨d, 2, none⟩) HDl.out _⟩
        case measure => simp only [intOf]; omega
      · have cd := HCb3.out.c3
        have fd := HCb3.out.fz 3
        have HNx := Lib.hid HNext.out
        clear HNext
        go_wp2
        go_roundw
        case rel => exact ⟨t + 1, by omega, by go_num, (by unfold Hid; rw [HNx.out]; exact HCb3.out.set4), HB3.out.setCell (p := ⟨d, 3, none⟩) HDl.out _⟩
        case measure => simp only [intOf]; omega
      · have cd := HCb3.out.c4
        have fd := HCb3.out.fz 4
        have HNx := Lib.hid HNext.out
        clear HNext
        go_wp2
        go_roundw
        case rel => exact ⟨t + 1, by omega, by go_num, (by unfold Hid; rw [HNx.out]; exact HCb3.out.set5), HB3.out.setCell (p := ⟨d, 4, none⟩) HDl.out _⟩
        case measure => simp only [intOf]; omega
    · have hge : ¬ (t : Int) < (N : Int) := by omega
      have htN : t = N := by omega
      have hCf : Hid (c = refCt (mt fs) clock major low n (zs.map EntD.dat)) := by
        unfold Hid
        rw [HCc.out, htN, HN.out, List.take_length]
        rfl
      have c0 := HCb.out.c0
      have c1 := HCb.out.c1
      have c2 := HCb.out.c2
      have c3 := HCb.out.c3
      have c4 := HCb.out.c4
      have z0 := rz.c0
      have z1 := rz.c1
      have z2 := rz.c2
      have z3 := rz.c3
      have z4 := rz.c4
      have f0 := rz.fz 0
      have f1 := rz.fz 1
      have f2 := rz.fz 2
      have f3 := rz.fz 3
      have f4 := rz.fz 4
      have HBf : Hid (Below w.heap.size w wr) := HA.out.trans (bw.mono HA.out.size)
      clear rz bw hok0 htN s1
      go_wp2
      refine bodyPost_ret (v := .agg #[.int .i64 c.o, .int .i64 c.m, .int .i64 c.x, .int .i64 c.a, .int .i64 c.k]) (by simp [results, Tryz.results99, go_sem, z0, z1, z2, z3, z4]) rfl ?_
      refine ⟨_, c, rfl, by rw [HK.out]; exact HI.out.1, hCf.out, ?_⟩
      exact ((((HBf.out.setCell (p := ⟨w.heap.size + 1, 0, none⟩) (Nat.le_succ _) _).setCell (p := ⟨w.heap.size + 1, 1, none⟩) (Nat.le_succ _) _).setCell (p := ⟨w.heap.size + 1, 2, none⟩) (Nat.le_succ _) _).setCell (p := ⟨w.heap.size + 1, 3, none⟩) (Nat.le_succ _) _).setCell (p := ⟨w.heap.size + 1, 4, none⟩) (Nat.le_succ _) _
end Go.Proofs.YthhkpkfpifllkaaGreat

namespace Go.Proofs.YthhkpkfpifllkaaGreat
open Go.RowKit Go.Maps
set_option linter.unusedVariables false

theorem case_box (w : World) (fa : Option Addr) (K fc : Nat) (clock low t nv : Int) (major : Bool) : ∃ X, X = w.alloc (.cells #[.slice fa K fc, .int .i64 clock, .bool major, .int .i64 low, .int .i64 t, .int .i64 nv] 62) ∧ Below w.heap.size w X ∧ (∀ Z, Below X.heap.size X Z → Z.cell? ⟨w.heap.size, 0, none⟩ = some (.slice fa K fc) ∧ Z.cell? ⟨w.heap.size, 1, none⟩ = some (.int .i64 clock) ∧ Z.cell? ⟨w.heap.size, 2, none⟩ = some (.bool major) ∧ Z.cell? ⟨w.heap.size, 3, none⟩ = some (.int .i64 low) ∧ Z.cell? ⟨w.heap.size, 4, none⟩ = some (.int .i64 t) ∧ Z.cell? ⟨w.heap.size, 5, none⟩ = some (.int .i64 nv)) := by
  refine ⟨_, rfl, (Below.refl _ _).alloc (Nat.le_refl _) _, fun Z b => ?_⟩
  have hn : (w.alloc (.cells #[.slice fa K fc, .int .i64 clock, .bool major, .int .i64 low, .int .i64 t, .int .i64 nv] 62)).heap[w.heap.size]? = some (.cells #[.slice fa K fc, .int .i64 clock, .bool major, .int .i64 low, .int .i64 t, .int .i64 nv] 62 (0, 0)) := heap_new w _
  have hz := (b.block w.heap.size (Array.getElem?_eq_some_iff.1 hn).1).trans hn
  exact ⟨cell_at9 hz rfl, cell_at9 hz rfl, cell_at9 hz rfl, cell_at9 hz rfl, cell_at9 hz rfl, cell_at9 hz rfl⟩


set_option maxRecDepth 100000 in
set_option maxHeartbeats 4000000 in
theorem wantF_any {w : World} {fb cap fc : Nat} {a fa : Option Addr} {p : Addr} {fs : List FamD} {l : List EntD} (hc : w.cell? ⟨fb, 0, none⟩ = some (.pointer (some p))) (hr : RdF w (.slice fa fs.length fc) fs) (C : Nat) (hC : (C = 0 ↔ SchemaOk fs) ∧ (C = 0 ∨ C = 28)) (clock low t nv : Int) (major : Bool) (hl : RdL3 w a cap l) (hn : l.length ≤ 1353245080300) (hE : askE C fs clock low 0 1 l = 0) :
    Calls Tryz.prog 98 #[.pointer (some ⟨fb, 0, none⟩), .agg #[.slice fa fs.length fc, .int .i64 clock, .bool major, .int .i64 low, .int .i64 t, .int .i64 nv], .slice a l.length cap] w fun r w' => ∃ (v : Value) (zs : List EntD) (m : List En), r = .returned v ∧ IsOrd fs.length (l.map EntD.dat) m ∧ Vw w w' zs v (leftL (mt fs) clock m major low) := by
  obtain ⟨X, hX, A, hb⟩ := case_box w fa fs.length fc clock low t nv major
  have HR := Lib.hid (refSquash_any (hr.later A) C hC clock low major (hl.later A) hn)
  have c0 : X.cell? ⟨fb, 0, none⟩ = some (.pointer (some p)) := (A.cell (p := ⟨fb, 0, none⟩) (World.block_lt_of_cell? _ _ hc)).trans hc
  rw [hE] at HR
  obtain ⟨n, hnl⟩ : ∃ n, n = l.length := ⟨_, rfl⟩
  obtain ⟨K, hK⟩ : ∃ K, K = fs.length := ⟨_, rfl⟩
  rw [← hnl] at HR
  rw [← hK] at HR hb hX
  rw [← hnl, ← hK]
  obtain ⟨z0, z1, z2, z3, z4, z5⟩ := hb X (Below.refl _ _)
  have HX := Lib.hid hX
  have HA := Lib.hid A
  have HK := Lib.hid hK
  clear hc hr hC hl hn hE hX A hnl hb hK
  go_enter Tryz.func98, Tryz.ntmps98
  go_upto_region 1 with fail
  rw [← HX.out]
  clear HX
  go_wp2_with fail
  refine Calls.mono HR.out ?_
  rintro z W1 ⟨b1, -, h2⟩
  obtain ⟨zs, v, m, rfl, ho, hv⟩ := h2 (by trivial)
  obtain ⟨av, cv, ev⟩ := hv.form
  have HV := Lib.hid (And.intro ho hv)
  obtain ⟨N, hN⟩ : ∃ N, N = zs.length := ⟨_, rfl⟩
  rw [← hN] at ev
  subst ev
  clear b1 h2 ho hv HR hN c0 z0 z1 z2 z3 z4 z5
  go_wp2
  go_ret
  have hv := HV.out.2
  exact ⟨_, zs, m, rfl, HV.out.1, row_low hv.row HA.out.size, fun x hx => (hv.ents x hx).low HA.out.size, HA.out.trans (hv.below.mono HA.out.size), hv.dat, hv.by_⟩


end Go.Proofs.YthhkpkfpifllkaaGreat
