import Derived.Test.YtodejneceedglaaK02
import Derived.Deep.CutBlock
import Derived.Laws.OwnMore
import Derived.Great.BuildSlice
namespace Go.Proofs.Ytodejneceedglaa
open Go.RowKit Go.Maps
set_option linter.unusedVariables false

def allS (l : List MtD) : Int := l.foldl (fun s r => addS s r.byt) 0
theorem allS_snoc (l : List MtD) (e : MtD) : allS (l ++ [e]) = addS (allS l) e.byt := by unfold allS; rw [List.foldl_append]; rfl
theorem allS_is {l : List MtD} (h : ∀ r ∈ l, 0 ≤ r.byt) : 0 ≤ allS l ∧ allS l ≤ 2199023255552 ∧ 0 ≤ sumB l ∧ (allS l = sumB l ∨ 1099511627776 < allS l ∧ 1099511627776 < sumB l) := by
  induction l using snocRec with
  | nil => simp [allS, sumB]
  | snoc l e ih =>
    obtain ⟨h1, h2, h3, h4⟩ := ih fun r hr => h r (List.mem_append_left _ hr)
    have he := h e (by simp)
    rw [allS_snoc, sumB_append]
    simp only [sumB, addS]
    split <;> omega
theorem allS_iff {l : List MtD} (h : ∀ r ∈ l, 0 ≤ r.byt) : allS l ≤ maxB ↔ sumB l ≤ maxB := by
  obtain ⟨h1, h2, h3, h4⟩ := allS_is h
  unfold maxB
  omega
theorem inT_len {w : Nat} {c : Int} {t : List MtD} {n : Nat} (h1 : n ≤ w) (h2 : n ≤ t.length) (h3 : ∀ y ∈ t.take n, y.byt ≤ c) (h4 : ¬ (n < w ∧ ∃ x, t[n]? = some x ∧ x.byt ≤ c)) : (inT w c t).length = n := by
  unfold inT
  have e : t.take w = t.take n ++ (t.drop n).take (w - n) := by
    conv => lhs; rw [show w = n + (w - n) by omega]
    rw [List.take_add]
  rw [e, List.takeWhile_append_of_pos (fun y hy => decide_eq_true (h3 y hy)), List.length_append]
  have h5 : (((t.drop n).take (w - n)).takeWhile fun x => decide (x.byt ≤ c)) = [] := by
    cases hd : (t.drop n).take (w - n) with
    | nil => rfl
    | cons x r =>
      have hw : n < w := by
        apply Classical.byContradiction
        intro k
        rw [show w - n = 0 by omega, List.take_zero] at hd
        cases hd
      have hx : t[n]? = some x := by
        have : ((t.drop n).take (w - n))[0]? = some x := by rw [hd]; rfl
        rw [List.getElem?_take_of_lt (by omega), List.getElem?_drop] at this
        simpa using this
      have : ¬ x.byt ≤ c := fun k => h4 ⟨hw, x, hx, k⟩
      simp [List.takeWhile, this]
  rw [h5, List.length_take]
  simp
  omega
def ansT (l : List MtD) (N : Nat) : Option (List MtD) → List Int × Bool × Int
  | some t => (pickR l t, decide (t.length = N), 0)
  | none => ([], false, 0)
structure Rf (W : World) (l : List MtD) (x y z : Int) (wr : World) (k : Nat) (s : Int) : Prop where
  ok : OkR (l.take k)
  sum : s = allS (l.take k)
  below : Below W.heap.size W wr
  box : PBox wr W.heap.size x y z
theorem Rf.later {W wr wr' : World} {l : List MtD} {x y z : Int} {k : Nat} {s : Int} (h : Rf W l x y z wr k s) (b : Below wr.heap.size wr wr') : Rf W l x y z wr' k s := ⟨h.ok, h.sum, h.below.trans (b.mono h.below.size), h.box.later b⟩
theorem pol_no {w q m : Int} (h : w < 2 ∨ 16 < w ∨ q < 2 ∨ 64 < q ∨ m < w ∨ 64 < m) : polS w q m = false := by
  cases hp : polS w q m with
  | false => rfl
  | true =>
    unfold polS at hp
    simp only [Bool.and_eq_true, decide_eq_true_eq] at hp
    omega
theorem pol_yes {w q m : Int} (h : ¬ (w < 2 ∨ 16 < w ∨ q < 2 ∨ 64 < q ∨ m < w ∨ 64 < m)) : polS w q m = true := by
  unfold polS
  simp only [Bool.and_eq_true, decide_eq_true_eq]
  omega
set_option maxRecDepth 100000 in
set_option maxHeartbeats 8000000 in
theorem refPick_any {W : World} {a : Option Addr} {cap : Nat} {w q m : Int} {l : List MtD} (hr : RdM W a cap l) :
    Calls Try.prog 7 #[.agg #[.int .i64 w, .int .i64 q, .int .i64 m], .slice a l.length cap] W fun e W' => PickP W (ansR w q m l) e W' := by
  obtain ⟨N, hN⟩ : ∃ N, N = l.length := ⟨_, rfl⟩
  obtain ⟨A, hA⟩ : ∃ A, A = ansR w q m l := ⟨_, rfl⟩
  rw [← hN, ← hA]
  have A1 := (Below.refl W.heap.size W).alloc (Nat.le_refl _) (.cells #[.int .i64 w, .int .i64 q, .int .i64 m] 23)
  have pb := PBox.new W w q m
  obtain ⟨X, hX⟩ : ∃ X, X = W.alloc (.cells #[.int .i64 w, .int .i64 q, .int .i64 m] 23) := ⟨_, rfl⟩
  rw [← hX] at A1 pb
  have HX := Lib.hid hX
  have HA := Lib.hid hA
  have HN := Lib.hid hN
  have HR := Lib.hid hr
  have HB := Lib.hid A1
  have HP := Lib.hid pb
  have p0 := pb.c0
  have p1 := pb.c1
  have p2 := pb.c2
  have hNm : N ≤ 9223372036854775807 := by have := hr.cap; unfold maxLen at this; omega
  have HBad : Hid (polS w q m = false → PickP W A (.returned (.tuple #[.slice none 0 0, .bool false, .int .i64 124])) X) := by
    intro h
    rw [hA, ans_pol h]
    exact ⟨_, rfl, OwnI.nil _ _, A1⟩
  have HBad2 : Hid (∀ Y, Below W.heap.size W Y → polS w q m = true → ¬ RunsOk l → PickP W A (.returned (.tuple #[.slice none 0 0, .bool false, .int .i64 120])) Y) := by
    intro Y hY h1 h2
    rw [hA, ans_bad h1 h2]
    exact ⟨_, rfl, OwnI.nil _ _, hY⟩
  clear hX hA hN hr A1 pb
  go_enter Try.func7, Try.ntmps7
  go_upto_region 1 with fail
  rw [← HX.out]
  clear HX
  by_cases h1 : w < 2
  · have HE := Lib.hid (HBad.out (pol_no (.inl h1)))
    go_wp2
    go_ret3
    exact HE.out
  by_cases h2 : 16 < w
  · have HE := Lib.hid (HBad.out (pol_no (.inr (.inl h2))))
    go_wp2
    go_ret3
    exact HE.out
  by_cases h3 : q < 2
  · have HE := Lib.hid (HBad.out (pol_no (.inr (.inr (.inl h3)))))
    go_wp2
    go_ret3
    exact HE.out
  by_cases h4 : 64 < q
  · have HE := Lib.hid (HBad.out (pol_no (.inr (.inr (.inr (.inl h4))))))
    go_wp2
    go_ret3
    exact HE.out
  by_cases h5 : m < w
  · have HE := Lib.hid (HBad.out (pol_no (.inr (.inr (.inr (.inr (.inl h5)))))))
    go_wp2
    go_ret3
    exact HE.out
  by_cases h6 : 64 < m
  · have HE := Lib.hid (HBad.out (pol_no (.inr (.inr (.inr (.inr (.inr h6)))))))
    go_wp2
    go_ret3
    exact HE.out
  have hpol : polS w q m = true := pol_yes (by omega)
  have HPol := Lib.hid hpol
  obtain ⟨wn, mn, rfl, rfl, w2, w16, q2, q64, m64⟩ := pol_nums hpol
  clear hpol HBad
  go_upto_region 3 with fail
  by_cases hbig : 64 < N
  · have hb2 : (64 : Int) < (N : Int) := by omega
    have HE := Lib.hid (HBad2.out X HB.out HPol.out (fun k => by have := k.1; rw [← HN.out] at this; omega))
    go_wp2
    go_ret3
    exact HE.out
  have hb2 : ¬ (64 : Int) < (N : Int) := by omega
  have HS0 : Hid (Rf W l (wn : Int) q (mn : Int) X 0 0) := ⟨by simpa using OkR.nil, by simp [allS], HB.out, HP.out⟩
  go_upto_block 0 with fail
  go_cut [7] (fun v wx => ∃ s : Int, v = .int .i64 s ∧ s ≤ 2199023255552 ∧ 0 ≤ s ∧ Hid (OkR l ∧ Rf W l (wn : Int) q (mn : Int) wx N s))
  case first =>
    clear p0 p1 p2 h1 h2 h3 h4 h5 h6
    go_wp2
    go_loopw [7, 8, 9] (fun s i _ wr => ∃ (k : Nat) (sv : Int), k ≤ N ∧ i = .int .i64 (k : Int) ∧ s = .int .i64 sv ∧ sv ≤ 2199023255552 ∧ 0 ≤ sv ∧ Hid (Rf W l (wn : Int) q (mn : Int) wr k sv)) (fun _ i _ _ => N - (intOf i).toNat)
    case atStart => exact ⟨0, 0, Nat.zero_le _, rfl, rfl, by omega, by omega, HS0⟩
    case round =>
      clear HS0
      obtain ⟨k, sv, hk, rfl, rfl, sv1, sv0, HF⟩ := hrel
      have k0 : (0 : Int) ≤ (k : Int) := by omega
      by_cases hlt : k < N
      · have hlt2 := len_int hlt
        have hl2 : k < l.length := by rw [← HN.out]; exact hlt
        obtain ⟨e, he⟩ : ∃ e, l[k]? = some e := ⟨l[k], List.getElem?_eq_getElem hl2⟩
        have hrd := HR.out.later HF.out.below
        have hem : e ∈ l := List.mem_of_getElem? he
        have HT : Hid (l.take (k + 1) = l.take k ++ [e]) := by
          unfold Hid; rw [List.take_add_one, he]; rfl
        have HSn : Hid (RunsOk l → (l.take k).any (fun x => x.num == e.num) = false ∧ 1 ≤ e.num ∧ 0 ≤ e.byt) := fun h => by
          have := h.2.take (k + 1)
          rw [HT.out] at this
          exact (OkR.snoc.1 this).2
        obtain ⟨b, off, rfl, cel⟩ := hrd.cel he
        have d0 := cel.c0
        have d5 := cel.c5
        have HCe : Hid (∀ Z, Below wr.heap.size wr Z → Cel Z b (off + k * 8) e) := by
          intro Z hZ
          obtain ⟨b', o', e1, e2⟩ := (hrd.later hZ).cel he
          cases e1
          exact e2
        have HRw := Lib.hid hrd
        have hcap := hrd.cap
        obtain ⟨wr0, hw0⟩ : ∃ wr0, wr0 = wr := ⟨_, rfl⟩
        rw [← hw0] at HF HCe HRw d0 d5 ⊢
        clear hl2 hrd cel hw0
        by_cases n1 : e.num < 1
        · have HE := Lib.hid (HBad2.out wr0 HF.out.below HPol.out (fun h => by have := HSn.out h; omega))
          go_wp2
          go_ret3
          exact HE.out
        by_cases n2 : e.byt < 0
        · have HE := Lib.hid (HBad2.out wr0 HF.out.below HPol.out (fun h => by have := HSn.out h; omega))
          go_wp2
          go_ret3
          exact HE.out
        clear hem he
        go_wp2
        go_loopw [9] (fun kk wq => ∃ (j : Nat), j ≤ k ∧ kk = .int .i64 (j : Int) ∧ Hid ((∀ y ∈ l.take j, y.num ≠ e.num) ∧ Below wr0.heap.size wr0 wq)) (fun kk _ => k - (intOf kk).toNat)
        case atStart => exact ⟨0, Nat.zero_le _, rfl, (fun y hy => by simp at hy), Below.refl _ _⟩
        case round =>
          clear d0 d5
          obtain ⟨j, hj, rfl, HJ⟩ := hrel
          have j0 : (0 : Int) ≤ (j : Int) := by omega
          by_cases hjl : j < k
          · have hjl2 := len_int hjl
            have hjN : (j : Int) < (N : Int) := by omega
            obtain ⟨y, hy⟩ : ∃ y, l[j]? = some y := ⟨l[j]'(by rw [← HN.out]; omega), List.getElem?_eq_getElem _⟩
            obtain ⟨b', o', e1, cy⟩ := (HRw.out.later HJ.out.2).cel hy
            cases e1
            have y0 := cy.c0
            have x0 := (HCe.out _ HJ.out.2).c0
            have HTj : Hid (l.take (j + 1) = l.take j ++ [y]) := by
              unfold Hid; rw [List.take_add_one, hy]; rfl
            have HYk : Hid (y ∈ l.take k) := by
              apply List.mem_of_getElem? (i := j)
              rw [List.getElem?_take_of_lt hjl]
              exact hy
            clear cy hy
            go_upto_region 14 with fail
            go_quiet (fail)
            have B3 : Below wr.heap.size wr (wr.drewN nq) := below_dn (Below.refl _ _) nq
            obtain ⟨X3, hX3⟩ : ∃ X3, X3 = wr.drewN nq := ⟨_, rfl⟩
            rw [← hX3] at B3 ⊢
            have HB3 := Lib.hid (HJ.out.2.trans (B3.mono HJ.out.2.size))
            clear hX3 B3 y0 x0
            by_cases hq : y.num = e.num
            · have hq2 : (y.num == e.num) = true := by simpa using hq
              rw [hq2]
              have HE := Lib.hid (HBad2.out X3 (HF.out.below.trans (HB3.out.mono HF.out.below.size)) HPol.out (fun h => by
                have h1 := (HSn.out h).1
                have h2 : (l.take k).any (fun x => x.num == e.num) = true := List.any_eq_true.2 ⟨y, HYk.out, hq2⟩
                rw [h1] at h2
                cases h2))
              clear hq hq2
              go_wp2
              go_ret3
              exact HE.out
            · have hq2 : (y.num == e.num) = false := by simpa using hq
              rw [hq2]
              have HJ2 : Hid ((∀ z ∈ l.take (j + 1), z.num ≠ e.num) ∧ Below wr0.heap.size wr0 X3) := by
                refine ⟨fun z hz => ?_, HB3.out⟩
                rw [HTj.out] at hz
                rcases List.mem_append.1 hz with h | h
                · exact HJ.out.1 z h
                · simp at h; rw [h]; exact hq
              clear hq hq2
              go_wp2
              go_roundw
              case rel => exact ⟨j + 1, by omega, by go_num, HJ2⟩
              case measure => simp only [intOf]; omega
          · have hjge : ¬ (j : Int) < (k : Int) := by omega
            have hjk : j = k := by omega
            have x5 := (HCe.out _ HJ.out.2).c5
            have hadd := added_any (W := wr) (a := sv) (b := e.byt) sv0 (by omega)
            have HAdd := Lib.hid hadd
            obtain ⟨nv, hnv⟩ : ∃ nv, nv = addS sv e.byt := ⟨_, rfl⟩
            rw [← hnv] at HAdd
            have hnv1 : nv ≤ 2199023255552 ∧ 0 ≤ nv := by rw [hnv]; unfold addS; split <;> omega
            obtain ⟨nv1, nv0⟩ := hnv1
            have HF2 : Hid (Rf W l (wn : Int) q (mn : Int) wr (k + 1) nv) := by
              have f := HF.out.later HJ.out.2
              refine ⟨?_, ?_, f.below, f.box⟩
              · rw [HT.out]
                refine OkR.snoc.2 ⟨f.ok, ?_, by omega, by omega⟩
                rw [List.any_eq_false]
                intro y hy
                rw [← hjk] at hy
                simpa using HJ.out.1 y hy
              · rw [HT.out, allS_snoc, ← f.sum]
                exact hnv
            clear hadd hnv hjk HJ HF
            go_wp2_with fail
            refine Calls.mono HAdd.out ?_
            rintro z W1 ⟨rfl, rfl⟩
            go_wp2
            go_roundw
            case rel => exact ⟨k + 1, nv, by omega, by go_num, rfl, nv1, nv0, HF2⟩
            case measure => simp only [intOf]; omega
      · have hge : ¬ (k : Int) < (N : Int) := by omega
        have hkN : k = N := by omega
        subst hkN
        have hk2 : l.take k = l := List.take_of_length_le (by rw [← HN.out]; omega)
        have HF2 : Hid (OkR l ∧ Rf W l (wn : Int) q (mn : Int) wr k sv) := by
          refine ⟨?_, HF.out⟩
          have := HF.out.ok
          rw [hk2] at this
          exact this
        clear hk2 HF
        go_wp2_with fail
        go_meet
        exact ⟨sv, rfl, sv1, sv0, HF2⟩
  case rest =>
    obtain ⟨s, rfl, s1, s0, HF⟩ := hcut
    have hok : RunsOk l := ⟨by rw [← HN.out]; omega, HF.out.1⟩
    have HOk := Lib.hid hok
    have N64 : N ≤ 64 := by omega
    have hsum : s ≤ 16777216 ↔ sumB l ≤ maxB := by
      have h := allS_iff HF.out.1.byt
      have e1 := HF.out.2.sum
      have e2 : l.take N = l := List.take_of_length_le (by rw [← HN.out]; omega)
      rw [e2] at e1
      rw [← e1] at h
      exact h
    have HWant : Hid (A = ((wantR wn q mn l).1, (wantR wn q mn l).2, 0)) := by
      unfold Hid
      rw [HA.out, ans_ok HPol.out hok]
      simp
    obtain ⟨C, hC⟩ : ∃ C : Bool, C = decide (mn < N ∧ s ≤ 16777216) := ⟨_, rfl⟩
    have HCe := Lib.hid hC
    have HAll : Hid (C = true → A = (l.map MtD.num, true, 0)) := by
      intro h
      rw [HWant.out]
      unfold wantR
      rw [hC] at h
      have h2 := of_decide_eq_true h
      rw [HN.out, hsum] at h2
      rw [if_pos h2]
    have HNone : Hid (C = false → A = ansT l N (tierR wn q (sortS l))) := by
      intro h
      rw [HWant.out]
      unfold wantR ansT
      rw [hC] at h
      have h2 := of_decide_eq_false h
      rw [HN.out, hsum] at h2
      rw [if_neg h2, HN.out]
      cases tierR wn q (sortS l) <;> rfl
    have hr2 := HR.out.later HF.out.2.below
    have HRc := Lib.hid hr2
    have HBc := Lib.hid HF.out.2.below
    have HPc := Lib.hid HF.out.2.box
    have pc2 := HF.out.2.box.c2
    have HNums := Lib.hid (numbers_any hr2 hok.1)
    have HSort := Lib.hid (sorted_any hr2 hok.1)
    rw [← HN.out] at HNums HSort
    clear hok hsum hC hr2 HF HA HBad2 HS0 HP HB p0 p1 p2 h1 h2 h3 h4 h5 h6 HWant
    go_upto_region 17 with fail
    go_cut [99] (fun b99 wx => b99 = .bool C ∧ wx = wc)
    case first =>
      by_cases hmn : mn < N
      · have hmn2 : (mn : Int) < (N : Int) := by omega
        by_cases hs : s ≤ 16777216
        · have hCF : C = true := by rw [HCe.out]; simp [hmn, hs]
          go_wp2_with fail
          go_meet
          exact ⟨by rw [hCF], rfl⟩
        · have hCF : C = false := by rw [HCe.out]; simp [hs]
          go_wp2_with fail
          go_meet
          exact ⟨by rw [hCF], rfl⟩
      · have hmn2 : ¬ (mn : Int) < (N : Int) := by omega
        have hCF : C = false := by rw [HCe.out]; simp [hmn]
        go_wp2_with fail
        go_meet
        exact ⟨by rw [hCF], rfl⟩
    case rest =>
    obtain ⟨rfl, rfl⟩ := hcut
    clear pc2 HCe
    cases C with
    | true =>
      have HA3 := Lib.hid (HAll.out rfl)
      clear HAll HNone HSort
      go_wp2_with fail
      refine Calls.mono HNums.out ?_
      rintro z X4 ⟨v, rfl, own, bx4⟩
      obtain ⟨av, cv, rfl⟩ := own.form
      rw [List.length_map, ← HN.out] at own ⊢
      have HO := Lib.hid own
      have HB4 := Lib.hid bx4
      clear own bx4 HNums
      go_wp2
      go_ret3
      rw [HA3.out]
      have h3 := HBc.out
      exact ⟨_, rfl, HO.out.low h3.size, h3.trans (HB4.out.mono h3.size)⟩
    | false =>
      have HA3 := Lib.hid (HNone.out rfl)
      clear HAll HNone HNums
      go_wp2_with fail
      refine Calls.mono HSort.out ?_
      rintro z Y ⟨a2, c2, rfl, rd2, by2⟩
      obtain ⟨ss, hss⟩ : ∃ ss, ss = sortS l := ⟨_, rfl⟩
      rw [← hss] at rd2 HA3
      have HLs : Hid (ss.length = N) := by unfold Hid; rw [hss, sortS_len, ← HN.out]
      have HSb : Hid (∀ y ∈ ss, 0 ≤ y.byt) := fun y hy => HOk.out.2.byt y ((sortS_perm l).subset (by rw [← hss]; exact hy))
      have HRs := Lib.hid rd2
      have HRl := Lib.hid (HRc.out.later by2)
      have HPy := Lib.hid (HPc.out.later by2)
      have HBy := Lib.hid (HBc.out.trans (by2.mono HBc.out.size))
      have hc2 := rd2.cap
      clear hss rd2 by2 HSort HRc HPc HBc
      go_wp2
      go_loopw [11, 12, 13, 14] (fun i _ _ _ wr => ∃ iv : Nat, iv ≤ N ∧ i = .int .i64 (iv : Int) ∧ Hid (A = ansT l N (tierR wn q (ss.drop iv)) ∧ Below Y.heap.size Y wr)) (fun i _ _ _ _ => N - (intOf i).toNat)
      case atStart => exact ⟨0, Nat.zero_le _, rfl, by simpa using HA3.out, Below.refl _ _⟩
      case round =>
        clear HA3
        obtain ⟨iv, hiv, rfl, HI⟩ := hrel
        have i0 : (0 : Int) ≤ (iv : Int) := by omega
        by_cases hlt : iv < N
        · have hlt2 := len_int hlt
          obtain ⟨e, he⟩ : ∃ e, ss[iv]? = some e := ⟨ss[iv]'(by rw [HLs.out]; exact hlt), List.getElem?_eq_getElem _⟩
          have HE := Lib.hid he
          have HEb := Lib.hid (HSb.out e (List.mem_of_getElem? he))
          have HBw := Lib.hid HI.out.2
          have HAi := Lib.hid HI.out.1
          clear he HI
          go_wp2
          go_loopw [12, 13, 14] (fun sum n k wq => ∃ (nn : Nat) (sv : Int), nn ≤ wn ∧ iv + nn ≤ N ∧ n = .int .i64 (nn : Int) ∧ k = .int .i64 ((iv + nn : Nat) : Int) ∧ sum = .int .i64 sv ∧ sv ≤ 2199023255552 ∧ 0 ≤ sv ∧ Hid (sv = allS ((ss.drop iv).take nn) ∧ (∀ y ∈ (ss.drop iv).take nn, y.byt ≤ q * e.byt) ∧ Below Y.heap.size Y wq)) (fun _ n _ _ => wn - (intOf n).toNat)
          case atStart => exact ⟨0, 0, Nat.zero_le _, by omega, rfl, by simp, rfl, by omega, by omega, by simp [allS], (fun y hy => by simp at hy), HBw.out⟩
          case round =>
            clear HBw
            obtain ⟨nn, sv, hnn, hin, rfl, rfl, rfl, sv1, sv0, HJ⟩ := hrel
            obtain ⟨kk, hkk⟩ : ∃ kk, kk = iv + nn := ⟨_, rfl⟩
            have HKK := Lib.hid hkk
            rw [← hkk] at hin ⊢
            clear hkk
            have kk0 : (0 : Int) ≤ (kk : Int) := by omega
            have nn0 : (0 : Int) ≤ (nn : Int) := by omega
            obtain ⟨B, hB⟩ : ∃ B : Bool, (B = true ↔ nn < wn ∧ ∃ x, ss[kk]? = some x ∧ x.byt ≤ q * e.byt) := by
              by_cases h : nn < wn ∧ ∃ x, ss[kk]? = some x ∧ x.byt ≤ q * e.byt
              · exact ⟨true, by simp only [true_iff]; exact h⟩
              · exact ⟨false, by simp only [Bool.false_eq_true, false_iff]; exact h⟩
            have HB := Lib.hid hB
            clear hB
            have q1 : (1 : Int) ≤ q := by omega
            go_upto_region 26 with fail
            go_cut [164] (fun c wx => c = .bool B ∧ Hid (Below wr.heap.size wr wx))
            case first =>
              have HW : Hid (∀ n, Below wr.heap.size wr (wr.drewN n)) := fun n => below_dn (Below.refl _ _) n
              by_cases hkN : kk < N
              · have hkN2 := len_int hkN
                have pw := HPy.out.later HJ.out.2.2
                have p0 := pw.c0
                have p1 := pw.c1
                obtain ⟨x, hx⟩ : ∃ x, ss[kk]? = some x := ⟨ss[kk]'(by rw [HLs.out]; exact hkN), List.getElem?_eq_getElem _⟩
                have hrs := HRs.out.later HJ.out.2.2
                obtain ⟨bs, os, rfl, cx⟩ := hrs.cel hx
                obtain ⟨b', o', e1, ce⟩ := hrs.cel HE.out
                cases e1
                have x5 := cx.c5
                have e5 := ce.c5
                have xb := HSb.out x (List.mem_of_getElem? hx)
                have xm : x.byt ≤ 9223372036854775807 := (hrs.num x (List.mem_of_getElem? hx)).2.2
                have eb := HEb.out
                have HBx : Hid (B = true ↔ nn < wn ∧ x.byt ≤ q * e.byt) := by
                  unfold Hid
                  rw [HB.out]
                  constructor
                  · rintro ⟨h1, z, hz, h2⟩; rw [hx] at hz; cases hz; exact ⟨h1, h2⟩
                  · exact fun h => ⟨h.1, x, hx, h.2⟩
                have HDm : Hid (x.byt = q * (x.byt / q) + x.byt % q ∧ 0 ≤ x.byt % q ∧ x.byt % q < q) := ⟨(Int.mul_ediv_add_emod _ _).symm, Int.emod_nonneg _ (by omega), Int.emod_lt_of_pos _ (by omega)⟩
                have HLe : Hid (x.byt / q < e.byt → x.byt ≤ q * e.byt) := fun h => by
                  obtain ⟨d1, d2, d3⟩ := HDm.out
                  have : q * (x.byt / q + 1) ≤ q * e.byt := Int.mul_le_mul_of_nonneg_left (by omega) (by omega)
                  rw [Int.mul_add, Int.mul_one] at this
                  omega
                have HGt : Hid (e.byt < x.byt / q → ¬ x.byt ≤ q * e.byt) := fun h k => by
                  obtain ⟨d1, d2, d3⟩ := HDm.out
                  have : q * (e.byt + 1) ≤ q * (x.byt / q) := Int.mul_le_mul_of_nonneg_left (by omega) (by omega)
                  rw [Int.mul_add, Int.mul_one] at this
                  omega
                clear hx hrs cx ce HB pw
                by_cases hnw : nn < wn
                · have hnw2 := len_int hnw
                  by_cases hg : e.byt < x.byt / q
                  · have hg2 : decide (x.byt / q ≤ e.byt) = false := by simp; omega
                    have hB : B = false := by
                      cases hb : B with
                      | false => rfl
                      | true => exact absurd (HBx.out.1 hb).2 (HGt.out hg)
                    go_quiet (fail)
                    go_wp2_with fail
                    go_meet
                    exact ⟨by rw [hB], HW.out _⟩
                  · have hg1 : x.byt / q ≤ e.byt := by omega
                    by_cases hl : x.byt / q = e.byt
                    · have hl2 : (x.byt / q == e.byt) = true := by simp [hl]
                      by_cases hr : 0 < x.byt % q
                      · have hB : B = false := by
                          cases hb : B with
                          | false => rfl
                          | true =>
                            have := (HBx.out.1 hb).2
                            obtain ⟨d1, d2, d3⟩ := HDm.out
                            rw [hl] at d1
                            omega
                        clear hl
                        go_quiet (fail)
                        go_wp2_with fail
                        go_meet
                        exact ⟨by rw [hB], HW.out _⟩
                      · have hr2 : decide (0 < x.byt % q) = false := by simp; omega
                        have hB : B = true := HBx.out.2 ⟨hnw, by obtain ⟨d1, d2, d3⟩ := HDm.out; rw [hl] at d1; omega⟩
                        clear hl
                        go_quiet (fail)
                        go_wp2_with fail
                        go_meet
                        exact ⟨by rw [hB], HW.out _⟩
                    · have hl2 : (x.byt / q == e.byt) = false := by simp [hl]
                      have hB : B = true := HBx.out.2 ⟨hnw, HLe.out (by omega)⟩
                      go_quiet (fail)
                      go_wp2_with fail
                      go_meet
                      exact ⟨by rw [hB], HW.out _⟩
                · have hnw2 : decide ((nn : Int) < (wn : Int)) = false := by simp; omega
                  have hB : B = false := by
                    cases hb : B with
                    | false => rfl
                    | true => exact absurd (HBx.out.1 hb).1 hnw
                  go_quiet (fail)
                  go_wp2_with fail
                  go_meet
                  exact ⟨by rw [hB], HW.out _⟩
              · have hkN2 : decide ((kk : Int) < (N : Int)) = false := by simp; omega
                have hB : B = false := by
                  cases hb : B with
                  | false => rfl
                  | true =>
                    obtain ⟨_, x, hx, _⟩ := HB.out.1 hb
                    have := (List.getElem?_eq_some_iff.1 hx).1
                    rw [HLs.out] at this
                    omega
                go_quiet (fail)
                go_wp2_with fail
                go_meet
                exact ⟨by rw [hB], HW.out _⟩
            case rest =>
            obtain ⟨rfl, HWc⟩ := hcut
            have HBq := Lib.hid (HJ.out.2.2.trans (HWc.out.mono HJ.out.2.2.size))
            have hdk : (ss.drop iv)[nn]? = ss[kk]? := by rw [List.getElem?_drop, HKK.out]
            have HDk := Lib.hid hdk
            clear hdk HWc
            cases B with
            | true =>
              obtain ⟨hnw, x, hx, hle⟩ := HB.out.1 rfl
              have hkN : kk < N := by
                have := (List.getElem?_eq_some_iff.1 hx).1
                rw [HLs.out] at this
                exact this
              have hkN2 := len_int hkN
              obtain ⟨bs, os, rfl, cx⟩ := (HRs.out.later HBq.out).cel hx
              have x5 := cx.c5
              have xb := HSb.out x (List.mem_of_getElem? hx)
              have HAdd := Lib.hid (added_any (W := wc) (a := sv) (b := x.byt) sv0 xb)
              obtain ⟨nv, hnv⟩ : ∃ nv, nv = addS sv x.byt := ⟨_, rfl⟩
              rw [← hnv] at HAdd
              have hnv1 : nv ≤ 2199023255552 ∧ 0 ≤ nv := by rw [hnv]; unfold addS; split <;> omega
              obtain ⟨nv1, nv0⟩ := hnv1
              have HJ2 : Hid (nv = allS ((ss.drop iv).take (nn + 1)) ∧ (∀ y ∈ (ss.drop iv).take (nn + 1), y.byt ≤ q * e.byt) ∧ Below Y.heap.size Y wc) := by
                have ht : (ss.drop iv).take (nn + 1) = (ss.drop iv).take nn ++ [x] := by rw [List.take_add_one, HDk.out, hx]; rfl
                unfold Hid
                rw [ht, allS_snoc, ← HJ.out.1]
                refine ⟨hnv, fun y hy => ?_, HBq.out⟩
                rcases List.mem_append.1 hy with h | h
                · exact HJ.out.2.1 y h
                · simp at h; rw [h]; exact hle
              have HK1 : Hid (((iv + (nn + 1) : Nat) : Int) = (kk : Int) + 1) := by unfold Hid; have := HKK.out; omega
              have hin2 : iv + (nn + 1) ≤ N := by have := HKK.out; omega
              clear hx hle cx hnv HJ HB
              go_wp2_with fail
              refine Calls.mono HAdd.out ?_
              rintro z W1 ⟨rfl, rfl⟩
              go_wp2
              go_roundw
              case rel => exact ⟨nn + 1, nv, by omega, hin2, by go_num, by rw [HK1.out], rfl, nv1, nv0, HJ2⟩
              case measure => simp only [intOf]; omega
            | false =>
              have hlen : (inT wn (q * e.byt) (ss.drop iv)).length = nn := by
                refine inT_len hnn ?_ HJ.out.2.1 ?_
                · rw [List.length_drop, HLs.out]; have := HKK.out; omega
                · rw [HDk.out]
                  intro h
                  have := HB.out.2 h
                  cases this
              have hcons : ss.drop iv = e :: ss.drop (iv + 1) := by
                have hl : iv < ss.length := by rw [HLs.out]; exact hlt
                rw [List.drop_eq_getElem_cons hl]
                have := HE.out
                rw [List.getElem?_eq_getElem hl] at this
                rw [Option.some.inj this]
              have htier : tierR wn q (ss.drop iv) = if nn = wn ∧ sumB ((ss.drop iv).take wn) ≤ maxB then some ((ss.drop iv).take wn) else tierR wn q (ss.drop (iv + 1)) := by
                rw [← hlen]
                rw [hcons]
                rfl
              have HNext : Hid (¬ (nn = wn ∧ sv ≤ 16777216) → A = ansT l N (tierR wn q (ss.drop (iv + 1)))) := by
                intro h
                rw [HAi.out, htier, if_neg (fun k => h ⟨k.1, ?_⟩)]
                have h2 := k.2
                rw [← k.1] at h2
                rw [HJ.out.1]
                exact (allS_iff (fun r hr => HSb.out r (List.mem_of_mem_drop (List.mem_of_mem_take hr)))).2 h2
              have HHit : Hid (nn = wn → sv ≤ 16777216 → A = ansT l N (some ((ss.drop iv).take nn))) := by
                intro h1 h2
                rw [HJ.out.1] at h2
                have h5 := (allS_iff (fun r hr => HSb.out r (List.mem_of_mem_drop (List.mem_of_mem_take hr)))).1 h2
                rw [h1] at h5
                rw [HAi.out, htier, if_pos ⟨h1, h5⟩, h1]
              have pw := HPy.out.later HBq.out
              have p0 := pw.c0
              clear hlen hcons htier HJ HB HAi pw
              by_cases hnw : nn = wn
              · have hnw2 : (nn : Int) = (wn : Int) := by omega
                by_cases hsv : sv ≤ 16777216
                · obtain ⟨t, ht⟩ : ∃ t, t = (ss.drop iv).take nn := ⟨_, rfl⟩
                  have hA5 := HHit.out hnw hsv
                  rw [← ht] at hA5
                  have htl : t.length = nn := by rw [ht, List.length_take, List.length_drop, HLs.out]; have := HKK.out; omega
                  have hrs := HRs.out.later HBq.out
                  obtain ⟨bs, os, rfl, ce⟩ := hrs.cel HE.out
                  have hc3 : N ≤ c2 := by have := hc2.1; rw [HLs.out] at this; exact this
                  have hc4 : c2 ≤ 9223372036854775807 := by have := hc2.2; unfold maxLen at this; exact this
                  have hrt : RdM wc (some ⟨bs, os + iv * 8, none⟩) (c2 - iv) t := by rw [ht]; exact (hrs.drop iv (by omega)).take nn
                  have hpk := picked_any (HRl.out.later HBq.out) hrt (by rw [← HN.out]; exact N64) (by rw [htl]; omega)
                  rw [htl, ← HN.out] at hpk
                  have HPk := Lib.hid hpk
                  have hend : ∀ (v : Value) (Z : World), OwnI Z wc.heap.size v (pickR l t) → Below wc.heap.size wc Z → PickP W A (.returned (.tuple #[v, .bool ((nn : Int) == (N : Int)), .int .i64 0])) Z := by
                    intro v Z h1 h2
                    rw [hA5]
                    have hw := HBy.out.trans (HBq.out.mono HBy.out.size)
                    refine ⟨v, ?_, h1.low hw.size, hw.trans (h2.mono hw.size)⟩
                    have : decide (t.length = N) = ((nn : Int) == (N : Int)) := by
                      rw [htl]
                      by_cases hh : nn = N
                      · simp [hh]
                      · have h5 : ¬ (nn : Int) = (N : Int) := by omega
                        simp [hh, h5]
                    show _ = Ending.returned (.tuple #[v, .bool (decide (t.length = N)), .int .i64 0])
                    rw [this]
                  have HEnd := Lib.hid hend
                  have i1 : (iv : Int) + (nn : Int) ≤ (c2 : Int) := by have := HKK.out; omega
                  have i2 : (iv : Int) ≤ (iv : Int) + (nn : Int) := by omega
                  have i3 : ¬ c2 = iv := by omega
                  have i4 : ¬ (c2 : Int) = (iv : Int) := by omega
                  have i5 : iv + nn ≤ 9223372036854775807 := by omega
                  clear ht hA5 htl hrs ce hrt hpk hend HNext HHit
                  go_upto_region 31 with fail
                  clear hnw hnw2
                  go_wp2_with fail
                  refine Calls.mono HPk.out ?_
                  rintro z X5 ⟨v, rfl, own, bx5⟩
                  have HE5 := Lib.hid (HEnd.out v X5 own bx5)
                  obtain ⟨av, cv, rfl⟩ := own.form
                  obtain ⟨pn, hpn⟩ : ∃ pn, pn = (pickR l t).length := ⟨_, rfl⟩
                  rw [← hpn] at HE5 ⊢
                  clear own bx5 HPk HEnd hpn
                  go_wp2
                  go_ret3
                  exact HE5.out
                · have HA5 := Lib.hid (HNext.out (fun k => hsv k.2))
                  have HI2 : Hid (A = ansT l N (tierR wn q (ss.drop (iv + 1))) ∧ Below Y.heap.size Y wc) := ⟨HA5.out, HBq.out⟩
                  clear HNext HHit hnw
                  go_wp2
                  go_roundw
                  case rel => exact ⟨iv + 1, by omega, by go_num, HI2⟩
                  case measure => simp only [intOf]; omega
              · have hnw2 : ¬ (nn : Int) = (wn : Int) := by omega
                have HI2 : Hid (A = ansT l N (tierR wn q (ss.drop (iv + 1))) ∧ Below Y.heap.size Y wc) := ⟨HNext.out (fun k => hnw k.1), HBq.out⟩
                clear HNext HHit
                go_wp2
                go_roundw
                case rel => exact ⟨iv + 1, by omega, by go_num, HI2⟩
                case measure => simp only [intOf]; omega
        · have hge : ¬ (iv : Int) < (N : Int) := by omega
          have hd : ss.drop iv = [] := List.drop_of_length_le (by rw [HLs.out]; omega)
          have hA4 := HI.out.1
          rw [hd] at hA4
          have HA4 : Hid (A = ([], false, 0)) := hA4
          have HB4 := Lib.hid (HBy.out.trans (HI.out.2.mono HBy.out.size))
          clear hd hA4 HI
          go_wp2
          go_ret3
          rw [HA4.out]
          exact ⟨_, rfl, OwnI.nil _ _, HB4.out⟩
end Go.Proofs.Ytodejneceedglaa

namespace Go.Proofs.Ytodejneceedglaa
open Go.RowKit Go.Maps
set_option linter.unusedVariables false

set_option maxRecDepth 100000 in
theorem num_any {W : World} (n : Int) : Calls Try.prog 6 #[.int .i64 n] W fun e W' => e = .returned (.int .i64 n) ∧ W' = W := by
  go_enter Try.func6, Try.ntmps6
  go_wp2
  go_ret
  exact ⟨rfl, rfl⟩
structure RdI (w : World) (a : Option Addr) (kp : Nat) (xs : List Int) : Prop where
  cap : xs.length ≤ kp ∧ kp ≤ maxLen
  at_ : xs = [] ∨ ∃ b off, a = some ⟨b, off, none⟩ ∧ ∀ (i : Nat) x, xs[i]? = some x → w.cell? ⟨b, off + i, none⟩ = some (.int .i64 x)
theorem RdI.later {w w' : World} {a : Option Addr} {kp : Nat} {xs : List Int} (h : RdI w a kp xs) (hb : Below w.heap.size w w') : RdI w' a kp xs := by
  refine ⟨h.cap, ?_⟩
  rcases h.at_ with h1 | ⟨b, off, rfl, hc⟩
  · exact .inl h1
  · exact .inr ⟨b, off, rfl, fun i x hi => by rw [hb.cell (p := ⟨b, off + i, none⟩) (World.block_lt_of_cell? w _ (hc i x hi))]; exact hc i x hi⟩
theorem RdI.cel {w : World} {a : Option Addr} {kp : Nat} {xs : List Int} (h : RdI w a kp xs) {i : Nat} {x : Int} (hi : xs[i]? = some x) : ∃ b off, a = some ⟨b, off, none⟩ ∧ w.cell? ⟨b, off + i, none⟩ = some (.int .i64 x) := by
  rcases h.at_ with h1 | ⟨b, off, rfl, hc⟩
  · rw [h1] at hi; simp at hi
  · exact ⟨b, off, rfl, hc i x hi⟩
theorem OwnI.rd {w : World} {B : Nat} {a : Option Addr} {c n : Nat} {xs : List Int} (h : OwnI w B (.slice a n c) xs) : RdI w a c xs := by
  rcases h.2 with ⟨h1, h2⟩ | ⟨g, cap, cur, h1, h2, h3, h4, h5, h6, h7⟩
  · simp only [Value.slice.injEq] at h1
    obtain ⟨rfl, -, rfl⟩ := h1
    exact ⟨⟨by omega, Nat.zero_le _⟩, .inl (List.eq_nil_of_length_eq_zero h2)⟩
  · simp only [Value.slice.injEq] at h1
    obtain ⟨rfl, -, rfl⟩ := h1
    refine ⟨⟨h4, h5⟩, .inr ⟨g, 0, rfl, fun i x hi => ?_⟩⟩
    have il := (List.getElem?_eq_some_iff.1 hi).1
    have hv : (iv xs)[i]? = some (.int .i64 x) := by unfold iv; rw [List.getElem?_map, hi]; rfl
    rw [← h7, List.getElem?_take_of_lt (by omega)] at hv
    have e : cur[i]? = some (.int .i64 x) := by simpa using hv
    rw [Nat.zero_add]
    simp [World.cell?, h3, e]
def SaP (W : World) (xs ys : List Int) (e : Ending) (W' : World) : Prop := ∃ q, e = .returned (.bool q) ∧ (q = true ↔ xs = ys) ∧ Below W.heap.size W W'
set_option maxRecDepth 100000 in
set_option maxHeartbeats 2000000 in
theorem sameInts_any {W : World} {a a2 : Option Addr} {c c2 : Nat} {xs ys : List Int} (h1 : RdI W a c xs) (h2 : RdI W a2 c2 ys) :
    Calls Try.prog 5 #[.slice a xs.length c, .slice a2 ys.length c2] W fun e W' => SaP W xs ys e W' := by
  obtain ⟨N, hN⟩ : ∃ N, N = xs.length := ⟨_, rfl⟩
  obtain ⟨M, hM⟩ : ∃ M, M = ys.length := ⟨_, rfl⟩
  rw [← hN, ← hM]
  have HN := Lib.hid hN
  have HM := Lib.hid hM
  have H1 := Lib.hid h1
  have H2 := Lib.hid h2
  have hNm : N ≤ 9223372036854775807 := by have := h1.cap; unfold maxLen at this; omega
  have hc1 := h1.cap
  have hc2 := h2.cap
  clear hN hM h1 h2
  go_enter Try.func5, Try.ntmps5
  by_cases hl : N = M
  · subst hl
    go_wp2
    go_loopw [5] (fun i wr => ∃ k : Nat, k ≤ N ∧ i = .int .i64 (k : Int) ∧ Hid (xs.take k = ys.take k ∧ Below W.heap.size W wr)) (fun i _ => N - (intOf i).toNat)
    case atStart => exact ⟨0, Nat.zero_le _, rfl, by simp, Below.refl _ _⟩
    case round =>
      obtain ⟨k, hk, rfl, HJ⟩ := hrel
      have k0 : (0 : Int) ≤ (k : Int) := by omega
      by_cases hlt : k < N
      · have hlt2 := len_int hlt
        obtain ⟨x, hx⟩ : ∃ x, xs[k]? = some x := ⟨xs[k]'(by rw [← HN.out]; exact hlt), List.getElem?_eq_getElem _⟩
        obtain ⟨y, hy⟩ : ∃ y, ys[k]? = some y := ⟨ys[k]'(by rw [← HM.out]; exact hlt), List.getElem?_eq_getElem _⟩
        obtain ⟨b, off, rfl, d0⟩ := (H1.out.later HJ.out.2).cel hx
        obtain ⟨b2, off2, rfl, y0⟩ := (H2.out.later HJ.out.2).cel hy
        have HX := Lib.hid (And.intro hx hy)
        clear hx hy
        go_upto_region 6 with fail
        go_quiet (fail)
        have B3 : Below wr.heap.size wr (wr.drewN nq) := below_dn (Below.refl _ _) nq
        obtain ⟨X, hX⟩ : ∃ X, X = wr.drewN nq := ⟨_, rfl⟩
        rw [← hX] at B3 ⊢
        have HBx := Lib.hid (HJ.out.2.trans (B3.mono HJ.out.2.size))
        clear hX B3 d0 y0
        by_cases hq : x = y
        · have hq2 : (x != y) = false := by simpa using hq
          have HJ2 : Hid (xs.take (k + 1) = ys.take (k + 1) ∧ Below W.heap.size W X) := by
            refine ⟨?_, HBx.out⟩
            rw [List.take_add_one, List.take_add_one, HX.out.1, HX.out.2, HJ.out.1, hq]
          clear hq
          go_wp2
          go_roundw
          case rel => exact ⟨k + 1, by omega, by go_num, HJ2⟩
          case measure => simp only [intOf]; omega
        · have hq2 : (x != y) = true := by simpa using hq
          have HE : Hid (SaP W xs ys (.returned (.bool false)) X) := by
            refine ⟨false, rfl, ?_, HBx.out⟩
            constructor
            · intro h; cases h
            · intro h
              have h1 := HX.out.1
              rw [h, HX.out.2] at h1
              exact absurd (Option.some.inj h1).symm hq
          go_wp2
          go_ret
          exact HE.out
      · have hge : ¬ (k : Int) < (N : Int) := by omega
        have HE : Hid (SaP W xs ys (.returned (.bool true)) wr) := by
          refine ⟨true, rfl, ?_, HJ.out.2⟩
          have h1 := HJ.out.1
          rw [List.take_of_length_le (by rw [← HN.out]; omega), List.take_of_length_le (by rw [← HM.out]; omega)] at h1
          simp [h1]
        clear HJ
        go_wp2
        go_ret
        exact HE.out
  · have hl2 : ¬ (N : Int) = (M : Int) := by omega
    have HE : Hid (SaP W xs ys (.returned (.bool false)) W) := by
      refine ⟨false, rfl, ?_, Below.refl _ _⟩
      constructor
      · intro h; cases h
      · intro h
        rw [HN.out, HM.out, h] at hl
        exact absurd rfl hl
    go_wp2
    go_ret
    exact HE.out
end Go.Proofs.Ytodejneceedglaa

namespace Go.Proofs.Ytodejneceedglaa
open Go.RowKit Go.Maps
set_option linter.unusedVariables false

def mt0 (n b : Int) : MtD := ⟨n, 0, 0, 0, 0, b, none, 0, 0, none, 0, 0⟩
def three : List MtD := [mt0 3 900, mt0 2 150, mt0 1 100]
theorem ok_three : RunsOk three := by
  refine ⟨by decide, ⟨?_, ?_, ?_⟩⟩
  · intro r hr; simp [three, mt0] at hr; rcases hr with rfl | rfl | rfl <;> decide
  · intro r hr; simp [three, mt0] at hr; rcases hr with rfl | rfl | rfl <;> decide
  · simp [three, mt0]
theorem ans_three : ansR 2 2 4 three = ([2, 1], false, 0) := by
  rw [ans_ok (by decide) ok_three]
  decide
theorem mvals_three : mvals three = [.int .i64 3, .int .i64 0, .int .i64 0, .int .i64 0, .int .i64 0, .int .i64 900, .slice none 0 0, .slice none 0 0, .int .i64 2, .int .i64 0, .int .i64 0, .int .i64 0, .int .i64 0, .int .i64 150, .slice none 0 0, .slice none 0 0, .int .i64 1, .int .i64 0, .int .i64 0, .int .i64 0, .int .i64 0, .int .i64 100, .slice none 0 0, .slice none 0 0] := rfl
theorem laid_runs {w : World} {xs : List MtD} {n : Nat} (hn : n = xs.length) (hm : n ≤ 64) (h : ∀ x ∈ xs, In64 x.num ∧ In64 x.byt) : RdM (w.alloc (.cells (mvals xs).toArray 31)) (some ⟨w.heap.size, 0, none⟩) n xs := by
  subst hn
  refine ⟨⟨Nat.le_refl _, by unfold maxLen; omega⟩, .inr ⟨w.heap.size, 0, rfl, fun i x hi j u hj => ?_⟩, h, fun z => by cases z⟩
  have := mvals_at hi hj
  rw [Nat.zero_add]
  unfold World.cell?
  rw [heap_alloc_new]
  simpa using this
theorem laid_ints {w : World} {xs : List Int} {n : Nat} (hn : n = xs.length) (hm : n ≤ 64) : RdI (w.alloc (.cells (iv xs).toArray 3)) (some ⟨w.heap.size, 0, none⟩) n xs := by
  subst hn
  refine ⟨⟨Nat.le_refl _, by unfold maxLen; omega⟩, .inr ⟨w.heap.size, 0, rfl, fun i x hi => ?_⟩⟩
  have hv : (iv xs)[i]? = some (.int .i64 x) := by unfold iv; rw [List.getElem?_map, hi]; rfl
  rw [Nat.zero_add]
  unfold World.cell?
  rw [heap_alloc_new]
  simpa using hv
theorem in64_three : ∀ x ∈ three, In64 x.num ∧ In64 x.byt := by
  intro r hr
  simp [three, mt0] at hr
  rcases hr with rfl | rfl | rfl <;> exact ⟨⟨by decide, by decide⟩, ⟨by decide, by decide⟩⟩
theorem build_three (w : World) : (Instr.buildSlice 24 3 #[(0, .agg #[.int .i64 3, .int .i64 0, .int .i64 0, .int .i64 0, .int .i64 0, .int .i64 900, .slice none 0 0, .slice none 0 0]), (1, .agg #[.int .i64 2, .int .i64 0, .int .i64 0, .int .i64 0, .int .i64 0, .int .i64 150, .slice none 0 0, .slice none 0 0]), (2, .agg #[.int .i64 1, .int .i64 0, .int .i64 0, .int .i64 0, .int .i64 0, .int .i64 100, .slice none 0 0, .slice none 0 0])]).run Try.prog w = .ok (.slice (some ⟨w.heap.size, 0, none⟩) 3 3) (w.alloc (.cells (mvals three).toArray 31)) := by
  obtain ⟨i0, hi, hz0, hz1, hz2⟩ := info_parts info_run
  refine run_buildSlice w _ _ 3 _ _ i0 _ und_runs hi hz0 (by rw [hz1]; decide) (by rw [hz1]; decide) ?_
  rw [hz1]
  kernel_rfl
end Go.Proofs.Ytodejneceedglaa
