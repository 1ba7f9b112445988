import Derived.Test.YthhkpkfpifllkaaGreatK16
namespace Go.Proofs.YthhkpkfpifllkaaGreat
open Go.RowKit Go.Maps
set_option linter.unusedVariables false

def chkF (k : Int) (e : EntD) : Int := if checkS e ≠ 0 then (checkS e : Int) else if 0 ≤ k ∧ k ≤ e.fam then 21 else 0
theorem chkF_k (k : Nat) (e : EntD) : chkF (k : Int) e = check3S k e := by
  unfold chkF check3S
  by_cases h : checkS e ≠ 0
  · rw [if_pos h, if_pos h]
  · rw [if_neg h, if_neg h]
    by_cases z : (k : Int) ≤ e.fam
    · rw [if_pos ⟨by omega, z⟩, if_pos z]
    · rw [if_neg (fun y => z y.2), if_neg z]
def OneS (l : List EntD) : Prop := ∀ x ∈ l, ∀ y ∈ l, x.seq = y.seq → x.dat = y.dat
theorem oneS_once (l : List EntD) : OneS l ↔ onceS l ≠ none := by
  constructor
  · intro h z
    obtain ⟨xs, hx⟩ := once_ok l [] (by rw [List.nil_append]; exact h)
    have : onceS l = some xs := hx
    rw [this] at z
    cases z
  · intro h x hx y hy e
    cases ho : onceS l with
    | none => exact absurd ho h
    | some xs =>
      obtain ⟨h1, h2⟩ := once_all l [] xs List.Pairwise.nil ho
      have m1 := (h2 x.dat).2 (by simpa using List.mem_map_of_mem hx)
      have m2 := (h2 y.dat).2 (by simpa using List.mem_map_of_mem hy)
      have hp : (xs.map EntD.dat).Pairwise fun a b => a.seq ≠ b.seq := by rw [List.pairwise_map]; exact h1
      exact pair_eq hp m1 m2 e
set_option maxRecDepth 100000 in
set_option maxHeartbeats 8000000 in
theorem refChecked_any {w : World} {a : Option Addr} {cap : Nat} {l : List EntD} (k : Int) (hl : RdL3 w a cap l) (hn : l.length ≤ 1353245080300) :
    Calls Tryz.prog 50 #[.slice a l.length cap, .int .i64 k] w fun r w' => r = .returned (.int .i64 (inOrderE (chkF k) l)) ∧ Below w.heap.size w w' := by
  obtain ⟨N, hN⟩ : ∃ N, N = l.length := ⟨_, rfl⟩
  obtain ⟨R, hR⟩ : ∃ R, R = inOrderE (chkF k) l := ⟨_, rfl⟩
  have hc := hl.cap
  rw [← hN] at hn hc ⊢
  rw [← hR]
  have HN := Lib.hid hN
  have HR := Lib.hid hR
  have HL := Lib.hid hl
  clear hN hR hl
  go_enter Tryz.func50, Tryz.ntmps50
  go_wp2
  go_loopw [5, 6] (fun i _ wr => ∃ t : Nat, t ≤ N ∧ i = .int .i64 (t : Int) ∧ Hid (∀ x ∈ l.take t, chkF k x = 0) ∧ Hid (Below w.heap.size w wr)) (fun i _ _ => N - (intOf i).toNat)
  case atStart => exact ⟨0, Nat.zero_le _, rfl, (fun x hx => by simp at hx), Below.refl _ _⟩
  case round =>
    obtain ⟨t, ht, rfl, HAll, HBw⟩ := hrel
    have t0 : (0 : Int) ≤ (t : Int) := by omega
    by_cases hlt : t < N
    · have hlt2 : (t : Int) < (N : Int) := by omega
      obtain ⟨e, he⟩ : ∃ e, l[t]? = some e := ⟨l[t]'(by rw [← HN.out]; exact hlt), List.getElem?_eq_getElem _⟩
      obtain ⟨ba, oa, rfl⟩ : ∃ b off, a = some ⟨b, off, none⟩ := by
        rcases HL.out.at_ with h0 | ⟨b, off, q, _⟩
        · rw [h0] at he; simp at he
        · exact ⟨b, off, q⟩
      have HCs : Hid (∀ Z, Below w.heap.size w Z → Z.cell? ⟨ba, oa + t * 7, none⟩ = some e.vr ∧ Z.cell? ⟨ba, oa + t * 7 + 1, none⟩ = some (.int .i64 e.fam) ∧ Z.cell? ⟨ba, oa + t * 7 + 2, none⟩ = some e.vq ∧ Z.cell? ⟨ba, oa + t * 7 + 3, none⟩ = some (.int .i64 e.ts) ∧ Z.cell? ⟨ba, oa + t * 7 + 4, none⟩ = some (.int .i64 e.seq) ∧ Z.cell? ⟨ba, oa + t * 7 + 5, none⟩ = some (.int .i64 e.kind) ∧ Z.cell? ⟨ba, oa + t * 7 + 6, none⟩ = some e.vv) := fun Z b => by
        have cx := (HL.out.later b).cells (Below.refl _ _) he
        exact ⟨by have := cx 0 _ rfl; simpa using this, cx 1 _ rfl, cx 2 _ rfl, cx 3 _ rfl, cx 4 _ rfl, cx 5 _ rfl, cx 6 _ rfl⟩
      have HCk := Lib.hid (refCheck_any ((HL.out.later HBw.out).ok e (List.mem_of_getElem? he)))
      unfold EntD.cells at HCk
      obtain ⟨c, hc2⟩ : ∃ c, c = checkS e := ⟨_, rfl⟩
      rw [← hc2] at HCk
      have HC2 := Lib.hid hc2
      have HE := Lib.hid he
      have HBad : Hid (chkF k e ≠ 0 → R = chkF k e) := fun h0 => by
        have hd : l = l.take t ++ e :: l.drop (t + 1) := by
          have h1 := (List.getElem?_eq_some_iff.1 HE.out)
          rw [← h1.2, ← List.drop_eq_getElem_cons, List.take_append_drop]
        have hfb : firstBad (chkF k) l = chkF k e := by
          rw [hd]
          exact firstBad_at HAll.out h0
        rw [HR.out, inOrderE, if_pos (by rw [hfb]; exact h0), hfb]
      have HGood : Hid (chkF k e = 0 → ∀ x ∈ l.take (t + 1), chkF k x = 0) := fun h0 x hx => by
        rw [List.take_add_one, HE.out] at hx
        rcases List.mem_append.1 hx with q | q
        · exact HAll.out x q
        · have : x = e := by simpa using q
          rw [this]; exact h0
      obtain ⟨x0, x1, x2, x3, x4, x5, x6⟩ := HCs.out _ HBw.out
      clear he hc2
      go_wp2_with fail
      refine Calls.mono HCk.out ?_
      rintro r w1 ⟨rfl, b1⟩
      have B1 := Lib.hid (HBw.out.trans (b1.mono HBw.out.size))
      clear b1 x0 x1 x2 x3 x4 x5 x6 HCk
      obtain ⟨x0, x1, x2, x3, x4, x5, x6⟩ := HCs.out _ B1.out
      by_cases c0 : c = 0
      · by_cases k0 : 0 ≤ k
        · have dk : decide ((0 : Int) ≤ k) = true := decide_eq_true k0
          by_cases kf : k ≤ e.fam
          · have df : decide (k ≤ e.fam) = true := decide_eq_true kf
            have q : Hid (R = 21) := by
              have : chkF k e = 21 := by unfold chkF; rw [← HC2.out, if_neg (by simpa using c0), if_pos ⟨k0, kf⟩]
              unfold Hid
              rw [HBad.out (by rw [this]; decide), this]
            subst c0
            clear k0 kf
            go_wp2
            go_ret
            exact ⟨by rw [q.out]; rfl, B1.out⟩
          · have df : decide (k ≤ e.fam) = false := decide_eq_false kf
            have q : Hid (∀ x ∈ l.take (t + 1), chkF k x = 0) := HGood.out (by unfold chkF; rw [← HC2.out, if_neg (by simpa using c0), if_neg (fun z => kf z.2)])
            subst c0
            clear k0 kf
            go_wp2
            go_roundw
            case rel => exact ⟨t + 1, by omega, by go_num, q.out, B1.out⟩
            case measure => simp only [intOf]; omega
        · have dk : decide ((0 : Int) ≤ k) = false := decide_eq_false k0
          have q : Hid (∀ x ∈ l.take (t + 1), chkF k x = 0) := HGood.out (by unfold chkF; rw [← HC2.out, if_neg (by simpa using c0), if_neg (fun z => k0 z.1)])
          subst c0
          clear k0
          go_wp2
          go_roundw
          case rel => exact ⟨t + 1, by omega, by go_num, q.out, B1.out⟩
          case measure => simp only [intOf]; omega
      · have dc : ((c : Int) != 0) = true := by simp; omega
        have q : Hid (R = (c : Int)) := by
          have : chkF k e = (c : Int) := by unfold chkF; rw [← HC2.out, if_pos c0]
          unfold Hid
          rw [HBad.out (by rw [this]; omega), this]
        clear c0
        go_wp2
        go_ret
        exact ⟨by rw [q.out]; rfl, B1.out⟩
    · have hge : ¬ (t : Int) < (N : Int) := by omega
      have HAl : Hid (∀ x ∈ l, chkF k x = 0) := fun x hx => HAll.out x (by rw [List.take_of_length_le (by rw [← HN.out]; omega)]; exact hx)
      have HRv : Hid ((¬ OneS l → R = 31) ∧ (OneS l → R = 0)) := by
        have e : R = if onceS l = none then 31 else 0 := by rw [HR.out, inOrderE, if_neg (by rw [firstBad_zero HAl.out]; simp)]
        refine ⟨fun z => ?_, fun z => ?_⟩
        · rw [e, if_pos]
          cases ho : onceS l with
          | none => rfl
          | some xs => exact absurd ((oneS_once l).2 (by rw [ho]; simp)) z
        · rw [e, if_neg ((oneS_once l).1 z)]
      clear HAll
      go_wp2
      go_loopw [7, 8, 9] (fun i _ _ wr => ∃ u : Nat, u ≤ N ∧ i = .int .i64 (u : Int) ∧ Hid (OneS (l.take u)) ∧ Hid (Below w.heap.size w wr)) (fun i _ _ _ => N - (intOf i).toNat)
      case atStart => exact ⟨0, Nat.zero_le _, rfl, (fun x hx => by simp at hx), HBw.out⟩
      case round =>
        obtain ⟨u, hu, rfl, HOn, HBu⟩ := hrel
        have u0 : (0 : Int) ≤ (u : Int) := by omega
        by_cases hlu : u < N
        · have hlu2 : (u : Int) < (N : Int) := by omega
          obtain ⟨x, hx⟩ : ∃ x, l[u]? = some x := ⟨l[u]'(by rw [← HN.out]; exact hlu), List.getElem?_eq_getElem _⟩
          have HX := Lib.hid hx
          obtain ⟨ba, oa, rfl⟩ : ∃ b off, a = some ⟨b, off, none⟩ := by
            rcases HL.out.at_ with h0 | ⟨b, off, q, _⟩
            · rw [h0] at hx; simp at hx
            · exact ⟨b, off, q⟩
          clear hx
          go_wp2
          go_loopw [8, 9] (fun i _ wr => ∃ v : Nat, v ≤ u ∧ i = .int .i64 (v : Int) ∧ Hid (∀ y ∈ l.take v, y.seq = x.seq → y.dat = x.dat) ∧ Hid (Below w.heap.size w wr)) (fun i _ _ => u - (intOf i).toNat)
          case atStart => exact ⟨0, Nat.zero_le _, rfl, (fun y hy => by simp at hy), HBu.out⟩
          case round =>
            obtain ⟨v, hv, rfl, HYs, HBv⟩ := hrel
            have v0 : (0 : Int) ≤ (v : Int) := by omega
            by_cases hlv : v < u
            · have hlv2 : (v : Int) < (u : Int) := by omega
              have hvN : (v : Int) < (N : Int) := by omega
              obtain ⟨y, hy⟩ : ∃ y, l[v]? = some y := ⟨l[v]'(by rw [← HN.out]; omega), List.getElem?_eq_getElem _⟩
              have HY := Lib.hid hy
              have HCx : Hid (∀ Z, Below w.heap.size w Z → (Z.cell? ⟨ba, oa + u * 7, none⟩ = some x.vr ∧ Z.cell? ⟨ba, oa + u * 7 + 1, none⟩ = some (.int .i64 x.fam) ∧ Z.cell? ⟨ba, oa + u * 7 + 2, none⟩ = some x.vq ∧ Z.cell? ⟨ba, oa + u * 7 + 3, none⟩ = some (.int .i64 x.ts) ∧ Z.cell? ⟨ba, oa + u * 7 + 4, none⟩ = some (.int .i64 x.seq) ∧ Z.cell? ⟨ba, oa + u * 7 + 5, none⟩ = some (.int .i64 x.kind) ∧ Z.cell? ⟨ba, oa + u * 7 + 6, none⟩ = some x.vv) ∧ (Z.cell? ⟨ba, oa + v * 7, none⟩ = some y.vr ∧ Z.cell? ⟨ba, oa + v * 7 + 1, none⟩ = some (.int .i64 y.fam) ∧ Z.cell? ⟨ba, oa + v * 7 + 2, none⟩ = some y.vq ∧ Z.cell? ⟨ba, oa + v * 7 + 3, none⟩ = some (.int .i64 y.ts) ∧ Z.cell? ⟨ba, oa + v * 7 + 4, none⟩ = some (.int .i64 y.seq) ∧ Z.cell? ⟨ba, oa + v * 7 + 5, none⟩ = some (.int .i64 y.kind) ∧ Z.cell? ⟨ba, oa + v * 7 + 6, none⟩ = some y.vv)) := fun Z b => by
                have cx := (HL.out.later b).cells (Below.refl _ _) HX.out
                have cy := (HL.out.later b).cells (Below.refl _ _) hy
                exact ⟨⟨by have := cx 0 _ rfl; simpa using this, cx 1 _ rfl, cx 2 _ rfl, cx 3 _ rfl, cx 4 _ rfl, cx 5 _ rfl, cx 6 _ rfl⟩, by have := cy 0 _ rfl; simpa using this, cy 1 _ rfl, cy 2 _ rfl, cy 3 _ rfl, cy 4 _ rfl, cy 5 _ rfl, cy 6 _ rfl⟩
              have HSm : Hid (∀ Z, Below w.heap.size w Z → Calls Tryz.prog 45 #[.agg x.cells, .agg y.cells] Z fun r w' => r = .returned (.bool (decide (EntD.Same x y))) ∧ Below Z.heap.size Z w') := fun Z b => same3r_any ((HL.out.later b).ok x (List.mem_of_getElem? HX.out)) ((HL.out.later b).ok y (List.mem_of_getElem? hy))
              unfold EntD.cells at HSm
              obtain ⟨sm, hsm⟩ : ∃ sm, sm = decide (EntD.Same x y) := ⟨_, rfl⟩
              rw [← hsm] at HSm
              have HSv : Hid (sm = true ↔ y.dat = x.dat) := by
                unfold Hid
                rw [hsm, decide_eq_true_eq, ← EntD.dat_same]
                exact ⟨fun h => h.symm, fun h => h.symm⟩
              have HNx : Hid ((y.seq = x.seq → y.dat = x.dat) → ∀ z ∈ l.take (v + 1), z.seq = x.seq → z.dat = x.dat) := fun h z hz e => by
                rw [List.take_add_one, HY.out] at hz
                rcases List.mem_append.1 hz with q | q
                · exact HYs.out z q e
                · have : z = y := by simpa using q
                  rw [this] at e ⊢; exact h e
              have D0 : Below w.heap.size w wr.drew := HBv.out.drew
              clear hy hsm
              go_wp2_with fail
              go_region_held3 (fun Z => (Z.cell? ⟨ba, oa + u * 7, none⟩ = some x.vr ∧ Z.cell? ⟨ba, oa + u * 7 + 1, none⟩ = some (.int .i64 x.fam) ∧ Z.cell? ⟨ba, oa + u * 7 + 2, none⟩ = some x.vq ∧ Z.cell? ⟨ba, oa + u * 7 + 3, none⟩ = some (.int .i64 x.ts) ∧ Z.cell? ⟨ba, oa + u * 7 + 4, none⟩ = some (.int .i64 x.seq) ∧ Z.cell? ⟨ba, oa + u * 7 + 5, none⟩ = some (.int .i64 x.kind) ∧ Z.cell? ⟨ba, oa + u * 7 + 6, none⟩ = some x.vv) ∧ (Z.cell? ⟨ba, oa + v * 7, none⟩ = some y.vr ∧ Z.cell? ⟨ba, oa + v * 7 + 1, none⟩ = some (.int .i64 y.fam) ∧ Z.cell? ⟨ba, oa + v * 7 + 2, none⟩ = some y.vq ∧ Z.cell? ⟨ba, oa + v * 7 + 3, none⟩ = some (.int .i64 y.ts) ∧ Z.cell? ⟨ba, oa + v * 7 + 4, none⟩ = some (.int .i64 y.seq) ∧ Z.cell? ⟨ba, oa + v * 7 + 5, none⟩ = some (.int .i64 y.kind) ∧ Z.cell? ⟨ba, oa + v * 7 + 6, none⟩ = some y.vv)) (first | exact HCx.out _ D1 | exact HCx.out _ D0) ((go_at_call 45; refine Calls.mono (HSm.out _ D0) ?_; rintro e1 w2 ⟨rfl, hb1⟩; have D1 := D0.trans (hb1.mono D0.size)))
              have BD := Lib.hid D1
              clear D0 D1
              obtain ⟨⟨x0, x1, x2, x3, x4, x5, x6⟩, y0, y1, y2, y3, y4, y5, y6⟩ := HCx.out _ BD.out
              by_cases cs : x.seq = y.seq
              · have ds : (x.seq == y.seq) = true := by simpa using cs
                cases sm with
                | true =>
                  have q : Hid (∀ z ∈ l.take (v + 1), z.seq = x.seq → z.dat = x.dat) := HNx.out (fun _ => HSv.out.1 rfl)
                  clear cs
                  go_wp2_with fail
                  go_quiet (fail)
                  go_wp2
                  go_roundw
                  case rel => exact ⟨v + 1, by omega, by go_num, q.out, below_drewN BD.out _⟩
                  case measure => simp only [intOf]; omega
                | false =>
                  have q : Hid (R = 31) := HRv.out.1 (fun z => by
                    have := HSv.out.2 (z y (List.mem_of_getElem? HY.out) x (List.mem_of_getElem? HX.out) cs.symm)
                    cases this)
                  clear cs
                  go_wp2_with fail
                  go_quiet (fail)
                  go_wp2
                  go_ret
                  exact ⟨by rw [q.out]; rfl, below_drewN BD.out _⟩
              · have ds : (x.seq == y.seq) = false := by simpa using cs
                have q : Hid (∀ z ∈ l.take (v + 1), z.seq = x.seq → z.dat = x.dat) := HNx.out (fun z => absurd z.symm cs)
                clear cs
                go_wp2_with fail
                go_quiet (fail)
                go_wp2
                go_roundw
                case rel => exact ⟨v + 1, by omega, by go_num, q.out, below_drewN BD.out _⟩
                case measure => simp only [intOf]; omega
            · have hgv : ¬ (v : Int) < (u : Int) := by omega
              have q : Hid (OneS (l.take (u + 1))) := by
                have evu : v = u := by omega
                have hy := HYs.out
                rw [evu] at hy
                intro p hp r hr e
                rw [List.take_add_one, HX.out] at hp hr
                rcases List.mem_append.1 hp with a1 | a1
                · rcases List.mem_append.1 hr with b1 | b1
                  · exact HOn.out p a1 r b1 e
                  · have : r = x := by simpa using b1
                    rw [this] at e ⊢; exact hy p a1 e
                · have hpx : p = x := by simpa using a1
                  rcases List.mem_append.1 hr with b1 | b1
                  · rw [hpx] at e ⊢; exact (hy r b1 e.symm).symm
                  · have : r = x := by simpa using b1
                    rw [this, hpx]
              go_wp2
              go_roundw
              case rel => exact ⟨u + 1, by omega, by go_num, q.out, HBv.out⟩
              case measure => simp only [intOf]; omega
        · have hgu : ¬ (u : Int) < (N : Int) := by omega
          have q : Hid (R = 0) := HRv.out.2 (by
            have := HOn.out
            rw [List.take_of_length_le (by rw [← HN.out]; omega)] at this
            exact this)
          go_wp2
          go_ret
          exact ⟨by rw [q.out]; rfl, HBu.out⟩
end Go.Proofs.YthhkpkfpifllkaaGreat
