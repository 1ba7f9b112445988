import Derived.Test.YthpdlclgiggekaaCell13
import Derived.Test.YthpdlclgiggekaaCell14
import Derived.Deep.QuietTactic
import Derived.BigQuiet
namespace Go.Proofs.Ythpdlclgiggekaa
open Go.RowKit
set_option linter.unusedVariables false

/-- Key of any entry. -/
theorem key_any {e : EntD} {w : World} (hok : EntD.Ok w e) :
    Calls Try.prog 23 #[.agg e.cells] w fun r w' => ∃ a m c, ∃ E : Nat, r = .returned (.tuple #[.slice a m c, .int .i64 (E : Int)]) ∧ E = checkS e ∧ (E = 0 → Own w' w.heap.size (.slice a m c) m (keyL e)) ∧ Below w.heap.size w w' := by
  by_cases hc : checkS e = 0
  · refine (key_ok hok hc).mono ?_
    rintro r w' ⟨a, m, c, rfl, own, hb⟩
    exact ⟨a, m, c, 0, rfl, hc.symm, fun _ => own, hb⟩
  · refine (key_bad hok hc).mono ?_
    rintro r w' ⟨rfl, hb⟩
    exact ⟨none, 0, 0, checkS e, rfl, rfl, fun h => absurd h hc, hb⟩
theorem keyL_bys {e : EntD} (hr : Bys e.row) (hq : Bys e.qual) (hc : checkS e = 0) : Bys (keyL e) := by
  obtain ⟨_, f, _, _, t, s, k, _⟩ := check_facts hc
  rw [keyL_parts]
  have m5 : ∀ a b : Int, mark a b < 256 := by intro a b; unfold mark; split <;> omega
  refine Bys.app (ordL_bys _ hr) (Bys.app (fun x hx => by simp at hx; omega) (Bys.app (fun x hx => by simp at hx; rw [hx]; exact m5 _ _) (Bys.app ?_ (Bys.app (be8_bys _) (Bys.app (be8_bys _) (Bys.app (fun x hx => by simp at hx; omega) (fun x hx => by simp at hx)))))))
  split
  · intro x hx; simp at hx
  · exact Bys.app (ordL_bys _ hq) (fun x hx => by simp at hx; rw [hx]; exact m5 _ _)
theorem keyL_len {e : EntD} (hc : checkS e = 0) : (keyL e).length ≤ 2000 := by
  obtain ⟨f1, f, f3, _, t, s, k, _⟩ := check_facts hc
  rw [keyL_parts]
  have l1 := ordL_len e.row
  have l2 := ordL_len e.qual
  have c1 : e.row.count 0 ≤ e.row.length := List.count_le_length
  have c2 : e.qual.count 0 ≤ e.qual.length := List.count_le_length
  split <;> simp [be8] <;> omega

set_option maxRecDepth 100000 in
set_option maxHeartbeats 4000000 in
theorem cellSorts_walk {a b : EntD} {w : World} (ha : EntD.Ok w a) (hb : EntD.Ok w b) :
    Calls Try.prog 5 #[.agg a.cells, .agg b.cells] w fun r w' => r = .returned (.bool true) ∧ Below w.heap.size w w' := by
  have A1 := (Below.refl w.heap.size w).alloc (Nat.le_refl _) (.cells a.cells 35)
  have A2 := A1.alloc A1.size (.cells b.cells 35)
  have bxa0 := (EBox.new w a).later ((Below.refl (w.alloc (.cells a.cells 35)).heap.size (w.alloc (.cells a.cells 35))).alloc (Nat.le_refl _) (.cells b.cells 35))
  have bxb0 := EBox.new (w.alloc (.cells a.cells 35)) b
  rw [World.size_alloc] at bxb0
  have HX : Hid (EBox _ w.heap.size a ∧ EBox _ (w.heap.size + 1) b ∧ Below w.heap.size w _) := ⟨bxa0, bxb0, A2⟩
  have HA : Hid (EntD.Ok w a) := ha
  have HB : Hid (EntD.Ok w b) := hb
  clear A1 A2 bxa0 bxb0 ha hb
  simp only [EntD.cells] at *
  go_enter Try.func5, Try.ntmps5
  go_wp2_with fail
  refine (told_any _).mono ?_
  rintro e w1 ⟨rfl, hb1⟩
  have B1 := HX.out.2.2.trans (hb1.mono HX.out.2.2.size)
  have bxa1 : Hid (EBox w1 w.heap.size a) := HX.out.1.later hb1
  have bxb1 : Hid (EBox w1 (w.heap.size + 1) b) := HX.out.2.1.later hb1
  clear HX hb1
  obtain ⟨z0, z1, z2, z3, z4, z5, z6⟩ := bxa1.out.cells7
  go_wp2_with fail
  refine (key_any (HA.out.later B1)).mono ?_
  rintro e w2 ⟨a2, m2, c2, E2, rfl, hE2, own2, hb2⟩
  have HE2 : Hid (E2 = checkS a ∧ (E2 = 0 → Own w2 w1.heap.size (.slice a2 m2 c2) m2 (keyL a))) := ⟨hE2, own2⟩
  have B2 := B1.trans (hb2.mono B1.size)
  have bxa2 : Hid (EBox w2 w.heap.size a) := bxa1.out.later hb2
  have bxb2 : Hid (EBox w2 (w.heap.size + 1) b) := bxb1.out.later hb2
  clear bxa1 bxb1 z0 z1 z2 z3 z4 z5 z6 hE2 own2 hb2 B1
  obtain ⟨z0, z1, z2, z3, z4, z5, z6⟩ := bxb2.out.cells7
  go_wp2_with fail
  refine (key_any (HB.out.later B2)).mono ?_
  rintro e w3 ⟨a3, m3, c3, E3, rfl, hE3, own3, hb3⟩
  have B3 := B2.trans (hb3.mono B2.size)
  have bxa3 : Hid (EBox w3 w.heap.size a) := bxa2.out.later hb3
  have bxb3 : Hid (EBox w3 (w.heap.size + 1) b) := bxb2.out.later hb3
  have HR2 : Hid (E2 = 0 → Rd w3 (.slice a2 m2 c2) (keyL a)) := fun h => ((HE2.out.2 h).rd (keyL_bys HA.out.1.1 HA.out.2.1.1 (HE2.out.1 ▸ h)) (by rw [(HE2.out.2 h).1]; have := keyL_len (e := a) (HE2.out.1 ▸ h); omega)).later hb3
  have HR3 : Hid (E3 = 0 → Rd w3 (.slice a3 m3 c3) (keyL b)) := fun h => ((own3 h).rd (keyL_bys HB.out.1.1 HB.out.2.1.1 (hE3 ▸ h)) (by rw [(own3 h).1]; have := keyL_len (e := b) (hE3 ▸ h); omega))
  have HDF : Hid (E2 = 0 → E3 = 0 → Dif (keyL a) (keyL b) (compareS a b)) := fun h k => key_dif (HE2.out.1 ▸ h) (hE3 ▸ k)
  clear bxa2 bxb2 z0 z1 z2 z3 z4 z5 z6 hE3 own3 hb3 B2 HE2
  by_cases h2 : E2 = 0
  · subst h2
    by_cases h3 : E3 = 0
    · subst h3
      have r2 := HR2.out rfl
      have r3 := HR3.out rfl
      have HD : Hid (Dif (keyL a) (keyL b) (compareS a b)) := HDF.out rfl rfl
      clear HR2 HR3 HDF
      obtain ⟨xs, hxs⟩ : ∃ xs, xs = keyL a := ⟨_, rfl⟩
      obtain ⟨ys, hys⟩ : ∃ ys, ys = keyL b := ⟨_, rfl⟩
      rw [← hxs] at r2 HD
      rw [← hys] at r3 HD
      clear hxs hys
      obtain ⟨hn, _, _, hn48⟩ := rd_lens r2
      obtain ⟨hm, _, _, hm48⟩ := rd_lens r3
      have HN : Hid (m2 = xs.length) := hn
      have HM : Hid (m3 = ys.length) := hm
      have R2 : Hid (Rd w3 (.slice a2 m2 c2) xs) := r2
      have R3 : Hid (Rd w3 (.slice a3 m3 c3) ys) := r3
      clear hn hm r2 r3
      go_wp2
      go_loopw [9] (fun i wr => ∃ t : Nat, t ≤ m2 ∧ t ≤ m3 ∧ i = .int .i64 (t : Int) ∧ xs.take t = ys.take t ∧ Below w3.heap.size w3 wr) (fun i _ => m2 - (intOf i).toNat)
      case atStart => exact ⟨0, by omega, by omega, rfl, rfl, Below.refl _ _⟩
      case round =>
        obtain ⟨t, htn, htm, rfl, heq, hbk⟩ := hrel
        have HQ : Hid (xs.take t = ys.take t) := heq
        clear heq
        have ht0 : (0 : Int) ≤ (t : Int) := by omega
        by_cases hin : t < m2 ∧ t < m3
        · obtain ⟨h1, h2⟩ := hin
          have h1' : (t : Int) < (m2 : Int) := by omega
          have h2' : (t : Int) < (m3 : Int) := by omega
          have d1 : decide ((t : Int) < (m2 : Int)) = true := decide_eq_true h1'
          have d2 : decide ((t : Int) < (m3 : Int)) = true := decide_eq_true h2'
          rcases rd_some R2.out with ⟨_, h0, _⟩ | ⟨ba, oa, ea⟩
          · omega
          rcases rd_some R3.out with ⟨_, h0, _⟩ | ⟨bb, ob, eb⟩
          · omega
          subst ea eb
          obtain ⟨ca0, cal⟩ := rd_cell R2.out t h1
          obtain ⟨cb0, cbl⟩ := rd_cell R3.out t h2
          have ca : wr.cell? ⟨ba, oa + t, none⟩ = some (.int .u8 ((xs.getD t 0 : Nat) : Int)) := by
            rw [hbk.cell (p := ⟨ba, oa + t, none⟩) (World.block_lt_of_cell? w3 _ ca0)]; exact ca0
          have cb : wr.cell? ⟨bb, ob + t, none⟩ = some (.int .u8 ((ys.getD t 0 : Nat) : Int)) := by
            rw [hbk.cell (p := ⟨bb, ob + t, none⟩) (World.block_lt_of_cell? w3 _ cb0)]; exact cb0
          have HTE : Hid (xs.getD t 0 = ys.getD t 0 → xs.take (t + 1) = ys.take (t + 1)) := fun e => take_eq (by rw [← HN.out]; exact h1) (by rw [← HM.out]; exact h2) HQ.out e
          have HNE : Hid (xs.getD t 0 ≠ ys.getD t 0 → (compareS a b = -1 ∧ xs.getD t 0 < ys.getD t 0) ∨ (compareS a b = 1 ∧ ys.getD t 0 < xs.getD t 0)) := fun e => dif_at HD.out HQ.out (by rw [← HN.out]; exact h1) (by rw [← HM.out]; exact h2) e
          obtain ⟨x, hx⟩ : ∃ x, x = xs.getD t 0 := ⟨_, rfl⟩
          obtain ⟨y, hy⟩ : ∃ y, y = ys.getD t 0 := ⟨_, rfl⟩
          have CA : Hid (w3.cell? ⟨ba, oa + t, none⟩ = some (.int .u8 ((xs.getD t 0 : Nat) : Int))) := ca0
          have CB : Hid (w3.cell? ⟨bb, ob + t, none⟩ = some (.int .u8 ((ys.getD t 0 : Nat) : Int))) := cb0
          rw [← hx] at ca cal HTE HNE CA
          rw [← hy] at cb cbl HTE HNE CB
          clear hx hy ca0 cb0
          by_cases hxy : x = y
          · subst hxy
            go_wp2
            go_quiet (fail)
            go_wp2
            go_roundw
            case rel => exact ⟨t + 1, by omega, by omega, by go_num, HTE.out trivial, below_drewN hbk _⟩
            case measure => simp [intOf]; omega
          · have hxy' : ¬ ((x : Int) = (y : Int)) := by omega
            go_wp2
            go_quiet (fail)
            have hbd : Below w3.heap.size w3 (wr.drewN nq) := below_drewN hbk nq
            have BW := B3.trans (hbd.mono B3.size)
            obtain ⟨z0, z1, z2, z3, z4, z5, z6⟩ := (bxa3.out.later hbd).cells7
            obtain ⟨y0, y1, y2, y3, y4, y5, y6⟩ := (bxb3.out.later hbd).cells7
            go_wp2_with fail
            refine (compare_any (HA.out.later BW) (HB.out.later BW)).mono ?_
            rintro e w5 ⟨rfl, hb5⟩
            have B5 := BW.trans (hb5.mono BW.size)
            have hb35 := hbd.trans (hb5.mono hbd.size)
            clear z0 z1 z2 z3 z4 z5 z6 y0 y1 y2 y3 y4 y5 y6
            rcases HNE.out hxy with ⟨hc, hlt⟩ | ⟨hc, hlt⟩
            · rw [hc]
              have ca5 : w5.cell? ⟨ba, oa + t, none⟩ = some (.int .u8 (x : Int)) := by rw [hb35.cell (p := ⟨ba, oa + t, none⟩) (World.block_lt_of_cell? w3 _ CA.out)]; exact CA.out
              have cb5 : w5.cell? ⟨bb, ob + t, none⟩ = some (.int .u8 (y : Int)) := by rw [hb35.cell (p := ⟨bb, ob + t, none⟩) (World.block_lt_of_cell? w3 _ CB.out)]; exact CB.out
              have hlt' : (x : Int) < (y : Int) := by omega
              have dl : decide ((x : Int) < (y : Int)) = true := decide_eq_true hlt'
              have n1 : ¬ ((t : Int) = (m2 : Int)) := by omega
              have n1b : ((t : Int) == (m2 : Int)) = false := by simp; omega
              have n2b : ((t : Int) == (m3 : Int)) = false := by simp; omega
              have n2 : ¬ ((t : Int) = (m3 : Int)) := by omega
              clear ca cb hb35 hbd
              go_wp2
              go_quiet (fail)
              go_wp2
              go_ret
              exact ⟨rfl, below_drewN B5 _⟩
            · rw [hc]
              have ca5 : w5.cell? ⟨ba, oa + t, none⟩ = some (.int .u8 (x : Int)) := by rw [hb35.cell (p := ⟨ba, oa + t, none⟩) (World.block_lt_of_cell? w3 _ CA.out)]; exact CA.out
              have cb5 : w5.cell? ⟨bb, ob + t, none⟩ = some (.int .u8 (y : Int)) := by rw [hb35.cell (p := ⟨bb, ob + t, none⟩) (World.block_lt_of_cell? w3 _ CB.out)]; exact CB.out
              have hlt' : (y : Int) < (x : Int) := by omega
              have dl : decide ((y : Int) < (x : Int)) = true := decide_eq_true hlt'
              have n1 : ¬ ((t : Int) = (m2 : Int)) := by omega
              have n1b : ((t : Int) == (m2 : Int)) = false := by simp; omega
              have n2b : ((t : Int) == (m3 : Int)) = false := by simp; omega
              have n2 : ¬ ((t : Int) = (m3 : Int)) := by omega
              clear ca cb hb35 hbd
              go_wp2
              go_quiet (fail)
              go_wp2
              go_ret
              exact ⟨rfl, below_drewN B5 _⟩
        · have HE : Hid (t = m2 ∨ t = m3 → compareS a b = 0 ∧ m2 = m3) := fun h => by
            obtain ⟨e1, e2⟩ := dif_end HD.out HQ.out (by rw [← HN.out]; exact htn) (by rw [← HM.out]; exact htm) (by rw [← HN.out, ← HM.out]; exact h)
            exact ⟨e1, by rw [HN.out, HM.out]; exact e2⟩
          by_cases h1 : t < m2
          · obtain rfl : t = m3 := by
              by_cases h : t < m3
              · exact absurd ⟨h1, h⟩ hin
              · omega
            have := (HE.out (.inr rfl)).2
            omega
          · obtain rfl : t = m2 := by omega
            obtain ⟨hc, hm⟩ := HE.out (.inl rfl)
            have HC : Hid (compareS a b = 0) := hc
            have d1 : decide ((t : Int) < (t : Int)) = false := by simp
            subst hm
            clear hc HE hin
            go_wp2
            go_quiet (fail)
            have hbd : Below w3.heap.size w3 (wr.drewN nq) := below_drewN hbk nq
            have BW := B3.trans (hbd.mono B3.size)
            obtain ⟨z0, z1, z2, z3, z4, z5, z6⟩ := (bxa3.out.later hbd).cells7
            obtain ⟨y0, y1, y2, y3, y4, y5, y6⟩ := (bxb3.out.later hbd).cells7
            go_wp2_with fail
            refine (compare_any (HA.out.later BW) (HB.out.later BW)).mono ?_
            rintro e w5 ⟨rfl, hb5⟩
            have B5 := BW.trans (hb5.mono BW.size)
            have hb35 := hbd.trans (hb5.mono hbd.size)
            clear z0 z1 z2 z3 z4 z5 z6 y0 y1 y2 y3 y4 y5 y6
            rw [HC.out]
            go_wp2
            go_ret
            exact ⟨rfl, B5⟩
    · have h3' : ¬ ((E3 : Int) = 0) := by omega
      go_wp2
      go_ret
      exact ⟨rfl, B3⟩
  · have h2' : ¬ ((E2 : Int) = 0) := by omega
    go_wp2
    go_ret
    exact ⟨rfl, B3⟩
end Go.Proofs.Ythpdlclgiggekaa
