import Derived.Test.YthhkpkfpifllkaaK25
namespace Go.Proofs.Ythhkpkfpifllkaa
open Go.RowKit
set_option linter.unusedVariables false

set_option maxRecDepth 100000 in
set_option maxHeartbeats 16000000 in
theorem retainOwn_walk {W : World} {fa : Option Addr} {nf fc : Nat} {fs : List FamD} (hr : RdF W (.slice fa nf fc) fs) (hn : fa = none → fc = 0) (clock t nn : Int) {vl : Value} {l : List EntD} (h0 : RdE3U W vl l) :
    Calls Try.prog 3 #[.agg #[.slice fa nf fc], .int .i64 clock, .int .i64 t, .int .i64 nn, vl] W fun e w' => e = .returned (.bool true) ∧ Below W.heap.size W w' := by
  obtain ⟨al, cl, rfl, h0, ll, sl⟩ := h0
  obtain ⟨C, hC⟩ : ∃ C : Nat, (C = 0 ↔ SchemaOk fs) ∧ (C = 0 ∨ C = 28) := by
    by_cases h : SchemaOk fs
    · exact ⟨0, ⟨fun _ => h, fun _ => rfl⟩, .inl rfl⟩
    · exact ⟨28, ⟨(fun z => by cases z), fun z => absurd z h⟩, .inr rfl⟩
  obtain rfl : nf = fs.length := by
    obtain ⟨_, _, e, _⟩ := hr
    simp only [Value.slice.injEq] at e
    exact e.2.1
  obtain ⟨K, hK⟩ : ∃ K, K = fs.length := ⟨_, rfl⟩
  obtain ⟨NL, hNL⟩ : ∃ N, N = l.length := ⟨_, rfl⟩
  obtain ⟨X0, hX0, A1, hcell⟩ := sch_box W fa K fc
  have up : ∀ Z, Below X0.heap.size X0 Z → Below W.heap.size W Z := fun Z b => A1.trans (b.mono A1.size)
  obtain ⟨D1, hD1⟩ : ∃ D, D = dSort l := ⟨_, rfl⟩
  obtain ⟨D2, hD2⟩ : ∃ D, D = dRd C fs clock 1099511627776 16 l := ⟨_, rfl⟩
  obtain ⟨D3, hD3⟩ : ∃ D, D = dRd C fs clock t nn l := ⟨_, rfl⟩
  obtain ⟨D4, hD4⟩ : ∃ D, D = dSq C fs clock 0 false l := ⟨_, rfl⟩
  obtain ⟨D5, hD5⟩ : ∃ D, D = dSq C fs clock t true l := ⟨_, rfl⟩
  have H1 := Lib.hid (fun (Z : World) (b : Below X0.heap.size X0 Z) => own_sort (h0.later (up Z b)) (by omega))
  have H2 := Lib.hid (fun (Z : World) (b : Below X0.heap.size X0 Z) => own_vis (hr.later (up Z b)) hn C hC clock (h0.later (up Z b)) (by omega))
  have H3 := Lib.hid (fun (Z : World) (b : Below X0.heap.size X0 Z) => own_read (hr.later (up Z b)) hn C hC clock t nn (h0.later (up Z b)) (by omega))
  have H4 := Lib.hid (fun (Z : World) (b : Below X0.heap.size X0 Z) => own_squash (hr.later (up Z b)) hn C hC clock 0 false (h0.later (up Z b)) (by omega))
  have H5 := Lib.hid (fun (Z : World) (b : Below X0.heap.size X0 Z) => own_squash (hr.later (up Z b)) hn C hC clock t true (h0.later (up Z b)) (by omega))
  have HCa := Lib.hid (fun (Z : World) (b : Below X0.heap.size X0 Z) => cloneAll_any (h0.later (up Z b)) sl (by omega))
  have HRl := Lib.hid (fun (Z : World) (b : Below X0.heap.size X0 Z) => h0.later (up Z b))
  have HBl := Lib.hid h0.by
  have HLn : Hid (l.length ≤ 1048576) := ll
  rw [← hNL, ← hD1] at H1
  rw [← hNL, ← hK, ← hD2] at H2
  rw [← hNL, ← hK, ← hD3] at H3
  rw [← hNL, ← hK, ← hD4] at H4
  rw [← hNL, ← hK, ← hD5] at H5
  rw [← hNL] at HCa HLn
  rw [← hK, ← hNL]
  have HNL := Lib.hid hNL
  have HA1 := Lib.hid A1
  have HX0 := Lib.hid hX0
  have HC0 := Lib.hid hcell
  have HUp := Lib.hid up
  clear hr hn hC h0 ll sl hK hNL hX0 A1 hcell up hD1 hD2 hD3 hD4 hD5
  go_enter Try.func3, Try.ntmps3
  go_wp2_with fail
  rw [← HX0.out]
  refine Calls.mono (started3 _) ?_
  rintro e1 w1 ⟨rfl, b1⟩
  have B1 := Lib.hid b1
  clear b1 HX0
  go_wp2_with fail
  refine Calls.mono (HCa.out _ B1.out) ?_
  rintro e2 w2 ⟨vw, ws, rfl, clw, hdw⟩
  obtain ⟨aw, cw, rfl⟩ := rows_form3 clw.row
  have hwl : ws.length = NL := by
    have := congrArg List.length hdw
    rw [List.length_map, List.length_map] at this
    rw [this]
    exact HNL.out.symm
  have B2 := Lib.hid (B1.out.trans (clw.below.mono B1.out.size))
  have HN2 : Hid (X0.heap.size ≤ w2.heap.size) := B2.out.size
  obtain ⟨N, hNx⟩ : ∃ k, k = X0.heap.size := ⟨_, rfl⟩
  obtain ⟨g, hg⟩ : ∃ k, k = w2.heap.size := ⟨_, rfl⟩
  obtain ⟨X3, hX3⟩ : ∃ Y, Y = w2.alloc (.cells #[.slice none 0 0, .slice none 0 0, .slice none 0 0, .slice none 0 0, .slice none 0 0] 33) := ⟨_, rfl⟩
  have HR0 : Hid (OutR X0 X3 N g NL 0 0 (.slice aw NL cw) ws [D1, D2, D3, D4, D5] (.slice none 0 0)) := by
    have A3 : Below w2.heap.size w2 X3 := by rw [hX3]; exact (Below.refl _ _).alloc (Nat.le_refl _) _
    have sz : X3.heap.size = w2.heap.size + 1 := by rw [hX3]; exact World.size_alloc _ _
    have rw0 : Rw X3 N (.slice aw NL cw) ws (fun i => w1.heap.size ≤ i ∧ i < w2.heap.size) := by
      have := (clw.rw.keep (fun i hi => A3.block i hi.2)).low (B' := N) (by rw [hNx]; exact B1.out.size)
      rw [hwl] at this
      exact this
    refine ⟨[], 0, (fun k => k = w2.heap.size), _, rfl, rfl, Nat.zero_le _, ⟨?_, rw0, World.ownsRow_nil _ _ _ _, (fun k hk => by cases hk), (fun j u hu => by cases hu), (fun k hk z => by have := z.2; omega), fun k hk => ⟨?_, by have := hk.2; omega⟩⟩, ?_⟩
    · rw [hX3, hg]
      exact bok_new (tl := []) (by rw [hNx]; exact HN2.out) (by decide)
    · have := hk.1
      have := B1.out.size
      omega
    · rw [hNx]
      exact B2.out.trans (A3.mono HN2.out)
  have HNx := Lib.hid hNx
  have HX3 := Lib.hid hX3
  have HG := Lib.hid hg
  have HW : Hid (ws.map EntD.dat = l.map EntD.dat ∧ ws.length = NL) := ⟨hdw, hwl⟩
  rw [hwl]
  clear clw hdw hwl hNx hX3 hg
  go_wp2
  rw [← HX3.out, ← HG.out]
  clear HX3
  go_loopw [14, 15, 16, 17, 18, 19, 20, 21, 22, 23, 24, 25, 26, 27] (fun f r _ _ _ _ _ _ _ _ _ _ _ _ wr => ∃ (q : Nat) (af : Option Addr) (m cf : Nat), q ≤ 3 ∧ r = .int .i64 (q : Int) ∧ f = .slice af m cf ∧ Hid (OutR X0 wr N g NL q m (.slice aw NL cw) ws [D1, D2, D3, D4, D5] (.slice af m cf))) (fun _ r _ _ _ _ _ _ _ _ _ _ _ _ _ => 3 - (intOf r).toNat)
  case atStart => exact ⟨0, none, 0, 0, Nat.zero_le _, rfl, rfl, HR0⟩
  case round =>
    obtain ⟨q, af, m, cf, hq, rfl, rfl, HO⟩ := hrel
    obtain ⟨X, hX⟩ : ∃ Y, Y = wr := ⟨_, rfl⟩
    subst hX
    by_cases hlt : q < 3
    · have hlt2 : (q : Int) < 3 := by omega
      have HB : Hid (Below X0.heap.size X0 X) := by
        obtain ⟨_, _, _, _, _, _, _, _, bl⟩ := HO.out
        rw [HNx.out] at bl
        exact bl
      have s0 := HC0.out _ HB.out
      clear HR0
      go_wp2_with fail
      refine Calls.mono (H1.out _ HB.out) ?_
      rintro e1 y1 ⟨z1, a1, c1, E1, rfl, o1, b1⟩
      have O1 := Lib.hid (And.intro o1 b1)
      have B1 := Lib.hid (HB.out.trans (b1.mono HB.out.size))
      have s1 := HC0.out _ B1.out
      clear o1 b1 s0
      go_wp2_with fail
      refine Calls.mono (H2.out _ B1.out) ?_
      rintro e2 y2 ⟨z2, a2, c2, E2, rfl, o2, b2⟩
      have O2 := Lib.hid (And.intro o2 b2)
      have B2 := Lib.hid (B1.out.trans (b2.mono B1.out.size))
      have s2 := HC0.out _ B2.out
      clear o2 b2 s1
      go_wp2_with fail
      refine Calls.mono (H3.out _ B2.out) ?_
      rintro e3 y3 ⟨z3, a3, c3, E3, rfl, o3, b3⟩
      have O3 := Lib.hid (And.intro o3 b3)
      have B3 := Lib.hid (B2.out.trans (b3.mono B2.out.size))
      have s3 := HC0.out _ B3.out
      clear o3 b3 s2
      go_wp2_with fail
      refine Calls.mono (H4.out _ B3.out) ?_
      rintro e4 y4 ⟨z4, a4, c4, E4, rfl, o4, b4⟩
      have O4 := Lib.hid (And.intro o4 b4)
      have B4 := Lib.hid (B3.out.trans (b4.mono B3.out.size))
      have s4 := HC0.out _ B4.out
      clear o4 b4 s3
      go_wp2_with fail
      refine Calls.mono (H5.out _ B4.out) ?_
      rintro e5 y5 ⟨z5, a5, c5, E5, rfl, o5, b5⟩
      have O5 := Lib.hid (And.intro o5 b5)
      have B5 := Lib.hid (B4.out.trans (b5.mono B4.out.size))
      clear o5 b5 s4
      obtain ⟨X6, hX6⟩ : ∃ Y, Y = y5.alloc (.cells #[.slice a1 z1.length c1, .slice a2 z2.length c2, .slice a3 z3.length c3, .slice a4 z4.length c4, .slice a5 z5.length c5] 25) := ⟨_, rfl⟩
      obtain ⟨gA, hgA⟩ : ∃ k, k = y5.heap.size := ⟨_, rfl⟩
      obtain ⟨ls, sB, hin⟩ : ∃ ls sB, InR X0 X6 N g NL q m (.slice aw NL cw) ws [D1, D2, D3, D4, D5] (.slice af m cf) sB (some ⟨gA, 0, none⟩) ls 0 0 := by
        obtain ⟨us, nB, O, F, e1, e2, e3, ot, bl⟩ := HO.out
        have hN : N ≤ X.heap.size := by rw [HNx.out]; exact HB.out.size
        rw [hX6, hgA]
        refine ⟨_, nB, us, nB, O, _, e1, by rw [e2], by rw [Nat.zero_mul, Nat.add_zero]; exact e3, in3_start ot hN O1.out.1 O1.out.2 O2.out.1 O2.out.2 O3.out.1 O3.out.2 O4.out.1 O4.out.2 O5.out.1 O5.out.2, ?_⟩
        rw [HNx.out]
        exact B5.out.trans (((Below.refl y5.heap.size y5).alloc (Nat.le_refl _) _).mono B5.out.size)
      have HI0 := Lib.hid hin
      have HX6 := Lib.hid hX6
      have HgA := Lib.hid hgA
      clear hin hX6 hgA HO HB B1 B2 B3 B4 O1 O2 O3 O4 O5
      go_wp2
      rw [← HX6.out, ← HgA.out]
      clear HX6 HgA B5
      go_loopw [14, 27] (fun f i wx => ∃ (j : Nat) (ag : Option Addr) (mm cg : Nat), j ≤ 5 ∧ i = .int .i64 (j : Int) ∧ f = .slice ag mm cg ∧ Hid (InR X0 wx N g NL q mm (.slice aw NL cw) ws [D1, D2, D3, D4, D5] (.slice ag mm cg) sB (some ⟨gA, 0, none⟩) ls j j)) (fun _ i _ => 5 - (intOf i).toNat)
      case atStart => exact ⟨0, af, m, cf, Nat.zero_le _, rfl, rfl, HI0⟩
      case round =>
        obtain ⟨j, ag, mm, cg, hj, rfl, rfl, HI⟩ := hrel
        obtain ⟨V, hV⟩ : ∃ Y, Y = wr := ⟨_, rfl⟩
        subst hV
        have HNV : Hid (N ≤ V.heap.size) := by
          have := HI.out.bel.size
          rw [← HNx.out] at this
          exact this
        have j0 : (0 : Int) ≤ (j : Int) := by omega
        clear HI0
        by_cases hlj : j < 5
        · have hlj2 : (j : Int) < 5 := by omega
          obtain ⟨p, hp⟩ : ∃ p, ls[j]? = some p := ⟨_, List.getElem?_eq_getElem (by have := HI.out.five; omega)⟩
          obtain ⟨gA', eA, cA, rdA, shA, lnA, ltA⟩ := HI.out.cell hp
          cases eA
          obtain ⟨np, hnp⟩ : ∃ k, k = p.zs.length := ⟨_, rfl⟩
          obtain ⟨pa, hpa⟩ : ∃ k, k = p.a := ⟨_, rfl⟩
          obtain ⟨pc, hpc⟩ : ∃ k, k = p.c := ⟨_, rfl⟩
          have HPp := Lib.hid (And.intro hp (And.intro hnp (And.intro hpa hpc)))
          rw [← hnp, ← hpa, ← hpc] at cA
          rw [← hpa, ← hpc] at rdA
          have HRA := Lib.hid (And.intro rdA (And.intro shA lnA))
          by_cases hq0 : q = 0
          · have HCl := Lib.hid (cloneAll_any rdA shA (by have := HLn.out; omega))
            rw [← hnp] at HCl
            have hqz : ((q : Int) == 0) = true := by simp [hq0]
            have HQ0 := Lib.hid hq0
            have HC7 : Hid (∀ (Z : World) (m' h' : Nat) (vf' : Value), InR X0 Z N g NL q m' (.slice aw NL cw) ws [D1, D2, D3, D4, D5] vf' sB (some ⟨gA, 0, none⟩) ls j h' → Z.cell? ⟨gA, j, none⟩ = some (.slice pa np pc)) := fun Z m' h' vf' s => by
              obtain ⟨g', e', c', _⟩ := s.cell HPp.out.1
              cases e'
              rw [c', ← HPp.out.2.1, ← HPp.out.2.2.1, ← HPp.out.2.2.2]
            clear hq0 hp hnp hpa hpc rdA shA lnA ltA
            go_wp2_with fail
            refine Calls.mono HCl.out ?_
            rintro e6 w6 ⟨v6, z6, rfl, cl6, hd6⟩
            obtain ⟨a6, c6, rfl⟩ := rows_form3 cl6.row
            obtain ⟨n6, hn6⟩ : ∃ k, k = z6.length := ⟨_, rfl⟩
            obtain ⟨us, nB, O, F, u1, u2, u3, i3, bl⟩ := HI.out
            have HU := Lib.hid (And.intro u1 (And.intro u2 (And.intro u3 (And.intro i3 (And.intro bl (And.intro cl6 (And.intro hd6 hn6)))))))
            rw [← hn6]
            clear u1 u2 u3 i3 bl cl6 hd6 hn6 HCl
            go_wp2_with (at_builtin; refine wpl_append_l1 rfl _ _ rfl N (.slice ag mm cg) us rfl (row_same HU.out.2.2.2.1.out.row (fun k hk => HU.out.2.2.2.2.2.1.below.block k (HU.out.2.2.2.1.out.row.lt k hk).2)) (.slice a6 n6 c6) rfl rfl (by have := HU.out.2.1; rw [if_pos HQ0.out] at this; omega) (Nat.le_trans HNV.out HU.out.2.2.2.2.2.1.below.size) ?_; intro a7 n7 c7 w7 en hr7 g7 lo7; have HI7 : Hid (InR X0 w7 N g NL q n7 (.slice aw NL cw) ws [D1, D2, D3, D4, D5] (.slice a7 n7 c7) sB (some ⟨gA, 0, none⟩) ls j (j + 1)) := (by
              obtain ⟨u1, u2, u3, i3, bl, cl6, hd6, hn6⟩ := HU.out
              rw [if_pos HQ0.out] at u2
              subst hn6
              exact InR.first u1 u2 u3 i3 bl HPp.out.1 HQ0.out HNV.out cl6 hd6 en hr7 g7 lo7); have c7A := HC7.out _ _ _ _ HI7.out; clear en hr7 g7 lo7)
            have HK7 : Hid _ := HI7.out.keeps HPp.out.1 (by have := HI7.out.bel.size; rw [← HNx.out] at this; exact this) HLn.out (by omega) hlj (fun _ => rfl)
            rw [← HPp.out.2.1, ← HPp.out.2.2.1, ← HPp.out.2.2.2] at HK7
            refine Calls.mono HK7.out ?_
            rintro e8 w8 ⟨rfl, i8⟩
            have HI8 := Lib.hid i8
            clear i8
            go_wp2
            go_roundw
            case rel => exact ⟨j + 1, a7, n7, c7, by omega, by go_num, rfl, HI8⟩
            case measure => simp only [intOf]; omega
          · obtain ⟨aF, cF, gF, zF, a6, c6, e1, e2, c1, rd1, dd, hm5⟩ := HI.out.cellF hp hq0 hlj
            simp only [Value.slice.injEq] at e1
            obtain ⟨rfl, rfl, rfl⟩ := e1
            subst e2
            obtain ⟨n6, hn6⟩ : ∃ k, k = zF.length := ⟨_, rfl⟩
            have HSm : Hid (∀ Z, Below V.heap.size V Z → Calls Try.prog 10 #[.slice pa np pc, .slice a6 n6 c6] Z fun e w' => e = .returned (.bool true) ∧ Below Z.heap.size Z w') := fun Z b => by
              rw [hn6, hnp]
              exact sameAll_ok (rdA.later b) (rd1.later b) dd (by have := HLn.out; omega)
            rw [← hn6] at c1
            have HCV : Hid (∀ Z, Below V.heap.size V Z → Z.cell? ⟨gA, j, none⟩ = some (.slice pa np pc) ∧ Z.cell? ⟨gF, j, none⟩ = some (.slice a6 n6 c6)) := fun Z b => ⟨(b.cell (p := ⟨gA, j, none⟩) (World.block_lt_of_cell? _ _ cA)).trans cA, (b.cell (p := ⟨gF, j, none⟩) (World.block_lt_of_cell? _ _ c1)).trans c1⟩
            have hqz : ((q : Int) == 0) = false := by simp; omega
            have HQ0 := Lib.hid hq0
            clear hq0 hp hnp hpa hpc rdA shA lnA ltA hn6 rd1 dd hm5
            have D0 : Below V.heap.size V V.drew := (Below.refl _ _).drew
            go_wp2_with fail
            go_region_held3 (fun Z => Z.cell? ⟨gA, j, none⟩ = some (.slice pa np pc) ∧ Z.cell? ⟨gF, j, none⟩ = some (.slice a6 n6 c6)) (first | exact HCV.out _ D1 | exact HCV.out _ D0) (first | (go_at_call 10; refine Calls.mono (HSm.out _ D0) ?_; rintro e6 w6 ⟨rfl, b6⟩; have D1 := D0.trans (b6.mono D0.size); have c6A := (HCV.out _ D1).1; clear b6))
            have HI6 := Lib.hid (HI.out.later HNV.out D1)
            have HK7 : Hid _ := HI6.out.keeps HPp.out.1 (Nat.le_trans HNV.out D1.size) HLn.out (by omega) hlj (fun z => absurd z HQ0.out)
            rw [← HPp.out.2.1, ← HPp.out.2.2.1, ← HPp.out.2.2.2] at HK7
            go_wp2_with fail
            refine Calls.mono HK7.out ?_
            rintro e8 w8 ⟨rfl, i8⟩
            have HI8 := Lib.hid i8
            clear i8 D0 D1
            go_wp2
            go_roundw
            case rel => exact ⟨j + 1, _, _, _, by omega, by go_num, rfl, HI8⟩
            case measure => simp only [intOf]; omega
        · have hgj : ¬ (j : Int) < 5 := by omega
          have hj5 : j = 5 := by omega
          have HSp : Hid _ := (by
            have := HI.out
            rw [hj5] at this
            exact this.spoils HNV.out (by omega) (fun _ => rfl) : Calls Try.prog 12 #[.pointer (some ⟨g, 0, none⟩)] V fun r w' => r = .returned (.tuple #[]) ∧ OutR X0 w' N g NL (q + 1) mm (.slice aw NL cw) ws [D1, D2, D3, D4, D5] (.slice ag mm cg))
          clear hj5
          go_wp2_with fail
          refine Calls.mono HSp.out ?_
          rintro e6 w6 ⟨rfl, o6⟩
          have HO6 := Lib.hid o6
          have HB6 : Hid (Below X0.heap.size X0 w6) := by
            have := o6.bel
            rw [HNx.out] at this
            exact this
          clear o6 HSp
          go_wp2_with fail
          refine Calls.mono HO6.out.stands ?_
          rintro e7 w7 ⟨rfl, rfl⟩
          have HSm : Hid (Calls Try.prog 10 #[.slice al NL cl, .slice aw NL cw] w7 fun e w' => e = .returned (.bool true) ∧ Below w7.heap.size w7 w') := by
            have r1 := HRl.out _ HB6.out
            have r2 := HO6.out.wasR HW.out.2 (by rw [HW.out.1]; exact HBl.out)
            have := sameAll_ok r1 r2 HW.out.1.symm (by have := HLn.out; rw [← HNL.out]; omega)
            rw [HW.out.2, ← HNL.out] at this
            exact this
          go_wp2_with fail
          refine Calls.mono HSm.out ?_
          rintro e8 w8 ⟨rfl, b8⟩
          have HO8 := Lib.hid (HO6.out.later (by rw [HNx.out]; exact HB6.out.size) b8)
          clear b8
          go_wp2
          go_roundw
          case rel => exact ⟨q + 1, _, _, _, by omega, by go_num, rfl, HO8⟩
          case measure => simp only [intOf]; omega
    · have hge : ¬ (q : Int) < 3 := by omega
      go_wp2
      go_ret
      refine ⟨rfl, HUp.out _ ?_⟩
      have := HO.out.bel
      rw [HNx.out] at this
      exact this
end Go.Proofs.Ythhkpkfpifllkaa

namespace Go.Proofs.Ythhkpkfpifllkaa
open Go.ChangeShapes Go.WideShapes Go.ChangeAt Go.RowKit
set_option linter.unusedVariables false

set_option maxRecDepth 100000 in
theorem open_entcU {H : Type} {enc : TypeId × Value → H} {W : World} {base fuel : Nat} {held : Bool} {cs : List Value} {x : DataW H × List MemPlace} (h : DataW.trod enc Try.prog W base (fun _ => true) held fuel 45 cs = some x) (hl : cs.length = 7) (hk : (x.1.weights Try.prog 45).all (fun x => decide (x ≤ reachBytes)) = true) :
    ∃ e : EntD, cs = e.cells.toList ∧ EntD.Ok W e ∧ Shrt e := by
  obtain ⟨d, p⟩ := x
  obtain ⟨e, h1, h2, _, h4⟩ := open_entry (v := .agg cs.toArray) (d := d) (p := p) ⟨fuel, by simpa [Value.cells] using h⟩ ⟨cs.toArray, rfl, by rw [cells_entry]; simpa using hl⟩
  have h5 := h4 hk
  refine ⟨e, ?_, h2 ⟨by omega, by omega, by omega⟩, by unfold Shrt; omega⟩
  have : cs.toArray = e.cells := by injection h1
  rw [← this]

set_option maxRecDepth 100000 in
theorem open_entsU {H : Type} {enc : TypeId × Value → H} {W : World} {base : Nat} {held : Bool} {v : Value} {d : DataW H} {p : List MemPlace} (h0 : DataW.Trod enc Try.prog W base (fun _ => true) held 25 v d p) (hv : ∃ a n c, v = .slice a n c)
    (hk : (d.weights Try.prog 25).all (fun x => decide (x ≤ reachBytes)) = true) (hu : Rows.uptoBulk d ≤ 1048576) :
    ∃ xs, RdE3U W v xs := by
  obtain ⟨a, n, c, rfl⟩ := hv
  obtain ⟨fuel2, hf2⟩ := h0
  have hs2 : (DataW.weightsEach Try.prog [25] ([d] ++ [])).all (fun x => decide (x ≤ reachBytes)) = true := by
    simpa [DataW.weightsEach] using hk
  rcases Deep.open_slice und_ents hf2 with ⟨hcs, hx⟩ | ⟨x, l, c', m, k, D, Pl, hcs, _, hl, hm, hmm, hx, hel⟩
  · simp [Value.cells] at hcs
    obtain ⟨rfl, rfl, rfl⟩ := hcs
    exact ⟨[], none, 0, rfl, ⟨⟨Nat.le_refl _, Nat.zero_le _⟩, .inl rfl, fun x hx => by cases hx⟩, by simp, fun x hx => by cases hx⟩
  · simp [Value.cells] at hcs
    obtain ⟨rfl, rfl, rfl⟩ := hcs
    simp only [if_true] at hmm
    simp only [Prod.mk.injEq] at hx
    obtain ⟨hx1, _⟩ := hx
    have hn : n ≤ 1353245080300 := by
      rw [hx1] at hs2
      have := sized_slice hs2 (j := 0) (t := 25) rfl rfl und_ents
      rw [show Try.prog.bytesOf 45 = 104 by kernel_rfl] at this
      simp at this
      unfold reachBytes at this
      omega
    have hbk : n ≤ 1048576 := by
      rw [hx1] at hu
      simp only [Rows.uptoBulk] at hu
      have key : ∀ ds : List (DataW H), ds.length ≤ Rows.uptoBulkAll ds := by
        intro ds
        induction ds with
        | nil => exact Nat.zero_le _
        | cons d ds ih =>
          have h1 : 1 ≤ Rows.uptoBulk d := by
            cases d with
            | lit l => cases l <;> simp only [Rows.uptoBulk] <;> omega
            | nil => simp only [Rows.uptoBulk]; omega
            | ptr d => simp only [Rows.uptoBulk]; omega
            | slice e s => simp only [Rows.uptoBulk]; omega
            | agg p => simp only [Rows.uptoBulk]; omega
            | iface t d => simp only [Rows.uptoBulk]; omega
            | map e => simp only [Rows.uptoBulk]; omega
            | held h => simp only [Rows.uptoBulk]; omega
          simp only [Rows.uptoBulkAll, List.length_cons]
          omega
      have := key ((List.range n).map D)
      rw [List.length_map, List.length_range] at this
      omega
    have hwt : ∀ j, j < n → ((D j).weights Try.prog 45).all (fun x => decide (x ≤ reachBytes)) = true := by
      intro j hj
      rw [hx1] at hk
      simp only [DataW.weights, und_ents, List.all_cons, List.all_append, Bool.and_eq_true] at hk
      exact weight_allE hk.2.1 (by simp only [List.mem_map, List.mem_range]; exact ⟨j, hj, rfl⟩)
    rw [cells_entry] at hel
    have hop : ∀ i, i < n → ∃ e : EntD, (∀ j y, e.cells.toList[j]? = some y → W.cell? ((x.add (i * 7)).add j) = some y) ∧ EntD.Ok W e ∧ Shrt e := by
      intro i hi
      obtain ⟨cs', hc1, hc2⟩ := hel i (by omega)
      obtain ⟨_, hlen, hget⟩ := World.cells?_some hc1
      obtain ⟨e, rfl, hok⟩ := open_entcU hc2 hlen (hwt i hi)
      refine ⟨e, fun j y hj => ?_, hok⟩
      have hj7 : j < 7 := by
        have := (List.getElem?_eq_some_iff.1 hj).1
        simpa [EntD.cells] using this
      rw [hget j hj7]
      exact hj
    have build : ∀ q, q ≤ n → ∃ fs : List EntD, fs.length = q ∧ ∀ i f, fs[i]? = some f → (∀ j y, f.cells.toList[j]? = some y → W.cell? ((x.add (i * 7)).add j) = some y) ∧ EntD.Ok W f ∧ Shrt f := by
      intro q
      induction q with
      | zero => intro _; exact ⟨[], rfl, fun i o h => by simp at h⟩
      | succ q ih =>
        intro hq
        obtain ⟨os, hol, hos⟩ := ih (by omega)
        obtain ⟨o, ho⟩ := hop q (by omega)
        refine ⟨os ++ [o], by simp [hol], fun i o' h => ?_⟩
        by_cases hi : i < os.length
        · rw [List.getElem?_append_left hi] at h
          exact hos i o' h
        · rw [List.getElem?_append_right (by omega)] at h
          have hi2 : i = q := by
            by_cases h9 : i - os.length = 0
            · omega
            · rw [List.getElem?_eq_none (by simp; omega)] at h; cases h
          subst hi2
          rw [hol, Nat.sub_self] at h
          simp at h
          subst h
          exact ho
    obtain ⟨fs, hol, hos⟩ := build n (Nat.le_refl _)
    refine ⟨fs, some x, c, by rw [hol], ⟨⟨by omega, hm⟩, ?_, fun f hf => ?_⟩, by omega, fun f hf => ?_⟩
    · by_cases h0 : fs = []
      · exact .inl h0
      · have hin : 0 < fs.length := List.length_pos_iff.2 h0
        obtain ⟨b, off, spot⟩ := x
        obtain ⟨o, hc, _⟩ := hop 0 (by omega)
        have hc0 := hc 0 _ rfl
        have hspot : spot = none := by simpa [Addr.add] using World.cell?_spot hc0
        subst hspot
        have e : ∀ q r : Nat, ((⟨b, q, none⟩ : Addr).add r) = ⟨b, q + r, none⟩ := fun q r => by unfold Addr.add; split <;> simp_all
        refine .inr ⟨b, off, rfl, fun i f hi j u hj => ?_⟩
        have := (hos i f hi).1 j u hj
        rw [e, e] at this
        exact this
    · obtain ⟨i, hi⟩ := List.getElem?_of_mem hf
      exact (hos i f hi).2.1
    · obtain ⟨i, hi⟩ := List.getElem?_of_mem hf
      exact (hos i f hi).2.2
end Go.Proofs.Ythhkpkfpifllkaa

namespace Go.Proofs.Ythhkpkfpifllkaa
open Go.ChangeShapes Go.WideShapes Go.ChangeAt Go.RowKit
set_option linter.unusedVariables false

set_option maxRecDepth 100000 in
theorem und_family : Try.prog.underlying 73 = some (.struct #[{ name := "Name", type := 9, offset := 0, embedded := false, tag := "", pkgPath := "", byteOffset := 0 }, { name := "Max", type := 3, offset := 1, embedded := false, tag := "", pkgPath := "", byteOffset := 16 }, { name := "TTL", type := 3, offset := 2, embedded := false, tag := "", pkgPath := "", byteOffset := 24 }]) := by kernel_rfl
theorem und_schema : Try.prog.underlying 24 = some (.struct #[{ name := "Fams", type := 22, offset := 0, embedded := false, tag := "", pkgPath := "", byteOffset := 0 }]) := by kernel_rfl
theorem und_families : Try.prog.underlying 22 = some (.slice 73) := by kernel_rfl
theorem cells_family : Try.prog.cellsOf 73 = 3 := by kernel_rfl
theorem cells_families : Try.prog.cellsOf 22 = 1 := by kernel_rfl
theorem cells_schema : Try.prog.cellsOf 24 = 1 := by kernel_rfl
theorem cells_string : Try.prog.cellsOf 9 = 1 := by kernel_rfl

set_option maxRecDepth 100000 in
theorem open_family {H : Type} {enc : TypeId × Value → H} {W : World} {base fuel : Nat} {held : Bool} {cs : List Value} {x : DataW H × List MemPlace} (h : DataW.trod enc Try.prog W base (fun _ => true) held fuel 73 cs = some x) :
    ∃ f : FamD, cs = [.string f.nm, .int .i64 f.mx, .int .i64 f.tl] := by
  obtain ⟨xs, n, rfl, rfl, hcl, hxl, hf⟩ := DataW.trod_struct und_family h
  rw [cells_family] at hcl
  obtain ⟨c0, c1, c2, rfl⟩ : ∃ c0 c1 c2, cs = [c0, c1, c2] := by
    match cs, hcl with
    | [c0, c1, c2], _ => exact ⟨_, _, _, rfl⟩
  obtain ⟨x0, x1, x2, rfl⟩ : ∃ x0 x1 x2, xs = [x0, x1, x2] := by
    match xs, hxl with
    | [c0, c1, c2], _ => exact ⟨_, _, _, rfl⟩
  have f0 := hf 0 _ rfl
  have f1 := hf 1 _ rfl
  have f2 := hf 2 _ rfl
  simp [cells_int, cells_string] at f0 f1 f2
  obtain ⟨n1, e1, _, w1⟩ := DataW.trod_int und_int f1
  obtain ⟨n2, e2, _, w2⟩ := DataW.trod_int und_int f2
  obtain ⟨s0, e0, _, w0⟩ := DataW.trod_string und_string f0
  simp at e0 e1 e2
  subst e0 e1 e2
  exact ⟨⟨s0, n1, n2⟩, rfl⟩

set_option maxRecDepth 100000 in
theorem open_schema {H : Type} {enc : TypeId × Value → H} {W : World} {base : Nat} {held : Bool} {v : Value} {d : DataW H} {p : List MemPlace} (h0 : DataW.Trod enc Try.prog W base (fun _ => true) held 24 v d p) (hv : ∃ cs, v = .agg cs ∧ cs.size = Try.prog.cellsOf 24)
    (hs : (d.weights Try.prog 24).all (fun x => decide (x ≤ reachBytes)) = true) :
    ∃ a n c fs, v = .agg #[.slice a n c] ∧ (a = none → c = 0) ∧ RdF W (.slice a n c) fs := by
  obtain ⟨csA, rfl, hcs⟩ := hv
  obtain ⟨fuel, h⟩ := h0
  obtain ⟨cs⟩ := csA
  simp only [Value.cells] at h
  obtain ⟨xs, n, hx, hdp, hcl, hxl, hf⟩ := DataW.trod_struct und_schema h
  simp only [Prod.mk.injEq] at hdp
  obtain ⟨rfl, rfl⟩ := hdp
  rw [cells_schema] at hcl
  obtain ⟨c0, rfl⟩ : ∃ c0, cs = [c0] := by
    match cs, hcl with
    | [c0], _ => exact ⟨_, rfl⟩
  obtain ⟨x0, rfl⟩ : ∃ x0, xs = [x0] := by
    match xs, hxl with
    | [c0], _ => exact ⟨_, rfl⟩
  have f0 := hf 0 _ rfl
  simp [cells_families] at f0
  obtain ⟨⟨a, n, c, rfl⟩, t0⟩ := slice_one und_families f0
  have hs2 : (DataW.weightsEach Try.prog [22] ([x0.1] ++ [])).all (fun x => decide (x ≤ reachBytes)) = true := by
    simp only [DataW.weights, und_schema] at hs
    simpa using hs
  obtain ⟨fuel2, hf2⟩ := t0
  rcases Deep.open_slice und_families hf2 with ⟨hcs, hx⟩ | ⟨x, l, c', m, k, D, Pl, hcs, _, hl, hm, hmm, hx, hel⟩
  · simp [Value.cells] at hcs
    obtain ⟨rfl, rfl, rfl⟩ := hcs
    exact ⟨none, 0, 0, [], rfl, fun _ => rfl, none, 0, rfl, by simp, by decide, by simp, .inl rfl⟩
  · simp [Value.cells] at hcs
    obtain ⟨rfl, rfl, rfl⟩ := hcs
    simp only [if_true] at hmm
    simp only [Prod.mk.injEq] at hx
    obtain ⟨hx1, _⟩ := hx
    have hn : n ≤ 281474976710656 := by
      rw [hx1] at hs2
      have := sized_slice hs2 (j := 0) (t := 22) rfl rfl und_families
      rw [show Try.prog.bytesOf 73 = 32 by kernel_rfl] at this
      simp at this
      unfold reachBytes at this
      omega
    rw [cells_family] at hel
    have hop : ∀ i, i < n → ∃ f : FamD, W.cell? ((x.add (i * 3)).add 0) = some (.string f.nm) ∧ W.cell? ((x.add (i * 3)).add 1) = some (.int .i64 f.mx) ∧ W.cell? ((x.add (i * 3)).add 2) = some (.int .i64 f.tl) := by
      intro i hi
      obtain ⟨cs', hc1, hc2⟩ := hel i (by omega)
      obtain ⟨f, rfl⟩ := open_family hc2
      obtain ⟨_, hlen, hget⟩ := World.cells?_some hc1
      exact ⟨f, by rw [hget 0 (by omega)]; rfl, by rw [hget 1 (by omega)]; rfl, by rw [hget 2 (by omega)]; rfl⟩
    have build : ∀ q, q ≤ n → ∃ fs : List FamD, fs.length = q ∧ ∀ i f, fs[i]? = some f → W.cell? ((x.add (i * 3)).add 0) = some (.string f.nm) ∧ W.cell? ((x.add (i * 3)).add 1) = some (.int .i64 f.mx) ∧ W.cell? ((x.add (i * 3)).add 2) = some (.int .i64 f.tl) := by
      intro q
      induction q with
      | zero => intro _; exact ⟨[], rfl, fun i o h => by simp at h⟩
      | succ q ih =>
        intro hq
        obtain ⟨os, hol, hos⟩ := ih (by omega)
        obtain ⟨o, ho⟩ := hop q (by omega)
        refine ⟨os ++ [o], by simp [hol], fun i o' h => ?_⟩
        by_cases hi : i < os.length
        · rw [List.getElem?_append_left hi] at h
          exact hos i o' h
        · rw [List.getElem?_append_right (by omega)] at h
          have hi2 : i = q := by
            by_cases h9 : i - os.length = 0
            · omega
            · rw [List.getElem?_eq_none (by simp; omega)] at h; cases h
          subst hi2
          rw [hol, Nat.sub_self] at h
          simp at h
          subst h
          exact ho
    obtain ⟨fs, hol, hos⟩ := build n (Nat.le_refl _)
    refine ⟨some x, n, c, fs, rfl, fun h => (by cases h), some x, c, by rw [hol], by omega, hm, by omega, ?_⟩
    by_cases hn0 : n = 0
    · left; exact List.eq_nil_of_length_eq_zero (by omega)
    · right
      obtain ⟨b, off, spot⟩ := x
      obtain ⟨o, hc0, _⟩ := (hop 0 (by omega))
      have hspot : spot = none := by simpa [Addr.add] using World.cell?_spot hc0
      subst hspot
      refine ⟨b, off, rfl, fun i f hi => ?_⟩
      have := hos i f hi
      have e : ∀ q r : Nat, ((⟨b, q, none⟩ : Addr).add r) = ⟨b, q + r, none⟩ := fun q r => by unfold Addr.add; split <;> simp_all
      simp only [e] at this
      simpa using this

end Go.Proofs.Ythhkpkfpifllkaa
