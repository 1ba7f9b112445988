import Derived.Test.YtganmnckdmkcbaaGreatK27
namespace Go.Proofs.YtganmnckdmkcbaaGreat
open Go.RowKit Go.Maps
set_option linter.unusedVariables false

structure TurnD where
  k : Int
  at_ : Int
  by_ : Int
def TurnD.cells (o : TurnD) : List Value := [.int .i64 o.k, .int .i64 o.at_, .int .i64 o.by_]
def TurnD.Ok (o : TurnD) : Prop := (-9223372036854775808 ≤ o.at_ ∧ o.at_ ≤ 9223372036854775807) ∧ (-9223372036854775808 ≤ o.by_ ∧ o.by_ ≤ 9223372036854775807)
def RdT3 (w : World) (v : Value) (ts : List TurnD) : Prop :=
  ts.length ≤ 281474976710656 ∧ ∃ a cap, v = .slice a ts.length cap ∧ (ts = [] ∨ ∃ b off, a = some ⟨b, off, none⟩ ∧ ∀ i o, ts[i]? = some o → (∀ j x, o.cells[j]? = some x → w.cell? ⟨b, off + i * 3 + j, none⟩ = some x) ∧ TurnD.Ok o)
theorem rm_rd {B : Nat} {w : World} {g gL M cL : Nat} {ys : List EntD} {us : List Value} {vW : Value} (h : Rm B w g ys ys.length (ys ++ [endE]) us (.slice (some ⟨gL, 0, none⟩) M cL) vW) (hSh : ∀ y ∈ ys, ShrtW y) (hBy : ∀ y ∈ ys, ByE y.dat) : RdL3 w (some ⟨gL, 0, none⟩) cL ys := by
  obtain ⟨g', c', e, -, r, -⟩ := rm_list h rfl (fun e he => by obtain ⟨y, hy, rfl⟩ := List.mem_map.1 he; exact hBy y hy) hSh
  simp only [Value.slice.injEq, Option.some.injEq, Addr.mk.injEq] at e
  obtain ⟨⟨rfl, -, -⟩, -, rfl⟩ := e
  exact r
theorem same_vw {w1 wx : World} {za zb : List EntD} {D : List En} {aa ab : Option Addr} {ca cb : Nat} (h1 : Vw w1 wx za (.slice aa za.length ca) D) (h2 : Vw w1 wx zb (.slice ab zb.length cb) D) (hD : D.length ≤ 1353245080300) : Calls Tryz.prog 18 #[.slice aa za.length ca, .slice ab zb.length cb] wx fun e w' => e = .returned (.bool true) ∧ Below wx.heap.size wx w' :=
  same_fz (B := 0) h1 h2 hD wx (Fz.of (Below.refl _ _))
theorem fz_below {B B1 : Nat} {X w1 wr : World} (h : Fz B B1 w1 wr) (b : Below X.heap.size X w1) (hB : X.heap.size ≤ B) : Below X.heap.size X wr :=
  ⟨h.os.trans b.os, h.tape.trans b.tape, h.output.trans b.output, Nat.le_trans b.size h.size, fun i hi => (h.block i (Nat.lt_of_lt_of_le hi b.size) (.inl (by omega))).trans (b.block i hi)⟩
structure Lr (B B1 : Nat) (w1 wr : World) (g gL M cL N : Nat) (ys : List EntD) (us : List Value) (vW : Value) : Prop where
  rm : Rm B wr g ys ys.length (ys ++ [endE]) us (.slice (some ⟨gL, 0, none⟩) M cL) vW
  len : ys.length = N
  fz : Fz B B1 w1 wr
  sh : ∀ y ∈ ys, ShrtW y
  by_ : ∀ y ∈ ys, ByE y.dat
theorem Cl.vw {W W' : World} {zs : List EntD} {v : Value} (h : Cl W W' zs v) (hb : ∀ x ∈ zs, ByE x.dat) : ∃ a c, v = .slice a zs.length c ∧ RdL3 W' a c zs := by
  obtain ⟨a, c, e, -, r⟩ := h.rw.rdl hb
  exact ⟨a, c, e, r⟩
set_option maxRecDepth 100000 in
set_option maxHeartbeats 32000000 in
theorem retainLent_walk {W : World} {k clock t n : Int} {fa la : Option Addr} {fc lc : Nat} {fs : List FamD} {major : Bool} {l : List EntD} {tv : Value} {ts : List TurnD} (hr : RdF W (.slice fa fs.length fc) fs) (hnn : fa = none → fc = 0) (hl : RdL3 W la lc l) (hn : l.length ≤ 1353245080300) (hs : ∀ x ∈ l, ShrtW x) (ht : RdT3 W tv ts) :
    Calls Tryz.prog 7 #[.agg #[.int .i64 k, .slice fa fs.length fc, .int .i64 clock, .int .i64 t, .int .i64 n, .bool major, .slice la l.length lc], tv] W fun r W' => r = .returned (.bool true) ∧ Below W.heap.size W W' := by
  obtain ⟨htl, ta, tc, rfl, htt⟩ := ht
  obtain ⟨X, hX, AX, hbx⟩ := ask_box W ⟨k, fa, fc, fs, clock, t, n, major, la, lc, l⟩
  obtain ⟨C, hC⟩ := schema_c fs
  have up : ∀ Z, Below X.heap.size X Z → Below W.heap.size W Z := fun Z b => AX.trans (b.mono AX.size)
  have HLd := Lib.hid (fun (Z : World) (b : Below X.heap.size X Z) => laid_any (hl.later (up Z b)) hn hs)
  have HSd : Hid (∀ Z, Calls Tryz.prog 12 #[] Z fun e w' => e = .returned (.bool true) ∧ Below Z.heap.size Z w') := fun Z => started3 Z
  have HBy := Lib.hid hl.by
  have HRf := Lib.hid (fun (Z : World) (b : Below X.heap.size X Z) => hr.later (up Z b))
  have HCl : Hid (∀ Z, Below X.heap.size X Z → Z.cell? ⟨W.heap.size, 0, none⟩ = some (.int .i64 k) ∧ Z.cell? ⟨W.heap.size, 1, none⟩ = some (.slice fa fs.length fc) ∧ Z.cell? ⟨W.heap.size, 2, none⟩ = some (.int .i64 clock) ∧ Z.cell? ⟨W.heap.size, 3, none⟩ = some (.int .i64 t) ∧ Z.cell? ⟨W.heap.size, 4, none⟩ = some (.int .i64 n) ∧ Z.cell? ⟨W.heap.size, 5, none⟩ = some (.bool major) ∧ Z.cell? ⟨W.heap.size, 6, none⟩ = some (.slice la l.length lc)) := fun Z b =>
    ⟨hbx Z b 0 _ rfl, hbx Z b 1 _ rfl, hbx Z b 2 _ rfl, hbx Z b 3 _ rfl, hbx Z b 4 _ rfl, hbx Z b 5 _ rfl, hbx Z b 6 _ rfl⟩
  have HTt : Hid (∀ Z, Below X.heap.size X Z → ∀ (i : Nat) (o : TurnD), ts[i]? = some o → ∃ b off, ta = some ⟨b, off, none⟩ ∧ TurnD.Ok o ∧ Z.cell? ⟨b, off + i * 3, none⟩ = some (.int .i64 o.k) ∧ Z.cell? ⟨b, off + i * 3 + 1, none⟩ = some (.int .i64 o.at_) ∧ Z.cell? ⟨b, off + i * 3 + 2, none⟩ = some (.int .i64 o.by_)) := fun Z bz i o ho => by
    rcases htt with h0 | ⟨b, off, q, h⟩
    · rw [h0] at ho; simp at ho
    · have kc : ∀ j x, o.cells[j]? = some x → Z.cell? ⟨b, off + i * 3 + j, none⟩ = some x := fun j x hj => by
        have := (h i o ho).1 j x hj
        rw [(up Z bz).cell (World.block_lt_of_cell? _ _ this)]
        exact this
      exact ⟨b, off, q, (h i o ho).2, by have := kc 0 _ rfl; simpa using this, kc 1 _ rfl, kc 2 _ rfl⟩
  obtain ⟨N, hN⟩ : ∃ N, N = l.length := ⟨_, rfl⟩
  obtain ⟨K, hK⟩ : ∃ K, K = fs.length := ⟨_, rfl⟩
  obtain ⟨T, hT⟩ : ∃ T, T = ts.length := ⟨_, rfl⟩
  have hcap := hl.cap
  simp only [AskD.cells] at hX
  have HN := Lib.hid hN
  have HKl := Lib.hid hK
  have HTl := Lib.hid hT
  have HC := Lib.hid hC
  have HNn := Lib.hid hnn
  have HSh := Lib.hid hs
  have HHn := Lib.hid hn
  rw [← hN] at HLd HCl hX hn hcap
  rw [← hK] at HCl hX
  rw [← hT] at htl
  rw [← hN, ← hK, ← hT]
  have HX := Lib.hid hX
  have HA := Lib.hid AX
  clear hX AX hbx up hl hr hN hK hC hnn hs htt hT
  go_enter Tryz.func7, Tryz.ntmps7
  go_upto_region 1 with fail
  rw [← HX.out]
  clear HX
  go_wp2_with fail
  refine Calls.mono (HSd.out _) ?_
  rintro r w0 ⟨rfl, b0⟩
  have HB0 := Lib.hid b0
  obtain ⟨o0, o1, o2, o3, o4, o5, o6⟩ := HCl.out _ b0
  clear b0
  go_wp2_with fail
  refine Calls.mono (HLd.out _ HB0.out) ?_
  rintro r w1 ⟨g, ys, us, vL, vW, rfl, b1, hyl, hRm⟩
  obtain ⟨gL, cL, rfl, hcL, rL, -, -, gLB, gLl⟩ := rm_list (by rw [HN.out] at hRm; exact hRm) (hyl.trans HN.out) HBy.out HSh.out
  have hRm2 : Rm w0.heap.size w1 g l l.length (ys ++ [endE]) us (.slice (some ⟨gL, 0, none⟩) (l.length + 1) cL) vW := by rw [HN.out] at hRm; exact hRm
  have hz := rm_zip hRm2 (hyl.trans HN.out)
  obtain ⟨M, hM⟩ : ∃ M, M = l.length + 1 := ⟨_, rfl⟩
  rw [← hM] at hRm2
  have HMm : Hid (M = N + 1) := by unfold Hid; rw [hM, HN.out]
  have HUl := Lib.hid hRm2.ulow
  have HgL := Lib.hid gLl
  have sub : ∀ (P : En → Prop), (∀ e ∈ l.map EntD.dat, P e) → ∀ y ∈ ys, P y.dat := fun P h y hy => h _ (by rw [← hz]; exact List.mem_map_of_mem hy)
  have HLr0 : Hid (Lr w0.heap.size w1.heap.size w1 w1 g gL M cL N ys us vW) := ⟨hRm2.self (hyl.trans HN.out), hyl, Fz.of (Below.refl _ _), fun y hy => by
      have := sub (fun e => e.row.length ≤ 140737488351232 ∧ e.qual.length ≤ 140737488351232 ∧ e.val.length ≤ 140737488351232) (fun e he => by obtain ⟨x, hx, rfl⟩ := List.mem_map.1 he; exact HSh.out x hx) y hy
      exact this, sub ByE HBy.out⟩
  have HB1 : Hid (Below X.heap.size X w1) := HB0.out.trans (b1.mono HB0.out.size)
  have c0 := hRm2.box.c0
  have qN : (N : Int) ≤ (cL : Int) := by have := HN.out; omega
  have N0 : (0 : Int) ≤ (N : Int) := by omega
  have hMN : N ≤ M := by have := HN.out; omega
  clear hRm hRm2 hyl rL b1 gLB gLl hcL hM o0 o1 o2 o3 o4 o5 o6 HLd hz sub
  go_upto_region 3 with fail
  go_cut [7] (fun v wx => v = .slice (some ⟨gL, 0, none⟩) N cL ∧ Hid (Below w1.heap.size w1 wx))
  case first =>
    obtain ⟨o0, o1, o2, o3, o4, o5, o6⟩ := HCl.out _ HB1.out
    go_wp2_with fail
    go_quiet (fail)
    go_wp2
    go_meet
    case rel => exact ⟨rfl, below_dn (Below.refl _ _) _⟩
  case rest =>
    obtain ⟨rfl, HB2⟩ := hcut
    clear c0
    have HL1 := Lib.hid (show Lr w0.heap.size w1.heap.size w1 _ g gL M cL N ys us vW from ⟨HLr0.out.rm.later (fun i hi => HB2.out.block i hi), HLr0.out.len, Fz.of HB2.out, HLr0.out.sh, HLr0.out.by_⟩)
    clear HLr0
    go_wp2
    go_loopw [5, 8, 9, 10, 11, 12, 13, 14, 15] (fun ok i _ _ _ _ _ _ _ wr => ∃ (q : Nat) (ys : List EntD), q ≤ 41 ∧ q ≤ T + 1 ∧ ok = .bool true ∧ i = .int .i64 (q : Int) ∧ Hid (Lr w0.heap.size w1.heap.size w1 wr g gL M cL N ys us vW)) (fun _ i _ _ _ _ _ _ _ _ => 42 - (intOf i).toNat)
    case atStart => exact ⟨0, ys, by omega, by omega, rfl, rfl, HL1.out⟩
    case round =>
      clear HL1 HB2
      obtain ⟨q, zs, hq1, hq2, rfl, rfl, HQ⟩ := hrel
      have q0 : (0 : Int) ≤ (q : Int) := by omega
      have HBX := Lib.hid (fz_below HQ.out.fz HB1.out HB0.out.size)
      by_cases c1 : q ≤ T ∧ q ≤ 40
      · have d1 : (q : Int) ≤ (T : Int) := by omega
        have d2 : (q : Int) ≤ 40 := by omega
        have hRd := rm_rd HQ.out.rm HQ.out.sh HQ.out.by_
        have HCn := Lib.hid (cloneAll_any hRd (fun x hx => (HQ.out.sh x hx).sh) (by rw [HQ.out.len]; exact hn))
        rw [HQ.out.len] at HCn
        have HRd := Lib.hid hRd
        clear hRd
        go_wp2_with fail
        refine Calls.mono HCn.out ?_
        rintro r wn ⟨vn, nw, rfl, hcl, hzn⟩
        obtain ⟨an, cn, rfl, rn⟩ := hcl.vw (fun x hx => by
          have : x.dat ∈ zs.map EntD.dat := by rw [← hzn]; exact List.mem_map_of_mem hx
          obtain ⟨y, hy, e⟩ := List.mem_map.1 this
          rw [← e]
          exact HQ.out.by_ y hy)
        have ln : nw.length = N := by have := congrArg List.length hzn; simp only [List.length_map] at this; rw [this]; exact HQ.out.len
        have bn := hcl.below
        have HBn := Lib.hid bn
        have HBXn : Hid (Below X.heap.size X wn) := HBX.out.trans (bn.mono HBX.out.size)
        have hy : RdL3 wn (some ⟨gL, 0, none⟩) cL zs := HRd.out.later bn
        have hnn2 : nw.length ≤ 1353245080300 := by rw [ln]; exact hn
        have HS1 := Lib.hid (both_sort hy rn hzn.symm hnn2)
        have HS2 := Lib.hid (both_vis hy rn hzn.symm hnn2 (HRf.out _ HBXn.out) HNn.out C HC.out clock)
        have HS3 := Lib.hid (both_read hy rn hzn.symm hnn2 (HRf.out _ HBXn.out) HNn.out C HC.out clock t n)
        have HS4 := Lib.hid (both_squash hy rn hzn.symm hnn2 (HRf.out _ HBXn.out) HNn.out C HC.out clock t major)
        have HS5 := Lib.hid (both_top hy rn hzn.symm hnn2 (HRf.out _ HBXn.out) HNn.out C HC.out clock)
        have HStl : Hid (∀ Z, Below wn.heap.size wn Z → Calls Tryz.prog 27 #[.pointer (some ⟨g, 0, none⟩), .slice an nw.length cn] Z fun r w' => r = .returned (.bool true) ∧ Below Z.heap.size Z w') := fun Z b => by
          have rz : Rm w0.heap.size wr g nw nw.length (zs ++ [endE]) us (.slice (some ⟨gL, 0, none⟩) M cL) vW := HQ.out.rm.re hzn.symm
          refine still_any rz (by rw [HQ.out.len, ln]) (HBn.out.trans (b.mono HBn.out.size)) (rn.later b) hnn2 (fun x hx => ?_)
          have : x.dat ∈ zs.map EntD.dat := by rw [← hzn]; exact List.mem_map_of_mem hx
          obtain ⟨y, hy, e⟩ := List.mem_map.1 this
          have h := HQ.out.sh y hy
          have e1 : y.row = x.row := congrArg En.row e
          have e2 : y.qual = x.qual := congrArg En.qual e
          have e3 : y.val = x.val := congrArg En.val e
          unfold ShrtW at h ⊢
          rw [← e1, ← e2, ← e3]
          exact h
        rw [ln] at HS1 HS2 HS3 HS4 HS5 HStl ⊢
        rw [← HKl.out] at HS2 HS3 HS4 HS5
        clear hcl rn bn hy hzn hnn2 ln HCn HRd
        have HBc : Hid (Below wn.heap.size wn wn) := Below.refl _ _
        obtain ⟨E1, D1, hD1, P1, R1⟩ := HS1.out
        have HP1 := Lib.hid P1
        have HR1 := Lib.hid R1
        have HD1 := Lib.hid hD1
        clear P1 R1 hD1 HS1
        go_wp2_with fail
        refine Calls.mono (HP1.out _ HBc.out) ?_
        rintro r wa1 ⟨v1, z1, rfl, hv1⟩
        obtain ⟨a1, c1, rfl⟩ := hv1.form
        have HV1 := Lib.hid hv1
        have HB1a : Hid (Below wn.heap.size wn wa1) := HBc.out.trans (hv1.below.mono HBc.out.size)
        obtain ⟨x1, hx1⟩ : ∃ x, x = z1.length := ⟨_, rfl⟩
        rw [← hx1]
        have HX1 := Lib.hid hx1
        clear hv1 hx1
        go_wp2_with fail
        refine Calls.mono (HR1.out _ HB1a.out) ?_
        rintro r wb1 ⟨v2, z2, rfl, hv2⟩
        obtain ⟨a2, c2, rfl⟩ := hv2.form
        have HB1b : Hid (Below wn.heap.size wn wb1) := HB1a.out.trans (hv2.below.mono HB1a.out.size)
        have HSa1 := Lib.hid (same_vw ((HV1.out.low HBc.out).later hv2.below) (hv2.low HB1a.out) HD1.out)
        obtain ⟨y1, hy1⟩ : ∃ y, y = z2.length := ⟨_, rfl⟩
        rw [← hy1] at HSa1 ⊢
        rw [← HX1.out] at HSa1
        clear hv2 hy1
        go_wp2_with fail
        refine Calls.mono (num_sym E1 _) ?_
        rintro e w' ⟨rfl, rfl⟩
        go_wp2_with fail
        refine Calls.mono HSa1.out ?_
        rintro e wc1 ⟨rfl, bc⟩
        have HB1c : Hid (Below wn.heap.size wn wc1) := HB1b.out.trans (bc.mono HB1b.out.size)
        clear bc HSa1 HV1 HX1 HP1 HR1 HD1 HB1a HB1b
        obtain ⟨E2, D2, hD2, P2, R2⟩ := HS2.out
        have HP2 := Lib.hid P2
        have HR2 := Lib.hid R2
        have HD2 := Lib.hid hD2
        clear P2 R2 hD2 HS2
        obtain ⟨o0, o1, o2, o3, o4, o5, o6⟩ := HCl.out _ (HBXn.out.trans (HB1c.out.mono HBXn.out.size))
        go_wp2_with fail
        refine Calls.mono (HP2.out _ HB1c.out) ?_
        rintro r wa2 ⟨v1, z1, rfl, hv1⟩
        obtain ⟨a1, c1, rfl⟩ := hv1.form
        have HV2 := Lib.hid hv1
        have HB2a : Hid (Below wn.heap.size wn wa2) := HB1c.out.trans (hv1.below.mono HB1c.out.size)
        obtain ⟨x2, hx2⟩ : ∃ x, x = z1.length := ⟨_, rfl⟩
        rw [← hx2]
        have HX2 := Lib.hid hx2
        clear hv1 hx2 o0 o1 o2 o3 o4 o5 o6
        obtain ⟨o0, o1, o2, o3, o4, o5, o6⟩ := HCl.out _ (HBXn.out.trans (HB2a.out.mono HBXn.out.size))
        go_wp2_with fail
        refine Calls.mono (HR2.out _ HB2a.out) ?_
        rintro r wb2 ⟨v2, z2, rfl, hv2⟩
        obtain ⟨a2, c2, rfl⟩ := hv2.form
        have HB2b : Hid (Below wn.heap.size wn wb2) := HB2a.out.trans (hv2.below.mono HB2a.out.size)
        have HSa2 := Lib.hid (same_vw ((HV2.out.low HB1c.out).later hv2.below) (hv2.low HB2a.out) HD2.out)
        obtain ⟨y2, hy2⟩ : ∃ y, y = z2.length := ⟨_, rfl⟩
        rw [← hy2] at HSa2 ⊢
        rw [← HX2.out] at HSa2
        clear hv2 hy2 o0 o1 o2 o3 o4 o5 o6
        go_wp2_with fail
        refine Calls.mono (num_sym E2 _) ?_
        rintro e w' ⟨rfl, rfl⟩
        go_wp2_with fail
        refine Calls.mono HSa2.out ?_
        rintro e wc2 ⟨rfl, bc⟩
        have HB2c : Hid (Below wn.heap.size wn wc2) := HB2b.out.trans (bc.mono HB2b.out.size)
        clear bc HSa2 HV2 HX2 HP2 HR2 HD2 HB2a HB2b
        obtain ⟨E3, D3, hD3, P3, R3⟩ := HS3.out
        have HP3 := Lib.hid P3
        have HR3 := Lib.hid R3
        have HD3 := Lib.hid hD3
        clear P3 R3 hD3 HS3
        obtain ⟨o0, o1, o2, o3, o4, o5, o6⟩ := HCl.out _ (HBXn.out.trans (HB2c.out.mono HBXn.out.size))
        go_wp2_with fail
        refine Calls.mono (HP3.out _ HB2c.out) ?_
        rintro r wa3 ⟨v1, z1, rfl, hv1⟩
        obtain ⟨a1, c1, rfl⟩ := hv1.form
        have HV3 := Lib.hid hv1
        have HB3a : Hid (Below wn.heap.size wn wa3) := HB2c.out.trans (hv1.below.mono HB2c.out.size)
        obtain ⟨x3, hx3⟩ : ∃ x, x = z1.length := ⟨_, rfl⟩
        rw [← hx3]
        have HX3 := Lib.hid hx3
        clear hv1 hx3 o0 o1 o2 o3 o4 o5 o6
        obtain ⟨o0, o1, o2, o3, o4, o5, o6⟩ := HCl.out _ (HBXn.out.trans (HB3a.out.mono HBXn.out.size))
        go_wp2_with fail
        refine Calls.mono (HR3.out _ HB3a.out) ?_
        rintro r wb3 ⟨v2, z2, rfl, hv2⟩
        obtain ⟨a2, c2, rfl⟩ := hv2.form
        have HB3b : Hid (Below wn.heap.size wn wb3) := HB3a.out.trans (hv2.below.mono HB3a.out.size)
        have HSa3 := Lib.hid (same_vw ((HV3.out.low HB2c.out).later hv2.below) (hv2.low HB3a.out) HD3.out)
        obtain ⟨y3, hy3⟩ : ∃ y, y = z2.length := ⟨_, rfl⟩
        rw [← hy3] at HSa3 ⊢
        rw [← HX3.out] at HSa3
        clear hv2 hy3 o0 o1 o2 o3 o4 o5 o6
        go_wp2_with fail
        refine Calls.mono (num_sym E3 _) ?_
        rintro e w' ⟨rfl, rfl⟩
        go_wp2_with fail
        refine Calls.mono HSa3.out ?_
        rintro e wc3 ⟨rfl, bc⟩
        have HB3c : Hid (Below wn.heap.size wn wc3) := HB3b.out.trans (bc.mono HB3b.out.size)
        clear bc HSa3 HV3 HX3 HP3 HR3 HD3 HB3a HB3b
        obtain ⟨E4, D4, hD4, P4, R4⟩ := HS4.out
        have HP4 := Lib.hid P4
        have HR4 := Lib.hid R4
        have HD4 := Lib.hid hD4
        clear P4 R4 hD4 HS4
        obtain ⟨o0, o1, o2, o3, o4, o5, o6⟩ := HCl.out _ (HBXn.out.trans (HB3c.out.mono HBXn.out.size))
        go_wp2_with fail
        refine Calls.mono (HP4.out _ HB3c.out) ?_
        rintro r wa4 ⟨v1, z1, rfl, hv1⟩
        obtain ⟨a1, c1, rfl⟩ := hv1.form
        have HV4 := Lib.hid hv1
        have HB4a : Hid (Below wn.heap.size wn wa4) := HB3c.out.trans (hv1.below.mono HB3c.out.size)
        obtain ⟨x4, hx4⟩ : ∃ x, x = z1.length := ⟨_, rfl⟩
        rw [← hx4]
        have HX4 := Lib.hid hx4
        clear hv1 hx4 o0 o1 o2 o3 o4 o5 o6
        obtain ⟨o0, o1, o2, o3, o4, o5, o6⟩ := HCl.out _ (HBXn.out.trans (HB4a.out.mono HBXn.out.size))
        go_wp2_with fail
        refine Calls.mono (HR4.out _ HB4a.out) ?_
        rintro r wb4 ⟨v2, z2, rfl, hv2⟩
        obtain ⟨a2, c2, rfl⟩ := hv2.form
        have HB4b : Hid (Below wn.heap.size wn wb4) := HB4a.out.trans (hv2.below.mono HB4a.out.size)
        have HSa4 := Lib.hid (same_vw ((HV4.out.low HB3c.out).later hv2.below) (hv2.low HB4a.out) HD4.out)
        obtain ⟨y4, hy4⟩ : ∃ y, y = z2.length := ⟨_, rfl⟩
        rw [← hy4] at HSa4 ⊢
        rw [← HX4.out] at HSa4
        clear hv2 hy4 o0 o1 o2 o3 o4 o5 o6
        go_wp2_with fail
        refine Calls.mono (num_sym E4 _) ?_
        rintro e w' ⟨rfl, rfl⟩
        go_wp2_with fail
        refine Calls.mono HSa4.out ?_
        rintro e wc4 ⟨rfl, bc⟩
        have HB4c : Hid (Below wn.heap.size wn wc4) := HB4b.out.trans (bc.mono HB4b.out.size)
        clear bc HSa4 HV4 HX4 HP4 HR4 HD4 HB4a HB4b
        obtain ⟨E5, T5, P5, R5⟩ := HS5.out
        have HP5 := Lib.hid P5
        have HR5 := Lib.hid R5
        clear P5 R5 HS5
        obtain ⟨o0, o1, o2, o3, o4, o5, o6⟩ := HCl.out _ (HBXn.out.trans (HB4c.out.mono HBXn.out.size))
        go_wp2_with fail
        refine Calls.mono (HP5.out _ HB4c.out) ?_
        rintro r wa5 ⟨rfl, b5⟩
        have HB5a : Hid (Below wn.heap.size wn wa5) := HB4c.out.trans (b5.mono HB4c.out.size)
        clear b5 o0 o1 o2 o3 o4 o5 o6
        obtain ⟨o0, o1, o2, o3, o4, o5, o6⟩ := HCl.out _ (HBXn.out.trans (HB5a.out.mono HBXn.out.size))
        go_wp2_with fail
        refine Calls.mono (HR5.out _ HB5a.out) ?_
        rintro r wb5 ⟨rfl, b5⟩
        have HB5b : Hid (Below wn.heap.size wn wb5) := HB5a.out.trans (b5.mono HB5a.out.size)
        clear b5 o0 o1 o2 o3 o4 o5 o6
        go_wp2_with fail
        refine Calls.mono (num_sym E5 _) ?_
        rintro e w' ⟨rfl, rfl⟩
        go_wp2_with fail
        refine Calls.mono (HStl.out _ HB5b.out) ?_
        rintro e wd ⟨rfl, bd⟩
        have HBd : Hid (Below wn.heap.size wn wd) := HB5b.out.trans (bd.mono HB5b.out.size)
        have HBr : Hid (Below wr.heap.size wr wd) := HBn.out.trans (HBd.out.mono HBn.out.size)
        have HLd : Hid (Lr w0.heap.size w1.heap.size w1 wd g gL M cL N zs us vW) := ⟨HQ.out.rm.later (fun i hi => HBr.out.block i hi), HQ.out.len, HQ.out.fz.trans (Fz.of HBr.out), HQ.out.sh, HQ.out.by_⟩
        clear bd HB5a HB5b HStl
        by_cases ct : q < T
        · have dt : (q : Int) < (T : Int) := by omega
          obtain ⟨o, ho⟩ : ∃ o, ts[q]? = some o := ⟨ts[q]'(by rw [← HTl.out]; exact ct), List.getElem?_eq_getElem _⟩
          obtain ⟨tb, toff, rfl, tok, t0, t1, t2⟩ := HTt.out wd (HBXn.out.trans (HBd.out.mono HBXn.out.size)) q o ho
          have HBe := Lib.hid (bent_any (k := o.k) (at_ := o.at_) (by_ := o.by_) HLd.out.rm (by rw [HMm.out, HLd.out.len]) HLd.out.sh HLd.out.by_ (by rw [HLd.out.len]; exact hn) tok.1 tok.2 HgL.out HUl.out HLd.out.fz.size)
          rw [HLd.out.len] at HBe
          clear ho tok
          go_wp2_with fail
          refine Calls.mono HBe.out ?_
          rintro e we ⟨rfl, hb⟩
          obtain ⟨ys2, l2, r2, f2, s2, b2⟩ := hb
          have HL2 : Hid (Lr w0.heap.size w1.heap.size w1 we g gL M cL N ys2 us vW) := ⟨r2, l2, HLd.out.fz.trans f2, s2, b2⟩
          clear l2 r2 f2 s2 b2 t0 t1 t2
          go_wp2
          go_roundw
          case rel => exact ⟨q + 1, ys2, by omega, by omega, rfl, by go_num, HL2.out⟩
          case measure => simp only [intOf]; omega
        · have dt : ¬ (q : Int) < (T : Int) := by omega
          go_wp2
          go_roundw
          case rel => exact ⟨q + 1, zs, by omega, by omega, rfl, by go_num, HLd.out⟩
          case measure => simp only [intOf]; omega
      · have HF : Hid (Below W.heap.size W wr) := HA.out.trans (HBX.out.mono HA.out.size)
        by_cases e1 : q ≤ T
        · have d1 : (q : Int) ≤ (T : Int) := by omega
          have d2 : ¬ (q : Int) ≤ 40 := by omega
          clear c1
          go_wp2_with fail
          refine Calls.mono (HSd.out _) ?_
          rintro r w3 ⟨rfl, b3⟩
          have HB3 := Lib.hid (HF.out.trans (b3.mono HF.out.size))
          clear b3
          go_wp2
          go_ret
          exact ⟨rfl, HB3.out⟩
        · have d1 : ¬ (q : Int) ≤ (T : Int) := by omega
          clear c1
          go_wp2_with fail
          refine Calls.mono (HSd.out _) ?_
          rintro r w3 ⟨rfl, b3⟩
          have HB3 := Lib.hid (HF.out.trans (b3.mono HF.out.size))
          clear b3
          go_wp2
          go_ret
          exact ⟨rfl, HB3.out⟩
end Go.Proofs.YtganmnckdmkcbaaGreat

namespace Go.Proofs.YtganmnckdmkcbaaGreat
open Go.ChangeShapes Go.WideShapes Go.ChangeAt Go.RowKit
set_option linter.unusedVariables false

set_option maxRecDepth 100000 in
theorem und_family : Tryz.prog.underlying 132 = some (.struct #[{ name := "Name", type := 9, offset := 0, embedded := false, tag := "", pkgPath := "", byteOffset := 0 }, { name := "Max", type := 3, offset := 1, embedded := false, tag := "", pkgPath := "", byteOffset := 16 }, { name := "TTL", type := 3, offset := 2, embedded := false, tag := "", pkgPath := "", byteOffset := 24 }]) := by kernel_rfl
theorem und_schema : Tryz.prog.underlying 27 = some (.struct #[{ name := "Fams", type := 25, offset := 0, embedded := false, tag := "", pkgPath := "", byteOffset := 0 }]) := by kernel_rfl
theorem und_families : Tryz.prog.underlying 25 = some (.slice 132) := by kernel_rfl
theorem cells_family : Tryz.prog.cellsOf 132 = 3 := by kernel_rfl
theorem cells_families : Tryz.prog.cellsOf 25 = 1 := by kernel_rfl
theorem cells_schema : Tryz.prog.cellsOf 27 = 1 := by kernel_rfl
theorem cells_string : Tryz.prog.cellsOf 9 = 1 := by kernel_rfl

set_option maxRecDepth 100000 in
theorem open_family {H : Type} {enc : TypeId × Value → H} {W : World} {base fuel : Nat} {held : Bool} {cs : List Value} {x : DataW H × List MemPlace} (h : DataW.trod enc Tryz.prog W base (fun _ => true) held fuel 132 cs = some x) :
    ∃ f : FamD, cs = [.string f.nm, .int .i64 f.mx, .int .i64 f.tl] := by
  obtain ⟨xs, n, rfl, rfl, hcl, hxl, hf⟩ := DataW.trod_struct und_family h
  rw [cells_family] at hcl
  obtain ⟨c0, c1, c2, rfl⟩ : ∃ c0 c1 c2, cs = [c0, c1, c2] := by
    match cs, hcl with
    | [c0, c1, c2], _ => exact ⟨_, _, _, rfl⟩
  obtain ⟨x0, x1, x2, rfl⟩ : ∃ x0 x1 x2, xs = [x0, x1, x2] := by
    match xs, hxl with
    | [c0, c1, c2], _ => exact ⟨_, _, _, rfl⟩
  have f0 := hf 0 _ rfl
  have f1 := hf 1 _ rfl
  have f2 := hf 2 _ rfl
  simp [cells_int, cells_string] at f0 f1 f2
  obtain ⟨n1, e1, _, w1⟩ := DataW.trod_int und_int f1
  obtain ⟨n2, e2, _, w2⟩ := DataW.trod_int und_int f2
  obtain ⟨s0, e0, _, w0⟩ := DataW.trod_string und_string f0
  simp at e0 e1 e2
  subst e0 e1 e2
  exact ⟨⟨s0, n1, n2⟩, rfl⟩

set_option maxRecDepth 100000 in
theorem open_schema {H : Type} {enc : TypeId × Value → H} {W : World} {base : Nat} {held : Bool} {v : Value} {d : DataW H} {p : List MemPlace} (h0 : DataW.Trod enc Tryz.prog W base (fun _ => true) held 27 v d p) (hv : ∃ cs, v = .agg cs ∧ cs.size = Tryz.prog.cellsOf 27)
    (hs : (d.weights Tryz.prog 27).all (fun x => decide (x ≤ reachBytes)) = true) :
    ∃ a n c fs, v = .agg #[.slice a n c] ∧ (a = none → c = 0) ∧ RdF W (.slice a n c) fs := by
  obtain ⟨csA, rfl, hcs⟩ := hv
  obtain ⟨fuel, h⟩ := h0
  obtain ⟨cs⟩ := csA
  simp only [Value.cells] at h
  obtain ⟨xs, n, hx, hdp, hcl, hxl, hf⟩ := DataW.trod_struct und_schema h
  simp only [Prod.mk.injEq] at hdp
  obtain ⟨rfl, rfl⟩ := hdp
  rw [cells_schema] at hcl
  obtain ⟨c0, rfl⟩ : ∃ c0, cs = [c0] := by
    match cs, hcl with
    | [c0], _ => exact ⟨_, rfl⟩
  obtain ⟨x0, rfl⟩ : ∃ x0, xs = [x0] := by
    match xs, hxl with
    | [c0], _ => exact ⟨_, rfl⟩
  have f0 := hf 0 _ rfl
  simp [cells_families] at f0
  obtain ⟨⟨a, n, c, rfl⟩, t0⟩ := slice_one und_families f0
  have hs2 : (DataW.weightsEach Tryz.prog [25] ([x0.1] ++ [])).all (fun x => decide (x ≤ reachBytes)) = true := by
    simp only [DataW.weights, und_schema] at hs
    simpa using hs
  obtain ⟨fuel2, hf2⟩ := t0
  rcases Deep.open_slice und_families hf2 with ⟨hcs, hx⟩ | ⟨x, l, c', m, k, D, Pl, hcs, _, hl, hm, hmm, hx, hel⟩
  · simp [Value.cells] at hcs
    obtain ⟨rfl, rfl, rfl⟩ := hcs
    exact ⟨none, 0, 0, [], rfl, fun _ => rfl, none, 0, rfl, by simp, by decide, by simp, .inl rfl⟩
  · simp [Value.cells] at hcs
    obtain ⟨rfl, rfl, rfl⟩ := hcs
    simp only [if_true] at hmm
    simp only [Prod.mk.injEq] at hx
    obtain ⟨hx1, _⟩ := hx
    have hn : n ≤ 281474976710656 := by
      rw [hx1] at hs2
      have := sized_slice hs2 (j := 0) (t := 25) rfl rfl und_families
      rw [show Tryz.prog.bytesOf 132 = 32 by kernel_rfl] at this
      simp at this
      unfold reachBytes at this
      omega
    rw [cells_family] at hel
    have hop : ∀ i, i < n → ∃ f : FamD, W.cell? ((x.add (i * 3)).add 0) = some (.string f.nm) ∧ W.cell? ((x.add (i * 3)).add 1) = some (.int .i64 f.mx) ∧ W.cell? ((x.add (i * 3)).add 2) = some (.int .i64 f.tl) := by
      intro i hi
      obtain ⟨cs', hc1, hc2⟩ := hel i (by omega)
      obtain ⟨f, rfl⟩ := open_family hc2
      obtain ⟨_, hlen, hget⟩ := World.cells?_some hc1
      exact ⟨f, by rw [hget 0 (by omega)]; rfl, by rw [hget 1 (by omega)]; rfl, by rw [hget 2 (by omega)]; rfl⟩
    have build : ∀ q, q ≤ n → ∃ fs : List FamD, fs.length = q ∧ ∀ i f, fs[i]? = some f → W.cell? ((x.add (i * 3)).add 0) = some (.string f.nm) ∧ W.cell? ((x.add (i * 3)).add 1) = some (.int .i64 f.mx) ∧ W.cell? ((x.add (i * 3)).add 2) = some (.int .i64 f.tl) := by
      intro q
      induction q with
      | zero => intro _; exact ⟨[], rfl, fun i o h => by simp at h⟩
      | succ q ih =>
        intro hq
        obtain ⟨os, hol, hos⟩ := ih (by omega)
        obtain ⟨o, ho⟩ := hop q (by omega)
        refine ⟨os ++ [o], by simp [hol], fun i o' h => ?_⟩
        by_cases hi : i < os.length
        · rw [List.getElem?_append_left hi] at h
          exact hos i o' h
        · rw [List.getElem?_append_right (by omega)] at h
          have hi2 : i = q := by
            by_cases h9 : i - os.length = 0
            · omega
            · rw [List.getElem?_eq_none (by simp; omega)] at h; cases h
          subst hi2
          rw [hol, Nat.sub_self] at h
          simp at h
          subst h
          exact ho
    obtain ⟨fs, hol, hos⟩ := build n (Nat.le_refl _)
    refine ⟨some x, n, c, fs, rfl, fun h => (by cases h), some x, c, by rw [hol], by omega, hm, by omega, ?_⟩
    by_cases hn0 : n = 0
    · left; exact List.eq_nil_of_length_eq_zero (by omega)
    · right
      obtain ⟨b, off, spot⟩ := x
      obtain ⟨o, hc0, _⟩ := (hop 0 (by omega))
      have hspot : spot = none := by simpa [Addr.add] using World.cell?_spot hc0
      subst hspot
      refine ⟨b, off, rfl, fun i f hi => ?_⟩
      have := hos i f hi
      have e : ∀ q r : Nat, ((⟨b, q, none⟩ : Addr).add r) = ⟨b, q + r, none⟩ := fun q r => by unfold Addr.add; split <;> simp_all
      simp only [e] at this
      simpa using this

end Go.Proofs.YtganmnckdmkcbaaGreat

namespace Go.Proofs.YtganmnckdmkcbaaGreat
open Go.ChangeShapes Go.WideShapes Go.ChangeAt Go.RowKit
set_option linter.unusedVariables false

set_option maxRecDepth 100000 in
theorem open_entcW {H : Type} {enc : TypeId × Value → H} {W : World} {base fuel : Nat} {held : Bool} {cs : List Value} {x : DataW H × List MemPlace} (h : DataW.trod enc Tryz.prog W base (fun _ => true) held fuel 84 cs = some x) (hl : cs.length = 7) (hk : (x.1.weights Tryz.prog 84).all (fun x => decide (x ≤ reachBytes)) = true) :
    ∃ e : EntD, cs = e.cells.toList ∧ EntD.Ok W e ∧ ShrtW e := by
  obtain ⟨d, p⟩ := x
  obtain ⟨e, h1, h2, _, h4⟩ := open_entry (v := .agg cs.toArray) (d := d) (p := p) ⟨fuel, by simpa [Value.cells] using h⟩ ⟨cs.toArray, rfl, by rw [cells_entry]; simpa using hl⟩
  have h5 := h4 hk
  refine ⟨e, ?_, h2 ⟨by omega, by omega, by omega⟩, by unfold ShrtW; omega⟩
  have : cs.toArray = e.cells := by injection h1
  rw [← this]

set_option maxRecDepth 100000 in
theorem open_entsW {H : Type} {enc : TypeId × Value → H} {W : World} {base : Nat} {held : Bool} {v : Value} {d : DataW H} {p : List MemPlace} (h0 : DataW.Trod enc Tryz.prog W base (fun _ => true) held 28 v d p) (hv : ∃ a n c, v = .slice a n c)
    (hk : (d.weights Tryz.prog 28).all (fun x => decide (x ≤ reachBytes)) = true) :
    ∃ (xs : List EntD) (a : Option Addr) (c : Nat), v = .slice a xs.length c ∧ RdL3 W a c xs ∧ xs.length ≤ 1353245080300 ∧ ∀ x ∈ xs, ShrtW x := by
  obtain ⟨a, n, c, rfl⟩ := hv
  obtain ⟨fuel2, hf2⟩ := h0
  have hs2 : (DataW.weightsEach Tryz.prog [28] ([d] ++ [])).all (fun x => decide (x ≤ reachBytes)) = true := by
    simpa [DataW.weightsEach] using hk
  rcases Deep.open_slice und_ents hf2 with ⟨hcs, hx⟩ | ⟨x, l, c', m, k, D, Pl, hcs, _, hl, hm, hmm, hx, hel⟩
  · simp [Value.cells] at hcs
    obtain ⟨rfl, rfl, rfl⟩ := hcs
    exact ⟨[], none, 0, rfl, ⟨⟨Nat.le_refl _, Nat.zero_le _⟩, .inl rfl, fun x hx => by cases hx⟩, by simp, fun x hx => by cases hx⟩
  · simp [Value.cells] at hcs
    obtain ⟨rfl, rfl, rfl⟩ := hcs
    simp only [if_true] at hmm
    simp only [Prod.mk.injEq] at hx
    obtain ⟨hx1, _⟩ := hx
    have hn : n ≤ 1353245080300 := by
      rw [hx1] at hs2
      have := sized_slice hs2 (j := 0) (t := 28) rfl rfl und_ents
      rw [show Tryz.prog.bytesOf 84 = 104 by kernel_rfl] at this
      simp at this
      unfold reachBytes at this
      omega
    have hwt : ∀ j, j < n → ((D j).weights Tryz.prog 84).all (fun x => decide (x ≤ reachBytes)) = true := by
      intro j hj
      rw [hx1] at hk
      simp only [DataW.weights, und_ents, List.all_cons, List.all_append, Bool.and_eq_true] at hk
      exact weight_allE hk.2.1 (by simp only [List.mem_map, List.mem_range]; exact ⟨j, hj, rfl⟩)
    rw [cells_entry] at hel
    have hop : ∀ i, i < n → ∃ e : EntD, (∀ j y, e.cells.toList[j]? = some y → W.cell? ((x.add (i * 7)).add j) = some y) ∧ EntD.Ok W e ∧ ShrtW e := by
      intro i hi
      obtain ⟨cs', hc1, hc2⟩ := hel i (by omega)
      obtain ⟨_, hlen, hget⟩ := World.cells?_some hc1
      obtain ⟨e, rfl, hok⟩ := open_entcW hc2 hlen (hwt i hi)
      refine ⟨e, fun j y hj => ?_, hok⟩
      have hj7 : j < 7 := by
        have := (List.getElem?_eq_some_iff.1 hj).1
        simpa [EntD.cells] using this
      rw [hget j hj7]
      exact hj
    have build : ∀ q, q ≤ n → ∃ fs : List EntD, fs.length = q ∧ ∀ i f, fs[i]? = some f → (∀ j y, f.cells.toList[j]? = some y → W.cell? ((x.add (i * 7)).add j) = some y) ∧ EntD.Ok W f ∧ ShrtW f := by
      intro q
      induction q with
      | zero => intro _; exact ⟨[], rfl, fun i o h => by simp at h⟩
      | succ q ih =>
        intro hq
        obtain ⟨os, hol, hos⟩ := ih (by omega)
        obtain ⟨o, ho⟩ := hop q (by omega)
        refine ⟨os ++ [o], by simp [hol], fun i o' h => ?_⟩
        by_cases hi : i < os.length
        · rw [List.getElem?_append_left hi] at h
          exact hos i o' h
        · rw [List.getElem?_append_right (by omega)] at h
          have hi2 : i = q := by
            by_cases h9 : i - os.length = 0
            · omega
            · rw [List.getElem?_eq_none (by simp; omega)] at h; cases h
          subst hi2
          rw [hol, Nat.sub_self] at h
          simp at h
          subst h
          exact ho
    obtain ⟨fs, hol, hos⟩ := build n (Nat.le_refl _)
    refine ⟨fs, some x, c, by rw [hol], ⟨⟨by omega, hm⟩, ?_, fun f hf => ?_⟩, by omega, fun f hf => ?_⟩
    · by_cases h0 : fs = []
      · exact .inl h0
      · have hin : 0 < fs.length := List.length_pos_iff.2 h0
        obtain ⟨b, off, spot⟩ := x
        obtain ⟨o, hc, _⟩ := hop 0 (by omega)
        have hc0 := hc 0 _ rfl
        have hspot : spot = none := by simpa [Addr.add] using World.cell?_spot hc0
        subst hspot
        have e : ∀ q r : Nat, ((⟨b, q, none⟩ : Addr).add r) = ⟨b, q + r, none⟩ := fun q r => by unfold Addr.add; split <;> simp_all
        refine .inr ⟨b, off, rfl, fun i f hi j u hj => ?_⟩
        have := (hos i f hi).1 j u hj
        rw [e, e] at this
        exact this
    · obtain ⟨i, hi⟩ := List.getElem?_of_mem hf
      exact (hos i f hi).2.1
    · obtain ⟨i, hi⟩ := List.getElem?_of_mem hf
      exact (hos i f hi).2.2

set_option maxRecDepth 100000 in
theorem und_ask3 : Tryz.prog.underlying 30 = some (.struct #[{ name := "Kind", type := 3, offset := 0, embedded := false, tag := "", pkgPath := "", byteOffset := 0 }, { name := "S", type := 27, offset := 1, embedded := false, tag := "", pkgPath := "", byteOffset := 8 }, { name := "Clock", type := 3, offset := 2, embedded := false, tag := "", pkgPath := "", byteOffset := 32 }, { name := "T", type := 3, offset := 3, embedded := false, tag := "", pkgPath := "", byteOffset := 40 }, { name := "N", type := 3, offset := 4, embedded := false, tag := "", pkgPath := "", byteOffset := 48 }, { name := "Major", type := 4, offset := 5, embedded := false, tag := "", pkgPath := "", byteOffset := 56 }, { name := "L", type := 28, offset := 6, embedded := false, tag := "", pkgPath := "", byteOffset := 64 }]) := by kernel_rfl
theorem und_asks3 : Tryz.prog.underlying 22 = some (.slice 30) := by kernel_rfl
theorem cells_ask3 : Tryz.prog.cellsOf 30 = 7 := by kernel_rfl
theorem cells_ents3 : Tryz.prog.cellsOf 28 = 1 := by kernel_rfl
theorem cells_bool3 : Tryz.prog.cellsOf 4 = 1 := by kernel_rfl
theorem und_bool3 : Tryz.prog.underlying 4 = some .bool := by kernel_rfl

set_option maxRecDepth 100000 in
theorem open_ask3 {H : Type} {enc : TypeId × Value → H} {W : World} {base fuel : Nat} {held : Bool} {cs : List Value} {x : DataW H × List MemPlace} (h : DataW.trod enc Tryz.prog W base (fun _ => true) held fuel 30 cs = some x) (hk : (x.1.weights Tryz.prog 30).all (fun x => decide (x ≤ reachBytes)) = true) :
    ∃ o : AskD, cs = o.cells ∧ AskD.Ok W o := by
  obtain ⟨xs, n, rfl, rfl, hcl, hxl, hf⟩ := DataW.trod_struct und_ask3 h
  rw [cells_ask3] at hcl
  obtain ⟨c0, c1, c2, c3, c4, c5, c6, rfl⟩ : ∃ c0 c1 c2 c3 c4 c5 c6, cs = [c0, c1, c2, c3, c4, c5, c6] := by
    match cs, hcl with
    | [c0, c1, c2, c3, c4, c5, c6], _ => exact ⟨_, _, _, _, _, _, _, rfl⟩
  obtain ⟨x0, x1, x2, x3, x4, x5, x6, rfl⟩ : ∃ x0 x1 x2 x3 x4 x5 x6, xs = [x0, x1, x2, x3, x4, x5, x6] := by
    match xs, hxl with
    | [c0, c1, c2, c3, c4, c5, c6], _ => exact ⟨_, _, _, _, _, _, _, rfl⟩
  have f0 := hf 0 _ rfl
  have f1 := hf 1 _ rfl
  have f2 := hf 2 _ rfl
  have f3 := hf 3 _ rfl
  have f4 := hf 4 _ rfl
  have f5 := hf 5 _ rfl
  have f6 := hf 6 _ rfl
  simp [cells_int, cells_schema, cells_ents3, cells_bool3] at f0 f1 f2 f3 f4 f5 f6
  obtain ⟨n0, e0, _, w0⟩ := DataW.trod_int und_int f0
  obtain ⟨n2, e2, _, w2⟩ := DataW.trod_int und_int f2
  obtain ⟨n3, e3, _, w3⟩ := DataW.trod_int und_int f3
  obtain ⟨n4, e4, _, w4⟩ := DataW.trod_int und_int f4
  obtain ⟨n5, e5, _⟩ := DataW.trod_bool und_bool3 f5
  simp at e0 e2 e3 e4 e5
  subst e0 e2 e3 e4 e5
  have hs2 : (DataW.weightsEach Tryz.prog [3, 27, 3, 3, 3, 4, 28] ([x0.1, x1.1, x2.1, x3.1, x4.1, x5.1, x6.1] ++ [])).all (fun x => decide (x ≤ reachBytes)) = true := by
    simp only [DataW.weights, und_ask3] at hk
    simpa using hk
  obtain ⟨s6, t6⟩ := slice_one und_ents f6
  obtain ⟨fa, fn, fc, fs, ev, nn, rf⟩ := open_schema (v := .agg #[c1]) (d := x1.1) (p := x1.2) ⟨_, by simpa [Value.cells] using f1⟩ ⟨#[c1], rfl, by rw [cells_schema]; rfl⟩ (weight_at hs2 1 rfl rfl)
  obtain ⟨l, la, lc, el, rl, ln, ls⟩ := open_entsW t6 s6 (weight_at hs2 6 rfl rfl)
  simp only [Value.agg.injEq] at ev
  have ec : c1 = .slice fa fn fc := by
    have := congrArg (fun a : Array Value => a[0]?) ev
    simpa using this
  have efn : fn = fs.length := by
    obtain ⟨a', c', e, _⟩ := id rf
    simp only [Value.slice.injEq] at e
    exact e.2.1
  subst efn
  subst ec el
  exact ⟨⟨n0, fa, fc, fs, n2, n3, n4, n5, la, lc, l⟩, rfl, rf, nn, rl, ln, ls⟩

end Go.Proofs.YtganmnckdmkcbaaGreat

namespace Go.Proofs.YtganmnckdmkcbaaGreat
open Go.ChangeShapes Go.WideShapes Go.ChangeAt Go.RowKit
set_option linter.unusedVariables false

set_option maxRecDepth 100000 in
theorem open_ask31 {H : Type} {enc : TypeId × Value → H} {W : World} {base : Nat} {held : Bool} {v : Value} {d : DataW H} {p : List MemPlace} (h0 : DataW.Trod enc Tryz.prog W base (fun _ => true) held 30 v d p) (hv : ∃ cs, v = .agg cs ∧ cs.size = Tryz.prog.cellsOf 30) (hk : (d.weights Tryz.prog 30).all (fun x => decide (x ≤ reachBytes)) = true) :
    ∃ o : AskD, v = .agg o.cells.toArray ∧ AskD.Ok W o := by
  obtain ⟨⟨cs⟩, rfl, -⟩ := hv
  obtain ⟨fuel, hf⟩ := h0
  simp only [Value.cells] at hf
  obtain ⟨o, e, ok⟩ := open_ask3 (x := (d, p)) hf hk
  exact ⟨o, by rw [← e], ok⟩
theorem und_turn3 : Tryz.prog.underlying 59 = some (.struct #[{ name := "Kind", type := 3, offset := 0, embedded := false, tag := "", pkgPath := "", byteOffset := 0 }, { name := "At", type := 3, offset := 1, embedded := false, tag := "", pkgPath := "", byteOffset := 8 }, { name := "By", type := 3, offset := 2, embedded := false, tag := "", pkgPath := "", byteOffset := 16 }]) := by kernel_rfl
theorem und_turns3 : Tryz.prog.underlying 31 = some (.slice 59) := by kernel_rfl
theorem cells_turn3 : Tryz.prog.cellsOf 59 = 3 := by kernel_rfl
set_option maxRecDepth 100000 in
theorem open_turn3 {H : Type} {enc : TypeId × Value → H} {W : World} {base fuel : Nat} {held : Bool} {cs : List Value} {x : DataW H × List MemPlace} (h : DataW.trod enc Tryz.prog W base (fun _ => true) held fuel 59 cs = some x) : ∃ o : TurnD, cs = o.cells ∧ TurnD.Ok o := by
  obtain ⟨xs, n, rfl, rfl, hcl, hxl, hf⟩ := DataW.trod_struct und_turn3 h
  rw [cells_turn3] at hcl
  obtain ⟨c0, c1, c2, rfl⟩ : ∃ c0 c1 c2, cs = [c0, c1, c2] := by
    match cs, hcl with
    | [c0, c1, c2], _ => exact ⟨_, _, _, rfl⟩
  obtain ⟨x0, x1, x2, rfl⟩ : ∃ x0 x1 x2, xs = [x0, x1, x2] := by
    match xs, hxl with
    | [c0, c1, c2], _ => exact ⟨_, _, _, rfl⟩
  have f0 := hf 0 _ rfl
  have f1 := hf 1 _ rfl
  have f2 := hf 2 _ rfl
  simp [cells_int] at f0 f1 f2
  obtain ⟨n0, e0, _, w0⟩ := DataW.trod_int und_int f0
  obtain ⟨n1, e1, _, w1⟩ := DataW.trod_int und_int f1
  obtain ⟨n2, e2, _, w2⟩ := DataW.trod_int und_int f2
  simp at e0 e1 e2
  subst e0 e1 e2
  have b1 := bounds_i64 w1
  have b2 := bounds_i64 w2
  exact ⟨⟨n0, n1, n2⟩, rfl, ⟨by simp only; omega, by simp only; omega⟩, ⟨by simp only; omega, by simp only; omega⟩⟩
set_option maxRecDepth 100000 in
theorem open_turns3 {H : Type} {enc : TypeId × Value → H} {W : World} {v : Value} {d : DataW H} {p : List MemPlace} {base : Nat} {held : Bool} (h : DataW.Trod enc Tryz.prog W base (fun _ => true) held 31 v d p) (hs : ∃ a n c, v = .slice a n c) (hk : (d.weights Tryz.prog 31).all (fun x => decide (x ≤ reachBytes)) = true) :
    ∃ os : List TurnD, RdT3 W v os := by
  obtain ⟨a, n, c, rfl⟩ := hs
  obtain ⟨fuel, hf⟩ := h
  rcases Deep.open_slice und_turns3 hf with ⟨hcs, hx⟩ | ⟨x, l, c', m, k, D, Pl, hcs, _, hl, hm, hmm, hx, hel⟩
  · simp [Value.cells] at hcs
    obtain ⟨rfl, rfl, rfl⟩ := hcs
    exact ⟨[], by simp, none, 0, rfl, .inl rfl⟩
  · simp [Value.cells] at hcs
    obtain ⟨rfl, rfl, rfl⟩ := hcs
    simp only [if_true] at hmm
    simp only [Prod.mk.injEq] at hx
    obtain ⟨hx1, _⟩ := hx
    have hn : n ≤ 281474976710656 := by
      have hs2 : (DataW.weightsEach Tryz.prog [31] ([d] ++ [])).all (fun x => decide (x ≤ reachBytes)) = true := by simpa [DataW.weightsEach] using hk
      rw [hx1] at hs2
      have := sized_slice hs2 (j := 0) (t := 31) rfl rfl und_turns3
      rw [show Tryz.prog.bytesOf 59 = 24 by kernel_rfl] at this
      simp at this
      unfold reachBytes at this
      omega
    rw [cells_turn3] at hel
    have hop : ∀ i, i < n → ∃ o : TurnD, (∀ j y, o.cells[j]? = some y → W.cell? ((x.add (i * 3)).add j) = some y) ∧ TurnD.Ok o := by
      intro i hi
      obtain ⟨cs', hc1, hc2⟩ := hel i (by omega)
      obtain ⟨o, rfl, hok⟩ := open_turn3 hc2
      refine ⟨o, fun j y hj => ?_, hok⟩
      obtain ⟨_, hlen, hget⟩ := World.cells?_some hc1
      have hj3 : j < 3 := by
        have := (List.getElem?_eq_some_iff.1 hj).1
        simpa [TurnD.cells] using this
      rw [hget j hj3]
      exact hj
    have build : ∀ q, q ≤ n → ∃ os : List TurnD, os.length = q ∧ ∀ i o, os[i]? = some o → (∀ j y, o.cells[j]? = some y → W.cell? ((x.add (i * 3)).add j) = some y) ∧ TurnD.Ok o := by
      intro q
      induction q with
      | zero => intro _; exact ⟨[], rfl, fun i o h => by simp at h⟩
      | succ q ih =>
        intro hq
        obtain ⟨os, hol, hos⟩ := ih (by omega)
        obtain ⟨o, ho⟩ := hop q (by omega)
        refine ⟨os ++ [o], by simp [hol], fun i o' h => ?_⟩
        by_cases hi : i < os.length
        · rw [List.getElem?_append_left hi] at h
          exact hos i o' h
        · rw [List.getElem?_append_right (by omega)] at h
          have hi2 : i = q := by
            by_cases h9 : i - os.length = 0
            · omega
            · rw [List.getElem?_eq_none (by simp; omega)] at h; cases h
          subst hi2
          rw [hol, Nat.sub_self] at h
          simp at h
          subst h
          exact ho
    obtain ⟨os, hol, hos⟩ := build n (Nat.le_refl _)
    refine ⟨os, by omega, some x, c, by rw [hol], ?_⟩
    by_cases hn0 : n = 0
    · left; exact List.eq_nil_of_length_eq_zero (by omega)
    · right
      obtain ⟨b, off, spot⟩ := x
      have hc := (hop 0 (by omega))
      obtain ⟨o, hc, _⟩ := hc
      have hc0 := hc 0 _ rfl
      have hspot : spot = none := by simpa [Addr.add] using World.cell?_spot hc0
      subst hspot
      refine ⟨b, off, rfl, fun i o hi => ⟨fun j y hj => ?_, (hos i o hi).2⟩⟩
      have := (hos i o hi).1 j y hj
      have e : ∀ q r : Nat, ((⟨b, q, none⟩ : Addr).add r) = ⟨b, q + r, none⟩ := fun q r => by unfold Addr.add; split <;> simp_all
      rw [e, e] at this
      exact this
theorem retainLent_walk2 {W : World} {o : AskD} {tv : Value} {ts : List TurnD} (h : AskD.Ok W o) (ht : RdT3 W tv ts) : Calls Tryz.prog 7 #[.agg o.cells.toArray, tv] W fun r W' => r = .returned (.bool true) ∧ Below W.heap.size W W' := retainLent_walk h.1 h.2.1 h.2.2.1 h.2.2.2.1 h.2.2.2.2 ht
end Go.Proofs.YtganmnckdmkcbaaGreat
