import Derived.Test.YthhkpkfpifllkaaGreatK20
namespace Go.Proofs.YthhkpkfpifllkaaGreat
open Go.RowKit
set_option linter.unusedVariables false

structure Pd (w : World) (N : Nat) (a : Option Addr) (c : Nat) (zs : List EntD) (Q P : Nat → Prop) : Prop where
  rw_ : Rw w N (.slice a zs.length c) zs Q
  out : ∀ k, Q k → ¬ P k ∧ N ≤ k ∧ k < w.heap.size
  sm : ∀ x ∈ zs, SmE x.dat
  len : zs.length ≤ 1048576
theorem Pd.step {w w' : World} {N : Nat} {a : Option Addr} {c : Nat} {zs : List EntD} {Q Q1 P P' : Nat → Prop} (h : Pd w N a c zs Q P) (sp : SpF w w' P) (hP : ∀ k, P' k → P k ∨ Q1 k ∨ (w.heap.size ≤ k ∧ k < w'.heap.size)) (hd : ∀ k, Q k → ¬ Q1 k) : Pd w' N a c zs Q P' :=
  ⟨h.rw_.keep (fun i hi => sp.block i (h.out i hi).2.2 (h.out i hi).1), fun k hk => ⟨fun z => by
    rcases hP k z with y | y | y
    · exact (h.out k hk).1 y
    · exact hd k hk y
    · have := (h.out k hk).2.2; omega, (h.out k hk).2.1, Nat.lt_of_lt_of_le (h.out k hk).2.2 sp.size⟩, h.sm, h.len⟩
theorem Kpt.keep {w w' : World} {N g nB : Nat} {Ds : List (List En)} {P : Nat → Prop} (h : Kpt w N g Ds nB P) (k : ∀ i, P i → w'.heap[i]? = w.heap[i]?) (hs : w.heap.size ≤ w'.heap.size) : Kpt w' N g Ds nB P := by
  obtain ⟨aE, aG, aB, aH, cE, cG, cB, cH, aW, cW, bi, ei, us, O, F, kp, hnb⟩ := h
  exact ⟨aE, aG, aB, aH, cE, cG, cB, cH, aW, cW, bi, ei, us, O, F, kp.keep k hs, hnb⟩
theorem Kpt.lt {w : World} {N g nB : Nat} {Ds : List (List En)} {P : Nat → Prop} (h : Kpt w N g Ds nB P) : ∀ k, P k → N ≤ k ∧ k < w.heap.size := by
  obtain ⟨aE, aG, aB, aH, cE, cG, cB, cH, aW, cW, bi, ei, us, O, F, kp, hnb⟩ := h
  exact kp.lt
theorem Kpt.later {w w' : World} {N g nB : Nat} {Ds : List (List En)} {P : Nat → Prop} (h : Kpt w N g Ds nB P) (b : Below w.heap.size w w') : Kpt w' N g Ds nB P := h.keep (fun i hi => b.block i (h.lt i hi).2) b.size
theorem take_pd {w : World} {N g nB : Nat} {Ds : List (List En)} {P Q : Nat → Prop} {al : Option Addr} {cl : Nat} {xs : List EntD} (h : Kpt w N g Ds nB P) (p : Pd w N al cl xs Q P) (hN : N ≤ w.heap.size) (he : Ds.length + 1 ≤ 5864062014805) (hb : nB ≤ 5000000000000) :
    Calls Tryz.prog 38 #[.pointer (some ⟨g, 0, none⟩), .slice al xs.length cl] w fun r w' => r = .returned (.tuple #[]) ∧ ∃ P', Kpt w' N g (Ds ++ [xs.map EntD.dat]) (nB + 3 * xs.length) P' ∧ (∀ k, P' k → P k ∨ Q k ∨ (w.heap.size ≤ k ∧ k < w'.heap.size)) ∧ SpF w w' P := by
  refine Calls.mono (take_any h hN p.rw_ p.out p.sm p.len (by have := p.len; omega) he) ?_
  rintro r w' ⟨rfl, P', k, hP, sp, _⟩
  exact ⟨rfl, P', k, hP, sp⟩
noncomputable def five (C : Nat) (fs : List FamD) (clock t n : Int) (l : List EntD) : List (List En) := [dSort l, dRd C fs clock 1099511627776 16 l, dRd C fs clock t n l, dSq C fs clock 0 false l, dSq C fs clock t true l]
def CallP (w w' : World) (N g : Nat) (Ds : List (List En)) (nB : Nat) (P : Nat → Prop) : Prop := ∃ P' nB', Kpt w' N g Ds nB' P' ∧ nB' ≤ nB + 15728640 ∧ (∀ k, P' k → P k ∨ (w.heap.size ≤ k ∧ k < w'.heap.size)) ∧ SpF w w' P
set_option maxRecDepth 100000 in
set_option maxHeartbeats 8000000 in
theorem calls_any {w : World} {N g nB : Nat} {Ds : List (List En)} {P : Nat → Prop} (h : Kpt w N g Ds nB P) (hN : N ≤ w.heap.size) {kk clock t n : Int} {fa la a : Option Addr} {fc nl lc cap : Nat} {fs : List FamD} {major : Bool} (hr : RdF w (.slice fa fs.length fc) fs) (hnn : fa = none → fc = 0) (C : Nat) (hC : (C = 0 ↔ SchemaOk fs) ∧ (C = 0 ∨ C = 28)) {l : List EntD} (h0 : RdL3 w a cap l) (hl : l.length ≤ 1048576) (hD : Ds.length ≤ 1000) (hnB : nB ≤ 1000000000) :
    Calls Tryz.prog 30 #[.pointer (some ⟨g, 0, none⟩), .agg #[.int .i64 kk, .slice fa fs.length fc, .int .i64 clock, .int .i64 t, .int .i64 n, .bool major, .slice la nl lc], .slice a l.length cap] w fun r w' => r = .returned (.tuple #[]) ∧ CallP w w' N g (Ds ++ five C fs clock t n l) nB P := by
  obtain ⟨K, hK⟩ : ∃ K, K = fs.length := ⟨_, rfl⟩
  obtain ⟨NL, hNL⟩ : ∃ N, N = l.length := ⟨_, rfl⟩
  obtain ⟨X0, hX0⟩ : ∃ Y, Y = w.alloc (.cells #[.int .i64 kk, .slice fa K fc, .int .i64 clock, .int .i64 t, .int .i64 n, .bool major, .slice la nl lc] 30) := ⟨_, rfl⟩
  have A1 : Below w.heap.size w X0 := by rw [hX0]; exact (Below.refl _ _).alloc (Nat.le_refl _) _
  have hbx : ∀ Z, Below X0.heap.size X0 Z → Z.cell? ⟨w.heap.size, 1, none⟩ = some (.slice fa K fc) ∧ Z.cell? ⟨w.heap.size, 2, none⟩ = some (.int .i64 clock) ∧ Z.cell? ⟨w.heap.size, 3, none⟩ = some (.int .i64 t) ∧ Z.cell? ⟨w.heap.size, 4, none⟩ = some (.int .i64 n) := fun Z b => by
    have hn : X0.heap[w.heap.size]? = some (.cells #[.int .i64 kk, .slice fa K fc, .int .i64 clock, .int .i64 t, .int .i64 n, .bool major, .slice la nl lc] 30 (0, 0)) := by rw [hX0]; exact heap_new w _
    have hz : Z.heap[w.heap.size]? = _ := (b.block w.heap.size (by rw [hX0, World.size_alloc]; omega)).trans hn
    simp [World.cell?, hz]
  have up : ∀ Z, Below X0.heap.size X0 Z → Below w.heap.size w Z := fun Z b => A1.trans (b.mono A1.size)
  obtain ⟨D1, hD1⟩ : ∃ D, D = dSort l := ⟨_, rfl⟩
  obtain ⟨D2, hD2⟩ : ∃ D, D = dRd C fs clock 1099511627776 16 l := ⟨_, rfl⟩
  obtain ⟨D3, hD3⟩ : ∃ D, D = dRd C fs clock t n l := ⟨_, rfl⟩
  obtain ⟨D4, hD4⟩ : ∃ D, D = dSq C fs clock 0 false l := ⟨_, rfl⟩
  obtain ⟨D5, hD5⟩ : ∃ D, D = dSq C fs clock t true l := ⟨_, rfl⟩
  have H1 := Lib.hid (fun (Z : World) (b : Below X0.heap.size X0 Z) => own_sort (h0.later (up Z b)) (by omega))
  have H2 := Lib.hid (fun (Z : World) (b : Below X0.heap.size X0 Z) => own_vis (hr.later (up Z b)) hnn C hC clock (h0.later (up Z b)) (by omega))
  have H3 := Lib.hid (fun (Z : World) (b : Below X0.heap.size X0 Z) => own_read (hr.later (up Z b)) hnn C hC clock t n (h0.later (up Z b)) (by omega))
  have H4 := Lib.hid (fun (Z : World) (b : Below X0.heap.size X0 Z) => own_squash (hr.later (up Z b)) hnn C hC clock 0 false (h0.later (up Z b)) (by omega))
  have H5 := Lib.hid (fun (Z : World) (b : Below X0.heap.size X0 Z) => own_squash (hr.later (up Z b)) hnn C hC clock t true (h0.later (up Z b)) (by omega))
  have HLn : Hid (l.length ≤ 1048576) := hl
  have e5 : five C fs clock t n l = [D1, D2, D3, D4, D5] := by rw [hD1, hD2, hD3, hD4, hD5]; rfl
  rw [← hNL, ← hD1] at H1
  rw [← hNL, ← hK, ← hD2] at H2
  rw [← hNL, ← hK, ← hD3] at H3
  rw [← hNL, ← hK, ← hD4] at H4
  rw [← hNL, ← hK, ← hD5] at H5
  rw [← hNL] at HLn
  rw [e5, ← hK, ← hNL]
  obtain ⟨CP, hCP⟩ : ∃ T : World → Prop, T = fun w' => CallP w w' N g (Ds ++ [D1, D2, D3, D4, D5]) nB P := ⟨_, rfl⟩
  have e0 : ∀ w', CallP w w' N g (Ds ++ [D1, D2, D3, D4, D5]) nB P = CP w' := fun w' => by rw [hCP]
  simp only [e0]
  have HCP := Lib.hid hCP
  have HA1 := Lib.hid A1
  have HX0 := Lib.hid hX0
  have HB := Lib.hid hbx
  have HK0 := Lib.hid h
  have HnB : Hid (N ≤ w.heap.size ∧ Ds.length ≤ 1000 ∧ nB ≤ 1000000000) := ⟨hN, hD, hnB⟩
  clear hr hnn hC h0 hl hK hNL hX0 A1 hbx up hD1 hD2 hD3 hD4 hD5 h hN hD hnB e5 e0 hCP
  go_enter Tryz.func30, Tryz.ntmps30
  go_wp2_with fail
  rw [← HX0.out]
  clear HX0
  refine Calls.mono (H1.out _ (Below.refl _ _)) ?_
  rintro e1 y1 ⟨z1, a1, c1, E1, rfl, o1, b1⟩
  have O1 := Lib.hid (And.intro o1 b1)
  have B1 := Lib.hid b1
  obtain ⟨q1, q2, q3, q4⟩ := HB.out _ B1.out
  clear o1 b1
  go_wp2_with fail
  refine Calls.mono (H2.out _ B1.out) ?_
  rintro e2 y2 ⟨z2, a2, c2, E2, rfl, o2, b2⟩
  have O2 := Lib.hid (And.intro o2 b2)
  have B2 := Lib.hid (B1.out.trans (b2.mono B1.out.size))
  clear o2 b2 q1 q2 q3 q4
  obtain ⟨q1, q2, q3, q4⟩ := HB.out _ B2.out
  go_wp2_with fail
  refine Calls.mono (H3.out _ B2.out) ?_
  rintro e3 y3 ⟨z3, a3, c3, E3, rfl, o3, b3⟩
  have O3 := Lib.hid (And.intro o3 b3)
  have B3 := Lib.hid (B2.out.trans (b3.mono B2.out.size))
  clear o3 b3 q1 q2 q3 q4
  obtain ⟨q1, q2, q3, q4⟩ := HB.out _ B3.out
  go_wp2_with fail
  refine Calls.mono (H4.out _ B3.out) ?_
  rintro e4 y4 ⟨z4, a4, c4, E4, rfl, o4, b4⟩
  have O4 := Lib.hid (And.intro o4 b4)
  have B4 := Lib.hid (B3.out.trans (b4.mono B3.out.size))
  clear o4 b4 q1 q2 q3 q4
  obtain ⟨q1, q2, q3, q4⟩ := HB.out _ B4.out
  go_wp2_with fail
  refine Calls.mono (H5.out _ B4.out) ?_
  rintro e5 y5 ⟨z5, a5, c5, E5, rfl, o5, b5⟩
  have O5 := Lib.hid (And.intro o5 b5)
  have B5 := Lib.hid (B4.out.trans (b5.mono B4.out.size))
  clear o5 b5 q1 q2 q3 q4
  have HSz : Hid (w.heap.size ≤ X0.heap.size ∧ X0.heap.size ≤ y1.heap.size ∧ y1.heap.size ≤ y2.heap.size ∧ y2.heap.size ≤ y3.heap.size ∧ y3.heap.size ≤ y4.heap.size ∧ y4.heap.size ≤ y5.heap.size) := ⟨HA1.out.size, O1.out.2.size, O2.out.2.size, O3.out.2.size, O4.out.2.size, O5.out.2.size⟩
  have HBy : Hid (Below w.heap.size w y5) := HA1.out.trans (B5.out.mono HA1.out.size)
  have u5 : Below y5.heap.size y5 y5 := Below.refl _ _
  have u4 : Below y4.heap.size y4 y5 := O5.out.2
  have u3 : Below y3.heap.size y3 y5 := O4.out.2.trans (u4.mono O4.out.2.size)
  have u2 : Below y2.heap.size y2 y5 := O3.out.2.trans (u3.mono O3.out.2.size)
  have u1 : Below y1.heap.size y1 y5 := O2.out.2.trans (u2.mono O2.out.2.size)
  have HK0y := Lib.hid (HK0.out.later HBy.out)
  have HL : Hid (∀ k, P k → k < w.heap.size) := fun k hk => (HK0.out.lt k hk).2
  have pd : ∀ {Z Z' : World} {D : List En} {a : Option Addr} {c : Nat} {zs : List EntD}, OwL Z Z' NL D a c zs → w.heap.size ≤ Z.heap.size → Z'.heap.size ≤ y5.heap.size → Below Z'.heap.size Z' y5 → Pd y5 N a c zs (fun i => Z.heap.size ≤ i ∧ i < Z'.heap.size) P := fun ow h1 h2 b => ⟨(ow.rw_.keep (fun i hi => b.block i hi.2)).low (Nat.le_trans HnB.out.1 h1), fun k hk => ⟨fun z => by have := HL.out k z; have := hk.1; omega, by have := hk.1; have := HnB.out.1; omega, by have := hk.2; omega⟩, ow.sm, Nat.le_trans ow.len HLn.out⟩
  have HP10 := Lib.hid (pd O1.out.1 (by have := HSz.out; omega) (by have := HSz.out; omega) u1)
  have HP20 := Lib.hid (pd O2.out.1 (by have := HSz.out; omega) (by have := HSz.out; omega) u2)
  have HP30 := Lib.hid (pd O3.out.1 (by have := HSz.out; omega) (by have := HSz.out; omega) u3)
  have HP40 := Lib.hid (pd O4.out.1 (by have := HSz.out; omega) (by have := HSz.out; omega) u4)
  have HP50 := Lib.hid (pd O5.out.1 (by have := HSz.out; omega) (by have := HSz.out; omega) u5)
  have HDd : Hid (z1.map EntD.dat = D1 ∧ z2.map EntD.dat = D2 ∧ z3.map EntD.dat = D3 ∧ z4.map EntD.dat = D4 ∧ z5.map EntD.dat = D5) := ⟨O1.out.1.dat, O2.out.1.dat, O3.out.1.dat, O4.out.1.dat, O5.out.1.dat⟩
  have HZn : Hid (z1.length ≤ 1048576 ∧ z2.length ≤ 1048576 ∧ z3.length ≤ 1048576 ∧ z4.length ≤ 1048576 ∧ z5.length ≤ 1048576) := ⟨HP10.out.len, HP20.out.len, HP30.out.len, HP40.out.len, HP50.out.len⟩
  clear pd u1 u2 u3 u4 u5
  have HN0 : Hid (N ≤ y5.heap.size) := Nat.le_trans HnB.out.1 HBy.out.size
  have HC1 : Hid _ := take_pd (Ds := Ds) (nB := nB) HK0y.out HP10.out HN0.out (by have := HnB.out; simp; omega) (by have := HnB.out; have := HZn.out; omega)
  go_wp2_with fail
  refine Calls.mono HC1.out ?_
  rintro e t1 ⟨rfl, P1, k, hP, sp⟩
  have HK1 := Lib.hid k
  have HS1 := Lib.hid (And.intro hP sp)
  have HN1 : Hid (N ≤ t1.heap.size) := Nat.le_trans HN0.out sp.size
  have HP21 := Lib.hid (HP20.out.step sp hP (fun k hk hk2 => by have x1 := hk.1; have x2 := hk.2; have x3 := hk2.1; have x4 := hk2.2; have := HSz.out; omega))
  have HP31 := Lib.hid (HP30.out.step sp hP (fun k hk hk2 => by have x1 := hk.1; have x2 := hk.2; have x3 := hk2.1; have x4 := hk2.2; have := HSz.out; omega))
  have HP41 := Lib.hid (HP40.out.step sp hP (fun k hk hk2 => by have x1 := hk.1; have x2 := hk.2; have x3 := hk2.1; have x4 := hk2.2; have := HSz.out; omega))
  have HP51 := Lib.hid (HP50.out.step sp hP (fun k hk hk2 => by have x1 := hk.1; have x2 := hk.2; have x3 := hk2.1; have x4 := hk2.2; have := HSz.out; omega))
  clear k hP sp HC1
  have HC2 : Hid _ := take_pd (Ds := Ds ++ [z1.map EntD.dat]) (nB := nB + 3 * z1.length) HK1.out HP21.out HN1.out (by have := HnB.out; simp; omega) (by have := HnB.out; have := HZn.out; omega)
  go_wp2_with fail
  refine Calls.mono HC2.out ?_
  rintro e t2 ⟨rfl, P2, k, hP, sp⟩
  have HK2 := Lib.hid k
  have HS2 := Lib.hid (And.intro hP sp)
  have HN2 : Hid (N ≤ t2.heap.size) := Nat.le_trans HN1.out sp.size
  have HP32 := Lib.hid (HP31.out.step sp hP (fun k hk hk2 => by have x1 := hk.1; have x2 := hk.2; have x3 := hk2.1; have x4 := hk2.2; have := HSz.out; omega))
  have HP42 := Lib.hid (HP41.out.step sp hP (fun k hk hk2 => by have x1 := hk.1; have x2 := hk.2; have x3 := hk2.1; have x4 := hk2.2; have := HSz.out; omega))
  have HP52 := Lib.hid (HP51.out.step sp hP (fun k hk hk2 => by have x1 := hk.1; have x2 := hk.2; have x3 := hk2.1; have x4 := hk2.2; have := HSz.out; omega))
  clear k hP sp HC2
  have HC3 : Hid _ := take_pd (Ds := Ds ++ [z1.map EntD.dat] ++ [z2.map EntD.dat]) (nB := nB + 3 * z1.length + 3 * z2.length) HK2.out HP32.out HN2.out (by have := HnB.out; simp; omega) (by have := HnB.out; have := HZn.out; omega)
  go_wp2_with fail
  refine Calls.mono HC3.out ?_
  rintro e t3 ⟨rfl, P3, k, hP, sp⟩
  have HK3 := Lib.hid k
  have HS3 := Lib.hid (And.intro hP sp)
  have HN3 : Hid (N ≤ t3.heap.size) := Nat.le_trans HN2.out sp.size
  have HP43 := Lib.hid (HP42.out.step sp hP (fun k hk hk2 => by have x1 := hk.1; have x2 := hk.2; have x3 := hk2.1; have x4 := hk2.2; have := HSz.out; omega))
  have HP53 := Lib.hid (HP52.out.step sp hP (fun k hk hk2 => by have x1 := hk.1; have x2 := hk.2; have x3 := hk2.1; have x4 := hk2.2; have := HSz.out; omega))
  clear k hP sp HC3
  have HC4 : Hid _ := take_pd (Ds := Ds ++ [z1.map EntD.dat] ++ [z2.map EntD.dat] ++ [z3.map EntD.dat]) (nB := nB + 3 * z1.length + 3 * z2.length + 3 * z3.length) HK3.out HP43.out HN3.out (by have := HnB.out; simp; omega) (by have := HnB.out; have := HZn.out; omega)
  go_wp2_with fail
  refine Calls.mono HC4.out ?_
  rintro e t4 ⟨rfl, P4, k, hP, sp⟩
  have HK4 := Lib.hid k
  have HS4 := Lib.hid (And.intro hP sp)
  have HN4 : Hid (N ≤ t4.heap.size) := Nat.le_trans HN3.out sp.size
  have HP54 := Lib.hid (HP53.out.step sp hP (fun k hk hk2 => by have x1 := hk.1; have x2 := hk.2; have x3 := hk2.1; have x4 := hk2.2; have := HSz.out; omega))
  clear k hP sp HC4
  have HC5 : Hid _ := take_pd (Ds := Ds ++ [z1.map EntD.dat] ++ [z2.map EntD.dat] ++ [z3.map EntD.dat] ++ [z4.map EntD.dat]) (nB := nB + 3 * z1.length + 3 * z2.length + 3 * z3.length + 3 * z4.length) HK4.out HP54.out HN4.out (by have := HnB.out; simp; omega) (by have := HnB.out; have := HZn.out; omega)
  go_wp2_with fail
  refine Calls.mono HC5.out ?_
  rintro e t5 ⟨rfl, P5, k, hP, sp⟩
  have HK5 := Lib.hid k
  have HS5 := Lib.hid (And.intro hP sp)
  have HN5 : Hid (N ≤ t5.heap.size) := Nat.le_trans HN4.out sp.size
  clear k hP sp HC5
  go_wp2
  refine bodyPost_end (v := .tuple #[]) (by first | rfl | kernel_rfl) rfl ?_
  refine ⟨rfl, ?_⟩
  rw [HCP.out]
  obtain ⟨w0, w1, w2, w3, w4, w5⟩ := HSz.out
  have v0 := HBy.out.size
  obtain ⟨p1, s1⟩ := HS1.out
  have v1 := s1.size
  obtain ⟨p2, s2⟩ := HS2.out
  have v2 := s2.size
  obtain ⟨p3, s3⟩ := HS3.out
  have v3 := s3.size
  obtain ⟨p4, s4⟩ := HS4.out
  have v4 := s4.size
  obtain ⟨p5, s5⟩ := HS5.out
  have v5 := s5.size
  have g0 : ∀ k, P k → P k ∨ (w.heap.size ≤ k ∧ k < t5.heap.size) := fun k hk => .inl hk
  have g1 : ∀ k, P1 k → P k ∨ (w.heap.size ≤ k ∧ k < t5.heap.size) := fun k hk => by
    rcases p1 k hk with z | z | z
    · exact g0 k z
    · exact .inr ⟨by have := z.1; omega, by have := z.2; omega⟩
    · exact .inr ⟨by have := z.1; omega, by have := z.2; omega⟩
  have g2 : ∀ k, P2 k → P k ∨ (w.heap.size ≤ k ∧ k < t5.heap.size) := fun k hk => by
    rcases p2 k hk with z | z | z
    · exact g1 k z
    · exact .inr ⟨by have := z.1; omega, by have := z.2; omega⟩
    · exact .inr ⟨by have := z.1; omega, by have := z.2; omega⟩
  have g3 : ∀ k, P3 k → P k ∨ (w.heap.size ≤ k ∧ k < t5.heap.size) := fun k hk => by
    rcases p3 k hk with z | z | z
    · exact g2 k z
    · exact .inr ⟨by have := z.1; omega, by have := z.2; omega⟩
    · exact .inr ⟨by have := z.1; omega, by have := z.2; omega⟩
  have g4 : ∀ k, P4 k → P k ∨ (w.heap.size ≤ k ∧ k < t5.heap.size) := fun k hk => by
    rcases p4 k hk with z | z | z
    · exact g3 k z
    · exact .inr ⟨by have := z.1; omega, by have := z.2; omega⟩
    · exact .inr ⟨by have := z.1; omega, by have := z.2; omega⟩
  have g5 : ∀ k, P5 k → P k ∨ (w.heap.size ≤ k ∧ k < t5.heap.size) := fun k hk => by
    rcases p5 k hk with z | z | z
    · exact g4 k z
    · exact .inr ⟨by have := z.1; omega, by have := z.2; omega⟩
    · exact .inr ⟨by have := z.1; omega, by have := z.2; omega⟩
  refine ⟨P5, nB + 3 * z1.length + 3 * z2.length + 3 * z3.length + 3 * z4.length + 3 * z5.length, ?_, ?_, g5, ?_⟩
  · have := HK5.out
    rw [HDd.out.1, HDd.out.2.1, HDd.out.2.2.1, HDd.out.2.2.2.1, HDd.out.2.2.2.2] at this
    simpa using this
  · have := HZn.out
    omega
  · have i1 : SpF w t1 P := (SpF.of_below P HBy.out).trans s1
    have i2 : SpF w t2 P := i1.then s2 (fun k hk z => by
      rcases g1 k z with y | y
      · exact y
      · omega)
    have i3 : SpF w t3 P := i2.then s3 (fun k hk z => by
      rcases g2 k z with y | y
      · exact y
      · omega)
    have i4 : SpF w t4 P := i3.then s4 (fun k hk z => by
      rcases g3 k z with y | y
      · exact y
      · omega)
    have i5 : SpF w t5 P := i4.then s5 (fun k hk z => by
      rcases g4 k z with y | y
      · exact y
      · omega)
    exact i5
end Go.Proofs.YthhkpkfpifllkaaGreat

namespace Go.Proofs.YthhkpkfpifllkaaGreat
open Go.RowKit
set_option linter.unusedVariables false

def WasAt (w : World) (g : Nat) (Ds : List (List En)) : Prop := ∃ aW cW, w.cell? ⟨g, 5, none⟩ = some (.slice aW Ds.length cW) ∧ g < w.heap.size ∧ ∀ (i : Nat) (D : List En), Ds[i]? = some D → ∃ gW a c zs, aW = some ⟨gW, 0, none⟩ ∧ w.cell? ⟨gW, i, none⟩ = some (.slice a zs.length c) ∧ RdL3 w a c zs ∧ zs.map EntD.dat = D ∧ zs.length ≤ 1048576
theorem wz_at {w : World} {N : Nat} {aW : Option Addr} {cW : Nat} {us : List Value} {Ds : List (List En)} {F : Nat → Prop} (h : Wz w N (.slice aW us.length cW) us Ds F) {i : Nat} {D : List En} (hD : Ds[i]? = some D) : ∃ gW a c zs, aW = some ⟨gW, 0, none⟩ ∧ w.cell? ⟨gW, i, none⟩ = some (.slice a zs.length c) ∧ RdL3 w a c zs ∧ zs.map EntD.dat = D ∧ zs.length ≤ 1048576 := by
  have hi := idx_lt hD
  obtain ⟨u, hu⟩ : ∃ u, us[i]? = some u := ⟨_, List.getElem?_eq_getElem (by rw [h.lu]; exact hi)⟩
  obtain ⟨zs, r, e1, e2, e3⟩ := h.ws i u hu
  obtain ⟨gW, e, c⟩ := row1_cell (u := u) h.row rfl hu
  obtain ⟨a, c', hz⟩ := rows_form3 r.row
  subst hz
  rw [hD] at e1
  exact ⟨gW, a, c', zs, e, c, r.rdlS e2, (Option.some.inj e1).symm, e3⟩
theorem Kpt.was {w : World} {N g nB : Nat} {Ds : List (List En)} {P : Nat → Prop} (h : Kpt w N g Ds nB P) : WasAt w g Ds := by
  obtain ⟨aE, aG, aB, aH, cE, cG, cB, cH, aW, cW, bi, ei, us, O, F, kp, hnb⟩ := h
  have c := kp.bq.bp.box.c5
  rw [kp.wz.lu] at c
  exact ⟨aW, cW, c, kp.bq.bp.box.lt, fun i D hD => wz_at kp.wz hD⟩
def Kps (w : World) (N g : Nat) (Ds : List (List En)) (nB : Nat) (P : Nat → Prop) : Prop := ∃ aW cW us O F, Bok w N g [.slice aW us.length cW] 71 nB Ds.length nB Ds.length O ∧ Wz w N (.slice aW us.length cW) us Ds F ∧ (∀ k, O k → ¬ F k) ∧ (∀ k, O k → P k) ∧ (∀ k, F k → P k) ∧ ∀ k, P k → N ≤ k ∧ k < w.heap.size
section
variable {w w' : World} {N g nB : Nat} {Ds : List (List En)} {P : Nat → Prop}
theorem Kps.keep (h : Kps w N g Ds nB P) (k : ∀ i, P i → w'.heap[i]? = w.heap[i]?) (hs : w.heap.size ≤ w'.heap.size) : Kps w' N g Ds nB P := by
  obtain ⟨aW, cW, us, O, F, b, wz, d, i1, i2, lt⟩ := h
  exact ⟨aW, cW, us, O, F, b.keep (fun i hi => k i (i1 i hi)) hs, wz.keep (fun i hi => k i (i2 i hi)), d, i1, i2, fun i hi => ⟨(lt i hi).1, Nat.lt_of_lt_of_le (lt i hi).2 hs⟩⟩
theorem Kps.lt (h : Kps w N g Ds nB P) : ∀ k, P k → N ≤ k ∧ k < w.heap.size := by
  obtain ⟨aW, cW, us, O, F, b, wz, d, i1, i2, lt⟩ := h
  exact lt
theorem Kps.later (h : Kps w N g Ds nB P) (b : Below w.heap.size w w') : Kps w' N g Ds nB P := h.keep (fun i hi => b.block i (h.lt i hi).2) b.size
theorem Kps.was (h : Kps w N g Ds nB P) : WasAt w g Ds := by
  obtain ⟨aW, cW, us, O, F, b, wz, d, i1, i2, lt⟩ := h
  obtain ⟨aE, aG, aB, aH, cE, cG, cB, cH, bi, ei, hs, gs, q, e1, e2, e3, e4, lo⟩ := b
  have c := q.bp.box.c5
  rw [wz.lu] at c
  exact ⟨aW, cW, c, q.bp.box.lt, fun i D hD => wz_at wz hD⟩
theorem kps_stands (h : Kps w N g Ds nB P) :
    Calls Tryz.prog 41 #[.pointer (some ⟨g, 0, none⟩)] w fun r w' => r = .returned (.bool true) ∧ w' = w := by
  obtain ⟨aW, cW, us, O, F, b, wz, d, i1, i2, lt⟩ := h
  exact bok_stands b
theorem kpt_spoils (h : Kpt w N g Ds nB P) (hN : N ≤ w.heap.size) (hb : nB + 1 ≤ 5864062014805) (he : Ds.length + 1 ≤ 5864062014805) :
    Calls Tryz.prog 40 #[.pointer (some ⟨g, 0, none⟩)] w fun r w' => r = .returned (.tuple #[]) ∧ Kps w' N g Ds nB (fun k => P k ∨ (w.heap.size ≤ k ∧ k < w'.heap.size)) ∧ SpF w w' P := by
  obtain ⟨aE, aG, aB, aH, cE, cG, cB, cH, aW, cW, bi, ei, us, O, F, kp, hnb⟩ := h
  have bk : Bok w N g [.slice aW us.length cW] 71 nB Ds.length 0 0 O := ⟨aE, aG, aB, aH, cE, cG, cB, cH, bi, ei, [], [], kp.bq, hnb, kp.le, rfl, rfl, fun k hk => kp.lt k (kp.inO k hk)⟩
  refine Calls.mono (bok_spoils bk hN hb he) ?_
  rintro r w' ⟨rfl, b, sp⟩
  refine ⟨rfl, ⟨aW, cW, us, _, F, b, kp.wz.keep (fun i hi => sp.block i (kp.lt i (kp.inF i hi)).2 (fun z => kp.disj i z hi)), fun k hk z => ?_, fun k hk => ?_, fun k hk => .inl (kp.inF k hk), fun k hk => ?_⟩, sp.mono (fun k _ hk => kp.inO k hk)⟩
  · rcases hk with y | y
    · exact kp.disj k y z
    · have := (kp.lt k (kp.inF k z)).2; omega
  · exact hk.imp (kp.inO k) id
  · rcases hk with z | z
    · exact ⟨(kp.lt k z).1, Nat.lt_of_lt_of_le (kp.lt k z).2 sp.size⟩
    · exact ⟨Nat.le_trans hN z.1, z.2⟩
theorem Kpt.own (h : Kpt w N g Ds nB P) : ∃ aE cE, w.cell? ⟨g, 0, none⟩ = some (.slice aE Ds.length cE) ∧ ∀ (i : Nat) (D : List En), Ds[i]? = some D → ∃ gE a c zs, aE = some ⟨gE, 0, none⟩ ∧ w.cell? ⟨gE, i, none⟩ = some (.slice a zs.length c) ∧ RdL3 w a c zs ∧ zs.map EntD.dat = D ∧ zs.length ≤ 1048576 := by
  obtain ⟨aE, aG, aB, aH, cE, cG, cB, cH, aW, cW, bi, ei, us, O, F, kp, hnb⟩ := h
  have c0 := kp.bq.bp.box.c0
  rw [kp.le] at c0
  refine ⟨aE, cE, c0, fun i D hD => ?_⟩
  have hi := idx_lt hD
  obtain ⟨p, hp⟩ : ∃ p, ei[i]? = some p := ⟨_, List.getElem?_eq_getElem (by rw [kp.le]; exact hi)⟩
  obtain ⟨r, e1, e2, e3⟩ := kp.es i p hp
  obtain ⟨gE, e, c⟩ := row1_cell (u := p.v) kp.bq.bp.rE (by simp) (by rw [List.getElem?_map, hp]; rfl)
  obtain ⟨a, c', hz⟩ := rows_form3 r.row
  rw [hz] at r c
  rw [hD] at e1
  exact ⟨gE, a, c', p.zs, e, c, r.rdlS e2, (Option.some.inj e1).symm, e3⟩
end
set_option maxRecDepth 100000 in
set_option maxHeartbeats 8000000 in
theorem untouched_any {w : World} {N g nB : Nat} {Ds : List (List En)} {P : Nat → Prop} (h : Kpt w N g Ds nB P) (hD : Ds.length ≤ 5864062014805) :
    Calls Tryz.prog 39 #[.pointer (some ⟨g, 0, none⟩)] w fun r w' => r = .returned (.bool true) ∧ Below w.heap.size w w' := by
  obtain ⟨nE, hnE⟩ : ∃ k, k = Ds.length := ⟨_, rfl⟩
  have HK := Lib.hid h
  have HE := Lib.hid hnE
  rw [← hnE] at hD
  clear h hnE
  go_enter Tryz.func39, Tryz.ntmps39
  go_wp2
  go_loopw [3] (fun i wr => ∃ t : Nat, t ≤ nE ∧ i = .int .i64 (t : Int) ∧ Hid (Below w.heap.size w wr)) (fun i _ => nE - (intOf i).toNat)
  case atStart => exact ⟨0, Nat.zero_le _, rfl, Below.refl _ _⟩
  case round =>
    obtain ⟨t, ht, rfl, HB⟩ := hrel
    obtain ⟨V, hV⟩ : ∃ Y, Y = wr := ⟨_, rfl⟩
    subst hV
    have t0 : (0 : Int) ≤ (t : Int) := by omega
    have hk := HK.out.later HB.out
    obtain ⟨aE, cE, c0, fE⟩ := hk.own
    obtain ⟨aW, cW, c5, hgV, fW⟩ := hk.was
    rw [← HE.out] at c0 c5
    by_cases hlt : t < nE
    · have hlt2 : (t : Int) < (nE : Int) := by omega
      obtain ⟨D, hDt⟩ : ∃ D, Ds[t]? = some D := ⟨_, List.getElem?_eq_getElem (by rw [← HE.out]; exact hlt)⟩
      obtain ⟨gE, a1, c1, z1, rfl, d1, r1, m1, l1⟩ := fE t D hDt
      obtain ⟨gW, a2, c2, z2, rfl, d2, r2, m2, l2⟩ := fW t D hDt
      obtain ⟨n1, hn1⟩ : ∃ k, k = z1.length := ⟨_, rfl⟩
      obtain ⟨n2, hn2⟩ : ∃ k, k = z2.length := ⟨_, rfl⟩
      rw [← hn1] at d1
      rw [← hn2] at d2
      have HSm : Hid (∀ Z, Below V.heap.size V Z → Calls Tryz.prog 18 #[.slice a1 n1 c1, .slice a2 n2 c2] Z fun e w' => e = .returned (.bool true) ∧ Below Z.heap.size Z w') := fun Z b => by
        rw [hn1, hn2]
        exact sameAll_ok (r1.later b) (r2.later b) (m1.trans m2.symm) (by omega)
      have HCV : Hid (∀ Z, Below V.heap.size V Z → Z.cell? ⟨g, 0, none⟩ = some (.slice (some ⟨gE, 0, none⟩) nE cE) ∧ Z.cell? ⟨g, 5, none⟩ = some (.slice (some ⟨gW, 0, none⟩) nE cW) ∧ Z.cell? ⟨gE, t, none⟩ = some (.slice a1 n1 c1) ∧ Z.cell? ⟨gW, t, none⟩ = some (.slice a2 n2 c2)) := fun Z b => ⟨(b.cell (p := ⟨g, 0, none⟩) (World.block_lt_of_cell? _ _ c0)).trans c0, (b.cell (p := ⟨g, 5, none⟩) (World.block_lt_of_cell? _ _ c5)).trans c5, (b.cell (p := ⟨gE, t, none⟩) (World.block_lt_of_cell? _ _ d1)).trans d1, (b.cell (p := ⟨gW, t, none⟩) (World.block_lt_of_cell? _ _ d2)).trans d2⟩
      clear fE fW hDt m1 m2 l1 l2 r1 r2 hn1 hn2 hk hgV
      have D0 : Below V.heap.size V V.drew := (Below.refl _ _).drew
      go_wp2_with fail
      go_region_held3 (fun Z => Z.cell? ⟨g, 0, none⟩ = some (.slice (some ⟨gE, 0, none⟩) nE cE) ∧ Z.cell? ⟨g, 5, none⟩ = some (.slice (some ⟨gW, 0, none⟩) nE cW) ∧ Z.cell? ⟨gE, t, none⟩ = some (.slice a1 n1 c1) ∧ Z.cell? ⟨gW, t, none⟩ = some (.slice a2 n2 c2)) (first | exact HCV.out _ D1 | exact HCV.out _ D0) (first | (go_at_call 18; refine Calls.mono (HSm.out _ D0) ?_; rintro e6 w6 ⟨rfl, b6⟩; have D1 := D0.trans (b6.mono D0.size); clear b6))
      have HB6 := Lib.hid (HB.out.trans (D1.mono HB.out.size))
      clear D0 D1 c0 c5 d1 d2
      go_wp2
      go_roundw
      case rel => exact ⟨t + 1, by omega, by go_num, HB6⟩
      case measure => simp only [intOf]; omega
    · have hge : ¬ (t : Int) < (nE : Int) := by omega
      clear fE fW
      go_wp2
      go_ret
      exact ⟨rfl, HB.out⟩
end Go.Proofs.YthhkpkfpifllkaaGreat

namespace Go.Proofs.YthhkpkfpifllkaaGreat
open Go.RowKit
set_option linter.unusedVariables false

theorem schema_tl {fs : List FamD} (h : SchemaOk fs) : ∀ f ∈ fs, 0 ≤ f.tl ∧ f.tl ≤ 1099511627776 := fun f hf => by
  obtain ⟨i, hi⟩ := List.getElem?_of_mem hf
  exact (h.2 i f hi).1.2.2
theorem rw_empty {w : World} {N : Nat} {v : Value} {xs : List EntD} {O : Nat → Prop} (h : Rw w N v xs O) (hO : ∀ i, ¬ O i) : xs = [] := by
  rcases h.row.2 with ⟨h1, h2⟩ | ⟨g, cap, cur, h1, _⟩
  · exact List.eq_nil_of_length_eq_zero h2
  · exact absurd (h.rowO g (by rw [h1]; rfl)) (hO g)
theorem tr_all {hd : List En} {fb N : Nat} {cp : Option Addr} {tm n : Int} {W : World} {vs : List Vd} (h : TR hd fb N cp tm n W (fun i => i = fb) vs) : hd = (showS tm n vs).2 := by
  obtain ⟨xs, ov, Or, h1, h2, h3, h4, h5⟩ := h.st
  have := rw_empty h2 (fun i hi => h3 (h4 i hi ▸ hi))
  subst this
  simpa using h5
theorem tf_all {hd : List En} {fb N : Nat} {c0 : Value} {major : Bool} {low : Int} {W : World} {vs : List Vd} (h : TF hd fb N c0 major low W (fun i => i = fb) vs) : hd = outS major low vs := by
  obtain ⟨xs, ov, Or, h1, h2, h3, h4, h5⟩ := h.st
  have := rw_empty h2 (fun i hi => h3 (h4 i hi ▸ hi))
  subst this
  simpa using h5
end Go.Proofs.YthhkpkfpifllkaaGreat

namespace Go.Proofs.YthhkpkfpifllkaaGreat
open Go.RowKit
set_option linter.unusedVariables false

def toD (s : Sp) : SpD := ⟨s.begun, EntD.ofEn s.last, s.family, s.mask, s.rank, s.waiting, s.seq⟩
theorem toD_dat (s : Sp) : (toD s).dat = s := rfl
theorem push_cong {k : Nat} {fs : List (Int × Int)} {clock : Int} {s s' : SpD} {e e' : EntD} (hs : s.dat = s'.dat) (he : e.dat = e'.dat) : pushE k s e = pushE k s' e' ∧ pushS k fs clock s e = pushS k fs clock s' e' := by
  have hb : s.begun = s'.begun := congrArg Sp.begun hs
  have hl : s.last.dat = s'.last.dat := congrArg Sp.last hs
  have h1 : check3S k e = check3S k e' := by rw [check_dat, check_dat k e', he]
  have h2 : compareS e s.last = compareS e' s'.last := compareS_same (EntD.dat_same.1 he) (EntD.dat_same.1 hl)
  have h3 : sameS e s.last = sameS e' s'.last := by
    cases q : sameS e' s'.last with
    | true => exact sameS_of (he.trans ((sameS_dat q).trans hl.symm))
    | false =>
      cases q2 : sameS e s.last with
      | false => rfl
      | true => rw [sameS_of (he.symm.trans ((sameS_dat q2).trans hl))] at q; cases q
  have h4 : e.seq = e'.seq := congrArg En.seq he
  have h5 : s.last.seq = s'.last.seq := congrArg En.seq hl
  have hE : pushE k s e = pushE k s' e' := by unfold pushE; rw [h1, h2, h3, h4, h5, hb]
  refine ⟨hE, ?_⟩
  unfold pushS
  rw [hE, h3, hb, hs, he]
def pN (fs : List FamD) (clock : Int) (σ : Sp × List Vd) (d : En) : Sp × List Vd := ((pushS fs.length (mt fs) clock (toD σ.1) (EntD.ofEn d)).2, σ.2 ++ (pushS fs.length (mt fs) clock (toD σ.1) (EntD.ofEn d)).1)
structure StO (N : Nat) (W W' : World) (I I' : Nat → Prop) (v : Value) (xs : List EntD) (Or : Nat → Prop) : Prop where
  rw_ : Rw W' N v xs Or
  new : ∀ i, Or i → W.heap.size ≤ i ∧ i < W'.heap.size
  ap : ∀ i, Or i → ¬ I' i
  its : ∀ i, I' i → I i ∨ W.heap.size ≤ i
  sp : SpF W W' I
  sm : ∀ x ∈ xs, SmE x.dat
  len : xs.length ≤ 1048576
def SmR (OO : List Vd → List En) (g N rb : Nat) (fs : List FamD) (clock : Int) (W : World) (σ : Sp × List Vd) (P : List En) (I : Nat → Prop) : Prop := ∃ (B wb N0 : Nat) (fv : Value) (T : List En → World → (Nat → Prop) → List Vd → Prop) (s : SpD) (l m : List EntD), Hands g rb N0 (.pointer (some ⟨wb, 0, none⟩)) T ∧ (∀ (hd : List En) (W : World) (vs : List Vd), T hd W (fun i => i = rb) vs → hd = OO vs) ∧ Rest B wb g rb fv fs clock (T (OO σ.2)) W s σ.2 ∧ s.dat = σ.1 ∧ Pushed (mt fs) clock fs.length l m σ.1 σ.2 ∧ (∀ y ∈ l, y.dat ∈ P ∧ SmE y.dat) ∧ l.length ≤ P.length ∧ N ≤ N0 ∧ N ≤ B ∧ N ≤ wb ∧ N ≤ rb ∧ I = Its wb rb fv s
section
variable {OO : List Vd → List En} {g N rb : Nat} {fs : List FamD} {clock : Int} {W W' : World} {σ : Sp × List Vd} {P : List En} {I : Nat → Prop}
theorem SmR.keep (h : SmR OO g N rb fs clock W σ P I) (hs : W.heap.size ≤ W'.heap.size) (k : ∀ i, I i → W'.heap[i]? = W.heap[i]?) : SmR OO g N rb fs clock W' σ P I := by
  obtain ⟨B, wb, N0, fv, T, s, l, m, H, hT, re, hss, pu, hl, hll, hN0, hB, hwb, hrb, rfl⟩ := h
  exact ⟨B, wb, N0, fv, T, s, l, m, H, hT, re.keep (H.tl _) hs k, hss, pu, hl, hll, hN0, hB, hwb, hrb, rfl⟩
theorem SmR.lt (h : SmR OO g N rb fs clock W σ P I) (i : Nat) (hi : I i) : N ≤ i ∧ i < W.heap.size := by
  obtain ⟨B, wb, N0, fv, T, s, l, m, H, hT, re, hss, pu, hl, hll, hN0, hB, hwb, hrb, rfl⟩ := h
  refine ⟨?_, re.lt (H.tl _) i hi⟩
  rcases hi with rfl | rfl | hi | hi
  · exact hwb
  · exact hrb
  · exact Nat.le_trans hB (re.wk.lastlt i hi).1
  · obtain ⟨a, c, e1, ho⟩ := re.fam
    rw [e1] at hi
    exact Nat.le_trans hB (ho.2.lt i hi).1
end
set_option maxRecDepth 100000 in
theorem smPushF {OO : List Vd → List En} {wa : List En → List En} {N rb : Nat} {fs : List FamD} {clock : Int} {W : World} {σ : Sp × List Vd} {P : List En} {I : Nat → Prop} {e : EntD} {M : Nat} (Kk : Kd (mt fs) clock fs.length OO wa) (hfs : ∀ f ∈ fs, 0 ≤ f.tl ∧ f.tl ≤ 1099511627776) (h : SmR OO 70 N rb fs clock W σ P I) (he : O3 W M e) (sm : SmE e.dat) (hI : ∀ i, EBl e i → ¬ I i) (hsq : ∀ d ∈ P, d.seq ≠ e.seq) (hP : P.length + 1 ≤ 1048576) :
    Calls Tryz.prog 34 #[.pointer (some ⟨rb, 0, none⟩), .agg e.cells] W fun r W' => ∃ xs a c E I' Or, r = .returned (.tuple #[.slice a xs.length c, .int .i64 E]) ∧ SmR OO 70 N rb fs clock W' (pN fs clock σ e.dat) (P ++ [e.dat]) I' ∧ StO N W W' I I' (.slice a xs.length c) xs Or ∧ OO σ.2 ++ xs.map EntD.dat = OO (pN fs clock σ e.dat).2 ∧ (OO (pN fs clock σ e.dat).2).length ≤ 1048576 := by
  obtain ⟨B, wb, N0, fv, T, s, l, m, H, hT, re, hs, pu, hl, hll, hN0, hB, hwb, hrb, rfl⟩ := h
  obtain ⟨p1, p2, p3, p4⟩ := pu.few
  have hs1 : s.rank = σ.1.rank := by rw [← hs]; rfl
  have hs2 : s.waiting = σ.1.waiting := by rw [← hs]; rfl
  have hs3 : s.begun = σ.1.begun := by rw [← hs]; rfl
  obtain ⟨cE, cS⟩ := push_cong (k := fs.length) (fs := mt fs) (clock := clock) (s := s) (s' := toD σ.1) (e := e) (e' := EntD.ofEn e.dat) (hs.trans (toD_dat _).symm) rfl
  refine Calls.mono (fPush_any H re (fun Z hZ => (he.keepO (fun g hg => hZ.2 g (he.lt g hg).2 (fun z => hI g hg (.inl z)) (fun z => hI g hg (.inr (.inl z))) (fun z => hI g hg (.inr (.inr (.inl z)))))).okB sm.1) (by omega) hfs (by rw [hs1]; exact p3) (by rw [hs2, hs3]; exact p4)) ?_
  rintro r W' ⟨xs, a, c, Or, s', rfl, st, hs'⟩
  have e2 : (pN fs clock σ e.dat).2 = σ.2 ++ (pushS fs.length (mt fs) clock s e).1 := by unfold pN; rw [cS]
  have e1 : (pN fs clock σ e.dat).1 = s'.dat := by rw [hs', cS]; rfl
  have hd : OO σ.2 ++ xs.map EntD.dat = OO (pN fs clock σ e.dat).2 := by rw [e2]; exact hT _ _ _ st.rest.wk.tell
  obtain ⟨l', m', pu', hl', hll'⟩ : ∃ l' m', Pushed (mt fs) clock fs.length l' m' s'.dat (σ.2 ++ (pushS fs.length (mt fs) clock s e).1) ∧ (∀ y ∈ l', y.dat ∈ P ++ [e.dat] ∧ SmE y.dat) ∧ l'.length ≤ (P ++ [e.dat]).length := by
    by_cases hE : pushE fs.length s e = 0
    · rw [← hs] at pu
      obtain ⟨m', q⟩ := pu.push (e := e) (fun i y _ hy hq => absurd hq (hsq y.dat (hl y (List.mem_of_getElem? hy)).1)) hE
      refine ⟨l ++ [e], m', by rw [hs']; exact q, fun y hy => ?_, by simp; omega⟩
      rcases List.mem_append.1 hy with z | z
      · exact ⟨List.mem_append_left _ (hl y z).1, (hl y z).2⟩
      · rw [List.mem_singleton.1 z]; exact ⟨List.mem_append_right _ (List.mem_singleton.2 rfl), sm⟩
    · have q : pushS fs.length (mt fs) clock s e = ([], s.dat) := by unfold pushS; rw [if_pos hE]
      refine ⟨l, m, by rw [hs', q, List.append_nil, hs]; exact pu, fun y hy => ⟨List.mem_append_left _ (hl y hy).1, (hl y hy).2⟩, by simp; omega⟩
  have smx : ∀ x ∈ xs, SmE x.dat := fun x hx => by
    have : x.dat ∈ OO (pN fs clock σ e.dat).2 := by rw [← hd]; exact List.mem_append_right _ (List.mem_map_of_mem hx)
    obtain ⟨v, hv, ev⟩ := Kk.mem _ _ this
    rw [← ev]
    rw [e2] at hv
    exact (pu'.sz (fun y hy => (hl' y hy).2)).1 v hv
  have lo : (OO (pN fs clock σ e.dat).2).length ≤ 1048576 := by
    have q2 := Kk.len (pN fs clock σ e.dat).2
    have q3 := pu'.few.1
    rw [← e2] at q3
    have q4 := hll'
    rw [List.length_append, List.length_singleton] at q4
    omega
  have lx : xs.length ≤ 1048576 := by
    have q1 := congrArg List.length hd
    rw [List.length_append, List.length_map] at q1
    omega
  refine ⟨xs, a, c, _, Its wb rb fv s', Or, rfl, ⟨B, wb, N0, fv, T, s', l', m', H, hT, ?_, e1.symm, ?_, hl', hll', hN0, hB, hwb, hrb, rfl⟩, ⟨st.rw_.low hN0, st.new, st.ap, st.its, ⟨st.os, st.tape, st.output, st.size, st.block⟩, smx, lx⟩, hd, lo⟩
  · rw [← hd, e2]; exact st.rest
  · rw [e1, e2]; exact pu'
set_option maxRecDepth 100000 in
theorem smEndF {OO : List Vd → List En} {wa : List En → List En} {N rb : Nat} {fs : List FamD} {clock : Int} {W : World} {σ : Sp × List Vd} {P : List En} {I : Nat → Prop} (Kk : Kd (mt fs) clock fs.length OO wa) (hfs : ∀ f ∈ fs, 0 ≤ f.tl ∧ f.tl ≤ 1099511627776) (h : SmR OO 70 N rb fs clock W σ P I) (hP : P.length ≤ 1048576) :
    Calls Tryz.prog 33 #[.pointer (some ⟨rb, 0, none⟩)] W fun r W' => ∃ xs a c I' Or, r = .returned (.slice a xs.length c) ∧ StO N W W' I I' (.slice a xs.length c) xs Or ∧ OO σ.2 ++ xs.map EntD.dat = OO (σ.2 ++ (resolveS (mt fs) clock σ.1 3).1) ∧ (OO (σ.2 ++ (resolveS (mt fs) clock σ.1 3).1)).length ≤ 1048576 := by
  obtain ⟨B, wb, N0, fv, T, s, l, m, H, hT, re, hs, pu, hl, hll, hN0, hB, hwb, hrb, rfl⟩ := h
  obtain ⟨p1, p2, p3, p4⟩ := pu.few
  have hs1 : s.rank = σ.1.rank := by rw [← hs]; rfl
  have hs2 : s.waiting = σ.1.waiting := by rw [← hs]; rfl
  have hs3 : s.begun = σ.1.begun := by rw [← hs]; rfl
  refine Calls.mono (fEnd_any H re (by omega) hfs (by rw [hs1]; exact p3) (by rw [hs2, hs3]; exact p4)) ?_
  rintro r W' ⟨xs, a, c, Or, rfl, st⟩
  have hd : OO σ.2 ++ xs.map EntD.dat = OO (σ.2 ++ (resolveS (mt fs) clock σ.1 3).1) := by
    have := hT _ _ _ st.rest.wk.tell
    rw [hs] at this
    exact this
  have smx : ∀ x ∈ xs, SmE x.dat := fun x hx => by
    have : x.dat ∈ OO (σ.2 ++ (resolveS (mt fs) clock σ.1 3).1) := by rw [← hd]; exact List.mem_append_right _ (List.mem_map_of_mem hx)
    obtain ⟨v, hv, ev⟩ := Kk.mem _ _ this
    rw [← ev]
    have q := pu.sz (fun y hy => (hl y hy).2)
    rcases List.mem_append.1 hv with z | z
    · exact q.1 v z
    · exact q.2 v z
  have lo : (OO (σ.2 ++ (resolveS (mt fs) clock σ.1 3).1)).length ≤ 1048576 := by
    have q2 := Kk.len (σ.2 ++ (resolveS (mt fs) clock σ.1 3).1)
    omega
  have lx : xs.length ≤ 1048576 := by
    have q1 := congrArg List.length hd
    rw [List.length_append, List.length_map] at q1
    omega
  exact ⟨xs, a, c, Its wb rb fv spZ, Or, rfl, ⟨st.rw_.low hN0, st.new, st.ap, st.its, ⟨st.os, st.tape, st.output, st.size, st.block⟩, smx, lx⟩, hd, lo⟩
set_option maxRecDepth 100000 in
theorem smPushR {OO : List Vd → List En} {wa : List En → List En} {N rb : Nat} {fs : List FamD} {clock : Int} {W : World} {σ : Sp × List Vd} {P : List En} {I : Nat → Prop} {e : EntD} {M : Nat} (Kk : Kd (mt fs) clock fs.length OO wa) (hfs : ∀ f ∈ fs, 0 ≤ f.tl ∧ f.tl ≤ 1099511627776) (h : SmR OO 71 N rb fs clock W σ P I) (he : O3 W M e) (sm : SmE e.dat) (hI : ∀ i, EBl e i → ¬ I i) (hsq : ∀ d ∈ P, d.seq ≠ e.seq) (hP : P.length + 1 ≤ 1048576) :
    Calls Tryz.prog 37 #[.pointer (some ⟨rb, 0, none⟩), .agg e.cells] W fun r W' => ∃ xs a c E I' Or, r = .returned (.tuple #[.slice a xs.length c, .int .i64 E]) ∧ SmR OO 71 N rb fs clock W' (pN fs clock σ e.dat) (P ++ [e.dat]) I' ∧ StO N W W' I I' (.slice a xs.length c) xs Or ∧ OO σ.2 ++ xs.map EntD.dat = OO (pN fs clock σ e.dat).2 ∧ (OO (pN fs clock σ e.dat).2).length ≤ 1048576 := by
  obtain ⟨B, wb, N0, fv, T, s, l, m, H, hT, re, hs, pu, hl, hll, hN0, hB, hwb, hrb, rfl⟩ := h
  obtain ⟨p1, p2, p3, p4⟩ := pu.few
  have hs1 : s.rank = σ.1.rank := by rw [← hs]; rfl
  have hs2 : s.waiting = σ.1.waiting := by rw [← hs]; rfl
  have hs3 : s.begun = σ.1.begun := by rw [← hs]; rfl
  obtain ⟨cE, cS⟩ := push_cong (k := fs.length) (fs := mt fs) (clock := clock) (s := s) (s' := toD σ.1) (e := e) (e' := EntD.ofEn e.dat) (hs.trans (toD_dat _).symm) rfl
  refine Calls.mono (rPush_any H re (fun Z hZ => (he.keepO (fun g hg => hZ.2 g (he.lt g hg).2 (fun z => hI g hg (.inl z)) (fun z => hI g hg (.inr (.inl z))) (fun z => hI g hg (.inr (.inr (.inl z)))))).okB sm.1) (by omega) hfs (by rw [hs1]; exact p3) (by rw [hs2, hs3]; exact p4)) ?_
  rintro r W' ⟨xs, a, c, Or, s', rfl, st, hs'⟩
  have e2 : (pN fs clock σ e.dat).2 = σ.2 ++ (pushS fs.length (mt fs) clock s e).1 := by unfold pN; rw [cS]
  have e1 : (pN fs clock σ e.dat).1 = s'.dat := by rw [hs', cS]; rfl
  have hd : OO σ.2 ++ xs.map EntD.dat = OO (pN fs clock σ e.dat).2 := by rw [e2]; exact hT _ _ _ st.rest.wk.tell
  obtain ⟨l', m', pu', hl', hll'⟩ : ∃ l' m', Pushed (mt fs) clock fs.length l' m' s'.dat (σ.2 ++ (pushS fs.length (mt fs) clock s e).1) ∧ (∀ y ∈ l', y.dat ∈ P ++ [e.dat] ∧ SmE y.dat) ∧ l'.length ≤ (P ++ [e.dat]).length := by
    by_cases hE : pushE fs.length s e = 0
    · rw [← hs] at pu
      obtain ⟨m', q⟩ := pu.push (e := e) (fun i y _ hy hq => absurd hq (hsq y.dat (hl y (List.mem_of_getElem? hy)).1)) hE
      refine ⟨l ++ [e], m', by rw [hs']; exact q, fun y hy => ?_, by simp; omega⟩
      rcases List.mem_append.1 hy with z | z
      · exact ⟨List.mem_append_left _ (hl y z).1, (hl y z).2⟩
      · rw [List.mem_singleton.1 z]; exact ⟨List.mem_append_right _ (List.mem_singleton.2 rfl), sm⟩
    · have q : pushS fs.length (mt fs) clock s e = ([], s.dat) := by unfold pushS; rw [if_pos hE]
      refine ⟨l, m, by rw [hs', q, List.append_nil, hs]; exact pu, fun y hy => ⟨List.mem_append_left _ (hl y hy).1, (hl y hy).2⟩, by simp; omega⟩
  have smx : ∀ x ∈ xs, SmE x.dat := fun x hx => by
    have : x.dat ∈ OO (pN fs clock σ e.dat).2 := by rw [← hd]; exact List.mem_append_right _ (List.mem_map_of_mem hx)
    obtain ⟨v, hv, ev⟩ := Kk.mem _ _ this
    rw [← ev]
    rw [e2] at hv
    exact (pu'.sz (fun y hy => (hl' y hy).2)).1 v hv
  have lo : (OO (pN fs clock σ e.dat).2).length ≤ 1048576 := by
    have q2 := Kk.len (pN fs clock σ e.dat).2
    have q3 := pu'.few.1
    rw [← e2] at q3
    have q4 := hll'
    rw [List.length_append, List.length_singleton] at q4
    omega
  have lx : xs.length ≤ 1048576 := by
    have q1 := congrArg List.length hd
    rw [List.length_append, List.length_map] at q1
    omega
  refine ⟨xs, a, c, _, Its wb rb fv s', Or, rfl, ⟨B, wb, N0, fv, T, s', l', m', H, hT, ?_, e1.symm, ?_, hl', hll', hN0, hB, hwb, hrb, rfl⟩, ⟨st.rw_.low hN0, st.new, st.ap, st.its, ⟨st.os, st.tape, st.output, st.size, st.block⟩, smx, lx⟩, hd, lo⟩
  · rw [← hd, e2]; exact st.rest
  · rw [e1, e2]; exact pu'
set_option maxRecDepth 100000 in
theorem smEndR {OO : List Vd → List En} {wa : List En → List En} {N rb : Nat} {fs : List FamD} {clock : Int} {W : World} {σ : Sp × List Vd} {P : List En} {I : Nat → Prop} (Kk : Kd (mt fs) clock fs.length OO wa) (hfs : ∀ f ∈ fs, 0 ≤ f.tl ∧ f.tl ≤ 1099511627776) (h : SmR OO 71 N rb fs clock W σ P I) (hP : P.length ≤ 1048576) :
    Calls Tryz.prog 36 #[.pointer (some ⟨rb, 0, none⟩)] W fun r W' => ∃ xs a c I' Or, r = .returned (.slice a xs.length c) ∧ StO N W W' I I' (.slice a xs.length c) xs Or ∧ OO σ.2 ++ xs.map EntD.dat = OO (σ.2 ++ (resolveS (mt fs) clock σ.1 3).1) ∧ (OO (σ.2 ++ (resolveS (mt fs) clock σ.1 3).1)).length ≤ 1048576 := by
  obtain ⟨B, wb, N0, fv, T, s, l, m, H, hT, re, hs, pu, hl, hll, hN0, hB, hwb, hrb, rfl⟩ := h
  obtain ⟨p1, p2, p3, p4⟩ := pu.few
  have hs1 : s.rank = σ.1.rank := by rw [← hs]; rfl
  have hs2 : s.waiting = σ.1.waiting := by rw [← hs]; rfl
  have hs3 : s.begun = σ.1.begun := by rw [← hs]; rfl
  refine Calls.mono (rEnd_any H re (by omega) hfs (by rw [hs1]; exact p3) (by rw [hs2, hs3]; exact p4)) ?_
  rintro r W' ⟨xs, a, c, Or, rfl, st⟩
  have hd : OO σ.2 ++ xs.map EntD.dat = OO (σ.2 ++ (resolveS (mt fs) clock σ.1 3).1) := by
    have := hT _ _ _ st.rest.wk.tell
    rw [hs] at this
    exact this
  have smx : ∀ x ∈ xs, SmE x.dat := fun x hx => by
    have : x.dat ∈ OO (σ.2 ++ (resolveS (mt fs) clock σ.1 3).1) := by rw [← hd]; exact List.mem_append_right _ (List.mem_map_of_mem hx)
    obtain ⟨v, hv, ev⟩ := Kk.mem _ _ this
    rw [← ev]
    have q := pu.sz (fun y hy => (hl y hy).2)
    rcases List.mem_append.1 hv with z | z
    · exact q.1 v z
    · exact q.2 v z
  have lo : (OO (σ.2 ++ (resolveS (mt fs) clock σ.1 3).1)).length ≤ 1048576 := by
    have q2 := Kk.len (σ.2 ++ (resolveS (mt fs) clock σ.1 3).1)
    omega
  have lx : xs.length ≤ 1048576 := by
    have q1 := congrArg List.length hd
    rw [List.length_append, List.length_map] at q1
    omega
  exact ⟨xs, a, c, Its wb rb fv spZ, Or, rfl, ⟨st.rw_.low hN0, st.new, st.ap, st.its, ⟨st.os, st.tape, st.output, st.size, st.block⟩, smx, lx⟩, hd, lo⟩
theorem filter_new {W : World} {N : Nat} (hN : N ≤ W.heap.size) {a : Option Addr} {c : Nat} {fs : List FamD} (hr : RdF W (.slice a fs.length c) fs) (hn : a = none → c = 0) (C : Nat) (hC : (C = 0 ↔ SchemaOk fs) ∧ (C = 0 ∨ C = 28)) (clock low : Int) (major : Bool) :
    Calls Tryz.prog 31 #[.agg #[.slice a fs.length c], .int .i64 clock, .bool major, .int .i64 low] W fun r W' => Below W.heap.size W W' ∧ (boundsS C [clock, low] ≠ 0 → r = .returned (.tuple #[.pointer none, .int .i64 (boundsS C [clock, low])])) ∧ (boundsS C [clock, low] = 0 → ∃ fb I, r = .returned (.tuple #[.pointer (some ⟨fb, 0, none⟩), .int .i64 0]) ∧ SmR (outS major low) 70 N fb fs clock W' (Sp.zero, []) [] I ∧ ∀ i, I i → W.heap.size ≤ i) := by
  refine Calls.mono (newFilter_any hr hn C hC clock low major) ?_
  rintro r W' ⟨b, h1, h2⟩
  refine ⟨b, h1, fun hz => ?_⟩
  obtain ⟨fb, wb, a', c', rfl, hfb, hwb, hne, sb, wx, of⟩ := h2 hz
  have h8 : fs.length ≤ 8 := (hC.1.1 (bounds_ok hz).1).1.2
  have re : Rest W.heap.size wb 70 fb (.slice a' fs.length c') fs clock (TF [] fb W.heap.size (.pointer (some ⟨wb, 0, none⟩)) major low) W' spZ [] := Rest.start wx of b.size h8 (TF.start sb b.size) (fun z => hne z.symm) ⟨_, _, sb, by decide⟩
  refine ⟨fb, _, rfl, ⟨W.heap.size, wb, W.heap.size, _, fun hd => TF hd fb W.heap.size (.pointer (some ⟨wb, 0, none⟩)) major low, spZ, [], [], filter_hands fb W.heap.size _ major low, fun hd W vs h => tf_all h, re, rfl, .nil, (fun y hy => by cases hy), Nat.le_refl _, hN, hN, Nat.le_trans hN hwb, Nat.le_trans hN hfb, rfl⟩, fun i hi => ?_⟩
  rcases hi with rfl | rfl | hi | hi
  · exact hwb
  · exact hfb
  · rcases hi with z | z | z <;> cases z
  · exact (of.2.lt i hi).1
theorem reader_new {W : World} {N : Nat} (hN : N ≤ W.heap.size) {a : Option Addr} {c : Nat} {fs : List FamD} (hr : RdF W (.slice a fs.length c) fs) (hn : a = none → c = 0) (C : Nat) (hC : (C = 0 ↔ SchemaOk fs) ∧ (C = 0 ∨ C = 28)) (clock t nv : Int) :
    Calls Tryz.prog 32 #[.agg #[.slice a fs.length c], .int .i64 clock, .int .i64 t, .int .i64 nv] W fun r W' => Below W.heap.size W W' ∧ (readerS C clock t nv ≠ 0 → r = .returned (.tuple #[.pointer none, .int .i64 (readerS C clock t nv)])) ∧ (readerS C clock t nv = 0 → ∃ fb I, r = .returned (.tuple #[.pointer (some ⟨fb, 0, none⟩), .int .i64 0]) ∧ SmR (fun vs => (showS t nv vs).2) 71 N fb fs clock W' (Sp.zero, []) [] I ∧ ∀ i, I i → W.heap.size ≤ i) := by
  refine Calls.mono (newReader_any hr hn C hC clock t nv) ?_
  rintro r W' ⟨b, h1, h2⟩
  refine ⟨b, h1, fun hz => ?_⟩
  obtain ⟨fb, wb, a', c', rfl, hfb, hwb, hne, sb, wx, of⟩ := h2 hz
  have h8 : fs.length ≤ 8 := (hC.1.1 (bounds_ok (reader_ok hz).1).1).1.2
  have re : Rest W.heap.size wb 71 fb (.slice a' fs.length c') fs clock (TR [] fb W.heap.size (some ⟨wb, 0, none⟩) t nv) W' spZ [] := Rest.start wx of b.size h8 (TR.start sb b.size) (fun z => hne z.symm) ⟨_, _, sb, by decide⟩
  refine ⟨fb, _, rfl, ⟨W.heap.size, wb, W.heap.size, _, fun hd => TR hd fb W.heap.size (some ⟨wb, 0, none⟩) t nv, spZ, [], [], reader_hands fb W.heap.size _ t nv, fun hd W vs h => tr_all h, re, rfl, .nil, (fun y hy => by cases hy), Nat.le_refl _, hN, hN, Nat.le_trans hN hwb, Nat.le_trans hN hfb, rfl⟩, fun i hi => ?_⟩
  rcases hi with rfl | rfl | hi | hi
  · exact hwb
  · exact hfb
  · rcases hi with z | z | z <;> cases z
  · exact (of.2.lt i hi).1
end Go.Proofs.YthhkpkfpifllkaaGreat
