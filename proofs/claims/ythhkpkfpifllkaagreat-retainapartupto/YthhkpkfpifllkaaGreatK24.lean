import Derived.Test.YthhkpkfpifllkaaGreatK23
namespace Go.Proofs.YthhkpkfpifllkaaGreat
open Go.RowKit
set_option linter.unusedVariables false

set_option maxRecDepth 100000 in
theorem op_indexA {a : Act} {w : World} {x y b t : Nat} {d : Option Nat} {ps : String} {af : Array Edge} (hx : a.tmps[x]?.getD undef = .pointer (some ⟨b, 0, none⟩)) (hy : a.tmps[y]?.getD undef = .int .i64 (t : Int)) (ht : t < 4) :
    (execOp a.eval { dst := d, op := Op.indexAddr 79 (Operand.tmp x) (Operand.tmp y), type := 0, pos := ps, after := af, guard := none }).run Tryz.prog w = .ok (.value (.pointer (some ⟨b, t, none⟩))) w := by
  have h1 : (t : Int) < 4 := by omega
  have h0 : (0 : Int) ≤ (t : Int) := by omega
  go_simp
set_option maxRecDepth 100000 in
theorem wp_indexA {a : Act} {w : World} {K : Act → World → Prop} {Q : Exit → Act → World → Prop} {x y b t : Nat} {d : Option Nat} {ps : String} {af : Array Edge} (hx : a.tmps[x]?.getD undef = .pointer (some ⟨b, 0, none⟩)) (hy : a.tmps[y]?.getD undef = .int .i64 (t : Int)) (ht : t < 4) (hk : K (a.put d (.pointer (some ⟨b, t, none⟩))) w) :
    Oper.wp Tryz.prog { dst := d, op := Op.indexAddr 79 (Operand.tmp x) (Operand.tmp y), type := 0, pos := ps, after := af, guard := none } a w K Q := by
  have h1 : (t : Int) < 4 := by omega
  have h0 : (0 : Int) ≤ (t : Int) := by omega
  go_simp
  exact hk
theorem SpF.far2 {w w' : World} {N : Nat} {O : Nat → Prop} (h : SpF w w' O) (hO : ∀ k, O k → N ≤ k) (hN : N ≤ w.heap.size) : Below N w w' := ⟨h.os, h.tape, h.output, h.size, fun i hi => h.block i (Nat.lt_of_lt_of_le hi hN) (fun z => by have := hO i z; omega)⟩
theorem ds_at {FL FM : List (List En)} (h1 : FL.length = 5) (h2 : FM.length = 5) {j : Nat} (hj : j < 5) : ∃ D D', ((((([] ++ FL) ++ FL) ++ FM) ++ FM) ++ FL)[j]? = some D ∧ ((((([] ++ FL) ++ FL) ++ FM) ++ FM) ++ FL)[j + 5]? = some D ∧ ((((([] ++ FL) ++ FL) ++ FM) ++ FM) ++ FL)[j + 10]? = some D' ∧ ((((([] ++ FL) ++ FL) ++ FM) ++ FM) ++ FL)[j + 15]? = some D' ∧ ((((([] ++ FL) ++ FL) ++ FM) ++ FM) ++ FL)[j + 20]? = some D := by
  obtain ⟨a, b, c, d, e, rfl⟩ : ∃ a b c d e, FL = [a, b, c, d, e] := by
    match FL, h1 with
    | [a, b, c, d, e], _ => exact ⟨a, b, c, d, e, rfl⟩
  obtain ⟨a', b', c', d', e', rfl⟩ : ∃ a b c d e, FM = [a, b, c, d, e] := by
    match FM, h2 with
    | [a, b, c, d, e], _ => exact ⟨a, b, c, d, e, rfl⟩
  match j, hj with
  | 0, _ => exact ⟨_, _, rfl, rfl, rfl, rfl, rfl⟩
  | 1, _ => exact ⟨_, _, rfl, rfl, rfl, rfl, rfl⟩
  | 2, _ => exact ⟨_, _, rfl, rfl, rfl, rfl, rfl⟩
  | 3, _ => exact ⟨_, _, rfl, rfl, rfl, rfl, rfl⟩
  | 4, _ => exact ⟨_, _, rfl, rfl, rfl, rfl, rfl⟩
theorem ds_at2 {FL FM : List (List En)} (h1 : FL.length = 5) (h2 : FM.length = 5) {j : Nat} (hj : j < 5) : ∃ D D', (([] ++ FL) ++ FM)[j]? = some D ∧ (([] ++ FL) ++ FM)[j + 5]? = some D' ∧ ((((([] ++ FL) ++ FL) ++ FM) ++ FM) ++ FL)[j]? = some D ∧ ((((([] ++ FL) ++ FL) ++ FM) ++ FM) ++ FL)[j + 10]? = some D' := by
  obtain ⟨a, b, c, d, e, rfl⟩ : ∃ a b c d e, FL = [a, b, c, d, e] := by
    match FL, h1 with
    | [a, b, c, d, e], _ => exact ⟨a, b, c, d, e, rfl⟩
  obtain ⟨a', b', c', d', e', rfl⟩ : ∃ a b c d e, FM = [a, b, c, d, e] := by
    match FM, h2 with
    | [a, b, c, d, e], _ => exact ⟨a, b, c, d, e, rfl⟩
  match j, hj with
  | 0, _ => exact ⟨_, _, rfl, rfl, rfl, rfl⟩
  | 1, _ => exact ⟨_, _, rfl, rfl, rfl, rfl⟩
  | 2, _ => exact ⟨_, _, rfl, rfl, rfl, rfl⟩
  | 3, _ => exact ⟨_, _, rfl, rfl, rfl, rfl⟩
  | 4, _ => exact ⟨_, _, rfl, rfl, rfl, rfl⟩
set_option maxRecDepth 1000000 in
set_option maxHeartbeats 64000000 in
theorem retainApart_walk {W : World} {kk clock t n : Int} {fa la : Option Addr} {fc lc : Nat} {fs : List FamD} {major : Bool} {l : List EntD} {vm : Value} {ml : List EntD} (hr : RdF W (.slice fa fs.length fc) fs) (hnn : fa = none → fc = 0) (hl : RdL3 W la lc l) (hln : l.length ≤ 1048576) (hm : RdE3U W vm ml) :
    Calls Tryz.prog 10 #[.agg #[.int .i64 kk, .slice fa fs.length fc, .int .i64 clock, .int .i64 t, .int .i64 n, .bool major, .slice la l.length lc], vm] W fun r W' => r = .returned (.bool true) ∧ Below W.heap.size W W' := by
  obtain ⟨am, cm, rfl, hm, hmn, -⟩ := hm
  obtain ⟨C, hC⟩ : ∃ C : Nat, (C = 0 ↔ SchemaOk fs) ∧ (C = 0 ∨ C = 28) := by
    by_cases h : SchemaOk fs
    · exact ⟨0, ⟨fun _ => h, fun _ => rfl⟩, .inl rfl⟩
    · exact ⟨28, ⟨(fun z => by cases z), fun z => absurd z h⟩, .inr rfl⟩
  obtain ⟨K, hK⟩ : ∃ K, K = fs.length := ⟨_, rfl⟩
  obtain ⟨NL, hNL⟩ : ∃ N, N = l.length := ⟨_, rfl⟩
  obtain ⟨NM, hNM⟩ : ∃ N, N = ml.length := ⟨_, rfl⟩
  obtain ⟨X0, hX0⟩ : ∃ Y, Y = W.alloc (.cells #[.int .i64 kk, .slice fa K fc, .int .i64 clock, .int .i64 t, .int .i64 n, .bool major, .slice la NL lc] 30) := ⟨_, rfl⟩
  have A1 : Below W.heap.size W X0 := by rw [hX0]; exact (Below.refl _ _).alloc (Nat.le_refl _) _
  have hbx : ∀ Z, Below X0.heap.size X0 Z → Z.cell? ⟨W.heap.size, 0, none⟩ = some (.int .i64 kk) ∧ Z.cell? ⟨W.heap.size, 1, none⟩ = some (.slice fa K fc) ∧ Z.cell? ⟨W.heap.size, 2, none⟩ = some (.int .i64 clock) ∧ Z.cell? ⟨W.heap.size, 3, none⟩ = some (.int .i64 t) ∧ Z.cell? ⟨W.heap.size, 4, none⟩ = some (.int .i64 n) ∧ Z.cell? ⟨W.heap.size, 5, none⟩ = some (.bool major) ∧ Z.cell? ⟨W.heap.size, 6, none⟩ = some (.slice la NL lc) := fun Z b => by
    have hn : X0.heap[W.heap.size]? = some (.cells #[.int .i64 kk, .slice fa K fc, .int .i64 clock, .int .i64 t, .int .i64 n, .bool major, .slice la NL lc] 30 (0, 0)) := by rw [hX0]; exact heap_new W _
    have hz : Z.heap[W.heap.size]? = _ := (b.block W.heap.size (by rw [hX0, World.size_alloc]; omega)).trans hn
    simp [World.cell?, hz]
  have up : ∀ Z, Below X0.heap.size X0 Z → Below W.heap.size W Z := fun Z b => A1.trans (b.mono A1.size)
  obtain ⟨N, hNx⟩ : ∃ k, k = X0.heap.size := ⟨_, rfl⟩
  obtain ⟨FL, hFL⟩ : ∃ D, D = five C fs clock t n l := ⟨_, rfl⟩
  obtain ⟨FM, hFM⟩ : ∃ D, D = five C fs clock t n ml := ⟨_, rfl⟩
  have HFn : Hid (FL.length = 5 ∧ FM.length = 5) := ⟨by rw [hFL]; rfl, by rw [hFM]; rfl⟩
  have HCA := Lib.hid (fun (g : Nat) (Z : World) (Ds : List (List En)) (nB : Nat) (P : Nat → Prop) (b : Below X0.heap.size X0 Z) (k : Kpt Z N g Ds nB P) (hD : Ds.length ≤ 1000) (hB : nB ≤ 1000000000) => calls_any (kk := kk) (la := la) (nl := NL) (lc := lc) (major := major) (clock := clock) (t := t) (n := n) k (by rw [hNx]; exact b.size) (hr.later (up Z b)) hnn C hC (hl.later (up Z b)) hln hD hB)
  have HCB := Lib.hid (fun (g : Nat) (Z : World) (Ds : List (List En)) (nB : Nat) (P : Nat → Prop) (b : Below X0.heap.size X0 Z) (k : Kpt Z N g Ds nB P) (hD : Ds.length ≤ 1000) (hB : nB ≤ 1000000000) => calls_any (kk := kk) (la := la) (nl := NL) (lc := lc) (major := major) (clock := clock) (t := t) (n := n) k (by rw [hNx]; exact b.size) (hr.later (up Z b)) hnn C hC (hm.later (up Z b)) hmn hD hB)
  have HSo := Lib.hid (fun (Z : World) (b : Below X0.heap.size X0 Z) => own_sort (hl.later (up Z b)) (by omega))
  have HNF := Lib.hid (fun (Z : World) (b : Below X0.heap.size X0 Z) (ins : List En) => laneNewF (N := N) (by rw [hNx]; exact b.size) (hr.later (up Z b)) hnn C hC clock t major ins)
  have HNR := Lib.hid (fun (Z : World) (b : Below X0.heap.size X0 Z) (ins : List En) => laneNewR (N := N) (by rw [hNx]; exact b.size) (hr.later (up Z b)) hnn C hC clock t n ins)
  rw [← hFL, ← hNL, ← hK] at HCA
  rw [← hFM, ← hNM, ← hK] at HCB
  rw [← hNL] at HSo
  rw [← hK] at HNF HNR
  rw [← hK, ← hNL, ← hNM]
  have HLn : Hid (NL ≤ 1048576 ∧ NM ≤ 1048576 ∧ NL = l.length ∧ NM = ml.length) := ⟨by rw [hNL]; exact hln, by rw [hNM]; exact hmn, hNL, hNM⟩
  have HC := Lib.hid hC
  have HUp := Lib.hid up
  have HX0 := Lib.hid hX0
  have HBx := Lib.hid hbx
  have HNx := Lib.hid hNx
  have HK := Lib.hid hK
  clear hr hnn hl hln hm hmn hC hK hNL hNM hX0 A1 hbx up hNx hFL hFM
  go_enter Tryz.func10, Tryz.ntmps10
  go_wp2_with fail
  rw [← HX0.out]
  clear HX0
  refine Calls.mono (started3 _) ?_
  rintro e1 w1 ⟨rfl, b1⟩
  obtain ⟨g, hg⟩ : ∃ k, k = w1.heap.size := ⟨_, rfl⟩
  obtain ⟨X1, hX1⟩ : ∃ Y, Y = w1.alloc (.cells #[.slice none 0 0, .slice none 0 0, .slice none 0 0, .slice none 0 0, .slice none 0 0, .slice none 0 0] 71) := ⟨_, rfl⟩
  have HK1 : Hid (Kpt X1 N g [] 0 (fun k => k = g)) := by
    unfold Hid
    rw [hX1, hg]
    exact kpt_new (by rw [HNx.out]; exact b1.size)
  have HB1 : Hid (Below X0.heap.size X0 X1) := by
    unfold Hid
    rw [hX1]
    exact b1.trans (((Below.refl w1.heap.size w1).alloc (Nat.le_refl _) _).mono b1.size)
  have HNb1 : Hid ((0 : Nat) ≤ 0 * 15728640) := Nat.le_refl _
  have HX1 := Lib.hid hX1
  have HG := Lib.hid hg
  have HCa := Lib.hid (HCA.out g)
  have HCb := Lib.hid (HCB.out g)
  obtain ⟨q0, q1, q2, q3, q4, q5, q6⟩ := HBx.out _ HB1.out
  rw [hX1] at q0 q1 q2 q3 q4 q5 q6
  clear b1 hg hX1
  go_wp2_with fail
  rw [← HX1.out, ← HG.out]
  clear q0 q1 q2 q3 q4 q5 q6 HX1
  refine Calls.mono (HCa.out _ _ _ _ HB1.out HK1.out (Nat.zero_le _) (by have := HNb1.out; omega)) ?_
  rintro e2 w2 ⟨rfl, P2, n2, k, hb, hp, sp⟩
  have HK2 : Hid (Kpt w2 N g ([] ++ FL) n2 P2) := k
  have HNb2 : Hid (n2 ≤ 1 * 15728640) := by
    have := HNb1.out
    unfold Hid
    omega
  have HB2 : Hid (Below X0.heap.size X0 w2) := HB1.out.trans (by
    have := sp.far2 (fun k hk => (HK1.out.lt k hk).1) (by rw [HNx.out]; exact HB1.out.size)
    rw [HNx.out] at this
    exact this)
  obtain ⟨q0, q1, q2, q3, q4, q5, q6⟩ := HBx.out _ HB2.out
  clear k hb hp sp
  go_wp2_with fail
  clear q0 q1 q2 q3 q4 q5 q6
  refine Calls.mono (HCa.out _ _ _ _ HB2.out HK2.out (by have := HFn.out; simp only [List.length_append, List.length_nil]; omega) (by have := HNb2.out; omega)) ?_
  rintro e3 w3 ⟨rfl, P3, n3, k, hb, hp, sp⟩
  have HK3 : Hid (Kpt w3 N g (([] ++ FL) ++ FL) n3 P3) := k
  have HNb3 : Hid (n3 ≤ 2 * 15728640) := by
    have := HNb2.out
    unfold Hid
    omega
  have HB3 : Hid (Below X0.heap.size X0 w3) := HB2.out.trans (by
    have := sp.far2 (fun k hk => (HK2.out.lt k hk).1) (by rw [HNx.out]; exact HB2.out.size)
    rw [HNx.out] at this
    exact this)
  obtain ⟨q0, q1, q2, q3, q4, q5, q6⟩ := HBx.out _ HB3.out
  clear k hb hp sp
  go_wp2_with fail
  clear q0 q1 q2 q3 q4 q5 q6
  refine Calls.mono (HCb.out _ _ _ _ HB3.out HK3.out (by have := HFn.out; simp only [List.length_append, List.length_nil]; omega) (by have := HNb3.out; omega)) ?_
  rintro e4 w4 ⟨rfl, P4, n4, k, hb, hp, sp⟩
  have HK4 : Hid (Kpt w4 N g ((([] ++ FL) ++ FL) ++ FM) n4 P4) := k
  have HNb4 : Hid (n4 ≤ 3 * 15728640) := by
    have := HNb3.out
    unfold Hid
    omega
  have HB4 : Hid (Below X0.heap.size X0 w4) := HB3.out.trans (by
    have := sp.far2 (fun k hk => (HK3.out.lt k hk).1) (by rw [HNx.out]; exact HB3.out.size)
    rw [HNx.out] at this
    exact this)
  obtain ⟨q0, q1, q2, q3, q4, q5, q6⟩ := HBx.out _ HB4.out
  clear k hb hp sp
  go_wp2_with fail
  clear q0 q1 q2 q3 q4 q5 q6
  refine Calls.mono (HCb.out _ _ _ _ HB4.out HK4.out (by have := HFn.out; simp only [List.length_append, List.length_nil]; omega) (by have := HNb4.out; omega)) ?_
  rintro e5 w5 ⟨rfl, P5, n5, k, hb, hp, sp⟩
  have HK5 : Hid (Kpt w5 N g (((([] ++ FL) ++ FL) ++ FM) ++ FM) n5 P5) := k
  have HNb5 : Hid (n5 ≤ 4 * 15728640) := by
    have := HNb4.out
    unfold Hid
    omega
  have HB5 : Hid (Below X0.heap.size X0 w5) := HB4.out.trans (by
    have := sp.far2 (fun k hk => (HK4.out.lt k hk).1) (by rw [HNx.out]; exact HB4.out.size)
    rw [HNx.out] at this
    exact this)
  obtain ⟨q0, q1, q2, q3, q4, q5, q6⟩ := HBx.out _ HB5.out
  clear k hb hp sp
  go_wp2_with fail
  clear q0 q1 q2 q3 q4 q5 q6
  refine Calls.mono (HCa.out _ _ _ _ HB5.out HK5.out (by have := HFn.out; simp only [List.length_append, List.length_nil]; omega) (by have := HNb5.out; omega)) ?_
  rintro e6 w6 ⟨rfl, P6, n6, k, hb, hp, sp⟩
  have HK6 : Hid (Kpt w6 N g ((((([] ++ FL) ++ FL) ++ FM) ++ FM) ++ FL) n6 P6) := k
  have HNb6 : Hid (n6 ≤ 5 * 15728640) := by
    have := HNb5.out
    unfold Hid
    omega
  have HB6 : Hid (Below X0.heap.size X0 w6) := HB5.out.trans (by
    have := sp.far2 (fun k hk => (HK5.out.lt k hk).1) (by rw [HNx.out]; exact HB5.out.size)
    rw [HNx.out] at this
    exact this)
  obtain ⟨q0, q1, q2, q3, q4, q5, q6⟩ := HBx.out _ HB6.out
  clear k hb hp sp
  clear HCa HCb
  go_wp2
  obtain ⟨Ds, hDs⟩ : ∃ D, D = ((((([] ++ FL) ++ FL) ++ FM) ++ FM) ++ FL) := ⟨_, rfl⟩
  have HDa : Hid (∀ j, j < 5 → ∃ D D', Ds[j]? = some D ∧ Ds[j + 5]? = some D ∧ Ds[j + 10]? = some D' ∧ Ds[j + 15]? = some D' ∧ Ds[j + 20]? = some D) := fun j hj => by
    rw [hDs]
    exact ds_at HFn.out.1 HFn.out.2 hj
  have HDn : Hid (Ds.length = 25) := by
    have := HFn.out
    unfold Hid
    rw [hDs]
    simp only [List.length_append, List.length_nil]
    omega
  rw [← hDs] at HK6
  have HDs := Lib.hid hDs
  clear hDs
  go_loopw [7] (fun i wy => ∃ j : Nat, j ≤ 5 ∧ i = .int .i64 (j : Int) ∧ Hid (Below w6.heap.size w6 wy)) (fun i _ => 5 - (intOf i).toNat)
  case atStart => exact ⟨0, Nat.zero_le _, rfl, Below.refl _ _⟩
  case round =>
    obtain ⟨j, hj, rfl, HBj⟩ := hrel
    obtain ⟨V, hV⟩ : ∃ Y, Y = wr := ⟨_, rfl⟩
    subst hV
    have j0 : (0 : Int) ≤ (j : Int) := by omega
    clear q0 q1 q2 q3 q4 q5 q6
    by_cases hlj : j < 5
    · as_aux_lemma =>
        have hlj2 : (j : Int) < 5 := by omega
        obtain ⟨D, D', d1, d2, d3, d4, d5⟩ := HDa.out j hlj
        obtain ⟨aW, cW, c5, -, fW⟩ := (HK6.out.later HBj.out).was
        rw [HDn.out] at c5
        obtain ⟨gW, a1, c1, z1, eW, f1, r1, m1, l1⟩ := fW j D d1
        subst eW
        obtain ⟨_, a2, c2, z2, e2, f2, r2, m2, l2⟩ := fW (j + 5) D d2
        cases e2
        obtain ⟨_, a3, c3, z3, e3, f3, r3, m3, l3⟩ := fW (j + 10) D' d3
        cases e3
        obtain ⟨_, a4, c4, z4, e4, f4, r4, m4, l4⟩ := fW (j + 15) D' d4
        cases e4
        obtain ⟨_, a5, c5', z5, e5, f5, r5, m5, l5⟩ := fW (j + 20) D d5
        cases e5
        obtain ⟨n1, hn1⟩ : ∃ k, k = z1.length := ⟨_, rfl⟩
        obtain ⟨n2, hn2⟩ : ∃ k, k = z2.length := ⟨_, rfl⟩
        obtain ⟨n3, hn3⟩ : ∃ k, k = z3.length := ⟨_, rfl⟩
        obtain ⟨n4, hn4⟩ : ∃ k, k = z4.length := ⟨_, rfl⟩
        obtain ⟨n5, hn5⟩ : ∃ k, k = z5.length := ⟨_, rfl⟩
        obtain ⟨j5, hj5⟩ : ∃ k, k = j + 5 := ⟨_, rfl⟩
        obtain ⟨j10, hj10⟩ : ∃ k, k = j + 10 := ⟨_, rfl⟩
        obtain ⟨j15, hj15⟩ : ∃ k, k = j + 15 := ⟨_, rfl⟩
        obtain ⟨j20, hj20⟩ : ∃ k, k = j + 20 := ⟨_, rfl⟩
        have x5 : IntKind.i64.wrap ((j : Int) + 5) = (j5 : Int) := by rw [IntWalk.i64_in _ ⟨by omega, by omega⟩]; omega
        have x10 : IntKind.i64.wrap ((j : Int) + 10) = (j10 : Int) := by rw [IntWalk.i64_in _ ⟨by omega, by omega⟩]; omega
        have x15 : IntKind.i64.wrap ((j : Int) + 15) = (j15 : Int) := by rw [IntWalk.i64_in _ ⟨by omega, by omega⟩]; omega
        have x20 : IntKind.i64.wrap ((j : Int) + 20) = (j20 : Int) := by rw [IntWalk.i64_in _ ⟨by omega, by omega⟩]; omega
        have y5 : (0 : Int) ≤ (j5 : Int) ∧ (j5 : Int) < 25 := by omega
        have y10 : (0 : Int) ≤ (j10 : Int) ∧ (j10 : Int) < 25 := by omega
        have y15 : (0 : Int) ≤ (j15 : Int) ∧ (j15 : Int) < 25 := by omega
        have y20 : (0 : Int) ≤ (j20 : Int) ∧ (j20 : Int) < 25 := by omega
        have yj : (j : Int) < 25 := by omega
        rw [← hn1] at f1
        rw [← hn2, ← hj5] at f2
        rw [← hn3, ← hj10] at f3
        rw [← hn4, ← hj15] at f4
        rw [← hn5, ← hj20] at f5
        have HS12 : Hid (∀ Z, Below V.heap.size V Z → Calls Tryz.prog 18 #[.slice a1 n1 c1, .slice a2 n2 c2] Z fun e w' => e = .returned (.bool true) ∧ Below Z.heap.size Z w') := fun Z b => by
          rw [hn1, hn2]
          exact sameAll_ok (r1.later b) (r2.later b) (m1.trans m2.symm) (by omega)
        have HS15 : Hid (∀ Z, Below V.heap.size V Z → Calls Tryz.prog 18 #[.slice a1 n1 c1, .slice a5 n5 c5'] Z fun e w' => e = .returned (.bool true) ∧ Below Z.heap.size Z w') := fun Z b => by
          rw [hn1, hn5]
          exact sameAll_ok (r1.later b) (r5.later b) (m1.trans m5.symm) (by omega)
        have HS34 : Hid (∀ Z, Below V.heap.size V Z → Calls Tryz.prog 18 #[.slice a3 n3 c3, .slice a4 n4 c4] Z fun e w' => e = .returned (.bool true) ∧ Below Z.heap.size Z w') := fun Z b => by
          rw [hn3, hn4]
          exact sameAll_ok (r3.later b) (r4.later b) (m3.trans m4.symm) (by omega)
        have HCV : Hid (∀ Z, Below V.heap.size V Z → Z.cell? ⟨g, 5, none⟩ = some (.slice (some ⟨gW, 0, none⟩) 25 cW) ∧ Z.cell? ⟨gW, j, none⟩ = some (.slice a1 n1 c1) ∧ Z.cell? ⟨gW, j5, none⟩ = some (.slice a2 n2 c2) ∧ Z.cell? ⟨gW, j10, none⟩ = some (.slice a3 n3 c3) ∧ Z.cell? ⟨gW, j15, none⟩ = some (.slice a4 n4 c4) ∧ Z.cell? ⟨gW, j20, none⟩ = some (.slice a5 n5 c5')) := fun Z b => ⟨(b.cell (p := ⟨g, 5, none⟩) (World.block_lt_of_cell? _ _ c5)).trans c5, (b.cell (p := ⟨gW, j, none⟩) (World.block_lt_of_cell? _ _ f1)).trans f1, (b.cell (p := ⟨gW, j5, none⟩) (World.block_lt_of_cell? _ _ f2)).trans f2, (b.cell (p := ⟨gW, j10, none⟩) (World.block_lt_of_cell? _ _ f3)).trans f3, (b.cell (p := ⟨gW, j15, none⟩) (World.block_lt_of_cell? _ _ f4)).trans f4, (b.cell (p := ⟨gW, j20, none⟩) (World.block_lt_of_cell? _ _ f5)).trans f5⟩
        obtain ⟨y5a, y5b⟩ := y5
        obtain ⟨y10a, y10b⟩ := y10
        obtain ⟨y15a, y15b⟩ := y15
        obtain ⟨y20a, y20b⟩ := y20
        clear fW d1 d2 d3 d4 d5 r1 r2 r3 r4 r5 m1 m2 m3 m4 m5 l1 l2 l3 l4 l5 hn1 hn2 hn3 hn4 hn5 hj5 hj10 hj15 hj20
        have D0 : Below V.heap.size V V.drew := (Below.refl _ _).drew
        go_wp2_with fail
        go_region_held3 (fun Z => Z.cell? ⟨g, 5, none⟩ = some (.slice (some ⟨gW, 0, none⟩) 25 cW) ∧ Z.cell? ⟨gW, j, none⟩ = some (.slice a1 n1 c1) ∧ Z.cell? ⟨gW, j5, none⟩ = some (.slice a2 n2 c2) ∧ Z.cell? ⟨gW, j10, none⟩ = some (.slice a3 n3 c3) ∧ Z.cell? ⟨gW, j15, none⟩ = some (.slice a4 n4 c4) ∧ Z.cell? ⟨gW, j20, none⟩ = some (.slice a5 n5 c5')) (first | exact HCV.out _ D3 | exact HCV.out _ D2 | exact HCV.out _ D1 | exact HCV.out _ D0) (first | (have hq := D2; clear hq; (go_at_call 18; refine Calls.mono (HS34.out _ D2) ?_; rintro e6 v3 ⟨rfl, b6⟩; have D3 := D2.trans (b6.mono D2.size); clear b6)) | (have hq := D1; clear hq; (go_at_call 18; refine Calls.mono (HS15.out _ D1) ?_; rintro e6 v2 ⟨rfl, b6⟩; have D2 := D1.trans (b6.mono D1.size); clear b6)) | (go_at_call 18; refine Calls.mono (HS12.out _ D0) ?_; rintro e6 v1 ⟨rfl, b6⟩; have D1 := D0.trans (b6.mono D0.size); clear b6))
        have HB6' := Lib.hid (HBj.out.trans (D3.mono HBj.out.size))
        clear D0 D1 D2 D3 c5 f1 f2 f3 f4 f5
        go_wp2
        go_roundw
        case rel => exact ⟨j + 1, by omega, by go_num, HB6'⟩
        case measure => simp only [intOf]; omega
    · as_aux_lemma =>
        have hgj : ¬ (j : Int) < 5 := by omega
        have BV : Hid (Below X0.heap.size X0 V) := HB6.out.trans (HBj.out.mono HB6.out.size)
        have HKv := Lib.hid (HK6.out.later HBj.out)
        obtain ⟨ins, hins⟩ : ∃ D, D = dSort l := ⟨_, rfl⟩
        rw [← hins] at HSo
        obtain ⟨EB, hEB⟩ : ∃ E, E = boundsS C [clock, t] := ⟨_, rfl⟩
        obtain ⟨ER, hER⟩ : ∃ E, E = readerS C clock t n := ⟨_, rfl⟩
        rw [← hEB] at HNF
        rw [← hER] at HNR
        have HIns := Lib.hid hins
        have HEB := Lib.hid hEB
        have HER := Lib.hid hER
        obtain ⟨OF, hOF⟩ : ∃ f, f = outS major t := ⟨_, rfl⟩
        obtain ⟨OR, hOR⟩ : ∃ f : List Vd → List En, f = fun vs => (showS t n vs).2 := ⟨_, rfl⟩
        rw [← hOF] at HNF
        rw [← hOR] at HNR
        have HOF := Lib.hid hOF
        have HOR := Lib.hid hOR
        obtain ⟨q0, q1, q2, q3, q4, q5, q6⟩ := HBx.out _ BV.out
        clear hins hEB hER hOF hOR
        go_wp2_with fail
        refine Calls.mono (HSo.out _ BV.out) ?_
        rintro e1 y1 ⟨zi, ai, ci, E1, rfl, oi, b1⟩
        obtain ⟨ni, hni⟩ : ∃ k, k = zi.length := ⟨_, rfl⟩
        have HNi := Lib.hid hni
        have HOi := Lib.hid (And.intro oi b1)
        rw [← hni]
        clear hni
        have C1 := Lib.hid (BV.out.trans (b1.mono BV.out.size))
        clear q0 q1 q2 q3 q4 q5 q6 oi b1
        obtain ⟨q0, q1, q2, q3, q4, q5, q6⟩ := HBx.out _ C1.out
        go_wp2_with fail
        refine Calls.mono (HNF.out _ C1.out ins) ?_
        rintro e2 y2 ⟨pf, Jf, rfl, fz, fo, Lf, jf, b2⟩
        have HF := Lib.hid (And.intro fz (And.intro fo (And.intro Lf (And.intro jf b2))))
        have C2 := Lib.hid (C1.out.trans (b2.mono C1.out.size))
        clear q0 q1 q2 q3 q4 q5 q6 fz fo Lf jf b2
        obtain ⟨q0, q1, q2, q3, q4, q5, q6⟩ := HBx.out _ C2.out
        go_wp2_with fail
        refine Calls.mono (HNF.out _ C2.out ins) ?_
        rintro e3 y3 ⟨pg, Jg, rfl, gz, go', Lg, jg, b3⟩
        have HGg := Lib.hid (And.intro gz (And.intro go' (And.intro Lg (And.intro jg b3))))
        have C3 := Lib.hid (C2.out.trans (b3.mono C2.out.size))
        clear q0 q1 q2 q3 q4 q5 q6 gz go' Lg jg b3
        obtain ⟨q0, q1, q2, q3, q4, q5, q6⟩ := HBx.out _ C3.out
        go_wp2_with fail
        refine Calls.mono (HNR.out _ C3.out ins) ?_
        rintro e4 y4 ⟨pr, Jr, rfl, rz, ro, Lr, jr, b4⟩
        have HR := Lib.hid (And.intro rz (And.intro ro (And.intro Lr (And.intro jr b4))))
        have C4 := Lib.hid (C3.out.trans (b4.mono C3.out.size))
        clear q0 q1 q2 q3 q4 q5 q6 rz ro Lr jr b4
        obtain ⟨q0, q1, q2, q3, q4, q5, q6⟩ := HBx.out _ C4.out
        go_wp2_with fail
        refine Calls.mono (HNR.out _ C4.out ins) ?_
        rintro e5 y5 ⟨pq, Jq, rfl, qz, qo, Lq, jq, b5⟩
        have HQq := Lib.hid (And.intro qz (And.intro qo (And.intro Lq (And.intro jq b5))))
        have C5 := Lib.hid (C4.out.trans (b5.mono C4.out.size))
        clear q0 q1 q2 q3 q4 q5 q6 qz qo Lq jq b5
        go_upto_region 18 with fail
        go_cut [193] (fun b wx => b = .bool false ∧ y5 = wx)
        case first =>
          by_cases hb : EB = 0
          · obtain ⟨rf, rfl⟩ := HF.out.2.1 hb
            obtain ⟨rg, rfl⟩ := HGg.out.2.1 hb
            subst hb
            by_cases hr : ER = 0
            · as_aux_lemma =>
                obtain ⟨rr, rfl⟩ := HR.out.2.1 hr
                obtain ⟨rq, rfl⟩ := HQq.out.2.1 hr
                subst hr
                go_wp2_with (go_at_call 17; refine Calls.mono (num_any _ _) ?_; rintro e6 v6 ⟨rfl, rfl⟩)
                go_meet
                exact ⟨rfl, rfl⟩
            · as_aux_lemma =>
                obtain rfl := HR.out.1 hr
                obtain rfl := HQq.out.1 hr
                have hrb : (ER == 0) = false := by simpa using hr
                go_wp2_with (go_at_call 17; refine Calls.mono (num_any _ _) ?_; rintro e6 v6 ⟨rfl, rfl⟩)
                go_meet
                exact ⟨by simp [bne, hrb], rfl⟩
          · obtain rfl := HF.out.1 hb
            obtain rfl := HGg.out.1 hb
            have hbb : (EB == 0) = false := by simpa using hb
            by_cases hr : ER = 0
            · as_aux_lemma =>
                obtain ⟨rr, rfl⟩ := HR.out.2.1 hr
                obtain ⟨rq, rfl⟩ := HQq.out.2.1 hr
                subst hr
                go_wp2_with (go_at_call 17; refine Calls.mono (num_any _ _) ?_; rintro e6 v6 ⟨rfl, rfl⟩)
                go_meet
                exact ⟨by simp [bne, hbb], rfl⟩
            · as_aux_lemma =>
                obtain rfl := HR.out.1 hr
                obtain rfl := HQq.out.1 hr
                have hrb : (ER == 0) = false := by simpa using hr
                go_wp2_with (go_at_call 17; refine Calls.mono (num_any _ _) ?_; rintro e6 v6 ⟨rfl, rfl⟩)
                go_meet
                exact ⟨by simp [bne, hbb, hrb], rfl⟩
        case rest =>
          obtain ⟨rfl, rfl⟩ := hcut
          obtain ⟨X7, hX7⟩ : ∃ Y, Y = y5.alloc (.cells #[.slice none 0 0, .slice none 0 0, .slice none 0 0, .slice none 0 0] 79) := ⟨_, rfl⟩
          obtain ⟨go, hgo⟩ : ∃ k, k = y5.heap.size := ⟨_, rfl⟩
          obtain ⟨Fi, hFi⟩ : ∃ f : Nat → Prop, f = fun k => V.heap.size ≤ k ∧ k < y1.heap.size := ⟨_, rfl⟩
          have HM0 : Hid (MrS X7 X0 N g go OF OR fs clock ins Ds ai ci zi Fi (quad pf pg pr pq) 0 0) := by
            unfold Hid
            rw [hX7, hgo, hFi]
            exact mrn_start HKv.out (by rw [HNx.out]; exact BV.out.size) HOi.out.1 HOi.out.2 HF.out.2.2.1 HF.out.2.2.2.1 HF.out.2.2.2.2 HGg.out.2.2.1 HGg.out.2.2.2.1 HGg.out.2.2.2.2 HR.out.2.2.1 HR.out.2.2.2.1 HR.out.2.2.2.2 HQq.out.2.2.1 HQq.out.2.2.2.1 HQq.out.2.2.2.2 (by rw [HNx.out]; exact BV.out) HDn.out (by have := HNb6.out; omega)
          have HKf : Hid (EB = 0 → Kd (mt fs) clock fs.length OF (fun m => leftL (mt fs) clock m major t) ∧ ∀ f ∈ fs, 0 ≤ f.tl ∧ f.tl ≤ 1099511627776) := fun z => by
            rw [HEB.out] at z
            rw [HOF.out]
            exact ⟨kd_filter (mt fs) clock fs.length major t, schema_tl (HC.out.1.1 (bounds_ok z).1)⟩
          have HKr : Hid (ER = 0 → Kd (mt fs) clock fs.length OR (fun m => readR t n (m.filter (visB (mt fs) clock m))) ∧ ∀ f ∈ fs, 0 ≤ f.tl ∧ f.tl ≤ 1099511627776) := fun z => by
            rw [HER.out] at z
            rw [HOR.out]
            have q := reader_ok z
            have hS := HC.out.1.1 (bounds_ok q.1).1
            exact ⟨kd_reader hS clock t n (by omega), schema_tl hS⟩
          have HPs : Hid ((pf ≠ none → EB = 0) ∧ (pg ≠ none → EB = 0) ∧ (pr ≠ none → ER = 0) ∧ (pq ≠ none → ER = 0)) := ⟨fun z => by
            by_cases e : EB = 0
            · exact e
            · exact absurd (HF.out.1 e) z, fun z => by
            by_cases e : EB = 0
            · exact e
            · exact absurd (HGg.out.1 e) z, fun z => by
            by_cases e : ER = 0
            · exact e
            · exact absurd (HR.out.1 e) z, fun z => by
            by_cases e : ER = 0
            · exact e
            · exact absurd (HQq.out.1 e) z⟩
          have HPn : Hid ((pf = none ↔ pg = none) ∧ (pr = none ↔ pq = none)) := by
            refine ⟨?_, ?_⟩
            · by_cases e : EB = 0
              · obtain ⟨x, hx⟩ := HF.out.2.1 e
                obtain ⟨y, hy⟩ := HGg.out.2.1 e
                rw [hx, hy]; simp
              · rw [HF.out.1 e, HGg.out.1 e]
            · by_cases e : ER = 0
              · obtain ⟨x, hx⟩ := HR.out.2.1 e
                obtain ⟨y, hy⟩ := HQq.out.2.1 e
                rw [hx, hy]; simp
              · rw [HR.out.1 e, HQq.out.1 e]
          have HIn : Hid (ni ≤ 1048576 ∧ ni = ins.length ∧ ni = zi.length ∧ ins.Pairwise fun a b => a.seq ≠ b.seq) := ⟨by
            have := HOi.out.1.len
            have := HLn.out.1
            have := HNi.out
            omega, by
            have := congrArg List.length HOi.out.1.dat
            rw [List.length_map] at this
            rw [HNi.out, this], HNi.out, by rw [HIns.out]; exact dSort_ne l⟩
          have HX7 := Lib.hid hX7
          have Hgo := Lib.hid hgo
          have hni : ni ≤ 1048576 := HIn.out.1
          clear hX7 hgo hFi HF HGg HR HQq HOi HKv C1 C2 C3 C4 HSo HNF HNR
          go_wp2
          rw [← HX7.out, ← Hgo.out]
          clear HX7 Hgo
          go_loopw [19, 20, 21, 22, 23] (fun i _ _ _ _ wx => ∃ q : Nat, q ≤ ni + 1 ∧ i = .int .i64 (q : Int) ∧ Hid (MrS wx X0 N g go OF OR fs clock ins Ds ai ci zi Fi (quad pf pg pr pq) q 0)) (fun i _ _ _ _ _ => ni + 1 - (intOf i).toNat)
          case atStart => exact ⟨0, Nat.zero_le _, rfl, HM0⟩
          case round =>
            obtain ⟨q, hq, rfl, HM⟩ := hrel
            obtain ⟨Y, hY⟩ : ∃ Y, Y = wr := ⟨_, rfl⟩
            subst hY
            have q0 : (0 : Int) ≤ (q : Int) := by omega
            clear HM0
            by_cases hqn : q ≤ ni
            · as_aux_lemma =>
                have hqn2 : (q : Int) ≤ (ni : Int) := by omega
                go_wp2
                go_loopw [20, 21, 22, 23] (fun c _ _ _ wv => ∃ m : Nat, m ≤ 4 ∧ c = .int .i64 (m : Int) ∧ Hid (MrS wv X0 N g go OF OR fs clock ins Ds ai ci zi Fi (quad pf pg pr pq) q m)) (fun c _ _ _ _ => 4 - (intOf c).toNat)
                case atStart => exact ⟨0, Nat.zero_le _, rfl, HM⟩
                case round =>
                  obtain ⟨m, hm4, rfl, HMm⟩ := hrel
                  obtain ⟨U, hU⟩ : ∃ Y, Y = wr := ⟨_, rfl⟩
                  subst hU
                  have m0 : (0 : Int) ≤ (m : Int) := by omega
                  clear HM
                  by_cases hm : m < 4
                  · have hm2 : (m : Int) < 4 := by omega
                    have hc : m = 0 ∨ m = 1 ∨ m = 2 ∨ m = 3 := by omega
                    rcases hc with hc | hc | hc | hc
                    · as_aux_lemma =>
                        have hk1 : ((m : Int) == 1) = false := by simp [hc]
                        have hk3 : ((m : Int) == 3) = false := by simp [hc]
                        have hl2 : (m : Int) < 2 := by omega
                        have hg2 : ¬ (2 : Int) ≤ (m : Int) := by omega
                        rcases HMm.out.ptr hm with hp | ⟨rb, hp⟩
                        · as_aux_lemma =>
                            have hpk : pf = none := by
                              rw [hc] at hp
                              exact hp
                            have HSk := Lib.hid (HMm.out.skip hm hp)
                            clear hp hc
                            subst hpk
                            go_wp2
                            go_roundw
                            case rel => exact ⟨m + 1, by omega, by go_num, HSk⟩
                            case measure => simp only [intOf]; omega
                        · have hpk : pf = some ⟨rb, 0, none⟩ := by
                            rw [hc] at hp
                            exact hp
                          have hE : EB = 0 := HPs.out.1 (by rw [hpk]; simp)
                          have HKd := Lib.hid (HKf.out hE)
                          have hmk : (m < 2) = True := by simp [hc]
                          have HMp := Lib.hid (And.intro hp hmk)
                          clear hp hc hE hmk
                          by_cases hqe : q = ni
                          · as_aux_lemma =>
                              have hqe2 : ((q : Int) == (ni : Int)) = true := by simp [hqe]
                              have HEn := Lib.hid (HMm.out.endF HKd.out.1 HKd.out.2 hm HMp.out.2 HMp.out.1 (by rw [hqe]; exact HIn.out.2.1) (by rw [← HIn.out.2.1]; exact HIn.out.1))
                              clear hqe
                              subst hpk
                              go_wp2_with fail
                              refine Calls.mono HEn.out ?_
                              rintro e7 v1 ⟨xs, a, c, rfl, pu⟩
                              obtain ⟨nx, hnx⟩ : ∃ k, k = xs.length := ⟨_, rfl⟩
                              have HPu := Lib.hid (puS_take pu hm (by have := HIn.out.1; omega))
                              rw [← hnx] at HPu
                              rw [← hnx]
                              have HXn := Lib.hid hnx
                              clear pu hnx
                              go_wp2_with fail
                              refine Calls.mono HPu.out ?_
                              rintro e8 v2 ⟨rfl, ao, no, co, ta⟩
                              have ta2 := ta.later (w' := v2.drew) (Below.refl _ _).drew
                              obtain ⟨fc1, fc2, fc3, fc4, fc5, fc6, fc7, fc8, os, fo, fno, fnl⟩ := ta2.facts hm
                              have HTa := Lib.hid ta2
                              have HOs := Lib.hid (And.intro fo fno)
                              have HTn : Hid (os.length + xs.length ≤ 1048576) := by
                                unfold Hid
                                rw [← fno]
                                exact fnl
                              have HlG : Hid (go < v2.drew.heap.size) := fc3
                              have HNw : Hid (N ≤ v2.drew.heap.size) := fc4
                              have HS : Hid (∀ Z : World, Z.heap[go]? = v2.drew.heap[go]? → Z.cell? ⟨go, m, none⟩ = some (.slice ao no co)) := fun Z z => by rw [cell_heap z]; exact fc1
                              have HFz : Hid (∀ Z : World, Z.heap[go]? = v2.drew.heap[go]? → Z.frozen? ⟨go, m, none⟩ = false) := fun Z z => by
                                have := fc2
                                simp only [World.frozen?] at this ⊢
                                rw [z]
                                exact this
                              have HgO : Hid (∀ X Z : World, X.grownBy Z (Value.slice ao no co).ownBlock → go < X.heap.size → Z.heap[go]? = X.heap[go]?) := fun X Z gz l => gz.block go l (fun z => (fc8 go z.symm).1 rfl)
                              have HrO : Hid (∀ Z : World, Below v2.drew.heap.size v2.drew Z → Z.ownsRow N 84 7 (.slice ao no co) os.length (evals os)) := fun Z b => row_same fo (fun k hk => b.block k (fc8 k hk).2)
                              have HCl : Hid (Calls Tryz.prog 14 #[.slice a nx c] v2.drew fun r W' => ∃ v zs, r = .returned v ∧ Cl v2.drew W' zs v ∧ zs.map EntD.dat = xs.map EntD.dat) := by
                                unfold Hid
                                rw [HXn.out]
                                exact cloneAll_any fc5 fc6 (by omega)
                              have hS := HS.out v2.drew rfl
                              clear ta ta2 fc1 fc2 fc3 fc4 fc5 fc6 fc7 fc8 fo fno fnl HPu
                              go_upto_region 43 with fail
                              refine wp_region_noPanic ?_
                              refine wp_region_anyE (S := fun Z => Z.cell? ⟨go, m, none⟩ = some (.slice ao no co)) (E := fun j => decide (j < 8)) (by kernel_rfl) ?_
                              refine anyE_gen (fun A0 hA0 => ?_)
                              have s0 : A0.tmps.size = 369 := by rw [hA0]; rfl
                              have v0_18 : Tv A0 18 (.pointer (some ⟨go, 0, none⟩)) := by rw [hA0]; rfl
                              have v0_20 : Tv A0 20 (.int .i64 (m : Int)) := by rw [hA0]; rfl
                              have v0_23 : Tv A0 23 (.slice a nx c) := by rw [hA0]; rfl
                              refine AnyE.tk (i := 0) (.int .i64 (m : Int)) rfl (by kernel_rfl) (fun _ _ _ h => h) (by rfl) (fun wq hq => op_move v0_20) hS ?_
                              refine anyE_gen (fun A1 hA1 => ?_)
                              have s1 := tz hA1 s0
                              have v1_18 := tn hA1 (by decide) v0_18
                              have v1_20 := tn hA1 (by decide) v0_20
                              have v1_23 := tn hA1 (by decide) v0_23
                              have v1_271 := te hA1 s0 (by decide)
                              refine AnyE.tk (i := 1) (.int .i64 (m : Int)) rfl (by kernel_rfl) (fun _ _ _ h => h) (by rfl) (fun wq hq => op_move v1_20) hS ?_
                              refine anyE_gen (fun A2 hA2 => ?_)
                              have s2 := tz hA2 s1
                              have v2_18 := tn hA2 (by decide) v1_18
                              have v2_23 := tn hA2 (by decide) v1_23
                              have v2_271 := tn hA2 (by decide) v1_271
                              have v2_272 := te hA2 s1 (by decide)
                              refine AnyE.tk (i := 2) (.pointer (some ⟨go, m, none⟩)) rfl (by kernel_rfl) (fun _ _ _ h => h) (by rfl) (fun wq hq => op_indexA v2_18 v2_272 hm) hS ?_
                              refine anyE_gen (fun A3 hA3 => ?_)
                              have s3 := tz hA3 s2
                              have v3_18 := tn hA3 (by decide) v2_18
                              have v3_23 := tn hA3 (by decide) v2_23
                              have v3_271 := tn hA3 (by decide) v2_271
                              have v3_273 := te hA3 s2 (by decide)
                              refine AnyE.tk (i := 3) (.slice ao no co) rfl (by kernel_rfl) (fun _ _ _ h => h) (by rfl) (fun wq hq => op_loadLi v3_273 hq) hS ?_
                              refine anyE_gen (fun A4 hA4 => ?_)
                              have s4 := tz hA4 s3
                              have v4_18 := tn hA4 (by decide) v3_18
                              have v4_23 := tn hA4 (by decide) v3_23
                              have v4_271 := tn hA4 (by decide) v3_271
                              have v4_274 := te hA4 s3 (by decide)
                              refine AnyE.tk (i := 4) (.slice a nx c) rfl (by kernel_rfl) (fun _ _ _ h => h) (by rfl) (fun wq hq => op_move v4_23) hS ?_
                              refine anyE_gen (fun A5 hA5 => ?_)
                              have s5 := tz hA5 s4
                              have v5_18 := tn hA5 (by decide) v4_18
                              have v5_271 := tn hA5 (by decide) v4_271
                              have v5_274 := tn hA5 (by decide) v4_274
                              have v5_275 := te hA5 s4 (by decide)
                              refine AnyE.one (i := 5) rfl (by kernel_rfl) (by rfl) (fun K5 hK5 => ?_)
                              refine wp_cloneAllA v5_275 HCl.out ?_
                              rintro r1 v3 ⟨vz, zs, rfl, cl3, hd3⟩
                              obtain ⟨a7, c7, rfl⟩ := rows_form3 cl3.row
                              obtain ⟨m7, hm7⟩ : ∃ k, k = zs.length := ⟨_, rfl⟩
                              refine ⟨_, rfl, ?_⟩
                              rw [← hm7]
                              have hS1 := HS.out v3 (cl3.below.block go HlG.out)
                              refine hK5.out _ _ ⟨fun _ => hS1, ?_⟩
                              clear hK5
                              refine anyE_gen (fun A6 hA6 => ?_)
                              have s6 := tz hA6 s5
                              have v6_18 := tn hA6 (by decide) v5_18
                              have v6_271 := tn hA6 (by decide) v5_271
                              have v6_274 := tn hA6 (by decide) v5_274
                              have v6_276 := te hA6 s5 (by decide)
                              refine AnyE.one (i := 6) rfl (by kernel_rfl) (by rfl) (fun K6 hK6 => ?_)
                              refine wp_append_ents (xs := os) (ys := zs) (C := v2.drew.heap.size) (.tmp 274) (.tmp 276) rfl (ev_tmp v6_274) (HrO.out v3 cl3.below) (ev_tmp v6_276) (by rw [hm7]; exact cl3.row) cl3.ents (by have q1 := congrArg List.length hd3; rw [List.length_map, List.length_map] at q1; have := HTn.out; omega) (Nat.le_trans HNw.out cl3.below.size) ?_
                              intro a8 n8 c8 v4 en hr4 g4 lo4
                              have hz2 := (HgO.out _ v4 g4 (Nat.lt_of_lt_of_le HlG.out cl3.below.size)).trans (cl3.below.block go HlG.out)
                              have hS2 := HS.out v4 hz2
                              have hfz2 : v4.frozen? ⟨go, m, none⟩ = false := HFz.out v4 hz2
                              refine hK6.out _ _ ⟨fun _ => hS2, ?_⟩
                              clear hK6
                              refine anyE_gen (fun A7 hA7 => ?_)
                              have s7 := tz hA7 s6
                              have v7_18 := tn hA7 (by decide) v6_18
                              have v7_271 := tn hA7 (by decide) v6_271
                              have v7_277 := te hA7 s6 (by decide)
                              refine AnyE.one (i := 7) rfl (by kernel_rfl) (by rfl) (fun K7 hK7 => ?_)
                              refine wp_indexA v7_18 v7_271 hm ?_
                              refine hK7.out _ _ ⟨fun _ => hS2, ?_⟩
                              clear hK7
                              refine anyE_gen (fun A8 hA8 => ?_)
                              have s8 := tz hA8 s7
                              have v8_277 := tn hA8 (by decide) v7_277
                              have v8_278 := te hA8 s7 (by decide)
                              refine AnyE.one (i := 8) rfl (by kernel_rfl) (by rfl) (fun K8 hK8 => ?_)
                              refine wp_storeLi hS2 hfz2 v8_278 v8_277 ?_
                              refine hK8.out _ _ ⟨fun h => (by cases h), ?_⟩
                              clear hK8
                              refine AnyE.done (by kernel_rfl) (NoPanic.normal ?_) _
                              clear s0 v0_18 v0_20 v0_23 s1 v1_18 v1_20 v1_23 v1_271 s2 v2_18 v2_23 v2_271 v2_272 s3 v3_18 v3_23 v3_271 v3_273 s4 v4_18 v4_23 v4_271 v4_274 s5 v5_18 v5_271 v5_274 v5_275 s6 v6_18 v6_271 v6_274 v6_276 s7 v7_18 v7_271 v7_277 s8 v8_277 v8_278
                              subst hA8 hA7 hA6 hA5 hA4 hA3 hA2 hA1 hA0
                              have HFin := Lib.hid (TaS.app HTa.out hm HOs.out.1 HOs.out.2 cl3 hd3 en hr4 g4 lo4)
                              obtain ⟨Wn, hWn⟩ : ∃ Y, Y = v4.setCell ⟨go, m, none⟩ (.slice a8 n8 c8) := ⟨_, rfl⟩
                              rw [← hWn] at HFin ⊢
                              clear hWn hS hS1 hS2 g4 hr4 lo4 en hm7 hfz2 HS HFz HgO HrO HCl HNw HlG cl3 hd3 hz2 HTa HOs HTn
                              go_simp
                              go_wp2
                              go_roundw
                              case rel => exact ⟨m + 1, by omega, by go_num, HFin⟩
                              case measure => simp only [intOf]; omega
                          · as_aux_lemma =>
                              have hqe2 : ((q : Int) == (ni : Int)) = false := by simp; omega
                              have hqlt : q < ni := by omega
                              have hqlt2 : (q : Int) < (ni : Int) := by omega
                              obtain ⟨gi, x, eai, hx, hix, smx, okx, hcx⟩ := HMm.out.ent (by rw [← HIn.out.2.2.1]; exact hqlt)
                              subst eai
                              have g0 := hcx 0 _ rfl
                              have g1 := hcx 1 _ rfl
                              have g2 := hcx 2 _ rfl
                              have g3 := hcx 3 _ rfl
                              have g4' := hcx 4 _ rfl
                              have g5 := hcx 5 _ rfl
                              have g6 := hcx 6 _ rfl
                              rw [Nat.add_zero] at g0
                              have HCn := Lib.hid (cloneR_own okx smx.shr)
                              have HX := Lib.hid (And.intro hix smx)
                              clear hcx hx hix smx okx hqe
                              subst hpk
                              go_wp2_with fail
                              refine Calls.mono HCn.out ?_
                              rintro e6 v0 ⟨y, rfl, sme, -, o3, b0⟩
                              have HPs' := Lib.hid ((HMm.out.later b0).pushF (w0 := U) (e := y) HKd.out.1 HKd.out.2 hm HMp.out.2 HMp.out.1 (by rw [← HIn.out.2.1]; exact hqlt) (by rw [← HIn.out.2.1]; exact HIn.out.1) HIn.out.2.2.2 o3 (Nat.le_refl _) HMm.out b0 (by rw [EntD.dat_same.2 sme]; exact HX.out.1) (by rw [EntD.dat_same.2 sme]; exact HX.out.2))
                              clear sme o3 b0 g0 g1 g2 g3 g4' g5 g6 HCn
                              go_wp2_with fail
                              refine Calls.mono HPs'.out ?_
                              rintro e7 v1 ⟨xs, a, c, E7, rfl, pu⟩
                              obtain ⟨nx, hnx⟩ : ∃ k, k = xs.length := ⟨_, rfl⟩
                              have HPu := Lib.hid (puS_take pu hm (by have := HIn.out.1; omega))
                              rw [← hnx] at HPu
                              rw [← hnx]
                              have HXn := Lib.hid hnx
                              clear pu hnx
                              go_wp2_with fail
                              refine Calls.mono HPu.out ?_
                              rintro e8 v2 ⟨rfl, ao, no, co, ta⟩
                              have ta2 := ta.later (w' := v2.drew) (Below.refl _ _).drew
                              obtain ⟨fc1, fc2, fc3, fc4, fc5, fc6, fc7, fc8, os, fo, fno, fnl⟩ := ta2.facts hm
                              have HTa := Lib.hid ta2
                              have HOs := Lib.hid (And.intro fo fno)
                              have HTn : Hid (os.length + xs.length ≤ 1048576) := by
                                unfold Hid
                                rw [← fno]
                                exact fnl
                              have HlG : Hid (go < v2.drew.heap.size) := fc3
                              have HNw : Hid (N ≤ v2.drew.heap.size) := fc4
                              have HS : Hid (∀ Z : World, Z.heap[go]? = v2.drew.heap[go]? → Z.cell? ⟨go, m, none⟩ = some (.slice ao no co)) := fun Z z => by rw [cell_heap z]; exact fc1
                              have HFz : Hid (∀ Z : World, Z.heap[go]? = v2.drew.heap[go]? → Z.frozen? ⟨go, m, none⟩ = false) := fun Z z => by
                                have := fc2
                                simp only [World.frozen?] at this ⊢
                                rw [z]
                                exact this
                              have HgO : Hid (∀ X Z : World, X.grownBy Z (Value.slice ao no co).ownBlock → go < X.heap.size → Z.heap[go]? = X.heap[go]?) := fun X Z gz l => gz.block go l (fun z => (fc8 go z.symm).1 rfl)
                              have HrO : Hid (∀ Z : World, Below v2.drew.heap.size v2.drew Z → Z.ownsRow N 84 7 (.slice ao no co) os.length (evals os)) := fun Z b => row_same fo (fun k hk => b.block k (fc8 k hk).2)
                              have HCl : Hid (Calls Tryz.prog 14 #[.slice a nx c] v2.drew fun r W' => ∃ v zs, r = .returned v ∧ Cl v2.drew W' zs v ∧ zs.map EntD.dat = xs.map EntD.dat) := by
                                unfold Hid
                                rw [HXn.out]
                                exact cloneAll_any fc5 fc6 (by omega)
                              have hS := HS.out v2.drew rfl
                              clear ta ta2 fc1 fc2 fc3 fc4 fc5 fc6 fc7 fc8 fo fno fnl HPu
                              go_upto_region 43 with fail
                              refine wp_region_noPanic ?_
                              refine wp_region_anyE (S := fun Z => Z.cell? ⟨go, m, none⟩ = some (.slice ao no co)) (E := fun j => decide (j < 8)) (by kernel_rfl) ?_
                              refine anyE_gen (fun A0 hA0 => ?_)
                              have s0 : A0.tmps.size = 369 := by rw [hA0]; rfl
                              have v0_18 : Tv A0 18 (.pointer (some ⟨go, 0, none⟩)) := by rw [hA0]; rfl
                              have v0_20 : Tv A0 20 (.int .i64 (m : Int)) := by rw [hA0]; rfl
                              have v0_23 : Tv A0 23 (.slice a nx c) := by rw [hA0]; rfl
                              refine AnyE.tk (i := 0) (.int .i64 (m : Int)) rfl (by kernel_rfl) (fun _ _ _ h => h) (by rfl) (fun wq hq => op_move v0_20) hS ?_
                              refine anyE_gen (fun A1 hA1 => ?_)
                              have s1 := tz hA1 s0
                              have v1_18 := tn hA1 (by decide) v0_18
                              have v1_20 := tn hA1 (by decide) v0_20
                              have v1_23 := tn hA1 (by decide) v0_23
                              have v1_271 := te hA1 s0 (by decide)
                              refine AnyE.tk (i := 1) (.int .i64 (m : Int)) rfl (by kernel_rfl) (fun _ _ _ h => h) (by rfl) (fun wq hq => op_move v1_20) hS ?_
                              refine anyE_gen (fun A2 hA2 => ?_)
                              have s2 := tz hA2 s1
                              have v2_18 := tn hA2 (by decide) v1_18
                              have v2_23 := tn hA2 (by decide) v1_23
                              have v2_271 := tn hA2 (by decide) v1_271
                              have v2_272 := te hA2 s1 (by decide)
                              refine AnyE.tk (i := 2) (.pointer (some ⟨go, m, none⟩)) rfl (by kernel_rfl) (fun _ _ _ h => h) (by rfl) (fun wq hq => op_indexA v2_18 v2_272 hm) hS ?_
                              refine anyE_gen (fun A3 hA3 => ?_)
                              have s3 := tz hA3 s2
                              have v3_18 := tn hA3 (by decide) v2_18
                              have v3_23 := tn hA3 (by decide) v2_23
                              have v3_271 := tn hA3 (by decide) v2_271
                              have v3_273 := te hA3 s2 (by decide)
                              refine AnyE.tk (i := 3) (.slice ao no co) rfl (by kernel_rfl) (fun _ _ _ h => h) (by rfl) (fun wq hq => op_loadLi v3_273 hq) hS ?_
                              refine anyE_gen (fun A4 hA4 => ?_)
                              have s4 := tz hA4 s3
                              have v4_18 := tn hA4 (by decide) v3_18
                              have v4_23 := tn hA4 (by decide) v3_23
                              have v4_271 := tn hA4 (by decide) v3_271
                              have v4_274 := te hA4 s3 (by decide)
                              refine AnyE.tk (i := 4) (.slice a nx c) rfl (by kernel_rfl) (fun _ _ _ h => h) (by rfl) (fun wq hq => op_move v4_23) hS ?_
                              refine anyE_gen (fun A5 hA5 => ?_)
                              have s5 := tz hA5 s4
                              have v5_18 := tn hA5 (by decide) v4_18
                              have v5_271 := tn hA5 (by decide) v4_271
                              have v5_274 := tn hA5 (by decide) v4_274
                              have v5_275 := te hA5 s4 (by decide)
                              refine AnyE.one (i := 5) rfl (by kernel_rfl) (by rfl) (fun K5 hK5 => ?_)
                              refine wp_cloneAllA v5_275 HCl.out ?_
                              rintro r1 v3 ⟨vz, zs, rfl, cl3, hd3⟩
                              obtain ⟨a7, c7, rfl⟩ := rows_form3 cl3.row
                              obtain ⟨m7, hm7⟩ : ∃ k, k = zs.length := ⟨_, rfl⟩
                              refine ⟨_, rfl, ?_⟩
                              rw [← hm7]
                              have hS1 := HS.out v3 (cl3.below.block go HlG.out)
                              refine hK5.out _ _ ⟨fun _ => hS1, ?_⟩
                              clear hK5
                              refine anyE_gen (fun A6 hA6 => ?_)
                              have s6 := tz hA6 s5
                              have v6_18 := tn hA6 (by decide) v5_18
                              have v6_271 := tn hA6 (by decide) v5_271
                              have v6_274 := tn hA6 (by decide) v5_274
                              have v6_276 := te hA6 s5 (by decide)
                              refine AnyE.one (i := 6) rfl (by kernel_rfl) (by rfl) (fun K6 hK6 => ?_)
                              refine wp_append_ents (xs := os) (ys := zs) (C := v2.drew.heap.size) (.tmp 274) (.tmp 276) rfl (ev_tmp v6_274) (HrO.out v3 cl3.below) (ev_tmp v6_276) (by rw [hm7]; exact cl3.row) cl3.ents (by have q1 := congrArg List.length hd3; rw [List.length_map, List.length_map] at q1; have := HTn.out; omega) (Nat.le_trans HNw.out cl3.below.size) ?_
                              intro a8 n8 c8 v4 en hr4 g4 lo4
                              have hz2 := (HgO.out _ v4 g4 (Nat.lt_of_lt_of_le HlG.out cl3.below.size)).trans (cl3.below.block go HlG.out)
                              have hS2 := HS.out v4 hz2
                              have hfz2 : v4.frozen? ⟨go, m, none⟩ = false := HFz.out v4 hz2
                              refine hK6.out _ _ ⟨fun _ => hS2, ?_⟩
                              clear hK6
                              refine anyE_gen (fun A7 hA7 => ?_)
                              have s7 := tz hA7 s6
                              have v7_18 := tn hA7 (by decide) v6_18
                              have v7_271 := tn hA7 (by decide) v6_271
                              have v7_277 := te hA7 s6 (by decide)
                              refine AnyE.one (i := 7) rfl (by kernel_rfl) (by rfl) (fun K7 hK7 => ?_)
                              refine wp_indexA v7_18 v7_271 hm ?_
                              refine hK7.out _ _ ⟨fun _ => hS2, ?_⟩
                              clear hK7
                              refine anyE_gen (fun A8 hA8 => ?_)
                              have s8 := tz hA8 s7
                              have v8_277 := tn hA8 (by decide) v7_277
                              have v8_278 := te hA8 s7 (by decide)
                              refine AnyE.one (i := 8) rfl (by kernel_rfl) (by rfl) (fun K8 hK8 => ?_)
                              refine wp_storeLi hS2 hfz2 v8_278 v8_277 ?_
                              refine hK8.out _ _ ⟨fun h => (by cases h), ?_⟩
                              clear hK8
                              refine AnyE.done (by kernel_rfl) (NoPanic.normal ?_) _
                              clear s0 v0_18 v0_20 v0_23 s1 v1_18 v1_20 v1_23 v1_271 s2 v2_18 v2_23 v2_271 v2_272 s3 v3_18 v3_23 v3_271 v3_273 s4 v4_18 v4_23 v4_271 v4_274 s5 v5_18 v5_271 v5_274 v5_275 s6 v6_18 v6_271 v6_274 v6_276 s7 v7_18 v7_271 v7_277 s8 v8_277 v8_278
                              subst hA8 hA7 hA6 hA5 hA4 hA3 hA2 hA1 hA0
                              have HFin := Lib.hid (TaS.app HTa.out hm HOs.out.1 HOs.out.2 cl3 hd3 en hr4 g4 lo4)
                              obtain ⟨Wn, hWn⟩ : ∃ Y, Y = v4.setCell ⟨go, m, none⟩ (.slice a8 n8 c8) := ⟨_, rfl⟩
                              rw [← hWn] at HFin ⊢
                              clear hWn hS hS1 hS2 g4 hr4 lo4 en hm7 hfz2 HS HFz HgO HrO HCl HNw HlG cl3 hd3 hz2 HTa HOs HTn
                              go_simp
                              go_wp2
                              go_roundw
                              case rel => exact ⟨m + 1, by omega, by go_num, HFin⟩
                              case measure => simp only [intOf]; omega
                    · as_aux_lemma =>
                        have hk1 : ((m : Int) == 1) = true := by simp [hc]
                        have hk3 : ((m : Int) == 3) = false := by simp [hc]
                        have hl2 : (m : Int) < 2 := by omega
                        have hg2 : ¬ (2 : Int) ≤ (m : Int) := by omega
                        rcases HMm.out.ptr hm with hp | ⟨rb, hp⟩
                        · as_aux_lemma =>
                            have hpk : pg = none := by
                              rw [hc] at hp
                              exact hp
                            have HSk := Lib.hid (HMm.out.skip hm hp)
                            clear hp hc
                            subst hpk
                            go_wp2
                            go_roundw
                            case rel => exact ⟨m + 1, by omega, by go_num, HSk⟩
                            case measure => simp only [intOf]; omega
                        · have hpk : pg = some ⟨rb, 0, none⟩ := by
                            rw [hc] at hp
                            exact hp
                          have hE : EB = 0 := HPs.out.2.1 (by rw [hpk]; simp)
                          have HKd := Lib.hid (HKf.out hE)
                          have hmk : (m < 2) = True := by simp [hc]
                          have HMp := Lib.hid (And.intro hp hmk)
                          clear hp hc hE hmk
                          by_cases hqe : q = ni
                          · as_aux_lemma =>
                              have hqe2 : ((q : Int) == (ni : Int)) = true := by simp [hqe]
                              have HEn := Lib.hid (HMm.out.endF HKd.out.1 HKd.out.2 hm HMp.out.2 HMp.out.1 (by rw [hqe]; exact HIn.out.2.1) (by rw [← HIn.out.2.1]; exact HIn.out.1))
                              clear hqe
                              subst hpk
                              go_wp2_with fail
                              refine Calls.mono HEn.out ?_
                              rintro e7 v1 ⟨xs, a, c, rfl, pu⟩
                              obtain ⟨nx, hnx⟩ : ∃ k, k = xs.length := ⟨_, rfl⟩
                              have HPu := Lib.hid (puS_take pu hm (by have := HIn.out.1; omega))
                              rw [← hnx] at HPu
                              rw [← hnx]
                              have HXn := Lib.hid hnx
                              clear pu hnx
                              go_wp2_with fail
                              refine Calls.mono HPu.out ?_
                              rintro e8 v2 ⟨rfl, ao, no, co, ta⟩
                              have ta2 := ta.later (w' := v2.drew) (Below.refl _ _).drew
                              obtain ⟨fc1, fc2, fc3, fc4, fc5, fc6, fc7, fc8, os, fo, fno, fnl⟩ := ta2.facts hm
                              have HTa := Lib.hid ta2
                              have HOs := Lib.hid (And.intro fo fno)
                              have HTn : Hid (os.length + xs.length ≤ 1048576) := by
                                unfold Hid
                                rw [← fno]
                                exact fnl
                              have HlG : Hid (go < v2.drew.heap.size) := fc3
                              have HNw : Hid (N ≤ v2.drew.heap.size) := fc4
                              have HS : Hid (∀ Z : World, Z.heap[go]? = v2.drew.heap[go]? → Z.cell? ⟨go, m, none⟩ = some (.slice ao no co)) := fun Z z => by rw [cell_heap z]; exact fc1
                              have HFz : Hid (∀ Z : World, Z.heap[go]? = v2.drew.heap[go]? → Z.frozen? ⟨go, m, none⟩ = false) := fun Z z => by
                                have := fc2
                                simp only [World.frozen?] at this ⊢
                                rw [z]
                                exact this
                              have HgO : Hid (∀ X Z : World, X.grownBy Z (Value.slice ao no co).ownBlock → go < X.heap.size → Z.heap[go]? = X.heap[go]?) := fun X Z gz l => gz.block go l (fun z => (fc8 go z.symm).1 rfl)
                              have HrO : Hid (∀ Z : World, Below v2.drew.heap.size v2.drew Z → Z.ownsRow N 84 7 (.slice ao no co) os.length (evals os)) := fun Z b => row_same fo (fun k hk => b.block k (fc8 k hk).2)
                              have HCl : Hid (Calls Tryz.prog 14 #[.slice a nx c] v2.drew fun r W' => ∃ v zs, r = .returned v ∧ Cl v2.drew W' zs v ∧ zs.map EntD.dat = xs.map EntD.dat) := by
                                unfold Hid
                                rw [HXn.out]
                                exact cloneAll_any fc5 fc6 (by omega)
                              have hS := HS.out v2.drew rfl
                              clear ta ta2 fc1 fc2 fc3 fc4 fc5 fc6 fc7 fc8 fo fno fnl HPu
                              go_upto_region 43 with fail
                              refine wp_region_noPanic ?_
                              refine wp_region_anyE (S := fun Z => Z.cell? ⟨go, m, none⟩ = some (.slice ao no co)) (E := fun j => decide (j < 8)) (by kernel_rfl) ?_
                              refine anyE_gen (fun A0 hA0 => ?_)
                              have s0 : A0.tmps.size = 369 := by rw [hA0]; rfl
                              have v0_18 : Tv A0 18 (.pointer (some ⟨go, 0, none⟩)) := by rw [hA0]; rfl
                              have v0_20 : Tv A0 20 (.int .i64 (m : Int)) := by rw [hA0]; rfl
                              have v0_23 : Tv A0 23 (.slice a nx c) := by rw [hA0]; rfl
                              refine AnyE.tk (i := 0) (.int .i64 (m : Int)) rfl (by kernel_rfl) (fun _ _ _ h => h) (by rfl) (fun wq hq => op_move v0_20) hS ?_
                              refine anyE_gen (fun A1 hA1 => ?_)
                              have s1 := tz hA1 s0
                              have v1_18 := tn hA1 (by decide) v0_18
                              have v1_20 := tn hA1 (by decide) v0_20
                              have v1_23 := tn hA1 (by decide) v0_23
                              have v1_271 := te hA1 s0 (by decide)
                              refine AnyE.tk (i := 1) (.int .i64 (m : Int)) rfl (by kernel_rfl) (fun _ _ _ h => h) (by rfl) (fun wq hq => op_move v1_20) hS ?_
                              refine anyE_gen (fun A2 hA2 => ?_)
                              have s2 := tz hA2 s1
                              have v2_18 := tn hA2 (by decide) v1_18
                              have v2_23 := tn hA2 (by decide) v1_23
                              have v2_271 := tn hA2 (by decide) v1_271
                              have v2_272 := te hA2 s1 (by decide)
                              refine AnyE.tk (i := 2) (.pointer (some ⟨go, m, none⟩)) rfl (by kernel_rfl) (fun _ _ _ h => h) (by rfl) (fun wq hq => op_indexA v2_18 v2_272 hm) hS ?_
                              refine anyE_gen (fun A3 hA3 => ?_)
                              have s3 := tz hA3 s2
                              have v3_18 := tn hA3 (by decide) v2_18
                              have v3_23 := tn hA3 (by decide) v2_23
                              have v3_271 := tn hA3 (by decide) v2_271
                              have v3_273 := te hA3 s2 (by decide)
                              refine AnyE.tk (i := 3) (.slice ao no co) rfl (by kernel_rfl) (fun _ _ _ h => h) (by rfl) (fun wq hq => op_loadLi v3_273 hq) hS ?_
                              refine anyE_gen (fun A4 hA4 => ?_)
                              have s4 := tz hA4 s3
                              have v4_18 := tn hA4 (by decide) v3_18
                              have v4_23 := tn hA4 (by decide) v3_23
                              have v4_271 := tn hA4 (by decide) v3_271
                              have v4_274 := te hA4 s3 (by decide)
                              refine AnyE.tk (i := 4) (.slice a nx c) rfl (by kernel_rfl) (fun _ _ _ h => h) (by rfl) (fun wq hq => op_move v4_23) hS ?_
                              refine anyE_gen (fun A5 hA5 => ?_)
                              have s5 := tz hA5 s4
                              have v5_18 := tn hA5 (by decide) v4_18
                              have v5_271 := tn hA5 (by decide) v4_271
                              have v5_274 := tn hA5 (by decide) v4_274
                              have v5_275 := te hA5 s4 (by decide)
                              refine AnyE.one (i := 5) rfl (by kernel_rfl) (by rfl) (fun K5 hK5 => ?_)
                              refine wp_cloneAllA v5_275 HCl.out ?_
                              rintro r1 v3 ⟨vz, zs, rfl, cl3, hd3⟩
                              obtain ⟨a7, c7, rfl⟩ := rows_form3 cl3.row
                              obtain ⟨m7, hm7⟩ : ∃ k, k = zs.length := ⟨_, rfl⟩
                              refine ⟨_, rfl, ?_⟩
                              rw [← hm7]
                              have hS1 := HS.out v3 (cl3.below.block go HlG.out)
                              refine hK5.out _ _ ⟨fun _ => hS1, ?_⟩
                              clear hK5
                              refine anyE_gen (fun A6 hA6 => ?_)
                              have s6 := tz hA6 s5
                              have v6_18 := tn hA6 (by decide) v5_18
                              have v6_271 := tn hA6 (by decide) v5_271
                              have v6_274 := tn hA6 (by decide) v5_274
                              have v6_276 := te hA6 s5 (by decide)
                              refine AnyE.one (i := 6) rfl (by kernel_rfl) (by rfl) (fun K6 hK6 => ?_)
                              refine wp_append_ents (xs := os) (ys := zs) (C := v2.drew.heap.size) (.tmp 274) (.tmp 276) rfl (ev_tmp v6_274) (HrO.out v3 cl3.below) (ev_tmp v6_276) (by rw [hm7]; exact cl3.row) cl3.ents (by have q1 := congrArg List.length hd3; rw [List.length_map, List.length_map] at q1; have := HTn.out; omega) (Nat.le_trans HNw.out cl3.below.size) ?_
                              intro a8 n8 c8 v4 en hr4 g4 lo4
                              have hz2 := (HgO.out _ v4 g4 (Nat.lt_of_lt_of_le HlG.out cl3.below.size)).trans (cl3.below.block go HlG.out)
                              have hS2 := HS.out v4 hz2
                              have hfz2 : v4.frozen? ⟨go, m, none⟩ = false := HFz.out v4 hz2
                              refine hK6.out _ _ ⟨fun _ => hS2, ?_⟩
                              clear hK6
                              refine anyE_gen (fun A7 hA7 => ?_)
                              have s7 := tz hA7 s6
                              have v7_18 := tn hA7 (by decide) v6_18
                              have v7_271 := tn hA7 (by decide) v6_271
                              have v7_277 := te hA7 s6 (by decide)
                              refine AnyE.one (i := 7) rfl (by kernel_rfl) (by rfl) (fun K7 hK7 => ?_)
                              refine wp_indexA v7_18 v7_271 hm ?_
                              refine hK7.out _ _ ⟨fun _ => hS2, ?_⟩
                              clear hK7
                              refine anyE_gen (fun A8 hA8 => ?_)
                              have s8 := tz hA8 s7
                              have v8_277 := tn hA8 (by decide) v7_277
                              have v8_278 := te hA8 s7 (by decide)
                              refine AnyE.one (i := 8) rfl (by kernel_rfl) (by rfl) (fun K8 hK8 => ?_)
                              refine wp_storeLi hS2 hfz2 v8_278 v8_277 ?_
                              refine hK8.out _ _ ⟨fun h => (by cases h), ?_⟩
                              clear hK8
                              refine AnyE.done (by kernel_rfl) (NoPanic.normal ?_) _
                              clear s0 v0_18 v0_20 v0_23 s1 v1_18 v1_20 v1_23 v1_271 s2 v2_18 v2_23 v2_271 v2_272 s3 v3_18 v3_23 v3_271 v3_273 s4 v4_18 v4_23 v4_271 v4_274 s5 v5_18 v5_271 v5_274 v5_275 s6 v6_18 v6_271 v6_274 v6_276 s7 v7_18 v7_271 v7_277 s8 v8_277 v8_278
                              subst hA8 hA7 hA6 hA5 hA4 hA3 hA2 hA1 hA0
                              have HFin := Lib.hid (TaS.app HTa.out hm HOs.out.1 HOs.out.2 cl3 hd3 en hr4 g4 lo4)
                              obtain ⟨Wn, hWn⟩ : ∃ Y, Y = v4.setCell ⟨go, m, none⟩ (.slice a8 n8 c8) := ⟨_, rfl⟩
                              rw [← hWn] at HFin ⊢
                              clear hWn hS hS1 hS2 g4 hr4 lo4 en hm7 hfz2 HS HFz HgO HrO HCl HNw HlG cl3 hd3 hz2 HTa HOs HTn
                              go_simp
                              go_wp2
                              go_roundw
                              case rel => exact ⟨m + 1, by omega, by go_num, HFin⟩
                              case measure => simp only [intOf]; omega
                          · as_aux_lemma =>
                              have hqe2 : ((q : Int) == (ni : Int)) = false := by simp; omega
                              have hqlt : q < ni := by omega
                              have hqlt2 : (q : Int) < (ni : Int) := by omega
                              obtain ⟨gi, x, eai, hx, hix, smx, okx, hcx⟩ := HMm.out.ent (by rw [← HIn.out.2.2.1]; exact hqlt)
                              subst eai
                              have g0 := hcx 0 _ rfl
                              have g1 := hcx 1 _ rfl
                              have g2 := hcx 2 _ rfl
                              have g3 := hcx 3 _ rfl
                              have g4' := hcx 4 _ rfl
                              have g5 := hcx 5 _ rfl
                              have g6 := hcx 6 _ rfl
                              rw [Nat.add_zero] at g0
                              have HCn := Lib.hid (cloneR_own okx smx.shr)
                              have HX := Lib.hid (And.intro hix smx)
                              clear hcx hx hix smx okx hqe
                              subst hpk
                              go_wp2_with fail
                              refine Calls.mono HCn.out ?_
                              rintro e6 v0 ⟨y, rfl, sme, -, o3, b0⟩
                              have HPs' := Lib.hid ((HMm.out.later b0).pushF (w0 := U) (e := y) HKd.out.1 HKd.out.2 hm HMp.out.2 HMp.out.1 (by rw [← HIn.out.2.1]; exact hqlt) (by rw [← HIn.out.2.1]; exact HIn.out.1) HIn.out.2.2.2 o3 (Nat.le_refl _) HMm.out b0 (by rw [EntD.dat_same.2 sme]; exact HX.out.1) (by rw [EntD.dat_same.2 sme]; exact HX.out.2))
                              clear sme o3 b0 g0 g1 g2 g3 g4' g5 g6 HCn
                              go_wp2_with fail
                              refine Calls.mono HPs'.out ?_
                              rintro e7 v1 ⟨xs, a, c, E7, rfl, pu⟩
                              obtain ⟨nx, hnx⟩ : ∃ k, k = xs.length := ⟨_, rfl⟩
                              have HPu := Lib.hid (puS_take pu hm (by have := HIn.out.1; omega))
                              rw [← hnx] at HPu
                              rw [← hnx]
                              have HXn := Lib.hid hnx
                              clear pu hnx
                              go_wp2_with fail
                              refine Calls.mono HPu.out ?_
                              rintro e8 v2 ⟨rfl, ao, no, co, ta⟩
                              have ta2 := ta.later (w' := v2.drew) (Below.refl _ _).drew
                              obtain ⟨fc1, fc2, fc3, fc4, fc5, fc6, fc7, fc8, os, fo, fno, fnl⟩ := ta2.facts hm
                              have HTa := Lib.hid ta2
                              have HOs := Lib.hid (And.intro fo fno)
                              have HTn : Hid (os.length + xs.length ≤ 1048576) := by
                                unfold Hid
                                rw [← fno]
                                exact fnl
                              have HlG : Hid (go < v2.drew.heap.size) := fc3
                              have HNw : Hid (N ≤ v2.drew.heap.size) := fc4
                              have HS : Hid (∀ Z : World, Z.heap[go]? = v2.drew.heap[go]? → Z.cell? ⟨go, m, none⟩ = some (.slice ao no co)) := fun Z z => by rw [cell_heap z]; exact fc1
                              have HFz : Hid (∀ Z : World, Z.heap[go]? = v2.drew.heap[go]? → Z.frozen? ⟨go, m, none⟩ = false) := fun Z z => by
                                have := fc2
                                simp only [World.frozen?] at this ⊢
                                rw [z]
                                exact this
                              have HgO : Hid (∀ X Z : World, X.grownBy Z (Value.slice ao no co).ownBlock → go < X.heap.size → Z.heap[go]? = X.heap[go]?) := fun X Z gz l => gz.block go l (fun z => (fc8 go z.symm).1 rfl)
                              have HrO : Hid (∀ Z : World, Below v2.drew.heap.size v2.drew Z → Z.ownsRow N 84 7 (.slice ao no co) os.length (evals os)) := fun Z b => row_same fo (fun k hk => b.block k (fc8 k hk).2)
                              have HCl : Hid (Calls Tryz.prog 14 #[.slice a nx c] v2.drew fun r W' => ∃ v zs, r = .returned v ∧ Cl v2.drew W' zs v ∧ zs.map EntD.dat = xs.map EntD.dat) := by
                                unfold Hid
                                rw [HXn.out]
                                exact cloneAll_any fc5 fc6 (by omega)
                              have hS := HS.out v2.drew rfl
                              clear ta ta2 fc1 fc2 fc3 fc4 fc5 fc6 fc7 fc8 fo fno fnl HPu
                              go_upto_region 43 with fail
                              refine wp_region_noPanic ?_
                              refine wp_region_anyE (S := fun Z => Z.cell? ⟨go, m, none⟩ = some (.slice ao no co)) (E := fun j => decide (j < 8)) (by kernel_rfl) ?_
                              refine anyE_gen (fun A0 hA0 => ?_)
                              have s0 : A0.tmps.size = 369 := by rw [hA0]; rfl
                              have v0_18 : Tv A0 18 (.pointer (some ⟨go, 0, none⟩)) := by rw [hA0]; rfl
                              have v0_20 : Tv A0 20 (.int .i64 (m : Int)) := by rw [hA0]; rfl
                              have v0_23 : Tv A0 23 (.slice a nx c) := by rw [hA0]; rfl
                              refine AnyE.tk (i := 0) (.int .i64 (m : Int)) rfl (by kernel_rfl) (fun _ _ _ h => h) (by rfl) (fun wq hq => op_move v0_20) hS ?_
                              refine anyE_gen (fun A1 hA1 => ?_)
                              have s1 := tz hA1 s0
                              have v1_18 := tn hA1 (by decide) v0_18
                              have v1_20 := tn hA1 (by decide) v0_20
                              have v1_23 := tn hA1 (by decide) v0_23
                              have v1_271 := te hA1 s0 (by decide)
                              refine AnyE.tk (i := 1) (.int .i64 (m : Int)) rfl (by kernel_rfl) (fun _ _ _ h => h) (by rfl) (fun wq hq => op_move v1_20) hS ?_
                              refine anyE_gen (fun A2 hA2 => ?_)
                              have s2 := tz hA2 s1
                              have v2_18 := tn hA2 (by decide) v1_18
                              have v2_23 := tn hA2 (by decide) v1_23
                              have v2_271 := tn hA2 (by decide) v1_271
                              have v2_272 := te hA2 s1 (by decide)
                              refine AnyE.tk (i := 2) (.pointer (some ⟨go, m, none⟩)) rfl (by kernel_rfl) (fun _ _ _ h => h) (by rfl) (fun wq hq => op_indexA v2_18 v2_272 hm) hS ?_
                              refine anyE_gen (fun A3 hA3 => ?_)
                              have s3 := tz hA3 s2
                              have v3_18 := tn hA3 (by decide) v2_18
                              have v3_23 := tn hA3 (by decide) v2_23
                              have v3_271 := tn hA3 (by decide) v2_271
                              have v3_273 := te hA3 s2 (by decide)
                              refine AnyE.tk (i := 3) (.slice ao no co) rfl (by kernel_rfl) (fun _ _ _ h => h) (by rfl) (fun wq hq => op_loadLi v3_273 hq) hS ?_
                              refine anyE_gen (fun A4 hA4 => ?_)
                              have s4 := tz hA4 s3
                              have v4_18 := tn hA4 (by decide) v3_18
                              have v4_23 := tn hA4 (by decide) v3_23
                              have v4_271 := tn hA4 (by decide) v3_271
                              have v4_274 := te hA4 s3 (by decide)
                              refine AnyE.tk (i := 4) (.slice a nx c) rfl (by kernel_rfl) (fun _ _ _ h => h) (by rfl) (fun wq hq => op_move v4_23) hS ?_
                              refine anyE_gen (fun A5 hA5 => ?_)
                              have s5 := tz hA5 s4
                              have v5_18 := tn hA5 (by decide) v4_18
                              have v5_271 := tn hA5 (by decide) v4_271
                              have v5_274 := tn hA5 (by decide) v4_274
                              have v5_275 := te hA5 s4 (by decide)
                              refine AnyE.one (i := 5) rfl (by kernel_rfl) (by rfl) (fun K5 hK5 => ?_)
                              refine wp_cloneAllA v5_275 HCl.out ?_
                              rintro r1 v3 ⟨vz, zs, rfl, cl3, hd3⟩
                              obtain ⟨a7, c7, rfl⟩ := rows_form3 cl3.row
                              obtain ⟨m7, hm7⟩ : ∃ k, k = zs.length := ⟨_, rfl⟩
                              refine ⟨_, rfl, ?_⟩
                              rw [← hm7]
                              have hS1 := HS.out v3 (cl3.below.block go HlG.out)
                              refine hK5.out _ _ ⟨fun _ => hS1, ?_⟩
                              clear hK5
                              refine anyE_gen (fun A6 hA6 => ?_)
                              have s6 := tz hA6 s5
                              have v6_18 := tn hA6 (by decide) v5_18
                              have v6_271 := tn hA6 (by decide) v5_271
                              have v6_274 := tn hA6 (by decide) v5_274
                              have v6_276 := te hA6 s5 (by decide)
                              refine AnyE.one (i := 6) rfl (by kernel_rfl) (by rfl) (fun K6 hK6 => ?_)
                              refine wp_append_ents (xs := os) (ys := zs) (C := v2.drew.heap.size) (.tmp 274) (.tmp 276) rfl (ev_tmp v6_274) (HrO.out v3 cl3.below) (ev_tmp v6_276) (by rw [hm7]; exact cl3.row) cl3.ents (by have q1 := congrArg List.length hd3; rw [List.length_map, List.length_map] at q1; have := HTn.out; omega) (Nat.le_trans HNw.out cl3.below.size) ?_
                              intro a8 n8 c8 v4 en hr4 g4 lo4
                              have hz2 := (HgO.out _ v4 g4 (Nat.lt_of_lt_of_le HlG.out cl3.below.size)).trans (cl3.below.block go HlG.out)
                              have hS2 := HS.out v4 hz2
                              have hfz2 : v4.frozen? ⟨go, m, none⟩ = false := HFz.out v4 hz2
                              refine hK6.out _ _ ⟨fun _ => hS2, ?_⟩
                              clear hK6
                              refine anyE_gen (fun A7 hA7 => ?_)
                              have s7 := tz hA7 s6
                              have v7_18 := tn hA7 (by decide) v6_18
                              have v7_271 := tn hA7 (by decide) v6_271
                              have v7_277 := te hA7 s6 (by decide)
                              refine AnyE.one (i := 7) rfl (by kernel_rfl) (by rfl) (fun K7 hK7 => ?_)
                              refine wp_indexA v7_18 v7_271 hm ?_
                              refine hK7.out _ _ ⟨fun _ => hS2, ?_⟩
                              clear hK7
                              refine anyE_gen (fun A8 hA8 => ?_)
                              have s8 := tz hA8 s7
                              have v8_277 := tn hA8 (by decide) v7_277
                              have v8_278 := te hA8 s7 (by decide)
                              refine AnyE.one (i := 8) rfl (by kernel_rfl) (by rfl) (fun K8 hK8 => ?_)
                              refine wp_storeLi hS2 hfz2 v8_278 v8_277 ?_
                              refine hK8.out _ _ ⟨fun h => (by cases h), ?_⟩
                              clear hK8
                              refine AnyE.done (by kernel_rfl) (NoPanic.normal ?_) _
                              clear s0 v0_18 v0_20 v0_23 s1 v1_18 v1_20 v1_23 v1_271 s2 v2_18 v2_23 v2_271 v2_272 s3 v3_18 v3_23 v3_271 v3_273 s4 v4_18 v4_23 v4_271 v4_274 s5 v5_18 v5_271 v5_274 v5_275 s6 v6_18 v6_271 v6_274 v6_276 s7 v7_18 v7_271 v7_277 s8 v8_277 v8_278
                              subst hA8 hA7 hA6 hA5 hA4 hA3 hA2 hA1 hA0
                              have HFin := Lib.hid (TaS.app HTa.out hm HOs.out.1 HOs.out.2 cl3 hd3 en hr4 g4 lo4)
                              obtain ⟨Wn, hWn⟩ : ∃ Y, Y = v4.setCell ⟨go, m, none⟩ (.slice a8 n8 c8) := ⟨_, rfl⟩
                              rw [← hWn] at HFin ⊢
                              clear hWn hS hS1 hS2 g4 hr4 lo4 en hm7 hfz2 HS HFz HgO HrO HCl HNw HlG cl3 hd3 hz2 HTa HOs HTn
                              go_simp
                              go_wp2
                              go_roundw
                              case rel => exact ⟨m + 1, by omega, by go_num, HFin⟩
                              case measure => simp only [intOf]; omega
                    · as_aux_lemma =>
                        have hk1 : ((m : Int) == 1) = false := by simp [hc]
                        have hk3 : ((m : Int) == 3) = false := by simp [hc]
                        have hl2 : ¬ (m : Int) < 2 := by omega
                        have hg2 : (2 : Int) ≤ (m : Int) := by omega
                        rcases HMm.out.ptr hm with hp | ⟨rb, hp⟩
                        · as_aux_lemma =>
                            have hpk : pr = none := by
                              rw [hc] at hp
                              exact hp
                            have HSk := Lib.hid (HMm.out.skip hm hp)
                            clear hp hc
                            subst hpk
                            go_wp2
                            go_roundw
                            case rel => exact ⟨m + 1, by omega, by go_num, HSk⟩
                            case measure => simp only [intOf]; omega
                        · have hpk : pr = some ⟨rb, 0, none⟩ := by
                            rw [hc] at hp
                            exact hp
                          have hE : ER = 0 := HPs.out.2.2.1 (by rw [hpk]; simp)
                          have HKd := Lib.hid (HKr.out hE)
                          have hmk : (m < 2) = False := by simp [hc]
                          have HMp := Lib.hid (And.intro hp hmk)
                          clear hp hc hE hmk
                          by_cases hqe : q = ni
                          · as_aux_lemma =>
                              have hqe2 : ((q : Int) == (ni : Int)) = true := by simp [hqe]
                              have HEn := Lib.hid (HMm.out.endR HKd.out.1 HKd.out.2 hm HMp.out.2 HMp.out.1 (by rw [hqe]; exact HIn.out.2.1) (by rw [← HIn.out.2.1]; exact HIn.out.1))
                              clear hqe
                              subst hpk
                              go_wp2_with fail
                              refine Calls.mono HEn.out ?_
                              rintro e7 v1 ⟨xs, a, c, rfl, pu⟩
                              obtain ⟨nx, hnx⟩ : ∃ k, k = xs.length := ⟨_, rfl⟩
                              have HPu := Lib.hid (puS_take pu hm (by have := HIn.out.1; omega))
                              rw [← hnx] at HPu
                              rw [← hnx]
                              have HXn := Lib.hid hnx
                              clear pu hnx
                              go_wp2_with fail
                              refine Calls.mono HPu.out ?_
                              rintro e8 v2 ⟨rfl, ao, no, co, ta⟩
                              have ta2 := ta.later (w' := v2.drew) (Below.refl _ _).drew
                              obtain ⟨fc1, fc2, fc3, fc4, fc5, fc6, fc7, fc8, os, fo, fno, fnl⟩ := ta2.facts hm
                              have HTa := Lib.hid ta2
                              have HOs := Lib.hid (And.intro fo fno)
                              have HTn : Hid (os.length + xs.length ≤ 1048576) := by
                                unfold Hid
                                rw [← fno]
                                exact fnl
                              have HlG : Hid (go < v2.drew.heap.size) := fc3
                              have HNw : Hid (N ≤ v2.drew.heap.size) := fc4
                              have HS : Hid (∀ Z : World, Z.heap[go]? = v2.drew.heap[go]? → Z.cell? ⟨go, m, none⟩ = some (.slice ao no co)) := fun Z z => by rw [cell_heap z]; exact fc1
                              have HFz : Hid (∀ Z : World, Z.heap[go]? = v2.drew.heap[go]? → Z.frozen? ⟨go, m, none⟩ = false) := fun Z z => by
                                have := fc2
                                simp only [World.frozen?] at this ⊢
                                rw [z]
                                exact this
                              have HgO : Hid (∀ X Z : World, X.grownBy Z (Value.slice ao no co).ownBlock → go < X.heap.size → Z.heap[go]? = X.heap[go]?) := fun X Z gz l => gz.block go l (fun z => (fc8 go z.symm).1 rfl)
                              have HrO : Hid (∀ Z : World, Below v2.drew.heap.size v2.drew Z → Z.ownsRow N 84 7 (.slice ao no co) os.length (evals os)) := fun Z b => row_same fo (fun k hk => b.block k (fc8 k hk).2)
                              have HCl : Hid (Calls Tryz.prog 14 #[.slice a nx c] v2.drew fun r W' => ∃ v zs, r = .returned v ∧ Cl v2.drew W' zs v ∧ zs.map EntD.dat = xs.map EntD.dat) := by
                                unfold Hid
                                rw [HXn.out]
                                exact cloneAll_any fc5 fc6 (by omega)
                              have hS := HS.out v2.drew rfl
                              clear ta ta2 fc1 fc2 fc3 fc4 fc5 fc6 fc7 fc8 fo fno fnl HPu
                              go_upto_region 43 with fail
                              refine wp_region_noPanic ?_
                              refine wp_region_anyE (S := fun Z => Z.cell? ⟨go, m, none⟩ = some (.slice ao no co)) (E := fun j => decide (j < 8)) (by kernel_rfl) ?_
                              refine anyE_gen (fun A0 hA0 => ?_)
                              have s0 : A0.tmps.size = 369 := by rw [hA0]; rfl
                              have v0_18 : Tv A0 18 (.pointer (some ⟨go, 0, none⟩)) := by rw [hA0]; rfl
                              have v0_20 : Tv A0 20 (.int .i64 (m : Int)) := by rw [hA0]; rfl
                              have v0_23 : Tv A0 23 (.slice a nx c) := by rw [hA0]; rfl
                              refine AnyE.tk (i := 0) (.int .i64 (m : Int)) rfl (by kernel_rfl) (fun _ _ _ h => h) (by rfl) (fun wq hq => op_move v0_20) hS ?_
                              refine anyE_gen (fun A1 hA1 => ?_)
                              have s1 := tz hA1 s0
                              have v1_18 := tn hA1 (by decide) v0_18
                              have v1_20 := tn hA1 (by decide) v0_20
                              have v1_23 := tn hA1 (by decide) v0_23
                              have v1_271 := te hA1 s0 (by decide)
                              refine AnyE.tk (i := 1) (.int .i64 (m : Int)) rfl (by kernel_rfl) (fun _ _ _ h => h) (by rfl) (fun wq hq => op_move v1_20) hS ?_
                              refine anyE_gen (fun A2 hA2 => ?_)
                              have s2 := tz hA2 s1
                              have v2_18 := tn hA2 (by decide) v1_18
                              have v2_23 := tn hA2 (by decide) v1_23
                              have v2_271 := tn hA2 (by decide) v1_271
                              have v2_272 := te hA2 s1 (by decide)
                              refine AnyE.tk (i := 2) (.pointer (some ⟨go, m, none⟩)) rfl (by kernel_rfl) (fun _ _ _ h => h) (by rfl) (fun wq hq => op_indexA v2_18 v2_272 hm) hS ?_
                              refine anyE_gen (fun A3 hA3 => ?_)
                              have s3 := tz hA3 s2
                              have v3_18 := tn hA3 (by decide) v2_18
                              have v3_23 := tn hA3 (by decide) v2_23
                              have v3_271 := tn hA3 (by decide) v2_271
                              have v3_273 := te hA3 s2 (by decide)
                              refine AnyE.tk (i := 3) (.slice ao no co) rfl (by kernel_rfl) (fun _ _ _ h => h) (by rfl) (fun wq hq => op_loadLi v3_273 hq) hS ?_
                              refine anyE_gen (fun A4 hA4 => ?_)
                              have s4 := tz hA4 s3
                              have v4_18 := tn hA4 (by decide) v3_18
                              have v4_23 := tn hA4 (by decide) v3_23
                              have v4_271 := tn hA4 (by decide) v3_271
                              have v4_274 := te hA4 s3 (by decide)
                              refine AnyE.tk (i := 4) (.slice a nx c) rfl (by kernel_rfl) (fun _ _ _ h => h) (by rfl) (fun wq hq => op_move v4_23) hS ?_
                              refine anyE_gen (fun A5 hA5 => ?_)
                              have s5 := tz hA5 s4
                              have v5_18 := tn hA5 (by decide) v4_18
                              have v5_271 := tn hA5 (by decide) v4_271
                              have v5_274 := tn hA5 (by decide) v4_274
                              have v5_275 := te hA5 s4 (by decide)
                              refine AnyE.one (i := 5) rfl (by kernel_rfl) (by rfl) (fun K5 hK5 => ?_)
                              refine wp_cloneAllA v5_275 HCl.out ?_
                              rintro r1 v3 ⟨vz, zs, rfl, cl3, hd3⟩
                              obtain ⟨a7, c7, rfl⟩ := rows_form3 cl3.row
                              obtain ⟨m7, hm7⟩ : ∃ k, k = zs.length := ⟨_, rfl⟩
                              refine ⟨_, rfl, ?_⟩
                              rw [← hm7]
                              have hS1 := HS.out v3 (cl3.below.block go HlG.out)
                              refine hK5.out _ _ ⟨fun _ => hS1, ?_⟩
                              clear hK5
                              refine anyE_gen (fun A6 hA6 => ?_)
                              have s6 := tz hA6 s5
                              have v6_18 := tn hA6 (by decide) v5_18
                              have v6_271 := tn hA6 (by decide) v5_271
                              have v6_274 := tn hA6 (by decide) v5_274
                              have v6_276 := te hA6 s5 (by decide)
                              refine AnyE.one (i := 6) rfl (by kernel_rfl) (by rfl) (fun K6 hK6 => ?_)
                              refine wp_append_ents (xs := os) (ys := zs) (C := v2.drew.heap.size) (.tmp 274) (.tmp 276) rfl (ev_tmp v6_274) (HrO.out v3 cl3.below) (ev_tmp v6_276) (by rw [hm7]; exact cl3.row) cl3.ents (by have q1 := congrArg List.length hd3; rw [List.length_map, List.length_map] at q1; have := HTn.out; omega) (Nat.le_trans HNw.out cl3.below.size) ?_
                              intro a8 n8 c8 v4 en hr4 g4 lo4
                              have hz2 := (HgO.out _ v4 g4 (Nat.lt_of_lt_of_le HlG.out cl3.below.size)).trans (cl3.below.block go HlG.out)
                              have hS2 := HS.out v4 hz2
                              have hfz2 : v4.frozen? ⟨go, m, none⟩ = false := HFz.out v4 hz2
                              refine hK6.out _ _ ⟨fun _ => hS2, ?_⟩
                              clear hK6
                              refine anyE_gen (fun A7 hA7 => ?_)
                              have s7 := tz hA7 s6
                              have v7_18 := tn hA7 (by decide) v6_18
                              have v7_271 := tn hA7 (by decide) v6_271
                              have v7_277 := te hA7 s6 (by decide)
                              refine AnyE.one (i := 7) rfl (by kernel_rfl) (by rfl) (fun K7 hK7 => ?_)
                              refine wp_indexA v7_18 v7_271 hm ?_
                              refine hK7.out _ _ ⟨fun _ => hS2, ?_⟩
                              clear hK7
                              refine anyE_gen (fun A8 hA8 => ?_)
                              have s8 := tz hA8 s7
                              have v8_277 := tn hA8 (by decide) v7_277
                              have v8_278 := te hA8 s7 (by decide)
                              refine AnyE.one (i := 8) rfl (by kernel_rfl) (by rfl) (fun K8 hK8 => ?_)
                              refine wp_storeLi hS2 hfz2 v8_278 v8_277 ?_
                              refine hK8.out _ _ ⟨fun h => (by cases h), ?_⟩
                              clear hK8
                              refine AnyE.done (by kernel_rfl) (NoPanic.normal ?_) _
                              clear s0 v0_18 v0_20 v0_23 s1 v1_18 v1_20 v1_23 v1_271 s2 v2_18 v2_23 v2_271 v2_272 s3 v3_18 v3_23 v3_271 v3_273 s4 v4_18 v4_23 v4_271 v4_274 s5 v5_18 v5_271 v5_274 v5_275 s6 v6_18 v6_271 v6_274 v6_276 s7 v7_18 v7_271 v7_277 s8 v8_277 v8_278
                              subst hA8 hA7 hA6 hA5 hA4 hA3 hA2 hA1 hA0
                              have HFin := Lib.hid (TaS.app HTa.out hm HOs.out.1 HOs.out.2 cl3 hd3 en hr4 g4 lo4)
                              obtain ⟨Wn, hWn⟩ : ∃ Y, Y = v4.setCell ⟨go, m, none⟩ (.slice a8 n8 c8) := ⟨_, rfl⟩
                              rw [← hWn] at HFin ⊢
                              clear hWn hS hS1 hS2 g4 hr4 lo4 en hm7 hfz2 HS HFz HgO HrO HCl HNw HlG cl3 hd3 hz2 HTa HOs HTn
                              go_simp
                              go_wp2
                              go_roundw
                              case rel => exact ⟨m + 1, by omega, by go_num, HFin⟩
                              case measure => simp only [intOf]; omega
                          · as_aux_lemma =>
                              have hqe2 : ((q : Int) == (ni : Int)) = false := by simp; omega
                              have hqlt : q < ni := by omega
                              have hqlt2 : (q : Int) < (ni : Int) := by omega
                              obtain ⟨gi, x, eai, hx, hix, smx, okx, hcx⟩ := HMm.out.ent (by rw [← HIn.out.2.2.1]; exact hqlt)
                              subst eai
                              have g0 := hcx 0 _ rfl
                              have g1 := hcx 1 _ rfl
                              have g2 := hcx 2 _ rfl
                              have g3 := hcx 3 _ rfl
                              have g4' := hcx 4 _ rfl
                              have g5 := hcx 5 _ rfl
                              have g6 := hcx 6 _ rfl
                              rw [Nat.add_zero] at g0
                              have HCn := Lib.hid (cloneR_own okx smx.shr)
                              have HX := Lib.hid (And.intro hix smx)
                              clear hcx hx hix smx okx hqe
                              subst hpk
                              go_wp2_with fail
                              refine Calls.mono HCn.out ?_
                              rintro e6 v0 ⟨y, rfl, sme, -, o3, b0⟩
                              have HPs' := Lib.hid ((HMm.out.later b0).pushR (w0 := U) (e := y) HKd.out.1 HKd.out.2 hm HMp.out.2 HMp.out.1 (by rw [← HIn.out.2.1]; exact hqlt) (by rw [← HIn.out.2.1]; exact HIn.out.1) HIn.out.2.2.2 o3 (Nat.le_refl _) HMm.out b0 (by rw [EntD.dat_same.2 sme]; exact HX.out.1) (by rw [EntD.dat_same.2 sme]; exact HX.out.2))
                              clear sme o3 b0 g0 g1 g2 g3 g4' g5 g6 HCn
                              go_wp2_with fail
                              refine Calls.mono HPs'.out ?_
                              rintro e7 v1 ⟨xs, a, c, E7, rfl, pu⟩
                              obtain ⟨nx, hnx⟩ : ∃ k, k = xs.length := ⟨_, rfl⟩
                              have HPu := Lib.hid (puS_take pu hm (by have := HIn.out.1; omega))
                              rw [← hnx] at HPu
                              rw [← hnx]
                              have HXn := Lib.hid hnx
                              clear pu hnx
                              go_wp2_with fail
                              refine Calls.mono HPu.out ?_
                              rintro e8 v2 ⟨rfl, ao, no, co, ta⟩
                              have ta2 := ta.later (w' := v2.drew) (Below.refl _ _).drew
                              obtain ⟨fc1, fc2, fc3, fc4, fc5, fc6, fc7, fc8, os, fo, fno, fnl⟩ := ta2.facts hm
                              have HTa := Lib.hid ta2
                              have HOs := Lib.hid (And.intro fo fno)
                              have HTn : Hid (os.length + xs.length ≤ 1048576) := by
                                unfold Hid
                                rw [← fno]
                                exact fnl
                              have HlG : Hid (go < v2.drew.heap.size) := fc3
                              have HNw : Hid (N ≤ v2.drew.heap.size) := fc4
                              have HS : Hid (∀ Z : World, Z.heap[go]? = v2.drew.heap[go]? → Z.cell? ⟨go, m, none⟩ = some (.slice ao no co)) := fun Z z => by rw [cell_heap z]; exact fc1
                              have HFz : Hid (∀ Z : World, Z.heap[go]? = v2.drew.heap[go]? → Z.frozen? ⟨go, m, none⟩ = false) := fun Z z => by
                                have := fc2
                                simp only [World.frozen?] at this ⊢
                                rw [z]
                                exact this
                              have HgO : Hid (∀ X Z : World, X.grownBy Z (Value.slice ao no co).ownBlock → go < X.heap.size → Z.heap[go]? = X.heap[go]?) := fun X Z gz l => gz.block go l (fun z => (fc8 go z.symm).1 rfl)
                              have HrO : Hid (∀ Z : World, Below v2.drew.heap.size v2.drew Z → Z.ownsRow N 84 7 (.slice ao no co) os.length (evals os)) := fun Z b => row_same fo (fun k hk => b.block k (fc8 k hk).2)
                              have HCl : Hid (Calls Tryz.prog 14 #[.slice a nx c] v2.drew fun r W' => ∃ v zs, r = .returned v ∧ Cl v2.drew W' zs v ∧ zs.map EntD.dat = xs.map EntD.dat) := by
                                unfold Hid
                                rw [HXn.out]
                                exact cloneAll_any fc5 fc6 (by omega)
                              have hS := HS.out v2.drew rfl
                              clear ta ta2 fc1 fc2 fc3 fc4 fc5 fc6 fc7 fc8 fo fno fnl HPu
                              go_upto_region 43 with fail
                              refine wp_region_noPanic ?_
                              refine wp_region_anyE (S := fun Z => Z.cell? ⟨go, m, none⟩ = some (.slice ao no co)) (E := fun j => decide (j < 8)) (by kernel_rfl) ?_
                              refine anyE_gen (fun A0 hA0 => ?_)
                              have s0 : A0.tmps.size = 369 := by rw [hA0]; rfl
                              have v0_18 : Tv A0 18 (.pointer (some ⟨go, 0, none⟩)) := by rw [hA0]; rfl
                              have v0_20 : Tv A0 20 (.int .i64 (m : Int)) := by rw [hA0]; rfl
                              have v0_23 : Tv A0 23 (.slice a nx c) := by rw [hA0]; rfl
                              refine AnyE.tk (i := 0) (.int .i64 (m : Int)) rfl (by kernel_rfl) (fun _ _ _ h => h) (by rfl) (fun wq hq => op_move v0_20) hS ?_
                              refine anyE_gen (fun A1 hA1 => ?_)
                              have s1 := tz hA1 s0
                              have v1_18 := tn hA1 (by decide) v0_18
                              have v1_20 := tn hA1 (by decide) v0_20
                              have v1_23 := tn hA1 (by decide) v0_23
                              have v1_271 := te hA1 s0 (by decide)
                              refine AnyE.tk (i := 1) (.int .i64 (m : Int)) rfl (by kernel_rfl) (fun _ _ _ h => h) (by rfl) (fun wq hq => op_move v1_20) hS ?_
                              refine anyE_gen (fun A2 hA2 => ?_)
                              have s2 := tz hA2 s1
                              have v2_18 := tn hA2 (by decide) v1_18
                              have v2_23 := tn hA2 (by decide) v1_23
                              have v2_271 := tn hA2 (by decide) v1_271
                              have v2_272 := te hA2 s1 (by decide)
                              refine AnyE.tk (i := 2) (.pointer (some ⟨go, m, none⟩)) rfl (by kernel_rfl) (fun _ _ _ h => h) (by rfl) (fun wq hq => op_indexA v2_18 v2_272 hm) hS ?_
                              refine anyE_gen (fun A3 hA3 => ?_)
                              have s3 := tz hA3 s2
                              have v3_18 := tn hA3 (by decide) v2_18
                              have v3_23 := tn hA3 (by decide) v2_23
                              have v3_271 := tn hA3 (by decide) v2_271
                              have v3_273 := te hA3 s2 (by decide)
                              refine AnyE.tk (i := 3) (.slice ao no co) rfl (by kernel_rfl) (fun _ _ _ h => h) (by rfl) (fun wq hq => op_loadLi v3_273 hq) hS ?_
                              refine anyE_gen (fun A4 hA4 => ?_)
                              have s4 := tz hA4 s3
                              have v4_18 := tn hA4 (by decide) v3_18
                              have v4_23 := tn hA4 (by decide) v3_23
                              have v4_271 := tn hA4 (by decide) v3_271
                              have v4_274 := te hA4 s3 (by decide)
                              refine AnyE.tk (i := 4) (.slice a nx c) rfl (by kernel_rfl) (fun _ _ _ h => h) (by rfl) (fun wq hq => op_move v4_23) hS ?_
                              refine anyE_gen (fun A5 hA5 => ?_)
                              have s5 := tz hA5 s4
                              have v5_18 := tn hA5 (by decide) v4_18
                              have v5_271 := tn hA5 (by decide) v4_271
                              have v5_274 := tn hA5 (by decide) v4_274
                              have v5_275 := te hA5 s4 (by decide)
                              refine AnyE.one (i := 5) rfl (by kernel_rfl) (by rfl) (fun K5 hK5 => ?_)
                              refine wp_cloneAllA v5_275 HCl.out ?_
                              rintro r1 v3 ⟨vz, zs, rfl, cl3, hd3⟩
                              obtain ⟨a7, c7, rfl⟩ := rows_form3 cl3.row
                              obtain ⟨m7, hm7⟩ : ∃ k, k = zs.length := ⟨_, rfl⟩
                              refine ⟨_, rfl, ?_⟩
                              rw [← hm7]
                              have hS1 := HS.out v3 (cl3.below.block go HlG.out)
                              refine hK5.out _ _ ⟨fun _ => hS1, ?_⟩
                              clear hK5
                              refine anyE_gen (fun A6 hA6 => ?_)
                              have s6 := tz hA6 s5
                              have v6_18 := tn hA6 (by decide) v5_18
                              have v6_271 := tn hA6 (by decide) v5_271
                              have v6_274 := tn hA6 (by decide) v5_274
                              have v6_276 := te hA6 s5 (by decide)
                              refine AnyE.one (i := 6) rfl (by kernel_rfl) (by rfl) (fun K6 hK6 => ?_)
                              refine wp_append_ents (xs := os) (ys := zs) (C := v2.drew.heap.size) (.tmp 274) (.tmp 276) rfl (ev_tmp v6_274) (HrO.out v3 cl3.below) (ev_tmp v6_276) (by rw [hm7]; exact cl3.row) cl3.ents (by have q1 := congrArg List.length hd3; rw [List.length_map, List.length_map] at q1; have := HTn.out; omega) (Nat.le_trans HNw.out cl3.below.size) ?_
                              intro a8 n8 c8 v4 en hr4 g4 lo4
                              have hz2 := (HgO.out _ v4 g4 (Nat.lt_of_lt_of_le HlG.out cl3.below.size)).trans (cl3.below.block go HlG.out)
                              have hS2 := HS.out v4 hz2
                              have hfz2 : v4.frozen? ⟨go, m, none⟩ = false := HFz.out v4 hz2
                              refine hK6.out _ _ ⟨fun _ => hS2, ?_⟩
                              clear hK6
                              refine anyE_gen (fun A7 hA7 => ?_)
                              have s7 := tz hA7 s6
                              have v7_18 := tn hA7 (by decide) v6_18
                              have v7_271 := tn hA7 (by decide) v6_271
                              have v7_277 := te hA7 s6 (by decide)
                              refine AnyE.one (i := 7) rfl (by kernel_rfl) (by rfl) (fun K7 hK7 => ?_)
                              refine wp_indexA v7_18 v7_271 hm ?_
                              refine hK7.out _ _ ⟨fun _ => hS2, ?_⟩
                              clear hK7
                              refine anyE_gen (fun A8 hA8 => ?_)
                              have s8 := tz hA8 s7
                              have v8_277 := tn hA8 (by decide) v7_277
                              have v8_278 := te hA8 s7 (by decide)
                              refine AnyE.one (i := 8) rfl (by kernel_rfl) (by rfl) (fun K8 hK8 => ?_)
                              refine wp_storeLi hS2 hfz2 v8_278 v8_277 ?_
                              refine hK8.out _ _ ⟨fun h => (by cases h), ?_⟩
                              clear hK8
                              refine AnyE.done (by kernel_rfl) (NoPanic.normal ?_) _
                              clear s0 v0_18 v0_20 v0_23 s1 v1_18 v1_20 v1_23 v1_271 s2 v2_18 v2_23 v2_271 v2_272 s3 v3_18 v3_23 v3_271 v3_273 s4 v4_18 v4_23 v4_271 v4_274 s5 v5_18 v5_271 v5_274 v5_275 s6 v6_18 v6_271 v6_274 v6_276 s7 v7_18 v7_271 v7_277 s8 v8_277 v8_278
                              subst hA8 hA7 hA6 hA5 hA4 hA3 hA2 hA1 hA0
                              have HFin := Lib.hid (TaS.app HTa.out hm HOs.out.1 HOs.out.2 cl3 hd3 en hr4 g4 lo4)
                              obtain ⟨Wn, hWn⟩ : ∃ Y, Y = v4.setCell ⟨go, m, none⟩ (.slice a8 n8 c8) := ⟨_, rfl⟩
                              rw [← hWn] at HFin ⊢
                              clear hWn hS hS1 hS2 g4 hr4 lo4 en hm7 hfz2 HS HFz HgO HrO HCl HNw HlG cl3 hd3 hz2 HTa HOs HTn
                              go_simp
                              go_wp2
                              go_roundw
                              case rel => exact ⟨m + 1, by omega, by go_num, HFin⟩
                              case measure => simp only [intOf]; omega
                    · as_aux_lemma =>
                        have hk1 : ((m : Int) == 1) = false := by simp [hc]
                        have hk3 : ((m : Int) == 3) = true := by simp [hc]
                        have hl2 : ¬ (m : Int) < 2 := by omega
                        have hg2 : (2 : Int) ≤ (m : Int) := by omega
                        rcases HMm.out.ptr hm with hp | ⟨rb, hp⟩
                        · as_aux_lemma =>
                            have hpk : pq = none := by
                              rw [hc] at hp
                              exact hp
                            have HSk := Lib.hid (HMm.out.skip hm hp)
                            clear hp hc
                            subst hpk
                            go_wp2
                            go_roundw
                            case rel => exact ⟨m + 1, by omega, by go_num, HSk⟩
                            case measure => simp only [intOf]; omega
                        · have hpk : pq = some ⟨rb, 0, none⟩ := by
                            rw [hc] at hp
                            exact hp
                          have hE : ER = 0 := HPs.out.2.2.2 (by rw [hpk]; simp)
                          have HKd := Lib.hid (HKr.out hE)
                          have hmk : (m < 2) = False := by simp [hc]
                          have HMp := Lib.hid (And.intro hp hmk)
                          clear hp hc hE hmk
                          by_cases hqe : q = ni
                          · as_aux_lemma =>
                              have hqe2 : ((q : Int) == (ni : Int)) = true := by simp [hqe]
                              have HEn := Lib.hid (HMm.out.endR HKd.out.1 HKd.out.2 hm HMp.out.2 HMp.out.1 (by rw [hqe]; exact HIn.out.2.1) (by rw [← HIn.out.2.1]; exact HIn.out.1))
                              clear hqe
                              subst hpk
                              go_wp2_with fail
                              refine Calls.mono HEn.out ?_
                              rintro e7 v1 ⟨xs, a, c, rfl, pu⟩
                              obtain ⟨nx, hnx⟩ : ∃ k, k = xs.length := ⟨_, rfl⟩
                              have HPu := Lib.hid (puS_take pu hm (by have := HIn.out.1; omega))
                              rw [← hnx] at HPu
                              rw [← hnx]
                              have HXn := Lib.hid hnx
                              clear pu hnx
                              go_wp2_with fail
                              refine Calls.mono HPu.out ?_
                              rintro e8 v2 ⟨rfl, ao, no, co, ta⟩
                              have ta2 := ta.later (w' := v2.drew) (Below.refl _ _).drew
                              obtain ⟨fc1, fc2, fc3, fc4, fc5, fc6, fc7, fc8, os, fo, fno, fnl⟩ := ta2.facts hm
                              have HTa := Lib.hid ta2
                              have HOs := Lib.hid (And.intro fo fno)
                              have HTn : Hid (os.length + xs.length ≤ 1048576) := by
                                unfold Hid
                                rw [← fno]
                                exact fnl
                              have HlG : Hid (go < v2.drew.heap.size) := fc3
                              have HNw : Hid (N ≤ v2.drew.heap.size) := fc4
                              have HS : Hid (∀ Z : World, Z.heap[go]? = v2.drew.heap[go]? → Z.cell? ⟨go, m, none⟩ = some (.slice ao no co)) := fun Z z => by rw [cell_heap z]; exact fc1
                              have HFz : Hid (∀ Z : World, Z.heap[go]? = v2.drew.heap[go]? → Z.frozen? ⟨go, m, none⟩ = false) := fun Z z => by
                                have := fc2
                                simp only [World.frozen?] at this ⊢
                                rw [z]
                                exact this
                              have HgO : Hid (∀ X Z : World, X.grownBy Z (Value.slice ao no co).ownBlock → go < X.heap.size → Z.heap[go]? = X.heap[go]?) := fun X Z gz l => gz.block go l (fun z => (fc8 go z.symm).1 rfl)
                              have HrO : Hid (∀ Z : World, Below v2.drew.heap.size v2.drew Z → Z.ownsRow N 84 7 (.slice ao no co) os.length (evals os)) := fun Z b => row_same fo (fun k hk => b.block k (fc8 k hk).2)
                              have HCl : Hid (Calls Tryz.prog 14 #[.slice a nx c] v2.drew fun r W' => ∃ v zs, r = .returned v ∧ Cl v2.drew W' zs v ∧ zs.map EntD.dat = xs.map EntD.dat) := by
                                unfold Hid
                                rw [HXn.out]
                                exact cloneAll_any fc5 fc6 (by omega)
                              have hS := HS.out v2.drew rfl
                              clear ta ta2 fc1 fc2 fc3 fc4 fc5 fc6 fc7 fc8 fo fno fnl HPu
                              go_upto_region 43 with fail
                              refine wp_region_noPanic ?_
                              refine wp_region_anyE (S := fun Z => Z.cell? ⟨go, m, none⟩ = some (.slice ao no co)) (E := fun j => decide (j < 8)) (by kernel_rfl) ?_
                              refine anyE_gen (fun A0 hA0 => ?_)
                              have s0 : A0.tmps.size = 369 := by rw [hA0]; rfl
                              have v0_18 : Tv A0 18 (.pointer (some ⟨go, 0, none⟩)) := by rw [hA0]; rfl
                              have v0_20 : Tv A0 20 (.int .i64 (m : Int)) := by rw [hA0]; rfl
                              have v0_23 : Tv A0 23 (.slice a nx c) := by rw [hA0]; rfl
                              refine AnyE.tk (i := 0) (.int .i64 (m : Int)) rfl (by kernel_rfl) (fun _ _ _ h => h) (by rfl) (fun wq hq => op_move v0_20) hS ?_
                              refine anyE_gen (fun A1 hA1 => ?_)
                              have s1 := tz hA1 s0
                              have v1_18 := tn hA1 (by decide) v0_18
                              have v1_20 := tn hA1 (by decide) v0_20
                              have v1_23 := tn hA1 (by decide) v0_23
                              have v1_271 := te hA1 s0 (by decide)
                              refine AnyE.tk (i := 1) (.int .i64 (m : Int)) rfl (by kernel_rfl) (fun _ _ _ h => h) (by rfl) (fun wq hq => op_move v1_20) hS ?_
                              refine anyE_gen (fun A2 hA2 => ?_)
                              have s2 := tz hA2 s1
                              have v2_18 := tn hA2 (by decide) v1_18
                              have v2_23 := tn hA2 (by decide) v1_23
                              have v2_271 := tn hA2 (by decide) v1_271
                              have v2_272 := te hA2 s1 (by decide)
                              refine AnyE.tk (i := 2) (.pointer (some ⟨go, m, none⟩)) rfl (by kernel_rfl) (fun _ _ _ h => h) (by rfl) (fun wq hq => op_indexA v2_18 v2_272 hm) hS ?_
                              refine anyE_gen (fun A3 hA3 => ?_)
                              have s3 := tz hA3 s2
                              have v3_18 := tn hA3 (by decide) v2_18
                              have v3_23 := tn hA3 (by decide) v2_23
                              have v3_271 := tn hA3 (by decide) v2_271
                              have v3_273 := te hA3 s2 (by decide)
                              refine AnyE.tk (i := 3) (.slice ao no co) rfl (by kernel_rfl) (fun _ _ _ h => h) (by rfl) (fun wq hq => op_loadLi v3_273 hq) hS ?_
                              refine anyE_gen (fun A4 hA4 => ?_)
                              have s4 := tz hA4 s3
                              have v4_18 := tn hA4 (by decide) v3_18
                              have v4_23 := tn hA4 (by decide) v3_23
                              have v4_271 := tn hA4 (by decide) v3_271
                              have v4_274 := te hA4 s3 (by decide)
                              refine AnyE.tk (i := 4) (.slice a nx c) rfl (by kernel_rfl) (fun _ _ _ h => h) (by rfl) (fun wq hq => op_move v4_23) hS ?_
                              refine anyE_gen (fun A5 hA5 => ?_)
                              have s5 := tz hA5 s4
                              have v5_18 := tn hA5 (by decide) v4_18
                              have v5_271 := tn hA5 (by decide) v4_271
                              have v5_274 := tn hA5 (by decide) v4_274
                              have v5_275 := te hA5 s4 (by decide)
                              refine AnyE.one (i := 5) rfl (by kernel_rfl) (by rfl) (fun K5 hK5 => ?_)
                              refine wp_cloneAllA v5_275 HCl.out ?_
                              rintro r1 v3 ⟨vz, zs, rfl, cl3, hd3⟩
                              obtain ⟨a7, c7, rfl⟩ := rows_form3 cl3.row
                              obtain ⟨m7, hm7⟩ : ∃ k, k = zs.length := ⟨_, rfl⟩
                              refine ⟨_, rfl, ?_⟩
                              rw [← hm7]
                              have hS1 := HS.out v3 (cl3.below.block go HlG.out)
                              refine hK5.out _ _ ⟨fun _ => hS1, ?_⟩
                              clear hK5
                              refine anyE_gen (fun A6 hA6 => ?_)
                              have s6 := tz hA6 s5
                              have v6_18 := tn hA6 (by decide) v5_18
                              have v6_271 := tn hA6 (by decide) v5_271
                              have v6_274 := tn hA6 (by decide) v5_274
                              have v6_276 := te hA6 s5 (by decide)
                              refine AnyE.one (i := 6) rfl (by kernel_rfl) (by rfl) (fun K6 hK6 => ?_)
                              refine wp_append_ents (xs := os) (ys := zs) (C := v2.drew.heap.size) (.tmp 274) (.tmp 276) rfl (ev_tmp v6_274) (HrO.out v3 cl3.below) (ev_tmp v6_276) (by rw [hm7]; exact cl3.row) cl3.ents (by have q1 := congrArg List.length hd3; rw [List.length_map, List.length_map] at q1; have := HTn.out; omega) (Nat.le_trans HNw.out cl3.below.size) ?_
                              intro a8 n8 c8 v4 en hr4 g4 lo4
                              have hz2 := (HgO.out _ v4 g4 (Nat.lt_of_lt_of_le HlG.out cl3.below.size)).trans (cl3.below.block go HlG.out)
                              have hS2 := HS.out v4 hz2
                              have hfz2 : v4.frozen? ⟨go, m, none⟩ = false := HFz.out v4 hz2
                              refine hK6.out _ _ ⟨fun _ => hS2, ?_⟩
                              clear hK6
                              refine anyE_gen (fun A7 hA7 => ?_)
                              have s7 := tz hA7 s6
                              have v7_18 := tn hA7 (by decide) v6_18
                              have v7_271 := tn hA7 (by decide) v6_271
                              have v7_277 := te hA7 s6 (by decide)
                              refine AnyE.one (i := 7) rfl (by kernel_rfl) (by rfl) (fun K7 hK7 => ?_)
                              refine wp_indexA v7_18 v7_271 hm ?_
                              refine hK7.out _ _ ⟨fun _ => hS2, ?_⟩
                              clear hK7
                              refine anyE_gen (fun A8 hA8 => ?_)
                              have s8 := tz hA8 s7
                              have v8_277 := tn hA8 (by decide) v7_277
                              have v8_278 := te hA8 s7 (by decide)
                              refine AnyE.one (i := 8) rfl (by kernel_rfl) (by rfl) (fun K8 hK8 => ?_)
                              refine wp_storeLi hS2 hfz2 v8_278 v8_277 ?_
                              refine hK8.out _ _ ⟨fun h => (by cases h), ?_⟩
                              clear hK8
                              refine AnyE.done (by kernel_rfl) (NoPanic.normal ?_) _
                              clear s0 v0_18 v0_20 v0_23 s1 v1_18 v1_20 v1_23 v1_271 s2 v2_18 v2_23 v2_271 v2_272 s3 v3_18 v3_23 v3_271 v3_273 s4 v4_18 v4_23 v4_271 v4_274 s5 v5_18 v5_271 v5_274 v5_275 s6 v6_18 v6_271 v6_274 v6_276 s7 v7_18 v7_271 v7_277 s8 v8_277 v8_278
                              subst hA8 hA7 hA6 hA5 hA4 hA3 hA2 hA1 hA0
                              have HFin := Lib.hid (TaS.app HTa.out hm HOs.out.1 HOs.out.2 cl3 hd3 en hr4 g4 lo4)
                              obtain ⟨Wn, hWn⟩ : ∃ Y, Y = v4.setCell ⟨go, m, none⟩ (.slice a8 n8 c8) := ⟨_, rfl⟩
                              rw [← hWn] at HFin ⊢
                              clear hWn hS hS1 hS2 g4 hr4 lo4 en hm7 hfz2 HS HFz HgO HrO HCl HNw HlG cl3 hd3 hz2 HTa HOs HTn
                              go_simp
                              go_wp2
                              go_roundw
                              case rel => exact ⟨m + 1, by omega, by go_num, HFin⟩
                              case measure => simp only [intOf]; omega
                          · as_aux_lemma =>
                              have hqe2 : ((q : Int) == (ni : Int)) = false := by simp; omega
                              have hqlt : q < ni := by omega
                              have hqlt2 : (q : Int) < (ni : Int) := by omega
                              obtain ⟨gi, x, eai, hx, hix, smx, okx, hcx⟩ := HMm.out.ent (by rw [← HIn.out.2.2.1]; exact hqlt)
                              subst eai
                              have g0 := hcx 0 _ rfl
                              have g1 := hcx 1 _ rfl
                              have g2 := hcx 2 _ rfl
                              have g3 := hcx 3 _ rfl
                              have g4' := hcx 4 _ rfl
                              have g5 := hcx 5 _ rfl
                              have g6 := hcx 6 _ rfl
                              rw [Nat.add_zero] at g0
                              have HCn := Lib.hid (cloneR_own okx smx.shr)
                              have HX := Lib.hid (And.intro hix smx)
                              clear hcx hx hix smx okx hqe
                              subst hpk
                              go_wp2_with fail
                              refine Calls.mono HCn.out ?_
                              rintro e6 v0 ⟨y, rfl, sme, -, o3, b0⟩
                              have HPs' := Lib.hid ((HMm.out.later b0).pushR (w0 := U) (e := y) HKd.out.1 HKd.out.2 hm HMp.out.2 HMp.out.1 (by rw [← HIn.out.2.1]; exact hqlt) (by rw [← HIn.out.2.1]; exact HIn.out.1) HIn.out.2.2.2 o3 (Nat.le_refl _) HMm.out b0 (by rw [EntD.dat_same.2 sme]; exact HX.out.1) (by rw [EntD.dat_same.2 sme]; exact HX.out.2))
                              clear sme o3 b0 g0 g1 g2 g3 g4' g5 g6 HCn
                              go_wp2_with fail
                              refine Calls.mono HPs'.out ?_
                              rintro e7 v1 ⟨xs, a, c, E7, rfl, pu⟩
                              obtain ⟨nx, hnx⟩ : ∃ k, k = xs.length := ⟨_, rfl⟩
                              have HPu := Lib.hid (puS_take pu hm (by have := HIn.out.1; omega))
                              rw [← hnx] at HPu
                              rw [← hnx]
                              have HXn := Lib.hid hnx
                              clear pu hnx
                              go_wp2_with fail
                              refine Calls.mono HPu.out ?_
                              rintro e8 v2 ⟨rfl, ao, no, co, ta⟩
                              have ta2 := ta.later (w' := v2.drew) (Below.refl _ _).drew
                              obtain ⟨fc1, fc2, fc3, fc4, fc5, fc6, fc7, fc8, os, fo, fno, fnl⟩ := ta2.facts hm
                              have HTa := Lib.hid ta2
                              have HOs := Lib.hid (And.intro fo fno)
                              have HTn : Hid (os.length + xs.length ≤ 1048576) := by
                                unfold Hid
                                rw [← fno]
                                exact fnl
                              have HlG : Hid (go < v2.drew.heap.size) := fc3
                              have HNw : Hid (N ≤ v2.drew.heap.size) := fc4
                              have HS : Hid (∀ Z : World, Z.heap[go]? = v2.drew.heap[go]? → Z.cell? ⟨go, m, none⟩ = some (.slice ao no co)) := fun Z z => by rw [cell_heap z]; exact fc1
                              have HFz : Hid (∀ Z : World, Z.heap[go]? = v2.drew.heap[go]? → Z.frozen? ⟨go, m, none⟩ = false) := fun Z z => by
                                have := fc2
                                simp only [World.frozen?] at this ⊢
                                rw [z]
                                exact this
                              have HgO : Hid (∀ X Z : World, X.grownBy Z (Value.slice ao no co).ownBlock → go < X.heap.size → Z.heap[go]? = X.heap[go]?) := fun X Z gz l => gz.block go l (fun z => (fc8 go z.symm).1 rfl)
                              have HrO : Hid (∀ Z : World, Below v2.drew.heap.size v2.drew Z → Z.ownsRow N 84 7 (.slice ao no co) os.length (evals os)) := fun Z b => row_same fo (fun k hk => b.block k (fc8 k hk).2)
                              have HCl : Hid (Calls Tryz.prog 14 #[.slice a nx c] v2.drew fun r W' => ∃ v zs, r = .returned v ∧ Cl v2.drew W' zs v ∧ zs.map EntD.dat = xs.map EntD.dat) := by
                                unfold Hid
                                rw [HXn.out]
                                exact cloneAll_any fc5 fc6 (by omega)
                              have hS := HS.out v2.drew rfl
                              clear ta ta2 fc1 fc2 fc3 fc4 fc5 fc6 fc7 fc8 fo fno fnl HPu
                              go_upto_region 43 with fail
                              refine wp_region_noPanic ?_
                              refine wp_region_anyE (S := fun Z => Z.cell? ⟨go, m, none⟩ = some (.slice ao no co)) (E := fun j => decide (j < 8)) (by kernel_rfl) ?_
                              refine anyE_gen (fun A0 hA0 => ?_)
                              have s0 : A0.tmps.size = 369 := by rw [hA0]; rfl
                              have v0_18 : Tv A0 18 (.pointer (some ⟨go, 0, none⟩)) := by rw [hA0]; rfl
                              have v0_20 : Tv A0 20 (.int .i64 (m : Int)) := by rw [hA0]; rfl
                              have v0_23 : Tv A0 23 (.slice a nx c) := by rw [hA0]; rfl
                              refine AnyE.tk (i := 0) (.int .i64 (m : Int)) rfl (by kernel_rfl) (fun _ _ _ h => h) (by rfl) (fun wq hq => op_move v0_20) hS ?_
                              refine anyE_gen (fun A1 hA1 => ?_)
                              have s1 := tz hA1 s0
                              have v1_18 := tn hA1 (by decide) v0_18
                              have v1_20 := tn hA1 (by decide) v0_20
                              have v1_23 := tn hA1 (by decide) v0_23
                              have v1_271 := te hA1 s0 (by decide)
                              refine AnyE.tk (i := 1) (.int .i64 (m : Int)) rfl (by kernel_rfl) (fun _ _ _ h => h) (by rfl) (fun wq hq => op_move v1_20) hS ?_
                              refine anyE_gen (fun A2 hA2 => ?_)
                              have s2 := tz hA2 s1
                              have v2_18 := tn hA2 (by decide) v1_18
                              have v2_23 := tn hA2 (by decide) v1_23
                              have v2_271 := tn hA2 (by decide) v1_271
                              have v2_272 := te hA2 s1 (by decide)
                              refine AnyE.tk (i := 2) (.pointer (some ⟨go, m, none⟩)) rfl (by kernel_rfl) (fun _ _ _ h => h) (by rfl) (fun wq hq => op_indexA v2_18 v2_272 hm) hS ?_
                              refine anyE_gen (fun A3 hA3 => ?_)
                              have s3 := tz hA3 s2
                              have v3_18 := tn hA3 (by decide) v2_18
                              have v3_23 := tn hA3 (by decide) v2_23
                              have v3_271 := tn hA3 (by decide) v2_271
                              have v3_273 := te hA3 s2 (by decide)
                              refine AnyE.tk (i := 3) (.slice ao no co) rfl (by kernel_rfl) (fun _ _ _ h => h) (by rfl) (fun wq hq => op_loadLi v3_273 hq) hS ?_
                              refine anyE_gen (fun A4 hA4 => ?_)
                              have s4 := tz hA4 s3
                              have v4_18 := tn hA4 (by decide) v3_18
                              have v4_23 := tn hA4 (by decide) v3_23
                              have v4_271 := tn hA4 (by decide) v3_271
                              have v4_274 := te hA4 s3 (by decide)
                              refine AnyE.tk (i := 4) (.slice a nx c) rfl (by kernel_rfl) (fun _ _ _ h => h) (by rfl) (fun wq hq => op_move v4_23) hS ?_
                              refine anyE_gen (fun A5 hA5 => ?_)
                              have s5 := tz hA5 s4
                              have v5_18 := tn hA5 (by decide) v4_18
                              have v5_271 := tn hA5 (by decide) v4_271
                              have v5_274 := tn hA5 (by decide) v4_274
                              have v5_275 := te hA5 s4 (by decide)
                              refine AnyE.one (i := 5) rfl (by kernel_rfl) (by rfl) (fun K5 hK5 => ?_)
                              refine wp_cloneAllA v5_275 HCl.out ?_
                              rintro r1 v3 ⟨vz, zs, rfl, cl3, hd3⟩
                              obtain ⟨a7, c7, rfl⟩ := rows_form3 cl3.row
                              obtain ⟨m7, hm7⟩ : ∃ k, k = zs.length := ⟨_, rfl⟩
                              refine ⟨_, rfl, ?_⟩
                              rw [← hm7]
                              have hS1 := HS.out v3 (cl3.below.block go HlG.out)
                              refine hK5.out _ _ ⟨fun _ => hS1, ?_⟩
                              clear hK5
                              refine anyE_gen (fun A6 hA6 => ?_)
                              have s6 := tz hA6 s5
                              have v6_18 := tn hA6 (by decide) v5_18
                              have v6_271 := tn hA6 (by decide) v5_271
                              have v6_274 := tn hA6 (by decide) v5_274
                              have v6_276 := te hA6 s5 (by decide)
                              refine AnyE.one (i := 6) rfl (by kernel_rfl) (by rfl) (fun K6 hK6 => ?_)
                              refine wp_append_ents (xs := os) (ys := zs) (C := v2.drew.heap.size) (.tmp 274) (.tmp 276) rfl (ev_tmp v6_274) (HrO.out v3 cl3.below) (ev_tmp v6_276) (by rw [hm7]; exact cl3.row) cl3.ents (by have q1 := congrArg List.length hd3; rw [List.length_map, List.length_map] at q1; have := HTn.out; omega) (Nat.le_trans HNw.out cl3.below.size) ?_
                              intro a8 n8 c8 v4 en hr4 g4 lo4
                              have hz2 := (HgO.out _ v4 g4 (Nat.lt_of_lt_of_le HlG.out cl3.below.size)).trans (cl3.below.block go HlG.out)
                              have hS2 := HS.out v4 hz2
                              have hfz2 : v4.frozen? ⟨go, m, none⟩ = false := HFz.out v4 hz2
                              refine hK6.out _ _ ⟨fun _ => hS2, ?_⟩
                              clear hK6
                              refine anyE_gen (fun A7 hA7 => ?_)
                              have s7 := tz hA7 s6
                              have v7_18 := tn hA7 (by decide) v6_18
                              have v7_271 := tn hA7 (by decide) v6_271
                              have v7_277 := te hA7 s6 (by decide)
                              refine AnyE.one (i := 7) rfl (by kernel_rfl) (by rfl) (fun K7 hK7 => ?_)
                              refine wp_indexA v7_18 v7_271 hm ?_
                              refine hK7.out _ _ ⟨fun _ => hS2, ?_⟩
                              clear hK7
                              refine anyE_gen (fun A8 hA8 => ?_)
                              have s8 := tz hA8 s7
                              have v8_277 := tn hA8 (by decide) v7_277
                              have v8_278 := te hA8 s7 (by decide)
                              refine AnyE.one (i := 8) rfl (by kernel_rfl) (by rfl) (fun K8 hK8 => ?_)
                              refine wp_storeLi hS2 hfz2 v8_278 v8_277 ?_
                              refine hK8.out _ _ ⟨fun h => (by cases h), ?_⟩
                              clear hK8
                              refine AnyE.done (by kernel_rfl) (NoPanic.normal ?_) _
                              clear s0 v0_18 v0_20 v0_23 s1 v1_18 v1_20 v1_23 v1_271 s2 v2_18 v2_23 v2_271 v2_272 s3 v3_18 v3_23 v3_271 v3_273 s4 v4_18 v4_23 v4_271 v4_274 s5 v5_18 v5_271 v5_274 v5_275 s6 v6_18 v6_271 v6_274 v6_276 s7 v7_18 v7_271 v7_277 s8 v8_277 v8_278
                              subst hA8 hA7 hA6 hA5 hA4 hA3 hA2 hA1 hA0
                              have HFin := Lib.hid (TaS.app HTa.out hm HOs.out.1 HOs.out.2 cl3 hd3 en hr4 g4 lo4)
                              obtain ⟨Wn, hWn⟩ : ∃ Y, Y = v4.setCell ⟨go, m, none⟩ (.slice a8 n8 c8) := ⟨_, rfl⟩
                              rw [← hWn] at HFin ⊢
                              clear hWn hS hS1 hS2 g4 hr4 lo4 en hm7 hfz2 HS HFz HgO HrO HCl HNw HlG cl3 hd3 hz2 HTa HOs HTn
                              go_simp
                              go_wp2
                              go_roundw
                              case rel => exact ⟨m + 1, by omega, by go_num, HFin⟩
                              case measure => simp only [intOf]; omega
                  · as_aux_lemma =>
                      have hm2 : ¬ (m : Int) < 4 := by omega
                      have hm5 : m = 4 := by omega
                      have HM5 : Hid (MrS U X0 N g go OF OR fs clock ins Ds ai ci zi Fi (quad pf pg pr pq) (q + 1) 0) := by
                        have := HMm.out
                        rw [hm5] at this
                        exact this.next
                      clear hm5
                      go_wp2
                      go_roundw
                      case rel => exact ⟨q + 1, by omega, by go_num, HM5⟩
                      case measure => simp only [intOf]; omega
            · as_aux_lemma =>
                have hqn2 : ¬ (q : Int) ≤ (ni : Int) := by omega
                have hqe : q = ins.length + 1 := by
                  have := HIn.out.2.1
                  omega
                obtain ⟨Dy, nY, PY, a0, n0, c0, a1, n1, c1, a2, n2, c2, a3, n3, c3, z0, z1, z2, z3, kpY, hNY, blY, ⟨Dx, hDx⟩, hDl, hnY, hbx, ⟨x0, x1, x2, x3⟩, ⟨r0, r1, r2, r3⟩, d01, d23, l0, l2⟩ := MrS.fin (by have := HM.out; rw [hqe] at this; exact this) HPn.out.1 HPn.out.2 (by rw [← HIn.out.2.1]; exact HIn.out.1)
                have HKY := Lib.hid kpY
                have HYf : Hid (N ≤ Y.heap.size ∧ Dy = Ds ++ Dx ∧ Dy.length ≤ 5000000 ∧ nY ≤ 100000000) := ⟨hNY, hDx, hDl, hnY⟩
                have HBY : Hid (Below X0.heap.size X0 Y) := by
                  rw [HNx.out] at blY
                  exact blY
                have HCo : Hid (∀ Z, Below Y.heap.size Y Z → Z.cell? ⟨go, 0, none⟩ = some (.slice a0 n0 c0) ∧ Z.cell? ⟨go, 1, none⟩ = some (.slice a1 n1 c1) ∧ Z.cell? ⟨go, 2, none⟩ = some (.slice a2 n2 c2) ∧ Z.cell? ⟨go, 3, none⟩ = some (.slice a3 n3 c3)) := fun Z b => by
                  have hz := (b.block go (Array.getElem?_eq_some_iff.1 hbx).1).trans hbx
                  simp [World.cell?, hz]
                have HS01 : Hid (∀ Z, Below Y.heap.size Y Z → Calls Tryz.prog 18 #[.slice a0 n0 c0, .slice a1 n1 c1] Z fun e w' => e = .returned (.bool true) ∧ Below Z.heap.size Z w') := fun Z b => by
                  rw [x0, x1]
                  exact sameAll_ok (r0.later b) (r1.later b) d01 (by omega)
                have HS23 : Hid (∀ Z, Below Y.heap.size Y Z → Calls Tryz.prog 18 #[.slice a2 n2 c2, .slice a3 n3 c3] Z fun e w' => e = .returned (.bool true) ∧ Below Z.heap.size Z w') := fun Z b => by
                  rw [x2, x3]
                  exact sameAll_ok (r2.later b) (r3.later b) d23 (by omega)
                obtain ⟨q0', q1', q2', q3'⟩ := HCo.out Y (Below.refl _ _)
                clear hqe kpY hNY blY hDx hDl hnY hbx x0 x1 x2 x3 r0 r1 r2 r3 d01 d23 l0 l2 HM
                go_wp2_with fail
                refine Calls.mono (HS01.out _ (Below.refl _ _)) ?_
                rintro e1 v1 ⟨rfl, b1⟩
                have B1 := Lib.hid b1
                clear b1 q0' q1' q2' q3'
                obtain ⟨q0', q1', q2', q3'⟩ := HCo.out v1 B1.out
                go_wp2_with fail
                refine Calls.mono (HS23.out _ B1.out) ?_
                rintro e2 v2 ⟨rfl, b2⟩
                have B2 := Lib.hid (B1.out.trans (b2.mono B1.out.size))
                clear b2 q0' q1' q2' q3'
                go_wp2_with fail
                refine Calls.mono (untouched_any (HKY.out.later B2.out) (by have := HYf.out.2.2.1; omega)) ?_
                rintro e3 v3 ⟨rfl, b3⟩
                have B3 := Lib.hid (B2.out.trans (b3.mono B2.out.size))
                have HK3 := Lib.hid (HKY.out.later B3.out)
                clear b3
                go_wp2_with fail
                refine Calls.mono (kpt_spoils HK3.out (Nat.le_trans HYf.out.1 B3.out.size) (by have := HYf.out.2.2.2; omega) (by have := HYf.out.2.2.1; omega)) ?_
                rintro e4 v4 ⟨rfl, ks, sp4⟩
                have HKs := Lib.hid ks
                have HB4 : Hid (Below X0.heap.size X0 v4) := (HBY.out.trans (B3.out.mono HBY.out.size)).trans (by
                  have := sp4.far2 (fun k hk => (HK3.out.lt k hk).1) (Nat.le_trans HYf.out.1 B3.out.size)
                  rw [HNx.out] at this
                  exact this)
                clear ks sp4
                go_wp2_with fail
                refine Calls.mono (kps_stands HKs.out) ?_
                rintro e5 v5 ⟨rfl, rfl⟩
                obtain ⟨g2, hg2⟩ : ∃ k, k = v5.heap.size := ⟨_, rfl⟩
                obtain ⟨X8, hX8⟩ : ∃ Y, Y = v5.alloc (.cells #[.slice none 0 0, .slice none 0 0, .slice none 0 0, .slice none 0 0, .slice none 0 0, .slice none 0 0] 71) := ⟨_, rfl⟩
                have A8 : Below v5.heap.size v5 X8 := by rw [hX8]; exact (Below.refl _ _).alloc (Nat.le_refl _) _
                have HKA : Hid (Kpt X8 N g2 [] 0 (fun k => k = g2)) := by
                  unfold Hid
                  rw [hX8, hg2]
                  exact kpt_new (by rw [HNx.out]; exact HB4.out.size)
                have HB8 : Hid (Below X0.heap.size X0 X8) := HB4.out.trans (A8.mono HB4.out.size)
                have HKs8 := Lib.hid (HKs.out.later A8)
                have HPl : Hid (∀ k, PY k ∨ (v3.heap.size ≤ k ∧ k < v5.heap.size) → k < g2) := fun k hk => by rw [hg2]; exact (HKs.out.lt k hk).2
                have HG2 := Lib.hid hg2
                have HX8 := Lib.hid hX8
                have HCa2 := Lib.hid (HCA.out g2)
                have HCb2 := Lib.hid (HCB.out g2)
                obtain ⟨q0', q1', q2', q3', q4', q5', q6'⟩ := HBx.out _ HB8.out
                rw [hX8] at q0' q1' q2' q3' q4' q5' q6'
                clear hg2 hX8 A8
                go_wp2_with fail
                rw [← HX8.out, ← HG2.out]
                clear q0' q1' q2' q3' q4' q5' q6' HX8
                refine Calls.mono (HCa2.out _ _ _ _ HB8.out HKA.out (Nat.zero_le _) (Nat.zero_le _)) ?_
                rintro e6 v6 ⟨rfl, P6', n6', k6, hb6, hp6, sp6⟩
                have HK6' : Hid (Kpt v6 N g2 ([] ++ FL) n6' P6') := k6
                have HB6v : Hid (Below X0.heap.size X0 v6) := HB8.out.trans (by
                  have := sp6.far2 (fun k hk => (HKA.out.lt k hk).1) (by rw [HNx.out]; exact HB8.out.size)
                  rw [HNx.out] at this
                  exact this)
                have HKs6 := Lib.hid (HKs8.out.keep (fun i hi => sp6.block i (HKs8.out.lt i hi).2 (fun z => by have := HPl.out i hi; omega)) sp6.size)
                have HP6 : Hid ((∀ k, P6' k → g2 ≤ k) ∧ n6' ≤ 15728640) := ⟨fun k hk => by
                  rcases hp6 k hk with z | z
                  · omega
                  · have := HKs8.out.lt
                    have := (HKA.out.lt g2 rfl).2
                    omega, by omega⟩
                obtain ⟨q0', q1', q2', q3', q4', q5', q6'⟩ := HBx.out _ HB6v.out
                clear k6 hb6 hp6 sp6
                go_wp2_with fail
                clear q0' q1' q2' q3' q4' q5' q6'
                refine Calls.mono (HCb2.out _ _ _ _ HB6v.out HK6'.out (by have := HFn.out; simp only [List.length_append, List.length_nil]; omega) (by have := HP6.out.2; omega)) ?_
                rintro e7 v7 ⟨rfl, P7', n7', k7, hb7, hp7, sp7⟩
                have HK7 : Hid (Kpt v7 N g2 (([] ++ FL) ++ FM) n7' P7') := k7
                have HB7 : Hid (Below X0.heap.size X0 v7) := HB6v.out.trans (by
                  have := sp7.far2 (fun k hk => (HK6'.out.lt k hk).1) (by rw [HNx.out]; exact HB6v.out.size)
                  rw [HNx.out] at this
                  exact this)
                have HKs7 := Lib.hid (HKs6.out.keep (fun i hi => sp7.block i (HKs6.out.lt i hi).2 (fun z => by have x1 := HPl.out i hi; have x2 := HP6.out.1 i z; omega)) sp7.size)
                clear k7 hb7 hp7 sp7 HCa2 HCb2 HKA HK6' HKs8 HKs6
                go_wp2
                go_loopw [25] (fun i wy => ∃ j : Nat, j ≤ 5 ∧ i = .int .i64 (j : Int) ∧ Hid (Below v7.heap.size v7 wy)) (fun i _ => 5 - (intOf i).toNat)
                case atStart => exact ⟨0, Nat.zero_le _, rfl, Below.refl _ _⟩
                case round =>
                  obtain ⟨j, hj, rfl, HBj2⟩ := hrel
                  obtain ⟨T, hT⟩ : ∃ Y, Y = wr := ⟨_, rfl⟩
                  subst hT
                  have j0 : (0 : Int) ≤ (j : Int) := by omega
                  by_cases hlj : j < 5
                  · as_aux_lemma =>
                      have hlj2 : (j : Int) < 5 := by omega
                      obtain ⟨D, D', d1, d2, d3, d4⟩ := ds_at2 HFn.out.1 HFn.out.2 hlj
                      obtain ⟨aW, cW, c5, -, fW⟩ := (HK7.out.later HBj2.out).was
                      obtain ⟨aV, cV, c5', -, fV⟩ := (HKs7.out.later HBj2.out).was
                      have h10 : ((([] ++ FL) ++ FM) : List (List En)).length = 10 := by have := HFn.out; simp only [List.length_append, List.length_nil]; omega
                      rw [h10] at c5
                      obtain ⟨nV, hnV⟩ : ∃ k, k = Dy.length := ⟨_, rfl⟩
                      rw [← hnV] at c5'
                      have hV1 : 25 ≤ nV := by
                        rw [hnV, HYf.out.2.1, List.length_append, HDn.out]
                        omega
                      have dv1 : Dy[j]? = some D := by
                        rw [HYf.out.2.1, List.getElem?_append_left (by rw [HDn.out]; omega), HDs.out]
                        exact d3
                      have dv2 : Dy[j + 10]? = some D' := by
                        rw [HYf.out.2.1, List.getElem?_append_left (by rw [HDn.out]; omega), HDs.out]
                        exact d4
                      obtain ⟨gW, a1, c1, z1, eW, f1, r1, m1, l1⟩ := fW j D d1
                      subst eW
                      obtain ⟨_, a2, c2, z2, e2, f2, r2, m2, l2⟩ := fW (j + 5) D' d2
                      cases e2
                      obtain ⟨gV, a3, c3, z3, eV, f3, r3, m3, l3⟩ := fV j D dv1
                      subst eV
                      obtain ⟨_, a4, c4, z4, e4, f4, r4, m4, l4⟩ := fV (j + 10) D' dv2
                      cases e4
                      obtain ⟨n1, hn1⟩ : ∃ k, k = z1.length := ⟨_, rfl⟩
                      obtain ⟨n2, hn2⟩ : ∃ k, k = z2.length := ⟨_, rfl⟩
                      obtain ⟨n3, hn3⟩ : ∃ k, k = z3.length := ⟨_, rfl⟩
                      obtain ⟨n4, hn4⟩ : ∃ k, k = z4.length := ⟨_, rfl⟩
                      obtain ⟨j5, hj5⟩ : ∃ k, k = j + 5 := ⟨_, rfl⟩
                      obtain ⟨j10, hj10⟩ : ∃ k, k = j + 10 := ⟨_, rfl⟩
                      have x5 : IntKind.i64.wrap ((j : Int) + 5) = (j5 : Int) := by rw [IntWalk.i64_in _ ⟨by omega, by omega⟩]; omega
                      have x10 : IntKind.i64.wrap ((j : Int) + 10) = (j10 : Int) := by rw [IntWalk.i64_in _ ⟨by omega, by omega⟩]; omega
                      have y5a : (0 : Int) ≤ (j5 : Int) := by omega
                      have y5b : (j5 : Int) < 10 := by omega
                      have y10a : (0 : Int) ≤ (j10 : Int) := by omega
                      have y10b : (j10 : Int) < (nV : Int) := by omega
                      have yj : (j : Int) < 10 := by omega
                      have yjV : (j : Int) < (nV : Int) := by omega
                      rw [← hn1] at f1
                      rw [← hn2, ← hj5] at f2
                      rw [← hn3] at f3
                      rw [← hn4, ← hj10] at f4
                      have HS13 : Hid (∀ Z, Below T.heap.size T Z → Calls Tryz.prog 18 #[.slice a1 n1 c1, .slice a3 n3 c3] Z fun e w' => e = .returned (.bool true) ∧ Below Z.heap.size Z w') := fun Z b => by
                        rw [hn1, hn3]
                        exact sameAll_ok (r1.later b) (r3.later b) (m1.trans m3.symm) (by omega)
                      have HS24 : Hid (∀ Z, Below T.heap.size T Z → Calls Tryz.prog 18 #[.slice a2 n2 c2, .slice a4 n4 c4] Z fun e w' => e = .returned (.bool true) ∧ Below Z.heap.size Z w') := fun Z b => by
                        rw [hn2, hn4]
                        exact sameAll_ok (r2.later b) (r4.later b) (m2.trans m4.symm) (by omega)
                      have HCV : Hid (∀ Z, Below T.heap.size T Z → Z.cell? ⟨g2, 5, none⟩ = some (.slice (some ⟨gW, 0, none⟩) 10 cW) ∧ Z.cell? ⟨g, 5, none⟩ = some (.slice (some ⟨gV, 0, none⟩) nV cV) ∧ Z.cell? ⟨gW, j, none⟩ = some (.slice a1 n1 c1) ∧ Z.cell? ⟨gW, j5, none⟩ = some (.slice a2 n2 c2) ∧ Z.cell? ⟨gV, j, none⟩ = some (.slice a3 n3 c3) ∧ Z.cell? ⟨gV, j10, none⟩ = some (.slice a4 n4 c4)) := fun Z b => ⟨(b.cell (p := ⟨g2, 5, none⟩) (World.block_lt_of_cell? _ _ c5)).trans c5, (b.cell (p := ⟨g, 5, none⟩) (World.block_lt_of_cell? _ _ c5')).trans c5', (b.cell (p := ⟨gW, j, none⟩) (World.block_lt_of_cell? _ _ f1)).trans f1, (b.cell (p := ⟨gW, j5, none⟩) (World.block_lt_of_cell? _ _ f2)).trans f2, (b.cell (p := ⟨gV, j, none⟩) (World.block_lt_of_cell? _ _ f3)).trans f3, (b.cell (p := ⟨gV, j10, none⟩) (World.block_lt_of_cell? _ _ f4)).trans f4⟩
                      clear fW fV d1 d2 d3 d4 dv1 dv2 r1 r2 r3 r4 m1 m2 m3 m4 l1 l2 l3 l4 hn1 hn2 hn3 hn4 hj5 hj10 hnV hV1 h10
                      have D0 : Below T.heap.size T T.drew := (Below.refl _ _).drew
                      go_wp2_with fail
                      go_region_held3 (fun Z => Z.cell? ⟨g2, 5, none⟩ = some (.slice (some ⟨gW, 0, none⟩) 10 cW) ∧ Z.cell? ⟨g, 5, none⟩ = some (.slice (some ⟨gV, 0, none⟩) nV cV) ∧ Z.cell? ⟨gW, j, none⟩ = some (.slice a1 n1 c1) ∧ Z.cell? ⟨gW, j5, none⟩ = some (.slice a2 n2 c2) ∧ Z.cell? ⟨gV, j, none⟩ = some (.slice a3 n3 c3) ∧ Z.cell? ⟨gV, j10, none⟩ = some (.slice a4 n4 c4)) (first | exact HCV.out _ D2 | exact HCV.out _ D1 | exact HCV.out _ D0) (first | (have hq := D1; clear hq; (go_at_call 18; refine Calls.mono (HS24.out _ D1) ?_; rintro e6 u2 ⟨rfl, b6⟩; have D2 := D1.trans (b6.mono D1.size); clear b6)) | (go_at_call 18; refine Calls.mono (HS13.out _ D0) ?_; rintro e6 u1 ⟨rfl, b6⟩; have D1 := D0.trans (b6.mono D0.size); clear b6))
                      have HB6' := Lib.hid (HBj2.out.trans (D2.mono HBj2.out.size))
                      clear D0 D1 D2 c5 c5' f1 f2 f3 f4
                      go_wp2
                      go_roundw
                      case rel => exact ⟨j + 1, by omega, by go_num, HB6'⟩
                      case measure => simp only [intOf]; omega
                  · as_aux_lemma =>
                      have hgj : ¬ (j : Int) < 5 := by omega
                      have HKsT := Lib.hid (HKs7.out.later HBj2.out)
                      go_wp2_with fail
                      refine Calls.mono (kps_stands HKsT.out) ?_
                      rintro e8 v8 ⟨rfl, rfl⟩
                      go_wp2_with fail
                      refine Calls.mono (started3 _) ?_
                      rintro e9 v9 ⟨rfl, b9⟩
                      have HB9 := Lib.hid b9
                      clear b9
                      go_wp2
                      go_ret
                      exact ⟨rfl, HUp.out _ ((HB7.out.trans (HBj2.out.mono HB7.out.size)).trans (HB9.out.mono (HB7.out.trans (HBj2.out.mono HB7.out.size)).size))⟩
end Go.Proofs.YthhkpkfpifllkaaGreat

