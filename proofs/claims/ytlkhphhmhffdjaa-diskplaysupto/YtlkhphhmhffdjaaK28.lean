import Derived.Test.YtlkhphhmhffdjaaK27
import Derived.Test.YtlkhphhmhffdjaaRows
import Derived.ProofKit
import Derived.OpenShut
import Derived.Deep.DeepHandedRow
import Derived.Lib.LaidTab
import Derived.Deep.Slices
import Derived.ChangeMaps5
import Derived.ChangeSlices
namespace Go.Proofs.Ytlkhphhmhffdjaa
open Go.RowKit Go.MapKept Go.Sort
set_option linter.unusedVariables false
set_option linter.unusedSimpArgs false
variable {w w' W X : World} {O O' U U' : Nat → Prop} {wB i : Nat} {z : Int} {qs : List Pr4} {o : OpD} {p : Pr4}
theorem Ws.holds (h : Ws w wB U z qs) : Calls Try.prog 8 #[.pointer (some ⟨wB, 2, none⟩)] w fun e w' => e = .returned (.bool true) ∧ Below w.heap.size w w' := by
 obtain ⟨vD, vR, aL, cL, aM, cM, n, its, P, h⟩ := h
 exact holds4_any h.wd.box h.bk
theorem Go4.of_b (b : Below w.heap.size w X) (hU : ∀ i, U i → w.heap.size ≤ i) : Go4 w X (fun i => w.heap.size ≤ i) U := ⟨b.os, b.tape, b.output, b.size, fun i hi _ => b.block i hi, fun i hi => .inl (hU i hi)⟩
structure RdOps (w : World) (a : Option Addr) (k : Nat) (xs : List OpD) : Prop where
 cap : xs.length ≤ k ∧ k ≤ maxLen
 cel : ∀ i x, xs[i]? = some x → ∃ g off, a = some ⟨g, off, none⟩ ∧ ∀ j u, x.vals[j]? = some u → w.cell? ⟨g, off + i * 9 + j, none⟩ = some u
 ok : ∀ x ∈ xs, RdOp w (fun i => w.heap.size ≤ i) x
set_option maxRecDepth 100000 in
set_option maxHeartbeats 4000000 in
theorem diskPlays_walk {cp : Int} {aS : Option Addr} {nS kS : Nat} {xs : List OpD} (hc0 : -9223372036854775808 ≤ cp) (hc1 : cp ≤ 9223372036854775807) (hn : nS = xs.length) (hr : RdOps w aS kS xs) :
  Calls Try.prog 4 #[.int .i64 cp, .slice aS nS kS] w fun e w' => e = .returned (.bool true) ∧ Below w.heap.size w w' := by
 have hnx : nS ≤ 9223372036854775807 := by have := hr.cap; unfold maxLen at this; omega
 have HR := Lib.hid hr
 have HN := Lib.hid hn
 have HRM := Lib.hid (room4_any cp hc0 hc1 w)
 clear hr hn hc0 hc1
 go_enter Try.func4, Try.ntmps4
 go_wp2_with fail
 refine HRM.out.mono ?_
 rintro e1 Z1 ⟨y, hy1, hy2, he1, hz1⟩
 subst he1
 rw [hz1]
 clear hz1 HRM
 go_wp2_with fail
 refine (started_any hy1 (by omega)).mono ?_
 rintro e2 Z2 ⟨wB, U0, z0, qs0, he2, w2, l2, -, n2, z2, b2, u2⟩
 subst he2
 have S0 := Lib.hid (And.intro w2 (And.intro l2 (And.intro n2 (And.intro z2 (And.intro b2 u2)))))
 clear w2 l2 n2 z2 b2 u2 hy1 hy2
 go_wp2_with fail
 go_loopw [6, 7] (fun v _ wr => ∃ (t : Nat) (U : Nat → Prop) (z : Int) (qs : List Pr4), t ≤ nS ∧ t ≤ 2000 ∧ v = .int .i64 (t : Int) ∧ Hid (Ws wr wB U z qs ∧ Lks qs ∧ 0 < qs.length ∧ z ≤ ((t : Int) + 4) * 1000000000000 ∧ Below w.heap.size w wr ∧ ∀ i, U i → w.heap.size ≤ i)) (fun v _ _ => nS - (intOf v).toNat)
 case atStart => exact ⟨0, U0, z0, qs0, Nat.zero_le _, by decide, rfl, S0.out.1, S0.out.2.1, S0.out.2.2.1, by have := S0.out.2.2.2.1; omega, S0.out.2.2.2.2.1, S0.out.2.2.2.2.2⟩
 case round =>
  obtain ⟨t, U, z, qs, ht, ht2, rfl, HS⟩ := hrel
  have j2 : (0 : Int) ≤ (t : Int) := by omega
  by_cases hlt : t < nS ∧ t < 2000
  ·have j1 : (t : Int) < (nS : Int) := by omega
   have j3 : (t : Int) < 2000 := by omega
   have hx : ∃ x, xs[t]? = some x := ⟨_, List.getElem?_eq_getElem (by rw [← HN.out]; omega)⟩
   obtain ⟨x, hx⟩ := hx
   have hcx := HR.out.cel t x hx
   obtain ⟨gS, hcx⟩ := hcx
   obtain ⟨oS, hcx⟩ := hcx
   have haS := hcx.1
   subst haS
   have HG := Lib.hid (Go4.of_b HS.out.2.2.2.2.1 HS.out.2.2.2.2.2)
   have HC := plays_any (o := x) HS.out.1 HS.out.2.1 ((HR.out.ok x (List.mem_of_getElem? hx)).go HG.out) HS.out.2.2.1 (by have := HS.out.2.2.2.1; omega)
   unfold OpD.val at HC
   have HCC := Lib.hid HC
   have q0 := (HS.out.2.2.2.2.1.cell (World.block_lt_of_cell? _ _ (hcx.2 0 _ rfl))).trans (hcx.2 0 _ rfl)
   have q1 := (HS.out.2.2.2.2.1.cell (World.block_lt_of_cell? _ _ (hcx.2 1 _ rfl))).trans (hcx.2 1 _ rfl)
   have q2 := (HS.out.2.2.2.2.1.cell (World.block_lt_of_cell? _ _ (hcx.2 2 _ rfl))).trans (hcx.2 2 _ rfl)
   have q3 := (HS.out.2.2.2.2.1.cell (World.block_lt_of_cell? _ _ (hcx.2 3 _ rfl))).trans (hcx.2 3 _ rfl)
   have q4 := (HS.out.2.2.2.2.1.cell (World.block_lt_of_cell? _ _ (hcx.2 4 _ rfl))).trans (hcx.2 4 _ rfl)
   have q5 := (HS.out.2.2.2.2.1.cell (World.block_lt_of_cell? _ _ (hcx.2 5 _ rfl))).trans (hcx.2 5 _ rfl)
   have q6 := (HS.out.2.2.2.2.1.cell (World.block_lt_of_cell? _ _ (hcx.2 6 _ rfl))).trans (hcx.2 6 _ rfl)
   have q7 := (HS.out.2.2.2.2.1.cell (World.block_lt_of_cell? _ _ (hcx.2 7 _ rfl))).trans (hcx.2 7 _ rfl)
   have q8 := (HS.out.2.2.2.2.1.cell (World.block_lt_of_cell? _ _ (hcx.2 8 _ rfl))).trans (hcx.2 8 _ rfl)
   simp only [Nat.add_zero] at q0
   clear hcx hx HC hlt
   go_wp2_with fail
   refine HCC.out.mono ?_
   rintro e3 Z3 ⟨he3, U3, z3, qs3, w3, l3, g3, hz3, hl3, -⟩
   subst he3
   have H3 := Lib.hid (And.intro w3 (And.intro l3 (And.intro (Nat.lt_of_lt_of_le HS.out.2.2.1 hl3) (And.intro (show z3 ≤ ((t : Int) + 1 + 4) * 1000000000000 by have := HS.out.2.2.2.1; omega) (And.intro (HS.out.2.2.2.2.1.trans (g3.below HS.out.2.2.2.2.1.size HS.out.2.2.2.2.2)) (fun i hi => (g3.new i hi).elim (HS.out.2.2.2.2.2 i) (fun e => Nat.le_trans HS.out.2.2.2.2.1.size e)))))))
   clear w3 l3 g3 hz3 hl3 HCC q0 q1 q2 q3 q4 q5 q6 q7 q8
   go_upto_region 8 with fail
   have htm : (t : Int).tmod 20 = ((t % 20 : Nat) : Int) := rfl
   by_cases h20 : t % 20 = 0
   ·have e1 : (t : Int).tmod 20 = 0 := by rw [htm, h20]; rfl
    have e2 : (t : Int) % 20 = 0 := by omega
    have e3 : ((t : Int) % 20 == 0) = true := by simp [e2]
    clear htm
    go_wp2_with fail
    refine (H3.out.1.holds).mono ?_
    rintro e4 Z4 ⟨he4, b4⟩
    subst he4
    have B4 := Lib.hid b4
    clear b4 e1 e2 e3 h20
    go_wp2
    go_roundw
    case rel => exact ⟨t + 1, U3, z3, qs3, by omega, by omega, by go_num, H3.out.1.later B4.out, H3.out.2.1, H3.out.2.2.1, by have := H3.out.2.2.2.1; omega, H3.out.2.2.2.2.1.trans (B4.out.mono H3.out.2.2.2.2.1.size), H3.out.2.2.2.2.2⟩
    case measure => simp [intOf]; omega
   ·have e2 : ¬ (t : Int) % 20 = 0 := by omega
    have e3 : ((t : Int) % 20 == 0) = false := by simp; omega
    clear htm
    go_wp2
    go_roundw
    case rel => exact ⟨t + 1, U3, z3, qs3, by omega, by omega, by go_num, H3.out.1, H3.out.2.1, H3.out.2.2.1, by have := H3.out.2.2.2.1; omega, H3.out.2.2.2.2.1, H3.out.2.2.2.2.2⟩
    case measure => simp [intOf]; omega
  ·have hx0 : ∃ p, qs[0]? = some p := ⟨_, List.getElem?_eq_getElem HS.out.2.2.1⟩
   obtain ⟨p0, hx0⟩ := hx0
   obtain ⟨X, hX⟩ : ∃ X, X = wr := ⟨_, rfl⟩
   rw [← hX] at HS ⊢
   clear hX wr
   have hr0 := HS.out.1.rows
   obtain ⟨aD, cD, aR, cR, hr0⟩ := hr0
   have hr1 := hr0.2.2 0 p0 hx0
   obtain ⟨gD, hr1⟩ := hr1
   obtain ⟨gR, hr1⟩ := hr1
   have haD := hr1.1
   have haR := hr1.2.1
   subst haD
   subst haR
   obtain ⟨qn, hqn⟩ : ∃ qn, qn = qs.length := ⟨_, rfl⟩
   have jq : (0 : Int) < (qn : Int) := by have := HS.out.2.2.1; omega
   have jn0 : ¬ qn = 0 := by omega
   have hlp := HS.out.2.1 p0 (List.mem_of_getElem? hx0)
   have hT := HS.out.1.pr hx0
   have hfr : p0.r.fs = filesP p0.d := (hlp.files hT.1.rd.1.2).symm
   have hok := hT.1.dsk.1
   have hct := hlp.c
   have hbx := hT.1.rd.box
   obtain ⟨fv, hbx⟩ := hbx
   rw [← hct] at hbx
   rw [← hqn] at hr0
   obtain ⟨A0, B0, dB, rB, d, r⟩ := p0
   simp only at hfr hok hbx hr1
   obtain ⟨q, hq⟩ : ∃ q, q = d.c := ⟨_, rfl⟩
   rw [← hq] at hbx
   have HCT := Lib.hid hq
   have HF := Lib.hid (And.intro hfr hok)
   have HI := Lib.hid hx0
   have W1 := Lib.hid HS.out.1
   have hcs := And.intro hr0.1 (And.intro hr0.2.1 (And.intro hr1.2.2.1 (And.intro hr1.2.2.2 hbx.cells)))
   have cells : ∀ {V : World}, Below X.heap.size X V → V.cell? ⟨wB, 0, none⟩ = some (.slice (some ⟨gD, 0, none⟩) qn cD) ∧ V.cell? ⟨wB, 1, none⟩ = some (.slice (some ⟨gR, 0, none⟩) qn cR) ∧ V.cell? ⟨gD, 0, none⟩ = some (.pointer (some ⟨dB, 0, none⟩)) ∧ V.cell? ⟨gR, 0, none⟩ = some (.pointer (some ⟨rB, 0, none⟩)) ∧ V.cell? ⟨rB, 0, none⟩ = some (.int .i64 r.cap) ∧ V.cell? ⟨rB, 1, none⟩ = some fv ∧ V.cell? ⟨rB, 2, none⟩ = some (.bool r.down) ∧ V.cell? ⟨rB, 3, none⟩ = some (.int .i64 r.arm) ∧ V.cell? ⟨rB, 4, none⟩ = some (.int .i64 (q 0)) ∧ V.cell? ⟨rB, 5, none⟩ = some (.int .i64 (q 1)) ∧ V.cell? ⟨rB, 6, none⟩ = some (.int .i64 (q 2)) ∧ V.cell? ⟨rB, 7, none⟩ = some (.int .i64 (q 3)) ∧ V.cell? ⟨rB, 8, none⟩ = some (.int .i64 (q 4)) ∧ V.cell? ⟨rB, 9, none⟩ = some (.int .i64 (q 5)) := fun b => by
    have up : ∀ {ad : Addr} {v : Value}, X.cell? ad = some v → _ := fun {ad} {v} h => (b.cell (World.block_lt_of_cell? _ _ h)).trans h
    have hbc := hbx.cells
    exact ⟨up hr0.1, up hr0.2.1, up hr1.2.2.1, up hr1.2.2.2, up hbc.1, up hbc.2.1, up hbc.2.2.1, up hbc.2.2.2.1, up hbc.2.2.2.2.1, up hbc.2.2.2.2.2.1, up hbc.2.2.2.2.2.2.1, up hbc.2.2.2.2.2.2.2.1, up hbc.2.2.2.2.2.2.2.2.1, up hbc.2.2.2.2.2.2.2.2.2⟩
   have CELLS := @Lib.hid _ @cells
   clear cells hcs hr0 hr1 hqn hlp hT hfr hok hct hbx hq hx0
   by_cases hn : t < nS
   ·have j1 : (t : Int) < (nS : Int) := by omega
    have j3 : (2000 : Int) ≤ (t : Int) := by omega
    clear hlt hn
    go_upto_region 10 with fail
    have BD : Below X.heap.size X X.drew := (Below.refl _ _).drew
    refine wp_region_noPanic ?_
    refine wp_region_anyE (S := fun wx => Below X.heap.size X wx) (E := fun j => true) (by kernel_rfl) ?_
    have hHeld : Below X.heap.size X X.drew := BD
    have HB0 := Lib.hid BD
    have hZ0 : ∃ z, z = X.drew := ⟨_, rfl⟩
    obtain ⟨Z0, hZ0⟩ := hZ0
    rw [← hZ0] at HB0 hHeld ⊢
    clear hZ0 BD
    refine AnyE.take (i := 0) (.pointer (some ⟨wB, 0, none⟩)) rfl (by kernel_rfl) (by kernel_rfl) (by kernel_rfl) (by kernel_rfl) (fun _ _ _ h => h) (.inl ⟨by kernel_rfl, fun wy hy => by (go_simp; done)⟩) hHeld ?_
    try simp only [Act.put, List.setIfInBounds_toArray, List.set_cons_zero, List.set_cons_succ]
    refine AnyE.take (i := 1) (.pointer (some ⟨wB, 0, none⟩)) rfl (by kernel_rfl) (by kernel_rfl) (by kernel_rfl) (by kernel_rfl) (fun _ _ _ h => h) (.inl ⟨by kernel_rfl, fun wy hy => by (go_simp; done)⟩) hHeld ?_
    try simp only [Act.put, List.setIfInBounds_toArray, List.set_cons_zero, List.set_cons_succ]
    refine AnyE.take (i := 2) (.pointer (some ⟨wB, 2, none⟩)) rfl (by kernel_rfl) (by kernel_rfl) (by kernel_rfl) (by kernel_rfl) (fun _ _ _ h => h) (.inl ⟨by kernel_rfl, fun wy hy => by (go_simp; done)⟩) hHeld ?_
    try simp only [Act.put, List.setIfInBounds_toArray, List.set_cons_zero, List.set_cons_succ]
    refine AnyE.one (i := 3) rfl (by kernel_rfl) (by kernel_rfl) (fun KK hK => ?_)
    go_simp
    go_at_call 8
    refine ((W1.out.later HB0.out).holds).mono ?_
    rintro e1 Y1 ⟨he1, bq⟩
    subst he1
    have hHeld1 := hHeld
    have hHeld : Below X.heap.size X Y1 := hHeld1.trans (bq.mono hHeld1.size)
    have HBY1 := Lib.hid hHeld
    clear hHeld1
    clear bq
    go_wp2_with fail
    refine hK.out _ _ ⟨fun _ => hHeld, ?_⟩
    clear hK
    try simp only [Act.put, List.setIfInBounds_toArray, List.set_cons_zero, List.set_cons_succ]
    refine AnyE.take (i := 4) (.bool true) rfl (by kernel_rfl) (by kernel_rfl) (by kernel_rfl) (by kernel_rfl) (fun _ _ _ h => h) (.inl ⟨by kernel_rfl, fun wy hy => by (go_simp; done)⟩) hHeld ?_
    try simp only [Act.put, List.setIfInBounds_toArray, List.set_cons_zero, List.set_cons_succ]
    refine AnyE.take (i := 5) (.pointer (some ⟨wB, 0, none⟩)) rfl (by kernel_rfl) (by kernel_rfl) (by kernel_rfl) (by kernel_rfl) (fun _ _ _ h => h) (.inl ⟨by kernel_rfl, fun wy hy => by (go_simp; done)⟩) hHeld ?_
    try simp only [Act.put, List.setIfInBounds_toArray, List.set_cons_zero, List.set_cons_succ]
    refine AnyE.take (i := 6) (.pointer (some ⟨wB, 0, none⟩)) rfl (by kernel_rfl) (by kernel_rfl) (by kernel_rfl) (by kernel_rfl) (fun _ _ _ h => h) (.inl ⟨by kernel_rfl, fun wy hy => by (go_simp; done)⟩) hHeld ?_
    try simp only [Act.put, List.setIfInBounds_toArray, List.set_cons_zero, List.set_cons_succ]
    refine AnyE.take (i := 7) (.pointer (some ⟨wB, 0, none⟩)) rfl (by kernel_rfl) (by kernel_rfl) (by kernel_rfl) (by kernel_rfl) (fun _ _ _ h => h) (.inl ⟨by kernel_rfl, fun wy hy => by (go_simp; done)⟩) hHeld ?_
    try simp only [Act.put, List.setIfInBounds_toArray, List.set_cons_zero, List.set_cons_succ]
    refine AnyE.take (i := 8) (.slice (some ⟨gD, 0, none⟩) qn cD) rfl (by kernel_rfl) (by kernel_rfl) (by kernel_rfl) (by kernel_rfl) (fun _ _ _ h => h) (.inl ⟨by kernel_rfl, fun wy hy => by (have q0 := (CELLS.out hy).1; go_simp; done)⟩) hHeld ?_
    try simp only [Act.put, List.setIfInBounds_toArray, List.set_cons_zero, List.set_cons_succ]
    refine AnyE.take (i := 9) (.pointer (some ⟨gD, 0, none⟩)) rfl (by kernel_rfl) (by kernel_rfl) (by kernel_rfl) (by kernel_rfl) (fun _ _ _ h => h) (.inl ⟨by kernel_rfl, fun wy hy => by (go_simp; done)⟩) hHeld ?_
    try simp only [Act.put, List.setIfInBounds_toArray, List.set_cons_zero, List.set_cons_succ]
    refine AnyE.take (i := 10) (.pointer (some ⟨dB, 0, none⟩)) rfl (by kernel_rfl) (by kernel_rfl) (by kernel_rfl) (by kernel_rfl) (fun _ _ _ h => h) (.inl ⟨by kernel_rfl, fun wy hy => by (have q0 := (CELLS.out hy).2.2.1; go_simp; done)⟩) hHeld ?_
    try simp only [Act.put, List.setIfInBounds_toArray, List.set_cons_zero, List.set_cons_succ]
    refine AnyE.take (i := 12) (.pointer (some ⟨wB, 0, none⟩)) rfl (by kernel_rfl) (by kernel_rfl) (by kernel_rfl) (by kernel_rfl) (fun _ _ _ h => h) (.inl ⟨by kernel_rfl, fun wy hy => by (go_simp; done)⟩) hHeld ?_
    try simp only [Act.put, List.setIfInBounds_toArray, List.set_cons_zero, List.set_cons_succ]
    refine AnyE.take (i := 13) (.pointer (some ⟨wB, 0, none⟩)) rfl (by kernel_rfl) (by kernel_rfl) (by kernel_rfl) (by kernel_rfl) (fun _ _ _ h => h) (.inl ⟨by kernel_rfl, fun wy hy => by (go_simp; done)⟩) hHeld ?_
    try simp only [Act.put, List.setIfInBounds_toArray, List.set_cons_zero, List.set_cons_succ]
    refine AnyE.take (i := 14) (.pointer (some ⟨wB, 1, none⟩)) rfl (by kernel_rfl) (by kernel_rfl) (by kernel_rfl) (by kernel_rfl) (fun _ _ _ h => h) (.inl ⟨by kernel_rfl, fun wy hy => by (go_simp; done)⟩) hHeld ?_
    try simp only [Act.put, List.setIfInBounds_toArray, List.set_cons_zero, List.set_cons_succ]
    refine AnyE.take (i := 15) (.slice (some ⟨gR, 0, none⟩) qn cR) rfl (by kernel_rfl) (by kernel_rfl) (by kernel_rfl) (by kernel_rfl) (fun _ _ _ h => h) (.inl ⟨by kernel_rfl, fun wy hy => by (have q0 := (CELLS.out hy).2.1; go_simp; done)⟩) hHeld ?_
    try simp only [Act.put, List.setIfInBounds_toArray, List.set_cons_zero, List.set_cons_succ]
    refine AnyE.take (i := 16) (.pointer (some ⟨gR, 0, none⟩)) rfl (by kernel_rfl) (by kernel_rfl) (by kernel_rfl) (by kernel_rfl) (fun _ _ _ h => h) (.inl ⟨by kernel_rfl, fun wy hy => by (go_simp; done)⟩) hHeld ?_
    try simp only [Act.put, List.setIfInBounds_toArray, List.set_cons_zero, List.set_cons_succ]
    refine AnyE.take (i := 17) (.pointer (some ⟨rB, 0, none⟩)) rfl (by kernel_rfl) (by kernel_rfl) (by kernel_rfl) (by kernel_rfl) (fun _ _ _ h => h) (.inl ⟨by kernel_rfl, fun wy hy => by (have q0 := (CELLS.out hy).2.2.2.1; go_simp; done)⟩) hHeld ?_
    try simp only [Act.put, List.setIfInBounds_toArray, List.set_cons_zero, List.set_cons_succ]
    refine AnyE.one (i := 11) rfl (by kernel_rfl) (by kernel_rfl) (fun KK hK => ?_)
    go_simp
    go_at_call 10
    refine (files_any ((W1.out.later HBY1.out).pr HI.out).1.dsk).mono ?_
    rintro e2 Y2 ⟨a6, n6, k6, l6, he2, f6, hl6, bq⟩
    subst he2
    simp only at hl6
    have F6 := Lib.hid (And.intro f6 hl6)
    have hHeld1 := hHeld
    have hHeld : Below X.heap.size X Y2 := hHeld1.trans (bq.mono hHeld1.size)
    have HBY2 := Lib.hid hHeld
    clear hHeld1
    clear bq f6 hl6
    go_wp2_with fail
    refine hK.out _ _ ⟨fun _ => hHeld, ?_⟩
    clear hK
    try simp only [Act.put, List.setIfInBounds_toArray, List.set_cons_zero, List.set_cons_succ]
    refine AnyE.one (i := 18) rfl (by kernel_rfl) (by kernel_rfl) (fun KK hK => ?_)
    go_simp
    go_at_call 11
    refine (rFiles_any ((W1.out.later HBY2.out).pr HI.out).1.rd).mono ?_
    rintro e3 Y3 ⟨a7, n7, k7, l7, he3, f7, hl7, bq⟩
    subst he3
    simp only at hl7
    rw [HF.out.1] at hl7
    have SM := Lib.hid (files_same HF.out.2 (F6.out.1.later bq) F6.out.2 f7 hl7)
    have hHeld1 := hHeld
    have hHeld : Below X.heap.size X Y3 := hHeld1.trans (bq.mono hHeld1.size)
    have HBY3 := Lib.hid hHeld
    clear hHeld1
    clear bq f7 hl7
    go_wp2_with fail
    refine hK.out _ _ ⟨fun _ => hHeld, ?_⟩
    clear hK
    try simp only [Act.put, List.setIfInBounds_toArray, List.set_cons_zero, List.set_cons_succ]
    refine AnyE.one (i := 19) rfl (by kernel_rfl) (by kernel_rfl) (fun KK hK => ?_)
    go_simp
    go_at_call 9
    refine (SM.out).mono ?_
    rintro e4 Y4 ⟨he4, bq⟩
    subst he4
    have hHeld1 := hHeld
    have hHeld : Below X.heap.size X Y4 := hHeld1.trans (bq.mono hHeld1.size)
    have HBY4 := Lib.hid hHeld
    clear hHeld1
    clear bq SM
    go_wp2_with fail
    refine hK.out _ _ ⟨fun _ => hHeld, ?_⟩
    clear hK
    try simp only [Act.put, List.setIfInBounds_toArray, List.set_cons_zero, List.set_cons_succ]
    refine AnyE.one (i := 20) rfl (by kernel_rfl) (by kernel_rfl) (fun KK hK => ?_)
    go_simp
    refine hK.out _ _ ⟨fun _ => hHeld, ?_⟩
    clear hK
    try simp only [Act.put, List.setIfInBounds_toArray, List.set_cons_zero, List.set_cons_succ]
    refine AnyE.take (i := 21) (.bool true) rfl (by kernel_rfl) (by kernel_rfl) (by kernel_rfl) (by kernel_rfl) (fun _ _ _ h => h) (.inl ⟨by kernel_rfl, fun wy hy => by (go_simp; done)⟩) hHeld ?_
    try simp only [Act.put, List.setIfInBounds_toArray, List.set_cons_zero, List.set_cons_succ]
    refine AnyE.take (i := 22) (.pointer (some ⟨wB, 0, none⟩)) rfl (by kernel_rfl) (by kernel_rfl) (by kernel_rfl) (by kernel_rfl) (fun _ _ _ h => h) (.inl ⟨by kernel_rfl, fun wy hy => by (go_simp; done)⟩) hHeld ?_
    try simp only [Act.put, List.setIfInBounds_toArray, List.set_cons_zero, List.set_cons_succ]
    refine AnyE.take (i := 23) (.pointer (some ⟨wB, 0, none⟩)) rfl (by kernel_rfl) (by kernel_rfl) (by kernel_rfl) (by kernel_rfl) (fun _ _ _ h => h) (.inl ⟨by kernel_rfl, fun wy hy => by (go_simp; done)⟩) hHeld ?_
    try simp only [Act.put, List.setIfInBounds_toArray, List.set_cons_zero, List.set_cons_succ]
    refine AnyE.take (i := 24) (.pointer (some ⟨wB, 0, none⟩)) rfl (by kernel_rfl) (by kernel_rfl) (by kernel_rfl) (by kernel_rfl) (fun _ _ _ h => h) (.inl ⟨by kernel_rfl, fun wy hy => by (go_simp; done)⟩) hHeld ?_
    try simp only [Act.put, List.setIfInBounds_toArray, List.set_cons_zero, List.set_cons_succ]
    refine AnyE.take (i := 25) (.slice (some ⟨gD, 0, none⟩) qn cD) rfl (by kernel_rfl) (by kernel_rfl) (by kernel_rfl) (by kernel_rfl) (fun _ _ _ h => h) (.inl ⟨by kernel_rfl, fun wy hy => by (have q0 := (CELLS.out hy).1; go_simp; done)⟩) hHeld ?_
    try simp only [Act.put, List.setIfInBounds_toArray, List.set_cons_zero, List.set_cons_succ]
    refine AnyE.take (i := 26) (.pointer (some ⟨gD, 0, none⟩)) rfl (by kernel_rfl) (by kernel_rfl) (by kernel_rfl) (by kernel_rfl) (fun _ _ _ h => h) (.inl ⟨by kernel_rfl, fun wy hy => by (go_simp; done)⟩) hHeld ?_
    try simp only [Act.put, List.setIfInBounds_toArray, List.set_cons_zero, List.set_cons_succ]
    refine AnyE.take (i := 27) (.pointer (some ⟨dB, 0, none⟩)) rfl (by kernel_rfl) (by kernel_rfl) (by kernel_rfl) (by kernel_rfl) (fun _ _ _ h => h) (.inl ⟨by kernel_rfl, fun wy hy => by (have q0 := (CELLS.out hy).2.2.1; go_simp; done)⟩) hHeld ?_
    try simp only [Act.put, List.setIfInBounds_toArray, List.set_cons_zero, List.set_cons_succ]
    refine AnyE.take (i := 29) (.pointer (some ⟨wB, 0, none⟩)) rfl (by kernel_rfl) (by kernel_rfl) (by kernel_rfl) (by kernel_rfl) (fun _ _ _ h => h) (.inl ⟨by kernel_rfl, fun wy hy => by (go_simp; done)⟩) hHeld ?_
    try simp only [Act.put, List.setIfInBounds_toArray, List.set_cons_zero, List.set_cons_succ]
    refine AnyE.take (i := 30) (.pointer (some ⟨wB, 0, none⟩)) rfl (by kernel_rfl) (by kernel_rfl) (by kernel_rfl) (by kernel_rfl) (fun _ _ _ h => h) (.inl ⟨by kernel_rfl, fun wy hy => by (go_simp; done)⟩) hHeld ?_
    try simp only [Act.put, List.setIfInBounds_toArray, List.set_cons_zero, List.set_cons_succ]
    refine AnyE.take (i := 31) (.pointer (some ⟨wB, 1, none⟩)) rfl (by kernel_rfl) (by kernel_rfl) (by kernel_rfl) (by kernel_rfl) (fun _ _ _ h => h) (.inl ⟨by kernel_rfl, fun wy hy => by (go_simp; done)⟩) hHeld ?_
    try simp only [Act.put, List.setIfInBounds_toArray, List.set_cons_zero, List.set_cons_succ]
    refine AnyE.take (i := 32) (.slice (some ⟨gR, 0, none⟩) qn cR) rfl (by kernel_rfl) (by kernel_rfl) (by kernel_rfl) (by kernel_rfl) (fun _ _ _ h => h) (.inl ⟨by kernel_rfl, fun wy hy => by (have q0 := (CELLS.out hy).2.1; go_simp; done)⟩) hHeld ?_
    try simp only [Act.put, List.setIfInBounds_toArray, List.set_cons_zero, List.set_cons_succ]
    refine AnyE.take (i := 33) (.pointer (some ⟨gR, 0, none⟩)) rfl (by kernel_rfl) (by kernel_rfl) (by kernel_rfl) (by kernel_rfl) (fun _ _ _ h => h) (.inl ⟨by kernel_rfl, fun wy hy => by (go_simp; done)⟩) hHeld ?_
    try simp only [Act.put, List.setIfInBounds_toArray, List.set_cons_zero, List.set_cons_succ]
    refine AnyE.take (i := 34) (.pointer (some ⟨rB, 0, none⟩)) rfl (by kernel_rfl) (by kernel_rfl) (by kernel_rfl) (by kernel_rfl) (fun _ _ _ h => h) (.inl ⟨by kernel_rfl, fun wy hy => by (have q0 := (CELLS.out hy).2.2.2.1; go_simp; done)⟩) hHeld ?_
    try simp only [Act.put, List.setIfInBounds_toArray, List.set_cons_zero, List.set_cons_succ]
    refine AnyE.take (i := 35) (.pointer (some ⟨rB, 0, none⟩)) rfl (by kernel_rfl) (by kernel_rfl) (by kernel_rfl) (by kernel_rfl) (fun _ _ _ h => h) (.inl ⟨by kernel_rfl, fun wy hy => by (go_simp; done)⟩) hHeld ?_
    try simp only [Act.put, List.setIfInBounds_toArray, List.set_cons_zero, List.set_cons_succ]
    refine AnyE.take (i := 36) (.pointer (some ⟨rB, 4, none⟩)) rfl (by kernel_rfl) (by kernel_rfl) (by kernel_rfl) (by kernel_rfl) (fun _ _ _ h => h) (.inl ⟨by kernel_rfl, fun wy hy => by (go_simp; done)⟩) hHeld ?_
    try simp only [Act.put, List.setIfInBounds_toArray, List.set_cons_zero, List.set_cons_succ]
    refine AnyE.take (i := 37) (.agg #[.int .i64 (q 0), .int .i64 (q 1), .int .i64 (q 2), .int .i64 (q 3), .int .i64 (q 4), .int .i64 (q 5)]) rfl (by kernel_rfl) (by kernel_rfl) (by kernel_rfl) (by kernel_rfl) (fun _ _ _ h => h) (.inl ⟨by kernel_rfl, fun wy hy => by (have q0 := (CELLS.out hy).2.2.2.2.2.2.2.2.1; have q1 := (CELLS.out hy).2.2.2.2.2.2.2.2.2.1; have q2 := (CELLS.out hy).2.2.2.2.2.2.2.2.2.2.1; have q3 := (CELLS.out hy).2.2.2.2.2.2.2.2.2.2.2.1; have q4 := (CELLS.out hy).2.2.2.2.2.2.2.2.2.2.2.2.1; have q5 := (CELLS.out hy).2.2.2.2.2.2.2.2.2.2.2.2.2; go_simp; done)⟩) hHeld ?_
    try simp only [Act.put, List.setIfInBounds_toArray, List.set_cons_zero, List.set_cons_succ]
    refine AnyE.one (i := 28) rfl (by kernel_rfl) (by kernel_rfl) (fun KK hK => ?_)
    go_simp
    go_at_call 17
    have HC := counts4_any ((W1.out.later HBY4.out).pr HI.out).1.dsk
    simp only at HC
    rw [← HCT.out] at HC
    refine HC.mono ?_
    rintro e5 Y5 ⟨he5, bq⟩
    subst he5
    have hHeld1 := hHeld
    have hHeld : Below X.heap.size X Y5 := hHeld1.trans (bq.mono hHeld1.size)
    have HBY5 := Lib.hid hHeld
    clear hHeld1
    clear bq HC
    unfold ctV
    go_wp2_with fail
    refine hK.out _ _ ⟨fun _ => hHeld, ?_⟩
    clear hK
    try simp only [Act.put, List.setIfInBounds_toArray, List.set_cons_zero, List.set_cons_succ]
    refine AnyE.one (i := 38) rfl (by kernel_rfl) (by kernel_rfl) (fun KK hK => ?_)
    go_simp
    refine hK.out _ _ ⟨fun _ => hHeld, ?_⟩
    clear hK
    try simp only [Act.put, List.setIfInBounds_toArray, List.set_cons_zero, List.set_cons_succ]
    refine AnyE.one (i := 39) rfl (by kernel_rfl) (by kernel_rfl) (fun KK hK => ?_)
    go_simp
    refine hK.out _ _ ⟨fun _ => hHeld, ?_⟩
    clear hK
    try simp only [Act.put, List.setIfInBounds_toArray, List.set_cons_zero, List.set_cons_succ]
    refine AnyE.one (i := 40) rfl (by kernel_rfl) (by kernel_rfl) (fun KK hK => ?_)
    go_simp
    refine hK.out _ _ ⟨fun _ => hHeld, ?_⟩
    clear hK
    try simp only [Act.put, List.setIfInBounds_toArray, List.set_cons_zero, List.set_cons_succ]
    refine AnyE.done (by kernel_rfl) (NoPanic.normal ?_) _
    have HBF := Lib.hid hHeld
    clear hHeld
    go_simp
    go_step
    go_wp2
    go_ret
    exact ⟨rfl, HS.out.2.2.2.2.1.trans (HBF.out.mono HS.out.2.2.2.2.1.size)⟩
   ·have j1 : (nS : Int) ≤ (t : Int) := by omega
    clear hlt hn
    go_upto_region 10 with fail
    have BD : Below X.heap.size X X.drew := (Below.refl _ _).drew
    refine wp_region_noPanic ?_
    refine wp_region_anyE (S := fun wx => Below X.heap.size X wx) (E := fun j => true) (by kernel_rfl) ?_
    have hHeld : Below X.heap.size X X.drew := BD
    have HB0 := Lib.hid BD
    have hZ0 : ∃ z, z = X.drew := ⟨_, rfl⟩
    obtain ⟨Z0, hZ0⟩ := hZ0
    rw [← hZ0] at HB0 hHeld ⊢
    clear hZ0 BD
    refine AnyE.take (i := 0) (.pointer (some ⟨wB, 0, none⟩)) rfl (by kernel_rfl) (by kernel_rfl) (by kernel_rfl) (by kernel_rfl) (fun _ _ _ h => h) (.inl ⟨by kernel_rfl, fun wy hy => by (go_simp; done)⟩) hHeld ?_
    try simp only [Act.put, List.setIfInBounds_toArray, List.set_cons_zero, List.set_cons_succ]
    refine AnyE.take (i := 1) (.pointer (some ⟨wB, 0, none⟩)) rfl (by kernel_rfl) (by kernel_rfl) (by kernel_rfl) (by kernel_rfl) (fun _ _ _ h => h) (.inl ⟨by kernel_rfl, fun wy hy => by (go_simp; done)⟩) hHeld ?_
    try simp only [Act.put, List.setIfInBounds_toArray, List.set_cons_zero, List.set_cons_succ]
    refine AnyE.take (i := 2) (.pointer (some ⟨wB, 2, none⟩)) rfl (by kernel_rfl) (by kernel_rfl) (by kernel_rfl) (by kernel_rfl) (fun _ _ _ h => h) (.inl ⟨by kernel_rfl, fun wy hy => by (go_simp; done)⟩) hHeld ?_
    try simp only [Act.put, List.setIfInBounds_toArray, List.set_cons_zero, List.set_cons_succ]
    refine AnyE.one (i := 3) rfl (by kernel_rfl) (by kernel_rfl) (fun KK hK => ?_)
    go_simp
    go_at_call 8
    refine ((W1.out.later HB0.out).holds).mono ?_
    rintro e1 Y1 ⟨he1, bq⟩
    subst he1
    have hHeld1 := hHeld
    have hHeld : Below X.heap.size X Y1 := hHeld1.trans (bq.mono hHeld1.size)
    have HBY1 := Lib.hid hHeld
    clear hHeld1
    clear bq
    go_wp2_with fail
    refine hK.out _ _ ⟨fun _ => hHeld, ?_⟩
    clear hK
    try simp only [Act.put, List.setIfInBounds_toArray, List.set_cons_zero, List.set_cons_succ]
    refine AnyE.take (i := 4) (.bool true) rfl (by kernel_rfl) (by kernel_rfl) (by kernel_rfl) (by kernel_rfl) (fun _ _ _ h => h) (.inl ⟨by kernel_rfl, fun wy hy => by (go_simp; done)⟩) hHeld ?_
    try simp only [Act.put, List.setIfInBounds_toArray, List.set_cons_zero, List.set_cons_succ]
    refine AnyE.take (i := 5) (.pointer (some ⟨wB, 0, none⟩)) rfl (by kernel_rfl) (by kernel_rfl) (by kernel_rfl) (by kernel_rfl) (fun _ _ _ h => h) (.inl ⟨by kernel_rfl, fun wy hy => by (go_simp; done)⟩) hHeld ?_
    try simp only [Act.put, List.setIfInBounds_toArray, List.set_cons_zero, List.set_cons_succ]
    refine AnyE.take (i := 6) (.pointer (some ⟨wB, 0, none⟩)) rfl (by kernel_rfl) (by kernel_rfl) (by kernel_rfl) (by kernel_rfl) (fun _ _ _ h => h) (.inl ⟨by kernel_rfl, fun wy hy => by (go_simp; done)⟩) hHeld ?_
    try simp only [Act.put, List.setIfInBounds_toArray, List.set_cons_zero, List.set_cons_succ]
    refine AnyE.take (i := 7) (.pointer (some ⟨wB, 0, none⟩)) rfl (by kernel_rfl) (by kernel_rfl) (by kernel_rfl) (by kernel_rfl) (fun _ _ _ h => h) (.inl ⟨by kernel_rfl, fun wy hy => by (go_simp; done)⟩) hHeld ?_
    try simp only [Act.put, List.setIfInBounds_toArray, List.set_cons_zero, List.set_cons_succ]
    refine AnyE.take (i := 8) (.slice (some ⟨gD, 0, none⟩) qn cD) rfl (by kernel_rfl) (by kernel_rfl) (by kernel_rfl) (by kernel_rfl) (fun _ _ _ h => h) (.inl ⟨by kernel_rfl, fun wy hy => by (have q0 := (CELLS.out hy).1; go_simp; done)⟩) hHeld ?_
    try simp only [Act.put, List.setIfInBounds_toArray, List.set_cons_zero, List.set_cons_succ]
    refine AnyE.take (i := 9) (.pointer (some ⟨gD, 0, none⟩)) rfl (by kernel_rfl) (by kernel_rfl) (by kernel_rfl) (by kernel_rfl) (fun _ _ _ h => h) (.inl ⟨by kernel_rfl, fun wy hy => by (go_simp; done)⟩) hHeld ?_
    try simp only [Act.put, List.setIfInBounds_toArray, List.set_cons_zero, List.set_cons_succ]
    refine AnyE.take (i := 10) (.pointer (some ⟨dB, 0, none⟩)) rfl (by kernel_rfl) (by kernel_rfl) (by kernel_rfl) (by kernel_rfl) (fun _ _ _ h => h) (.inl ⟨by kernel_rfl, fun wy hy => by (have q0 := (CELLS.out hy).2.2.1; go_simp; done)⟩) hHeld ?_
    try simp only [Act.put, List.setIfInBounds_toArray, List.set_cons_zero, List.set_cons_succ]
    refine AnyE.take (i := 12) (.pointer (some ⟨wB, 0, none⟩)) rfl (by kernel_rfl) (by kernel_rfl) (by kernel_rfl) (by kernel_rfl) (fun _ _ _ h => h) (.inl ⟨by kernel_rfl, fun wy hy => by (go_simp; done)⟩) hHeld ?_
    try simp only [Act.put, List.setIfInBounds_toArray, List.set_cons_zero, List.set_cons_succ]
    refine AnyE.take (i := 13) (.pointer (some ⟨wB, 0, none⟩)) rfl (by kernel_rfl) (by kernel_rfl) (by kernel_rfl) (by kernel_rfl) (fun _ _ _ h => h) (.inl ⟨by kernel_rfl, fun wy hy => by (go_simp; done)⟩) hHeld ?_
    try simp only [Act.put, List.setIfInBounds_toArray, List.set_cons_zero, List.set_cons_succ]
    refine AnyE.take (i := 14) (.pointer (some ⟨wB, 1, none⟩)) rfl (by kernel_rfl) (by kernel_rfl) (by kernel_rfl) (by kernel_rfl) (fun _ _ _ h => h) (.inl ⟨by kernel_rfl, fun wy hy => by (go_simp; done)⟩) hHeld ?_
    try simp only [Act.put, List.setIfInBounds_toArray, List.set_cons_zero, List.set_cons_succ]
    refine AnyE.take (i := 15) (.slice (some ⟨gR, 0, none⟩) qn cR) rfl (by kernel_rfl) (by kernel_rfl) (by kernel_rfl) (by kernel_rfl) (fun _ _ _ h => h) (.inl ⟨by kernel_rfl, fun wy hy => by (have q0 := (CELLS.out hy).2.1; go_simp; done)⟩) hHeld ?_
    try simp only [Act.put, List.setIfInBounds_toArray, List.set_cons_zero, List.set_cons_succ]
    refine AnyE.take (i := 16) (.pointer (some ⟨gR, 0, none⟩)) rfl (by kernel_rfl) (by kernel_rfl) (by kernel_rfl) (by kernel_rfl) (fun _ _ _ h => h) (.inl ⟨by kernel_rfl, fun wy hy => by (go_simp; done)⟩) hHeld ?_
    try simp only [Act.put, List.setIfInBounds_toArray, List.set_cons_zero, List.set_cons_succ]
    refine AnyE.take (i := 17) (.pointer (some ⟨rB, 0, none⟩)) rfl (by kernel_rfl) (by kernel_rfl) (by kernel_rfl) (by kernel_rfl) (fun _ _ _ h => h) (.inl ⟨by kernel_rfl, fun wy hy => by (have q0 := (CELLS.out hy).2.2.2.1; go_simp; done)⟩) hHeld ?_
    try simp only [Act.put, List.setIfInBounds_toArray, List.set_cons_zero, List.set_cons_succ]
    refine AnyE.one (i := 11) rfl (by kernel_rfl) (by kernel_rfl) (fun KK hK => ?_)
    go_simp
    go_at_call 10
    refine (files_any ((W1.out.later HBY1.out).pr HI.out).1.dsk).mono ?_
    rintro e2 Y2 ⟨a6, n6, k6, l6, he2, f6, hl6, bq⟩
    subst he2
    simp only at hl6
    have F6 := Lib.hid (And.intro f6 hl6)
    have hHeld1 := hHeld
    have hHeld : Below X.heap.size X Y2 := hHeld1.trans (bq.mono hHeld1.size)
    have HBY2 := Lib.hid hHeld
    clear hHeld1
    clear bq f6 hl6
    go_wp2_with fail
    refine hK.out _ _ ⟨fun _ => hHeld, ?_⟩
    clear hK
    try simp only [Act.put, List.setIfInBounds_toArray, List.set_cons_zero, List.set_cons_succ]
    refine AnyE.one (i := 18) rfl (by kernel_rfl) (by kernel_rfl) (fun KK hK => ?_)
    go_simp
    go_at_call 11
    refine (rFiles_any ((W1.out.later HBY2.out).pr HI.out).1.rd).mono ?_
    rintro e3 Y3 ⟨a7, n7, k7, l7, he3, f7, hl7, bq⟩
    subst he3
    simp only at hl7
    rw [HF.out.1] at hl7
    have SM := Lib.hid (files_same HF.out.2 (F6.out.1.later bq) F6.out.2 f7 hl7)
    have hHeld1 := hHeld
    have hHeld : Below X.heap.size X Y3 := hHeld1.trans (bq.mono hHeld1.size)
    have HBY3 := Lib.hid hHeld
    clear hHeld1
    clear bq f7 hl7
    go_wp2_with fail
    refine hK.out _ _ ⟨fun _ => hHeld, ?_⟩
    clear hK
    try simp only [Act.put, List.setIfInBounds_toArray, List.set_cons_zero, List.set_cons_succ]
    refine AnyE.one (i := 19) rfl (by kernel_rfl) (by kernel_rfl) (fun KK hK => ?_)
    go_simp
    go_at_call 9
    refine (SM.out).mono ?_
    rintro e4 Y4 ⟨he4, bq⟩
    subst he4
    have hHeld1 := hHeld
    have hHeld : Below X.heap.size X Y4 := hHeld1.trans (bq.mono hHeld1.size)
    have HBY4 := Lib.hid hHeld
    clear hHeld1
    clear bq SM
    go_wp2_with fail
    refine hK.out _ _ ⟨fun _ => hHeld, ?_⟩
    clear hK
    try simp only [Act.put, List.setIfInBounds_toArray, List.set_cons_zero, List.set_cons_succ]
    refine AnyE.one (i := 20) rfl (by kernel_rfl) (by kernel_rfl) (fun KK hK => ?_)
    go_simp
    refine hK.out _ _ ⟨fun _ => hHeld, ?_⟩
    clear hK
    try simp only [Act.put, List.setIfInBounds_toArray, List.set_cons_zero, List.set_cons_succ]
    refine AnyE.take (i := 21) (.bool true) rfl (by kernel_rfl) (by kernel_rfl) (by kernel_rfl) (by kernel_rfl) (fun _ _ _ h => h) (.inl ⟨by kernel_rfl, fun wy hy => by (go_simp; done)⟩) hHeld ?_
    try simp only [Act.put, List.setIfInBounds_toArray, List.set_cons_zero, List.set_cons_succ]
    refine AnyE.take (i := 22) (.pointer (some ⟨wB, 0, none⟩)) rfl (by kernel_rfl) (by kernel_rfl) (by kernel_rfl) (by kernel_rfl) (fun _ _ _ h => h) (.inl ⟨by kernel_rfl, fun wy hy => by (go_simp; done)⟩) hHeld ?_
    try simp only [Act.put, List.setIfInBounds_toArray, List.set_cons_zero, List.set_cons_succ]
    refine AnyE.take (i := 23) (.pointer (some ⟨wB, 0, none⟩)) rfl (by kernel_rfl) (by kernel_rfl) (by kernel_rfl) (by kernel_rfl) (fun _ _ _ h => h) (.inl ⟨by kernel_rfl, fun wy hy => by (go_simp; done)⟩) hHeld ?_
    try simp only [Act.put, List.setIfInBounds_toArray, List.set_cons_zero, List.set_cons_succ]
    refine AnyE.take (i := 24) (.pointer (some ⟨wB, 0, none⟩)) rfl (by kernel_rfl) (by kernel_rfl) (by kernel_rfl) (by kernel_rfl) (fun _ _ _ h => h) (.inl ⟨by kernel_rfl, fun wy hy => by (go_simp; done)⟩) hHeld ?_
    try simp only [Act.put, List.setIfInBounds_toArray, List.set_cons_zero, List.set_cons_succ]
    refine AnyE.take (i := 25) (.slice (some ⟨gD, 0, none⟩) qn cD) rfl (by kernel_rfl) (by kernel_rfl) (by kernel_rfl) (by kernel_rfl) (fun _ _ _ h => h) (.inl ⟨by kernel_rfl, fun wy hy => by (have q0 := (CELLS.out hy).1; go_simp; done)⟩) hHeld ?_
    try simp only [Act.put, List.setIfInBounds_toArray, List.set_cons_zero, List.set_cons_succ]
    refine AnyE.take (i := 26) (.pointer (some ⟨gD, 0, none⟩)) rfl (by kernel_rfl) (by kernel_rfl) (by kernel_rfl) (by kernel_rfl) (fun _ _ _ h => h) (.inl ⟨by kernel_rfl, fun wy hy => by (go_simp; done)⟩) hHeld ?_
    try simp only [Act.put, List.setIfInBounds_toArray, List.set_cons_zero, List.set_cons_succ]
    refine AnyE.take (i := 27) (.pointer (some ⟨dB, 0, none⟩)) rfl (by kernel_rfl) (by kernel_rfl) (by kernel_rfl) (by kernel_rfl) (fun _ _ _ h => h) (.inl ⟨by kernel_rfl, fun wy hy => by (have q0 := (CELLS.out hy).2.2.1; go_simp; done)⟩) hHeld ?_
    try simp only [Act.put, List.setIfInBounds_toArray, List.set_cons_zero, List.set_cons_succ]
    refine AnyE.take (i := 29) (.pointer (some ⟨wB, 0, none⟩)) rfl (by kernel_rfl) (by kernel_rfl) (by kernel_rfl) (by kernel_rfl) (fun _ _ _ h => h) (.inl ⟨by kernel_rfl, fun wy hy => by (go_simp; done)⟩) hHeld ?_
    try simp only [Act.put, List.setIfInBounds_toArray, List.set_cons_zero, List.set_cons_succ]
    refine AnyE.take (i := 30) (.pointer (some ⟨wB, 0, none⟩)) rfl (by kernel_rfl) (by kernel_rfl) (by kernel_rfl) (by kernel_rfl) (fun _ _ _ h => h) (.inl ⟨by kernel_rfl, fun wy hy => by (go_simp; done)⟩) hHeld ?_
    try simp only [Act.put, List.setIfInBounds_toArray, List.set_cons_zero, List.set_cons_succ]
    refine AnyE.take (i := 31) (.pointer (some ⟨wB, 1, none⟩)) rfl (by kernel_rfl) (by kernel_rfl) (by kernel_rfl) (by kernel_rfl) (fun _ _ _ h => h) (.inl ⟨by kernel_rfl, fun wy hy => by (go_simp; done)⟩) hHeld ?_
    try simp only [Act.put, List.setIfInBounds_toArray, List.set_cons_zero, List.set_cons_succ]
    refine AnyE.take (i := 32) (.slice (some ⟨gR, 0, none⟩) qn cR) rfl (by kernel_rfl) (by kernel_rfl) (by kernel_rfl) (by kernel_rfl) (fun _ _ _ h => h) (.inl ⟨by kernel_rfl, fun wy hy => by (have q0 := (CELLS.out hy).2.1; go_simp; done)⟩) hHeld ?_
    try simp only [Act.put, List.setIfInBounds_toArray, List.set_cons_zero, List.set_cons_succ]
    refine AnyE.take (i := 33) (.pointer (some ⟨gR, 0, none⟩)) rfl (by kernel_rfl) (by kernel_rfl) (by kernel_rfl) (by kernel_rfl) (fun _ _ _ h => h) (.inl ⟨by kernel_rfl, fun wy hy => by (go_simp; done)⟩) hHeld ?_
    try simp only [Act.put, List.setIfInBounds_toArray, List.set_cons_zero, List.set_cons_succ]
    refine AnyE.take (i := 34) (.pointer (some ⟨rB, 0, none⟩)) rfl (by kernel_rfl) (by kernel_rfl) (by kernel_rfl) (by kernel_rfl) (fun _ _ _ h => h) (.inl ⟨by kernel_rfl, fun wy hy => by (have q0 := (CELLS.out hy).2.2.2.1; go_simp; done)⟩) hHeld ?_
    try simp only [Act.put, List.setIfInBounds_toArray, List.set_cons_zero, List.set_cons_succ]
    refine AnyE.take (i := 35) (.pointer (some ⟨rB, 0, none⟩)) rfl (by kernel_rfl) (by kernel_rfl) (by kernel_rfl) (by kernel_rfl) (fun _ _ _ h => h) (.inl ⟨by kernel_rfl, fun wy hy => by (go_simp; done)⟩) hHeld ?_
    try simp only [Act.put, List.setIfInBounds_toArray, List.set_cons_zero, List.set_cons_succ]
    refine AnyE.take (i := 36) (.pointer (some ⟨rB, 4, none⟩)) rfl (by kernel_rfl) (by kernel_rfl) (by kernel_rfl) (by kernel_rfl) (fun _ _ _ h => h) (.inl ⟨by kernel_rfl, fun wy hy => by (go_simp; done)⟩) hHeld ?_
    try simp only [Act.put, List.setIfInBounds_toArray, List.set_cons_zero, List.set_cons_succ]
    refine AnyE.take (i := 37) (.agg #[.int .i64 (q 0), .int .i64 (q 1), .int .i64 (q 2), .int .i64 (q 3), .int .i64 (q 4), .int .i64 (q 5)]) rfl (by kernel_rfl) (by kernel_rfl) (by kernel_rfl) (by kernel_rfl) (fun _ _ _ h => h) (.inl ⟨by kernel_rfl, fun wy hy => by (have q0 := (CELLS.out hy).2.2.2.2.2.2.2.2.1; have q1 := (CELLS.out hy).2.2.2.2.2.2.2.2.2.1; have q2 := (CELLS.out hy).2.2.2.2.2.2.2.2.2.2.1; have q3 := (CELLS.out hy).2.2.2.2.2.2.2.2.2.2.2.1; have q4 := (CELLS.out hy).2.2.2.2.2.2.2.2.2.2.2.2.1; have q5 := (CELLS.out hy).2.2.2.2.2.2.2.2.2.2.2.2.2; go_simp; done)⟩) hHeld ?_
    try simp only [Act.put, List.setIfInBounds_toArray, List.set_cons_zero, List.set_cons_succ]
    refine AnyE.one (i := 28) rfl (by kernel_rfl) (by kernel_rfl) (fun KK hK => ?_)
    go_simp
    go_at_call 17
    have HC := counts4_any ((W1.out.later HBY4.out).pr HI.out).1.dsk
    simp only at HC
    rw [← HCT.out] at HC
    refine HC.mono ?_
    rintro e5 Y5 ⟨he5, bq⟩
    subst he5
    have hHeld1 := hHeld
    have hHeld : Below X.heap.size X Y5 := hHeld1.trans (bq.mono hHeld1.size)
    have HBY5 := Lib.hid hHeld
    clear hHeld1
    clear bq HC
    unfold ctV
    go_wp2_with fail
    refine hK.out _ _ ⟨fun _ => hHeld, ?_⟩
    clear hK
    try simp only [Act.put, List.setIfInBounds_toArray, List.set_cons_zero, List.set_cons_succ]
    refine AnyE.one (i := 38) rfl (by kernel_rfl) (by kernel_rfl) (fun KK hK => ?_)
    go_simp
    refine hK.out _ _ ⟨fun _ => hHeld, ?_⟩
    clear hK
    try simp only [Act.put, List.setIfInBounds_toArray, List.set_cons_zero, List.set_cons_succ]
    refine AnyE.one (i := 39) rfl (by kernel_rfl) (by kernel_rfl) (fun KK hK => ?_)
    go_simp
    refine hK.out _ _ ⟨fun _ => hHeld, ?_⟩
    clear hK
    try simp only [Act.put, List.setIfInBounds_toArray, List.set_cons_zero, List.set_cons_succ]
    refine AnyE.one (i := 40) rfl (by kernel_rfl) (by kernel_rfl) (fun KK hK => ?_)
    go_simp
    refine hK.out _ _ ⟨fun _ => hHeld, ?_⟩
    clear hK
    try simp only [Act.put, List.setIfInBounds_toArray, List.set_cons_zero, List.set_cons_succ]
    refine AnyE.done (by kernel_rfl) (NoPanic.normal ?_) _
    have HBF := Lib.hid hHeld
    clear hHeld
    go_simp
    go_step
    go_wp2
    go_ret
    exact ⟨rfl, HS.out.2.2.2.2.1.trans (HBF.out.mono HS.out.2.2.2.2.1.size)⟩
end Go.Proofs.Ytlkhphhmhffdjaa

namespace Go.Proofs.Ytlkhphhmhffdjaa
open Go.ChangeShapes Go.WideShapes Go.ChangeAt Go.RowKit
set_option linter.unusedVariables false

theorem own_knob : ownKnob Try.prog.godebug = none := by kernel_rfl
theorem laid_out : laidOutB Try.prog = true := by kernel_rfl
theorem und_int : Try.prog.underlying 3 = some (.int .i64) := by kernel_rfl
theorem und_bool : Try.prog.underlying 4 = some .bool := by kernel_rfl
theorem cells_byte : Try.prog.cellsOf 5 = 1 := by kernel_rfl
theorem cells_bytes : Try.prog.cellsOf 27 = 1 := by kernel_rfl

theorem bulk_pos {H : Type} (d : DataW H) : 1 ≤ Rows.uptoBulk d := by
 cases d with
 | lit l => cases l <;> simp [Rows.uptoBulk]
 | nil => simp [Rows.uptoBulk]
 | ptr d => simp [Rows.uptoBulk]
 | slice elems spare => simp [Rows.uptoBulk]
 | agg parts => simp [Rows.uptoBulk]
 | iface t d => simp [Rows.uptoBulk]
 | map entries => simp [Rows.uptoBulk]
 | held h => simp [Rows.uptoBulk]
theorem bulk_len {H : Type} (l : List (DataW H)) : l.length ≤ Rows.uptoBulkAll l := by
 induction l with
 | nil => simp [Rows.uptoBulkAll]
 | cons x r ih => have := bulk_pos x; simp only [Rows.uptoBulkAll, List.length_cons]; omega

theorem open_bytes {H : Type} {enc : TypeId × Value → H} {W : World} {v : Value} {d : DataW H} {p : List MemPlace} {base : Nat} {held : Bool} (h : DataW.Trod enc Try.prog W base (fun _ => true) held 27 v d p) (hs : ∃ a n c, v = .slice a n c) :
  ∃ bs : List Nat, (bs.length ≤ 281474976710656 → Rd W v bs) ∧ bs.length + 1 ≤ Rows.uptoBulk d ∧ (bs = [] ∨ ∃ elems spare, d = .slice elems spare ∧ elems.length = bs.length) := by
 obtain ⟨a, n, c, rfl⟩ := hs
 obtain ⟨fuel, hf⟩ := h
 rcases open_ints und_bytes und_byte cells_byte hf with ⟨hcs, hx⟩ | ⟨x, l, c', zs, hcs, _, hl, hm, hz, hx, hcell, hwz⟩
 ·simp [Value.cells] at hcs
  obtain ⟨rfl, rfl, rfl⟩ := hcs
  refine ⟨[], fun _ => Rd.nil W, ?_, .inl rfl⟩
  have := bulk_pos d
  simpa using this
 ·simp [Value.cells] at hcs
  obtain ⟨rfl, rfl, rfl⟩ := hcs
  simp only [if_true] at hz
  simp only [Prod.mk.injEq] at hx
  obtain ⟨rfl, _⟩ := hx
  have hby : ∀ i, i < zs.length → 0 ≤ zs.getD i 0 ∧ zs.getD i 0 < 256 := by
   intro i hi
   have hmem : zs.getD i 0 ∈ zs := by simp [List.getD, List.getElem?_eq_getElem hi]
   have := bounds_u8 (hwz _ hmem)
   omega
  refine ⟨(zs.take n).map Int.toNat, fun hlen => ⟨?_, some x, c, ?_, ?_, hm, hlen, ?_, ?_⟩, ?_, .inr ⟨_, _, rfl, by simp [lits]⟩⟩
  ·intro y hy
   simp only [List.mem_map] at hy
   obtain ⟨z, hz1, rfl⟩ := hy
   have := bounds_u8 (hwz z (List.mem_of_mem_take hz1))
   omega
  ·simp; omega
  ·simp; omega
  ·by_cases hc0 : c = 0
   ·exact .inl hc0
   ·right
    obtain ⟨b, off, spot⟩ := x
    have hc := hcell 0 (by omega)
    have hspot : spot = none := by simpa [Addr.add] using World.cell?_spot hc
    subst hspot
    exact ⟨b, off, rfl⟩
  ·by_cases hn0 : n = 0
   ·left; simp [hn0]
   ·right
    obtain ⟨b, off, spot⟩ := x
    have hc := hcell 0 (by omega)
    have hspot : spot = none := by simpa [Addr.add] using World.cell?_spot hc
    subst hspot
    refine ⟨b, off, rfl, fun i hi => ?_⟩
    have hin : i < n := by simp at hi; omega
    have hc := hcell i (by omega)
    have e : (⟨b, off, none⟩ : Addr).add i = ⟨b, off + i, none⟩ := by unfold Addr.add; split <;> simp_all
    rw [e] at hc
    rw [hc]
    have hb := hby i (by omega)
    have e2 : ((zs.take n).map Int.toNat).getD i 0 = (zs.getD i 0).toNat := by
     simp [List.getElem?_take_of_lt hin, List.getElem?_eq_getElem (show i < zs.length by omega)]
    rw [e2, Int.toNat_of_nonneg hb.1]
  ·have h1 := bulk_len (H := H) (lits .u8 (zs.take n))
   simp only [Rows.uptoBulk]
   simp [lits] at h1 ⊢
   omega

end Go.Proofs.Ytlkhphhmhffdjaa

namespace Go.Proofs.Ytlkhphhmhffdjaa
open Go.RowKit Go.MapKept Go.Sort
set_option linter.unusedVariables false
set_option linter.unusedSimpArgs false
variable {w w' W X : World} {O O' : Nat → Prop} {dB : Nat} {d : Dk4}
def UpD (d : Dk4) : Prop := d.arm = 0 ∧ d.down = false
def wrongS (bad : ByteArray) (t : Nat) : Bool := decide (bad.size = 0 ∨ 64 < bad.size ∨ ∃ j, j < t ∧ (byt4 bad j ≤ 32 ∨ 126 < byt4 bad j))
end Go.Proofs.Ytlkhphhmhffdjaa

namespace Go.Proofs.Ytlkhphhmhffdjaa
open Go.ChangeShapes Go.WideShapes Go.ChangeAt Go.RowKit
set_option linter.unusedVariables false

theorem cells_strN : Try.prog.cellsOf 9 = 1 := by kernel_rfl
end Go.Proofs.Ytlkhphhmhffdjaa

namespace Go.Proofs.Ytlkhphhmhffdjaa
open Go.ChangeShapes Go.WideShapes Go.ChangeAt Go.RowKit
set_option linter.unusedVariables false
set_option linter.unusedSimpArgs false
theorem und_ints4 : Try.prog.underlying 28 = some (.slice 3) := by kernel_rfl
theorem cells_int4 : Try.prog.cellsOf 3 = 1 := by kernel_rfl
theorem und_int4 : Try.prog.underlying 3 = some (.int .i64) := by kernel_rfl
theorem slice_one4 {H : Type} {enc : TypeId × Value → H} {W : World} {base fuel : Nat} {held : Bool} {t e : TypeId} {c : Value} {x : DataW H × List MemPlace} (hu : Try.prog.underlying t = some (.slice e)) (h : DataW.trod enc Try.prog W base (fun _ => true) held fuel t [c] = some x) : (∃ a n k, c = .slice a n k) ∧ DataW.Trod enc Try.prog W base (fun _ => true) held t c x.1 x.2 := by
 have hsl : ∃ a n k, c = .slice a n k := by
  rcases DataW.trod_slice hu h with ⟨h0, _⟩ | ⟨a, len, cap, _, _, _, _, h0, _⟩
  ·simp at h0; exact ⟨_, _, _, h0⟩
  ·simp at h0; exact ⟨_, _, _, h0⟩
 refine ⟨hsl, fuel, ?_⟩
 obtain ⟨a, n, k, rfl⟩ := hsl
 simpa [Value.cells] using h
theorem open_nums4 {H : Type} {enc : TypeId × Value → H} {W : World} {v : Value} {d : DataW H} {p : List MemPlace} {base : Nat} {held : Bool} (h : DataW.Trod enc Try.prog W base (fun _ => true) held 28 v d p) (hs : ∃ a n c, v = .slice a n c) : ∃ (js : List Int) (a : Option Addr) (c : Nat), v = .slice a js.length c ∧ RdI4 W (fun i => W.heap.size ≤ i) a c js := by
 obtain ⟨a, n, c, rfl⟩ := hs
 obtain ⟨fuel, hf⟩ := h
 rcases open_ints und_ints4 und_int4 cells_int4 hf with ⟨hcs, hx⟩ | ⟨x, l, c', zs, hcs, _, hl, hm, hz, hx, hcell, hwz⟩
 ·simp [Value.cells] at hcs
  obtain ⟨rfl, rfl, rfl⟩ := hcs
  exact ⟨[], none, 0, rfl, ⟨by simp, by decide⟩, fun i j hj => by simp at hj⟩
 ·simp [Value.cells] at hcs
  obtain ⟨rfl, rfl, rfl⟩ := hcs
  simp only [if_true] at hz
  have hlen : (zs.take n).length = n := by rw [List.length_take]; omega
  refine ⟨zs.take n, some x, c, by rw [hlen], ⟨by omega, hm⟩, fun i j hj => ?_⟩
  have hin : i < n := by
   have := (List.getElem?_eq_some_iff.1 hj).1
   omega
  obtain ⟨b, off, spot⟩ := x
  have hc := hcell 0 (by omega)
  have hspot : spot = none := by simpa [Addr.add] using World.cell?_spot hc
  subst hspot
  rw [List.getElem?_take_of_lt hin] at hj
  have hc := hcell i (by omega)
  have e : (⟨b, off, none⟩ : Addr).add i = ⟨b, off + i, none⟩ := by unfold Addr.add; split <;> simp_all
  rw [e] at hc
  have hl := World.block_lt_of_cell? _ _ hc
  simp only at hl
  refine ⟨b, off, rfl, fun z => by omega, ?_⟩
  rw [hc]
  simp [List.getD, hj]
end Go.Proofs.Ytlkhphhmhffdjaa
