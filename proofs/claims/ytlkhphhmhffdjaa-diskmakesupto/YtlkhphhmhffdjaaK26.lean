import Derived.Test.YtlkhphhmhffdjaaK25
set_option linter.unusedSimpArgs false
set_option linter.unusedVariables false
namespace Go.Proofs.Ytlkhphhmhffdjaa
open Go.RowKit Go.MapKept Go.Sort
variable {w w' W X : World} {O O' U U' : Nat → Prop} {wB i : Nat} {z : Int} {qs : List Pr4} {o : OpD} {p : Pr4}
theorem makes_any (hk : o.kind = 17 ∨ o.kind = 18 ∨ o.kind = 19) (h : Ws w wB U z qs) (hi : qs[i]? = some p) (hl : Lks qs) (ho : RdOp w U o) (hz : z + 1000000000000 ≤ 4611686018427387904) : Calls Try.prog 7 #[.pointer (some ⟨wB, 0, none⟩), o.val, .int .i64 (i : Int)] w (MakesP w wB U z qs) := by
 by_cases h5 : 5 ≤ qs.length
 ·exact makes_full h hl h5
 ·rcases hk with k | k | k
  ·exact makes_new k h hl ho (by omega)
  ·exact makes_load k h hl ho (by omega) hz
  ·exact makes_twin k h hi hl (by omega) hz
def Calms (kk : Int) (qs qs' : List Pr4) : Prop := kk ≠ 11 → (∀ p ∈ qs, p.d.down = false ∧ p.d.arm = 0) → ∀ p ∈ qs', p.d.down = false ∧ p.d.arm = 0
def PlaysP (w : World) (wB : Nat) (U : Nat → Prop) (z : Int) (qs : List Pr4) (kk : Int) (e : Ending) (w' : World) : Prop := e = .returned (.bool true) ∧ ∃ (U' : Nat → Prop) (z' : Int) (qs' : List Pr4), Ws w' wB U' z' qs' ∧ Lks qs' ∧ Go4 w w' U U' ∧ z' ≤ z + 1000000000000 ∧ qs.length ≤ qs'.length ∧ (kk ≠ 17 ∧ kk ≠ 18 ∧ kk ≠ 19 → Calms kk qs qs')
theorem plays_acts {X w' : World} {U0 : Nat → Prop} {e : Ending} (hi : qs[i]? = some p) (hl : Lks qs) (g0 : Go4 w X U0 U) (h : ActsP X wB U z qs i o.kind p.d e w') : PlaysP w wB U0 z qs o.kind e w' := by
 obtain ⟨rfl, U', z', p', s, lk, g, hz, cm⟩ := h
 refine ⟨rfl, U', z', _, s, fun q hq => ?_, g0.trans g, hz, by rw [List.length_set]; exact Nat.le_refl _, fun _ h11 hc q hq => ?_⟩
 ·obtain ⟨j, hj⟩ := List.getElem?_of_mem hq
  rcases set_cases hj with ⟨_, rfl⟩ | ⟨_, hj2⟩
  ·exact lk
  ·exact hl q (List.mem_of_getElem? hj2)
 ·obtain ⟨j, hj⟩ := List.getElem?_of_mem hq
  rcases set_cases hj with ⟨_, rfl⟩ | ⟨_, hj2⟩
  ·have := hc p (List.mem_of_getElem? hi)
   exact cm h11 this.1 this.2
  ·exact hc q (List.mem_of_getElem? hj2)
theorem plays_makes {X w' : World} {U0 : Nat → Prop} {e : Ending} (hk : o.kind = 17 ∨ o.kind = 18 ∨ o.kind = 19) (g0 : Go4 w X U0 U) (h : MakesP X wB U z qs e w') : PlaysP w wB U0 z qs o.kind e w' := by
 obtain ⟨rfl, U', z', qs', s, lk, g, hz, hq⟩ := h
 refine ⟨rfl, U', z', _, s, lk, g0.trans g, hz, ?_, fun hn => ?_⟩
 ·rcases hq with rfl | ⟨p', rfl, _⟩
  ·exact Nat.le_refl _
  ·simp
 ·rcases hk with k | k | k
  ·exact absurd k hn.1
  ·exact absurd k hn.2.1
  ·exact absurd k hn.2.2
set_option maxRecDepth 100000 in
set_option maxHeartbeats 4000000 in
theorem plays_any (h : Ws w wB U z qs) (hl : Lks qs) (ho : RdOp w U o) (h0 : 0 < qs.length) (hz : z + 1000000000000 ≤ 4611686018427387904) : Calls Try.prog 16 #[.pointer (some ⟨wB, 0, none⟩), o.val] w (PlaysP w wB U z qs o.kind) := by
 have nb : ¬ U w.heap.size := fun q => Nat.lt_irrefl _ (h.lt _ q)
 have hfew := h.few
 have hr0 := h.rows
 obtain ⟨aD, cD, aR, cR, hr0⟩ := hr0
 have hqn : ∃ qn, qn = qs.length := ⟨_, rfl⟩
 obtain ⟨qn, hqn⟩ := hqn
 rw [← hqn] at h0 hfew hr0
 have hb : -(qn : Int) < o.obj.tmod (qn : Int) ∧ o.obj.tmod (qn : Int) < (qn : Int) := by
  have h1 := Int.tmod_lt_of_pos o.obj (by omega : (0 : Int) < (qn : Int))
  have h2 := Int.lt_tmod_of_pos o.obj (by omega : (0 : Int) < (qn : Int))
  exact ⟨h2, h1⟩
 have hii : ∃ i : Nat, i < qn ∧ (i : Int) = if o.obj.tmod (qn : Int) < 0 then o.obj.tmod (qn : Int) + (qn : Int) else o.obj.tmod (qn : Int) := by
  split
  ·exact ⟨(o.obj.tmod (qn : Int) + (qn : Int)).toNat, by omega, by omega⟩
  ·exact ⟨(o.obj.tmod (qn : Int)).toNat, by omega, by omega⟩
 obtain ⟨i, hil, hie⟩ := hii
 have hx : ∃ p, qs[i]? = some p := ⟨_, List.getElem?_eq_getElem (by rw [← hqn]; exact hil)⟩
 obtain ⟨p, hi⟩ := hx
 have hr1 := hr0.2.2 i p hi
 obtain ⟨gD, hr1⟩ := hr1
 obtain ⟨gR, hr1⟩ := hr1
 have haD := hr1.1
 have haR := hr1.2.1
 subst haD
 subst haR
 have hlp := hl p (List.mem_of_getElem? hi)
 obtain ⟨dB, hdB⟩ : ∃ x, x = p.dB := ⟨_, rfl⟩
 obtain ⟨rB, hrB⟩ : ∃ x, x = p.rB := ⟨_, rfl⟩
 have hr2 : w.cell? ⟨gD, i, none⟩ = some (.pointer (some ⟨dB, 0, none⟩)) ∧ w.cell? ⟨gR, i, none⟩ = some (.pointer (some ⟨rB, 0, none⟩)) := by rw [hdB, hrB]; exact hr1.2.2
 have NB := Lib.hid nb
 have HCE := Lib.hid (And.intro hr0.1 (And.intro hr0.2.1 hr2))
 have HW := Lib.hid h
 have HI := Lib.hid hi
 have HLP := Lib.hid (And.intro hlp hl)
 have HO := Lib.hid ho
 have HZ := Lib.hid hz
 have HIE := Lib.hid (And.intro hb hie)
 have HPB := Lib.hid (And.intro hdB hrB)
 have jq : (0 : Int) < (qn : Int) := by omega
 have jqn : ¬ (qn : Int) = 0 := by omega
 have jqb : (qn : Int) ≤ 5 := by omega
 have ji : (i : Int) < (qn : Int) := by omega
 have ji0 : (0 : Int) ≤ (i : Int) := by omega
 have hw : IntKind.i64.wrap (o.obj.tmod (qn : Int)) = o.obj.tmod (qn : Int) := IntWalk.i64_in _ ⟨by omega, by omega⟩
 have hw2 : o.obj.tmod (qn : Int) < 0 → IntKind.i64.wrap (o.obj.tmod (qn : Int) + (qn : Int)) = (i : Int) := fun hn => by rw [IntWalk.i64_in _ ⟨by omega, by omega⟩, hie, if_pos hn]
 have HW2 := Lib.hid (And.intro hw hw2)
 clear nb hr0 hr1 hr2 hqn h hi hlp hl ho hz hb hie hdB hrB hw hw2 h0 hfew hil
 unfold OpD.val
 go_enter Try.func16, Try.ntmps16
 go_upto_region 1 with fail
 have hX : ∃ X, X = w.alloc (.cells #[.int .i64 o.kind, .int .i64 o.obj, .string o.nm, .string o.nt, .slice o.aB o.nB o.kB, .int .i64 o.pos, .int .i64 o.num, .slice o.aC o.nC o.kC, .slice o.aF o.nF o.kF] 30) := ⟨_, rfl⟩
 obtain ⟨X, hX⟩ := hX
 have bx : OBox X w.heap.size o := by rw [hX]; exact heap_new _ _
 have bA : Below w.heap.size w X := by rw [hX]; exact (Below.refl _ _).alloc (Nat.le_refl _) _
 rw [← hX]
 clear hX
 have hbo : ∃ bo, bo = w.heap.size := ⟨_, rfl⟩
 obtain ⟨bo, hbo⟩ := hbo
 rw [← hbo] at bx ⊢
 rw [← hbo] at NB
 have HX := Lib.hid (And.intro bx bA)
 have W1 := Lib.hid (HW.out.later bA)
 have cells : ∀ {V : World}, Below X.heap.size X V → V.cell? ⟨wB, 0, none⟩ = some (.slice (some ⟨gD, 0, none⟩) qn cD) ∧ V.cell? ⟨wB, 1, none⟩ = some (.slice (some ⟨gR, 0, none⟩) qn cR) := fun b => by
  have b2 := bA.trans (b.mono bA.size)
  exact ⟨(b2.cell (World.block_lt_of_cell? _ _ HCE.out.1)).trans HCE.out.1, (b2.cell (World.block_lt_of_cell? _ _ HCE.out.2.1)).trans HCE.out.2.1⟩
 have ci : ∀ {V : World}, Below X.heap.size X V → V.cell? ⟨gD, i, none⟩ = some (.pointer (some ⟨dB, 0, none⟩)) ∧ V.cell? ⟨gR, i, none⟩ = some (.pointer (some ⟨rB, 0, none⟩)) := fun b => by
  have b2 := bA.trans (b.mono bA.size)
  exact ⟨(b2.cell (World.block_lt_of_cell? _ _ HCE.out.2.2.1)).trans HCE.out.2.2.1, (b2.cell (World.block_lt_of_cell? _ _ HCE.out.2.2.2)).trans HCE.out.2.2.2⟩
 have CELLS := @Lib.hid _ @cells
 have CI := @Lib.hid _ @ci
 clear bx bA cells ci hbo
 have BD : Below X.heap.size X X.drew := (Below.refl _ _).drew
 refine wp_region_noPanic ?_
 refine wp_region_anyE (S := fun wx => OBox wx bo o ∧ Below X.heap.size X wx) (E := fun j => true) (by kernel_rfl) ?_
 have hHeld : OBox X.drew bo o ∧ Below X.heap.size X X.drew := ⟨HX.out.1.later BD, BD⟩
 have HBD := Lib.hid BD
 have hZ0 : ∃ z, z = X.drew := ⟨_, rfl⟩
 obtain ⟨Z0, hZ0⟩ := hZ0
 rw [← hZ0] at HBD hHeld ⊢
 clear hZ0 BD
 refine AnyE.take (i := 0) (.pointer (some ⟨bo, 1, none⟩)) rfl (by kernel_rfl) (by kernel_rfl) (by kernel_rfl) (by kernel_rfl) (fun _ _ _ h => h) (.inl ⟨by kernel_rfl, fun wy hy => by (go_simp; done)⟩) hHeld ?_
 try simp only [Act.put, List.setIfInBounds_toArray, List.set_cons_zero, List.set_cons_succ]
 refine AnyE.take (i := 1) (.int .i64 o.obj) rfl (by kernel_rfl) (by kernel_rfl) (by kernel_rfl) (by kernel_rfl) (fun _ _ _ h => h) (.inl ⟨by kernel_rfl, fun wy hy => by (have q0 := hy.1.cells.2.1; go_simp; done)⟩) hHeld ?_
 try simp only [Act.put, List.setIfInBounds_toArray, List.set_cons_zero, List.set_cons_succ]
 refine AnyE.take (i := 2) (.pointer (some ⟨wB, 0, none⟩)) rfl (by kernel_rfl) (by kernel_rfl) (by kernel_rfl) (by kernel_rfl) (fun _ _ _ h => h) (.inl ⟨by kernel_rfl, fun wy hy => by (go_simp; done)⟩) hHeld ?_
 try simp only [Act.put, List.setIfInBounds_toArray, List.set_cons_zero, List.set_cons_succ]
 refine AnyE.take (i := 3) (.pointer (some ⟨wB, 0, none⟩)) rfl (by kernel_rfl) (by kernel_rfl) (by kernel_rfl) (by kernel_rfl) (fun _ _ _ h => h) (.inl ⟨by kernel_rfl, fun wy hy => by (go_simp; done)⟩) hHeld ?_
 try simp only [Act.put, List.setIfInBounds_toArray, List.set_cons_zero, List.set_cons_succ]
 refine AnyE.take (i := 4) (.pointer (some ⟨wB, 0, none⟩)) rfl (by kernel_rfl) (by kernel_rfl) (by kernel_rfl) (by kernel_rfl) (fun _ _ _ h => h) (.inl ⟨by kernel_rfl, fun wy hy => by (go_simp; done)⟩) hHeld ?_
 try simp only [Act.put, List.setIfInBounds_toArray, List.set_cons_zero, List.set_cons_succ]
 refine AnyE.take (i := 5) (.slice (some ⟨gD, 0, none⟩) qn cD) rfl (by kernel_rfl) (by kernel_rfl) (by kernel_rfl) (by kernel_rfl) (fun _ _ _ h => h) (.inl ⟨by kernel_rfl, fun wy hy => by (have q0 := (CELLS.out hy.2).1; go_simp; done)⟩) hHeld ?_
 try simp only [Act.put, List.setIfInBounds_toArray, List.set_cons_zero, List.set_cons_succ]
 refine AnyE.take (i := 6) (.int .i64 (qn : Int)) rfl (by kernel_rfl) (by kernel_rfl) (by kernel_rfl) (by kernel_rfl) (fun _ _ _ h => h) (.inl ⟨by kernel_rfl, fun wy hy => by (go_simp; done)⟩) hHeld ?_
 try simp only [Act.put, List.setIfInBounds_toArray, List.set_cons_zero, List.set_cons_succ]
 refine AnyE.one (i := 7) rfl (by kernel_rfl) (by kernel_rfl) (fun KK hK => ?_)
 have hw := HW2.out.1
 have jn0 : ¬ qn = 0 := by omega
 go_simp
 refine hK.out _ _ ⟨fun _ => hHeld, ?_⟩
 clear hK
 try simp only [Act.put, List.setIfInBounds_toArray, List.set_cons_zero, List.set_cons_succ]
 refine AnyE.one (i := 8) rfl (by kernel_rfl) (by kernel_rfl) (fun KK hK => ?_)
 go_simp
 refine hK.out _ _ ⟨fun _ => hHeld, ?_⟩
 clear hK
 try simp only [Act.put, List.setIfInBounds_toArray, List.set_cons_zero, List.set_cons_succ]
 refine AnyE.done (by kernel_rfl) (NoPanic.normal ?_) _
 clear hHeld hw jn0
 have HHX := Lib.hid (And.intro HX.out.1 HBD.out)
 go_simp
 go_step
 have W3 := Lib.hid (W1.out.later HBD.out)
 by_cases hn : o.obj.tmod (qn : Int) < 0
 ·have hw2 := HW2.out.2 hn
  have d0 := (CELLS.out HBD.out).1
  go_upto_region 4 with fail
  clear hw2 d0
  by_cases hk : o.kind = 17
  ·have HK := Lib.hid hk
   have e17 : (o.kind == 17) = true := by simp; exact hk
   clear hk
   have c0 := (HX.out.1.later HBD.out).cells.1
   have q1 := (HX.out.1.later HBD.out).cells.2.1
   have q2 := (HX.out.1.later HBD.out).cells.2.2.1
   have q3 := (HX.out.1.later HBD.out).cells.2.2.2.1
   have q4 := (HX.out.1.later HBD.out).cells.2.2.2.2.1
   have q5 := (HX.out.1.later HBD.out).cells.2.2.2.2.2.1
   have q6 := (HX.out.1.later HBD.out).cells.2.2.2.2.2.2.1
   have q7 := (HX.out.1.later HBD.out).cells.2.2.2.2.2.2.2.1
   have q8 := (HX.out.1.later HBD.out).cells.2.2.2.2.2.2.2.2
   go_wp2_with fail
   have HC := makes_any (.inl HK.out) W3.out HI.out HLP.out.2 (HO.out.go (Go4.of_below (O := U) (HX.out.2.trans (HBD.out.mono HX.out.2.size)))) HZ.out
   unfold OpD.val at HC
   refine HC.mono ?_
   intro e9 Z9 hm
   have HM := Lib.hid hm
   have he9 := hm.1
   subst he9
   clear hm HC c0 q1 q2 q3 q4 q5 q6 q7 q8
   go_wp2
   go_ret
   exact plays_makes (.inl HK.out) (Go4.of_below (HX.out.2.trans (HBD.out.mono HX.out.2.size))) HM.out
  have hk17 := hk
  clear hk
  by_cases hk : o.kind = 18
  ·have HK := Lib.hid hk
   have e17 : (o.kind == 17) = false := by simp; omega
   have e18 : (o.kind == 18) = true := by simp; exact hk
   clear hk
   have c0 := (HX.out.1.later HBD.out).cells.1
   have q1 := (HX.out.1.later HBD.out).cells.2.1
   have q2 := (HX.out.1.later HBD.out).cells.2.2.1
   have q3 := (HX.out.1.later HBD.out).cells.2.2.2.1
   have q4 := (HX.out.1.later HBD.out).cells.2.2.2.2.1
   have q5 := (HX.out.1.later HBD.out).cells.2.2.2.2.2.1
   have q6 := (HX.out.1.later HBD.out).cells.2.2.2.2.2.2.1
   have q7 := (HX.out.1.later HBD.out).cells.2.2.2.2.2.2.2.1
   have q8 := (HX.out.1.later HBD.out).cells.2.2.2.2.2.2.2.2
   go_wp2_with fail
   have HC := makes_any (.inr (.inl HK.out)) W3.out HI.out HLP.out.2 (HO.out.go (Go4.of_below (O := U) (HX.out.2.trans (HBD.out.mono HX.out.2.size)))) HZ.out
   unfold OpD.val at HC
   refine HC.mono ?_
   intro e9 Z9 hm
   have HM := Lib.hid hm
   have he9 := hm.1
   subst he9
   clear hm HC c0 q1 q2 q3 q4 q5 q6 q7 q8
   go_wp2
   go_ret
   exact plays_makes (.inr (.inl HK.out)) (Go4.of_below (HX.out.2.trans (HBD.out.mono HX.out.2.size))) HM.out
  have hk18 := hk
  clear hk
  by_cases hk : o.kind = 19
  ·have HK := Lib.hid hk
   have e17 : (o.kind == 17) = false := by simp; omega
   have e18 : (o.kind == 18) = false := by simp; omega
   have e19 : (o.kind == 19) = true := by simp; exact hk
   clear hk
   have c0 := (HX.out.1.later HBD.out).cells.1
   have q1 := (HX.out.1.later HBD.out).cells.2.1
   have q2 := (HX.out.1.later HBD.out).cells.2.2.1
   have q3 := (HX.out.1.later HBD.out).cells.2.2.2.1
   have q4 := (HX.out.1.later HBD.out).cells.2.2.2.2.1
   have q5 := (HX.out.1.later HBD.out).cells.2.2.2.2.2.1
   have q6 := (HX.out.1.later HBD.out).cells.2.2.2.2.2.2.1
   have q7 := (HX.out.1.later HBD.out).cells.2.2.2.2.2.2.2.1
   have q8 := (HX.out.1.later HBD.out).cells.2.2.2.2.2.2.2.2
   go_wp2_with fail
   have HC := makes_any (.inr (.inr HK.out)) W3.out HI.out HLP.out.2 (HO.out.go (Go4.of_below (O := U) (HX.out.2.trans (HBD.out.mono HX.out.2.size)))) HZ.out
   unfold OpD.val at HC
   refine HC.mono ?_
   intro e9 Z9 hm
   have HM := Lib.hid hm
   have he9 := hm.1
   subst he9
   clear hm HC c0 q1 q2 q3 q4 q5 q6 q7 q8
   go_wp2
   go_ret
   exact plays_makes (.inr (.inr HK.out)) (Go4.of_below (HX.out.2.trans (HBD.out.mono HX.out.2.size))) HM.out
  have hk19 := hk
  clear hk
  by_cases hk : o.kind = 1
  ·have HK := Lib.hid hk
   have e17 : (o.kind == 17) = false := by simp; omega
   have e18 : (o.kind == 18) = false := by simp; omega
   have e19 : (o.kind == 19) = false := by simp; omega
   have e1 : (o.kind == 1) = true := by simp; exact hk
   clear hk
   have c0 := (HX.out.1.later HBD.out).cells.1
   go_upto_region 17 with fail
   clear c0 e17 e18 e19 e1
   have BD : Below Z0.heap.size Z0 Z0.drew := (Below.refl _ _).drew
   refine wp_region_noPanic ?_
   refine wp_region_anyE (S := fun wx => OBox wx bo o ∧ Below X.heap.size X wx) (E := fun j => decide (j < 16)) (by kernel_rfl) ?_
   have bd2 : Below X.heap.size X Z0.drew := HBD.out.trans (BD.mono HBD.out.size)
   have hHeld : OBox Z0.drew bo o ∧ Below X.heap.size X Z0.drew := ⟨HX.out.1.later bd2, bd2⟩
   have HB2 := Lib.hid bd2
   have hZ0 : ∃ z, z = Z0.drew := ⟨_, rfl⟩
   obtain ⟨Z2, hZ0⟩ := hZ0
   rw [← hZ0] at HB2 hHeld ⊢
   clear hZ0 BD bd2
   refine AnyE.takeD (i := 0) (fun j => [16, 17].contains j) (.pointer (some ⟨wB, 0, none⟩)) rfl (by kernel_rfl) (by kernel_rfl) (by kernel_rfl) (fun _ _ _ h => h) (.inl ⟨by kernel_rfl, fun wy hy => by (go_simp; done)⟩) hHeld ?_
   try simp only [Act.put, List.setIfInBounds_toArray, List.set_cons_zero, List.set_cons_succ]
   refine AnyE.takeD (i := 1) (fun j => [16, 17].contains j) (.agg #[.int .i64 o.kind, .int .i64 o.obj, .string o.nm, .string o.nt, .slice o.aB o.nB o.kB, .int .i64 o.pos, .int .i64 o.num, .slice o.aC o.nC o.kC, .slice o.aF o.nF o.kF]) rfl (by kernel_rfl) (by kernel_rfl) (by kernel_rfl) (fun _ _ _ h => h) (.inl ⟨by kernel_rfl, fun wy hy => by (have q0 := hy.1.cells.1; have q1 := hy.1.cells.2.1; have q2 := hy.1.cells.2.2.1; have q3 := hy.1.cells.2.2.2.1; have q4 := hy.1.cells.2.2.2.2.1; have q5 := hy.1.cells.2.2.2.2.2.1; have q6 := hy.1.cells.2.2.2.2.2.2.1; have q7 := hy.1.cells.2.2.2.2.2.2.2.1; have q8 := hy.1.cells.2.2.2.2.2.2.2.2; go_simp; done)⟩) hHeld ?_
   try simp only [Act.put, List.setIfInBounds_toArray, List.set_cons_zero, List.set_cons_succ]
   refine AnyE.takeD (i := 2) (fun j => [3, 4, 5, 7, 8, 16, 17].contains j) (.pointer (some ⟨wB, 0, none⟩)) rfl (by kernel_rfl) (by kernel_rfl) (by kernel_rfl) (fun _ _ _ h => h) (.inl ⟨by kernel_rfl, fun wy hy => by (go_simp; done)⟩) hHeld ?_
   try simp only [Act.put, List.setIfInBounds_toArray, List.set_cons_zero, List.set_cons_succ]
   refine AnyE.takeD (i := 3) (fun j => [4, 5, 7, 8, 16, 17].contains j) (.pointer (some ⟨wB, 0, none⟩)) rfl (by kernel_rfl) (by kernel_rfl) (by kernel_rfl) (fun _ _ _ h => h) (.inl ⟨by kernel_rfl, fun wy hy => by (go_simp; done)⟩) hHeld ?_
   try simp only [Act.put, List.setIfInBounds_toArray, List.set_cons_zero, List.set_cons_succ]
   refine AnyE.takeD (i := 4) (fun j => [5, 7, 8, 16, 17].contains j) (.pointer (some ⟨wB, 0, none⟩)) rfl (by kernel_rfl) (by kernel_rfl) (by kernel_rfl) (fun _ _ _ h => h) (.inl ⟨by kernel_rfl, fun wy hy => by (go_simp; done)⟩) hHeld ?_
   try simp only [Act.put, List.setIfInBounds_toArray, List.set_cons_zero, List.set_cons_succ]
   refine AnyE.takeD (i := 5) (fun j => [7, 8, 16, 17].contains j) (.slice (some ⟨gD, 0, none⟩) qn cD) rfl (by kernel_rfl) (by kernel_rfl) (by kernel_rfl) (fun _ _ _ h => h) (.inl ⟨by kernel_rfl, fun wy hy => by (have q0 := (CELLS.out hy.2).1; go_simp; done)⟩) hHeld ?_
   try simp only [Act.put, List.setIfInBounds_toArray, List.set_cons_zero, List.set_cons_succ]
   refine AnyE.takeD (i := 6) (fun j => [7, 8, 16, 17].contains j) (.int .i64 (i : Int)) rfl (by kernel_rfl) (by kernel_rfl) (by kernel_rfl) (fun _ _ _ h => h) (.inl ⟨by kernel_rfl, fun wy hy => by (go_simp; done)⟩) hHeld ?_
   try simp only [Act.put, List.setIfInBounds_toArray, List.set_cons_zero, List.set_cons_succ]
   refine AnyE.takeD (i := 7) (fun j => [8, 16, 17].contains j) (.pointer (some ⟨gD, i, none⟩)) rfl (by kernel_rfl) (by kernel_rfl) (by kernel_rfl) (fun _ _ _ h => h) (.inl ⟨by kernel_rfl, fun wy hy => by (go_simp; done)⟩) hHeld ?_
   try simp only [Act.put, List.setIfInBounds_toArray, List.set_cons_zero, List.set_cons_succ]
   refine AnyE.takeD (i := 8) (fun j => [16, 17].contains j) (.pointer (some ⟨dB, 0, none⟩)) rfl (by kernel_rfl) (by kernel_rfl) (by kernel_rfl) (fun _ _ _ h => h) (.inl ⟨by kernel_rfl, fun wy hy => by (have q0 := (CI.out hy.2).1; go_simp; done)⟩) hHeld ?_
   try simp only [Act.put, List.setIfInBounds_toArray, List.set_cons_zero, List.set_cons_succ]
   refine AnyE.takeD (i := 9) (fun j => [10, 11, 12, 14, 15, 16, 17].contains j) (.pointer (some ⟨wB, 0, none⟩)) rfl (by kernel_rfl) (by kernel_rfl) (by kernel_rfl) (fun _ _ _ h => h) (.inl ⟨by kernel_rfl, fun wy hy => by (go_simp; done)⟩) hHeld ?_
   try simp only [Act.put, List.setIfInBounds_toArray, List.set_cons_zero, List.set_cons_succ]
   refine AnyE.takeD (i := 10) (fun j => [11, 12, 14, 15, 16, 17].contains j) (.pointer (some ⟨wB, 0, none⟩)) rfl (by kernel_rfl) (by kernel_rfl) (by kernel_rfl) (fun _ _ _ h => h) (.inl ⟨by kernel_rfl, fun wy hy => by (go_simp; done)⟩) hHeld ?_
   try simp only [Act.put, List.setIfInBounds_toArray, List.set_cons_zero, List.set_cons_succ]
   refine AnyE.takeD (i := 11) (fun j => [12, 14, 15, 16, 17].contains j) (.pointer (some ⟨wB, 1, none⟩)) rfl (by kernel_rfl) (by kernel_rfl) (by kernel_rfl) (fun _ _ _ h => h) (.inl ⟨by kernel_rfl, fun wy hy => by (go_simp; done)⟩) hHeld ?_
   try simp only [Act.put, List.setIfInBounds_toArray, List.set_cons_zero, List.set_cons_succ]
   refine AnyE.takeD (i := 12) (fun j => [14, 15, 16, 17].contains j) (.slice (some ⟨gR, 0, none⟩) qn cR) rfl (by kernel_rfl) (by kernel_rfl) (by kernel_rfl) (fun _ _ _ h => h) (.inl ⟨by kernel_rfl, fun wy hy => by (have q0 := (CELLS.out hy.2).2; go_simp; done)⟩) hHeld ?_
   try simp only [Act.put, List.setIfInBounds_toArray, List.set_cons_zero, List.set_cons_succ]
   refine AnyE.takeD (i := 13) (fun j => [14, 15, 16, 17].contains j) (.int .i64 (i : Int)) rfl (by kernel_rfl) (by kernel_rfl) (by kernel_rfl) (fun _ _ _ h => h) (.inl ⟨by kernel_rfl, fun wy hy => by (go_simp; done)⟩) hHeld ?_
   try simp only [Act.put, List.setIfInBounds_toArray, List.set_cons_zero, List.set_cons_succ]
   refine AnyE.takeD (i := 14) (fun j => [15, 16, 17].contains j) (.pointer (some ⟨gR, i, none⟩)) rfl (by kernel_rfl) (by kernel_rfl) (by kernel_rfl) (fun _ _ _ h => h) (.inl ⟨by kernel_rfl, fun wy hy => by (go_simp; done)⟩) hHeld ?_
   try simp only [Act.put, List.setIfInBounds_toArray, List.set_cons_zero, List.set_cons_succ]
   refine AnyE.takeD (i := 15) (fun j => [16, 17].contains j) (.pointer (some ⟨rB, 0, none⟩)) rfl (by kernel_rfl) (by kernel_rfl) (by kernel_rfl) (fun _ _ _ h => h) (.inl ⟨by kernel_rfl, fun wy hy => by (have q0 := (CI.out hy.2).2; go_simp; done)⟩) hHeld ?_
   try simp only [Act.put, List.setIfInBounds_toArray, List.set_cons_zero, List.set_cons_succ]
   refine AnyE.one (i := 16) rfl (by kernel_rfl) (by kernel_rfl) (fun KK hK => ?_)
   go_simp
   go_at_call 37
   have W4 := Lib.hid (W1.out.later HB2.out)
   have HC := acts_any (.inl HK.out) W4.out HI.out HLP.out.1 (HO.out.go (Go4.of_below (O := U) (HX.out.2.trans (HB2.out.mono HX.out.2.size)))) HZ.out
   unfold OpD.val at HC
   rw [← HPB.out.1, ← HPB.out.2] at HC
   have hHeld1 := hHeld
   refine HC.mono ?_
   intro e9 Z9 hm
   have HM := Lib.hid hm
   have he9 := hm.1
   subst he9
   clear hm HC hHeld1 hHeld
   go_wp2_with fail
   refine hK.out _ _ ⟨fun h => (by cases h), ?_⟩
   clear hK
   try simp only [Act.put, List.setIfInBounds_toArray, List.set_cons_zero, List.set_cons_succ]
   refine AnyE.one (i := 17) rfl (by kernel_rfl) (by kernel_rfl) (fun KK hK => ?_)
   go_simp
   refine hK.out _ _ ⟨fun h => (by cases h), ?_⟩
   clear hK
   try simp only [Act.put, List.setIfInBounds_toArray, List.set_cons_zero, List.set_cons_succ]
   refine AnyE.done (by kernel_rfl) (NoPanic.normal ?_) _
   go_simp
   go_step
   go_wp2
   go_ret
   exact plays_acts HI.out HLP.out.2 (Go4.of_below (HX.out.2.trans (HB2.out.mono HX.out.2.size))) HM.out
  have hk1 := hk
  clear hk
  by_cases hk : o.kind = 2
  ·have HK := Lib.hid hk
   have e17 : (o.kind == 17) = false := by simp; omega
   have e18 : (o.kind == 18) = false := by simp; omega
   have e19 : (o.kind == 19) = false := by simp; omega
   have e1 : (o.kind == 1) = false := by simp; omega
   have e2 : (o.kind == 2) = true := by simp; exact hk
   clear hk
   have c0 := (HX.out.1.later HBD.out).cells.1
   go_upto_region 17 with fail
   clear c0 e17 e18 e19 e1 e2
   have BD : Below Z0.heap.size Z0 Z0.drew := (Below.refl _ _).drew
   refine wp_region_noPanic ?_
   refine wp_region_anyE (S := fun wx => OBox wx bo o ∧ Below X.heap.size X wx) (E := fun j => decide (j < 16)) (by kernel_rfl) ?_
   have bd2 : Below X.heap.size X Z0.drew := HBD.out.trans (BD.mono HBD.out.size)
   have hHeld : OBox Z0.drew bo o ∧ Below X.heap.size X Z0.drew := ⟨HX.out.1.later bd2, bd2⟩
   have HB2 := Lib.hid bd2
   have hZ0 : ∃ z, z = Z0.drew := ⟨_, rfl⟩
   obtain ⟨Z2, hZ0⟩ := hZ0
   rw [← hZ0] at HB2 hHeld ⊢
   clear hZ0 BD bd2
   refine AnyE.takeD (i := 0) (fun j => [16, 17].contains j) (.pointer (some ⟨wB, 0, none⟩)) rfl (by kernel_rfl) (by kernel_rfl) (by kernel_rfl) (fun _ _ _ h => h) (.inl ⟨by kernel_rfl, fun wy hy => by (go_simp; done)⟩) hHeld ?_
   try simp only [Act.put, List.setIfInBounds_toArray, List.set_cons_zero, List.set_cons_succ]
   refine AnyE.takeD (i := 1) (fun j => [16, 17].contains j) (.agg #[.int .i64 o.kind, .int .i64 o.obj, .string o.nm, .string o.nt, .slice o.aB o.nB o.kB, .int .i64 o.pos, .int .i64 o.num, .slice o.aC o.nC o.kC, .slice o.aF o.nF o.kF]) rfl (by kernel_rfl) (by kernel_rfl) (by kernel_rfl) (fun _ _ _ h => h) (.inl ⟨by kernel_rfl, fun wy hy => by (have q0 := hy.1.cells.1; have q1 := hy.1.cells.2.1; have q2 := hy.1.cells.2.2.1; have q3 := hy.1.cells.2.2.2.1; have q4 := hy.1.cells.2.2.2.2.1; have q5 := hy.1.cells.2.2.2.2.2.1; have q6 := hy.1.cells.2.2.2.2.2.2.1; have q7 := hy.1.cells.2.2.2.2.2.2.2.1; have q8 := hy.1.cells.2.2.2.2.2.2.2.2; go_simp; done)⟩) hHeld ?_
   try simp only [Act.put, List.setIfInBounds_toArray, List.set_cons_zero, List.set_cons_succ]
   refine AnyE.takeD (i := 2) (fun j => [3, 4, 5, 7, 8, 16, 17].contains j) (.pointer (some ⟨wB, 0, none⟩)) rfl (by kernel_rfl) (by kernel_rfl) (by kernel_rfl) (fun _ _ _ h => h) (.inl ⟨by kernel_rfl, fun wy hy => by (go_simp; done)⟩) hHeld ?_
   try simp only [Act.put, List.setIfInBounds_toArray, List.set_cons_zero, List.set_cons_succ]
   refine AnyE.takeD (i := 3) (fun j => [4, 5, 7, 8, 16, 17].contains j) (.pointer (some ⟨wB, 0, none⟩)) rfl (by kernel_rfl) (by kernel_rfl) (by kernel_rfl) (fun _ _ _ h => h) (.inl ⟨by kernel_rfl, fun wy hy => by (go_simp; done)⟩) hHeld ?_
   try simp only [Act.put, List.setIfInBounds_toArray, List.set_cons_zero, List.set_cons_succ]
   refine AnyE.takeD (i := 4) (fun j => [5, 7, 8, 16, 17].contains j) (.pointer (some ⟨wB, 0, none⟩)) rfl (by kernel_rfl) (by kernel_rfl) (by kernel_rfl) (fun _ _ _ h => h) (.inl ⟨by kernel_rfl, fun wy hy => by (go_simp; done)⟩) hHeld ?_
   try simp only [Act.put, List.setIfInBounds_toArray, List.set_cons_zero, List.set_cons_succ]
   refine AnyE.takeD (i := 5) (fun j => [7, 8, 16, 17].contains j) (.slice (some ⟨gD, 0, none⟩) qn cD) rfl (by kernel_rfl) (by kernel_rfl) (by kernel_rfl) (fun _ _ _ h => h) (.inl ⟨by kernel_rfl, fun wy hy => by (have q0 := (CELLS.out hy.2).1; go_simp; done)⟩) hHeld ?_
   try simp only [Act.put, List.setIfInBounds_toArray, List.set_cons_zero, List.set_cons_succ]
   refine AnyE.takeD (i := 6) (fun j => [7, 8, 16, 17].contains j) (.int .i64 (i : Int)) rfl (by kernel_rfl) (by kernel_rfl) (by kernel_rfl) (fun _ _ _ h => h) (.inl ⟨by kernel_rfl, fun wy hy => by (go_simp; done)⟩) hHeld ?_
   try simp only [Act.put, List.setIfInBounds_toArray, List.set_cons_zero, List.set_cons_succ]
   refine AnyE.takeD (i := 7) (fun j => [8, 16, 17].contains j) (.pointer (some ⟨gD, i, none⟩)) rfl (by kernel_rfl) (by kernel_rfl) (by kernel_rfl) (fun _ _ _ h => h) (.inl ⟨by kernel_rfl, fun wy hy => by (go_simp; done)⟩) hHeld ?_
   try simp only [Act.put, List.setIfInBounds_toArray, List.set_cons_zero, List.set_cons_succ]
   refine AnyE.takeD (i := 8) (fun j => [16, 17].contains j) (.pointer (some ⟨dB, 0, none⟩)) rfl (by kernel_rfl) (by kernel_rfl) (by kernel_rfl) (fun _ _ _ h => h) (.inl ⟨by kernel_rfl, fun wy hy => by (have q0 := (CI.out hy.2).1; go_simp; done)⟩) hHeld ?_
   try simp only [Act.put, List.setIfInBounds_toArray, List.set_cons_zero, List.set_cons_succ]
   refine AnyE.takeD (i := 9) (fun j => [10, 11, 12, 14, 15, 16, 17].contains j) (.pointer (some ⟨wB, 0, none⟩)) rfl (by kernel_rfl) (by kernel_rfl) (by kernel_rfl) (fun _ _ _ h => h) (.inl ⟨by kernel_rfl, fun wy hy => by (go_simp; done)⟩) hHeld ?_
   try simp only [Act.put, List.setIfInBounds_toArray, List.set_cons_zero, List.set_cons_succ]
   refine AnyE.takeD (i := 10) (fun j => [11, 12, 14, 15, 16, 17].contains j) (.pointer (some ⟨wB, 0, none⟩)) rfl (by kernel_rfl) (by kernel_rfl) (by kernel_rfl) (fun _ _ _ h => h) (.inl ⟨by kernel_rfl, fun wy hy => by (go_simp; done)⟩) hHeld ?_
   try simp only [Act.put, List.setIfInBounds_toArray, List.set_cons_zero, List.set_cons_succ]
   refine AnyE.takeD (i := 11) (fun j => [12, 14, 15, 16, 17].contains j) (.pointer (some ⟨wB, 1, none⟩)) rfl (by kernel_rfl) (by kernel_rfl) (by kernel_rfl) (fun _ _ _ h => h) (.inl ⟨by kernel_rfl, fun wy hy => by (go_simp; done)⟩) hHeld ?_
   try simp only [Act.put, List.setIfInBounds_toArray, List.set_cons_zero, List.set_cons_succ]
   refine AnyE.takeD (i := 12) (fun j => [14, 15, 16, 17].contains j) (.slice (some ⟨gR, 0, none⟩) qn cR) rfl (by kernel_rfl) (by kernel_rfl) (by kernel_rfl) (fun _ _ _ h => h) (.inl ⟨by kernel_rfl, fun wy hy => by (have q0 := (CELLS.out hy.2).2; go_simp; done)⟩) hHeld ?_
   try simp only [Act.put, List.setIfInBounds_toArray, List.set_cons_zero, List.set_cons_succ]
   refine AnyE.takeD (i := 13) (fun j => [14, 15, 16, 17].contains j) (.int .i64 (i : Int)) rfl (by kernel_rfl) (by kernel_rfl) (by kernel_rfl) (fun _ _ _ h => h) (.inl ⟨by kernel_rfl, fun wy hy => by (go_simp; done)⟩) hHeld ?_
   try simp only [Act.put, List.setIfInBounds_toArray, List.set_cons_zero, List.set_cons_succ]
   refine AnyE.takeD (i := 14) (fun j => [15, 16, 17].contains j) (.pointer (some ⟨gR, i, none⟩)) rfl (by kernel_rfl) (by kernel_rfl) (by kernel_rfl) (fun _ _ _ h => h) (.inl ⟨by kernel_rfl, fun wy hy => by (go_simp; done)⟩) hHeld ?_
   try simp only [Act.put, List.setIfInBounds_toArray, List.set_cons_zero, List.set_cons_succ]
   refine AnyE.takeD (i := 15) (fun j => [16, 17].contains j) (.pointer (some ⟨rB, 0, none⟩)) rfl (by kernel_rfl) (by kernel_rfl) (by kernel_rfl) (fun _ _ _ h => h) (.inl ⟨by kernel_rfl, fun wy hy => by (have q0 := (CI.out hy.2).2; go_simp; done)⟩) hHeld ?_
   try simp only [Act.put, List.setIfInBounds_toArray, List.set_cons_zero, List.set_cons_succ]
   refine AnyE.one (i := 16) rfl (by kernel_rfl) (by kernel_rfl) (fun KK hK => ?_)
   go_simp
   go_at_call 37
   have W4 := Lib.hid (W1.out.later HB2.out)
   have HC := acts_any (.inr (.inl HK.out)) W4.out HI.out HLP.out.1 (HO.out.go (Go4.of_below (O := U) (HX.out.2.trans (HB2.out.mono HX.out.2.size)))) HZ.out
   unfold OpD.val at HC
   rw [← HPB.out.1, ← HPB.out.2] at HC
   have hHeld1 := hHeld
   refine HC.mono ?_
   intro e9 Z9 hm
   have HM := Lib.hid hm
   have he9 := hm.1
   subst he9
   clear hm HC hHeld1 hHeld
   go_wp2_with fail
   refine hK.out _ _ ⟨fun h => (by cases h), ?_⟩
   clear hK
   try simp only [Act.put, List.setIfInBounds_toArray, List.set_cons_zero, List.set_cons_succ]
   refine AnyE.one (i := 17) rfl (by kernel_rfl) (by kernel_rfl) (fun KK hK => ?_)
   go_simp
   refine hK.out _ _ ⟨fun h => (by cases h), ?_⟩
   clear hK
   try simp only [Act.put, List.setIfInBounds_toArray, List.set_cons_zero, List.set_cons_succ]
   refine AnyE.done (by kernel_rfl) (NoPanic.normal ?_) _
   go_simp
   go_step
   go_wp2
   go_ret
   exact plays_acts HI.out HLP.out.2 (Go4.of_below (HX.out.2.trans (HB2.out.mono HX.out.2.size))) HM.out
  have hk2 := hk
  clear hk
  by_cases hk : o.kind = 3
  ·have HK := Lib.hid hk
   have e17 : (o.kind == 17) = false := by simp; omega
   have e18 : (o.kind == 18) = false := by simp; omega
   have e19 : (o.kind == 19) = false := by simp; omega
   have e1 : (o.kind == 1) = false := by simp; omega
   have e2 : (o.kind == 2) = false := by simp; omega
   have e3 : (o.kind == 3) = true := by simp; exact hk
   clear hk
   have c0 := (HX.out.1.later HBD.out).cells.1
   go_upto_region 17 with fail
   clear c0 e17 e18 e19 e1 e2 e3
   have BD : Below Z0.heap.size Z0 Z0.drew := (Below.refl _ _).drew
   refine wp_region_noPanic ?_
   refine wp_region_anyE (S := fun wx => OBox wx bo o ∧ Below X.heap.size X wx) (E := fun j => decide (j < 16)) (by kernel_rfl) ?_
   have bd2 : Below X.heap.size X Z0.drew := HBD.out.trans (BD.mono HBD.out.size)
   have hHeld : OBox Z0.drew bo o ∧ Below X.heap.size X Z0.drew := ⟨HX.out.1.later bd2, bd2⟩
   have HB2 := Lib.hid bd2
   have hZ0 : ∃ z, z = Z0.drew := ⟨_, rfl⟩
   obtain ⟨Z2, hZ0⟩ := hZ0
   rw [← hZ0] at HB2 hHeld ⊢
   clear hZ0 BD bd2
   refine AnyE.takeD (i := 0) (fun j => [16, 17].contains j) (.pointer (some ⟨wB, 0, none⟩)) rfl (by kernel_rfl) (by kernel_rfl) (by kernel_rfl) (fun _ _ _ h => h) (.inl ⟨by kernel_rfl, fun wy hy => by (go_simp; done)⟩) hHeld ?_
   try simp only [Act.put, List.setIfInBounds_toArray, List.set_cons_zero, List.set_cons_succ]
   refine AnyE.takeD (i := 1) (fun j => [16, 17].contains j) (.agg #[.int .i64 o.kind, .int .i64 o.obj, .string o.nm, .string o.nt, .slice o.aB o.nB o.kB, .int .i64 o.pos, .int .i64 o.num, .slice o.aC o.nC o.kC, .slice o.aF o.nF o.kF]) rfl (by kernel_rfl) (by kernel_rfl) (by kernel_rfl) (fun _ _ _ h => h) (.inl ⟨by kernel_rfl, fun wy hy => by (have q0 := hy.1.cells.1; have q1 := hy.1.cells.2.1; have q2 := hy.1.cells.2.2.1; have q3 := hy.1.cells.2.2.2.1; have q4 := hy.1.cells.2.2.2.2.1; have q5 := hy.1.cells.2.2.2.2.2.1; have q6 := hy.1.cells.2.2.2.2.2.2.1; have q7 := hy.1.cells.2.2.2.2.2.2.2.1; have q8 := hy.1.cells.2.2.2.2.2.2.2.2; go_simp; done)⟩) hHeld ?_
   try simp only [Act.put, List.setIfInBounds_toArray, List.set_cons_zero, List.set_cons_succ]
   refine AnyE.takeD (i := 2) (fun j => [3, 4, 5, 7, 8, 16, 17].contains j) (.pointer (some ⟨wB, 0, none⟩)) rfl (by kernel_rfl) (by kernel_rfl) (by kernel_rfl) (fun _ _ _ h => h) (.inl ⟨by kernel_rfl, fun wy hy => by (go_simp; done)⟩) hHeld ?_
   try simp only [Act.put, List.setIfInBounds_toArray, List.set_cons_zero, List.set_cons_succ]
   refine AnyE.takeD (i := 3) (fun j => [4, 5, 7, 8, 16, 17].contains j) (.pointer (some ⟨wB, 0, none⟩)) rfl (by kernel_rfl) (by kernel_rfl) (by kernel_rfl) (fun _ _ _ h => h) (.inl ⟨by kernel_rfl, fun wy hy => by (go_simp; done)⟩) hHeld ?_
   try simp only [Act.put, List.setIfInBounds_toArray, List.set_cons_zero, List.set_cons_succ]
   refine AnyE.takeD (i := 4) (fun j => [5, 7, 8, 16, 17].contains j) (.pointer (some ⟨wB, 0, none⟩)) rfl (by kernel_rfl) (by kernel_rfl) (by kernel_rfl) (fun _ _ _ h => h) (.inl ⟨by kernel_rfl, fun wy hy => by (go_simp; done)⟩) hHeld ?_
   try simp only [Act.put, List.setIfInBounds_toArray, List.set_cons_zero, List.set_cons_succ]
   refine AnyE.takeD (i := 5) (fun j => [7, 8, 16, 17].contains j) (.slice (some ⟨gD, 0, none⟩) qn cD) rfl (by kernel_rfl) (by kernel_rfl) (by kernel_rfl) (fun _ _ _ h => h) (.inl ⟨by kernel_rfl, fun wy hy => by (have q0 := (CELLS.out hy.2).1; go_simp; done)⟩) hHeld ?_
   try simp only [Act.put, List.setIfInBounds_toArray, List.set_cons_zero, List.set_cons_succ]
   refine AnyE.takeD (i := 6) (fun j => [7, 8, 16, 17].contains j) (.int .i64 (i : Int)) rfl (by kernel_rfl) (by kernel_rfl) (by kernel_rfl) (fun _ _ _ h => h) (.inl ⟨by kernel_rfl, fun wy hy => by (go_simp; done)⟩) hHeld ?_
   try simp only [Act.put, List.setIfInBounds_toArray, List.set_cons_zero, List.set_cons_succ]
   refine AnyE.takeD (i := 7) (fun j => [8, 16, 17].contains j) (.pointer (some ⟨gD, i, none⟩)) rfl (by kernel_rfl) (by kernel_rfl) (by kernel_rfl) (fun _ _ _ h => h) (.inl ⟨by kernel_rfl, fun wy hy => by (go_simp; done)⟩) hHeld ?_
   try simp only [Act.put, List.setIfInBounds_toArray, List.set_cons_zero, List.set_cons_succ]
   refine AnyE.takeD (i := 8) (fun j => [16, 17].contains j) (.pointer (some ⟨dB, 0, none⟩)) rfl (by kernel_rfl) (by kernel_rfl) (by kernel_rfl) (fun _ _ _ h => h) (.inl ⟨by kernel_rfl, fun wy hy => by (have q0 := (CI.out hy.2).1; go_simp; done)⟩) hHeld ?_
   try simp only [Act.put, List.setIfInBounds_toArray, List.set_cons_zero, List.set_cons_succ]
   refine AnyE.takeD (i := 9) (fun j => [10, 11, 12, 14, 15, 16, 17].contains j) (.pointer (some ⟨wB, 0, none⟩)) rfl (by kernel_rfl) (by kernel_rfl) (by kernel_rfl) (fun _ _ _ h => h) (.inl ⟨by kernel_rfl, fun wy hy => by (go_simp; done)⟩) hHeld ?_
   try simp only [Act.put, List.setIfInBounds_toArray, List.set_cons_zero, List.set_cons_succ]
   refine AnyE.takeD (i := 10) (fun j => [11, 12, 14, 15, 16, 17].contains j) (.pointer (some ⟨wB, 0, none⟩)) rfl (by kernel_rfl) (by kernel_rfl) (by kernel_rfl) (fun _ _ _ h => h) (.inl ⟨by kernel_rfl, fun wy hy => by (go_simp; done)⟩) hHeld ?_
   try simp only [Act.put, List.setIfInBounds_toArray, List.set_cons_zero, List.set_cons_succ]
   refine AnyE.takeD (i := 11) (fun j => [12, 14, 15, 16, 17].contains j) (.pointer (some ⟨wB, 1, none⟩)) rfl (by kernel_rfl) (by kernel_rfl) (by kernel_rfl) (fun _ _ _ h => h) (.inl ⟨by kernel_rfl, fun wy hy => by (go_simp; done)⟩) hHeld ?_
   try simp only [Act.put, List.setIfInBounds_toArray, List.set_cons_zero, List.set_cons_succ]
   refine AnyE.takeD (i := 12) (fun j => [14, 15, 16, 17].contains j) (.slice (some ⟨gR, 0, none⟩) qn cR) rfl (by kernel_rfl) (by kernel_rfl) (by kernel_rfl) (fun _ _ _ h => h) (.inl ⟨by kernel_rfl, fun wy hy => by (have q0 := (CELLS.out hy.2).2; go_simp; done)⟩) hHeld ?_
   try simp only [Act.put, List.setIfInBounds_toArray, List.set_cons_zero, List.set_cons_succ]
   refine AnyE.takeD (i := 13) (fun j => [14, 15, 16, 17].contains j) (.int .i64 (i : Int)) rfl (by kernel_rfl) (by kernel_rfl) (by kernel_rfl) (fun _ _ _ h => h) (.inl ⟨by kernel_rfl, fun wy hy => by (go_simp; done)⟩) hHeld ?_
   try simp only [Act.put, List.setIfInBounds_toArray, List.set_cons_zero, List.set_cons_succ]
   refine AnyE.takeD (i := 14) (fun j => [15, 16, 17].contains j) (.pointer (some ⟨gR, i, none⟩)) rfl (by kernel_rfl) (by kernel_rfl) (by kernel_rfl) (fun _ _ _ h => h) (.inl ⟨by kernel_rfl, fun wy hy => by (go_simp; done)⟩) hHeld ?_
   try simp only [Act.put, List.setIfInBounds_toArray, List.set_cons_zero, List.set_cons_succ]
   refine AnyE.takeD (i := 15) (fun j => [16, 17].contains j) (.pointer (some ⟨rB, 0, none⟩)) rfl (by kernel_rfl) (by kernel_rfl) (by kernel_rfl) (fun _ _ _ h => h) (.inl ⟨by kernel_rfl, fun wy hy => by (have q0 := (CI.out hy.2).2; go_simp; done)⟩) hHeld ?_
   try simp only [Act.put, List.setIfInBounds_toArray, List.set_cons_zero, List.set_cons_succ]
   refine AnyE.one (i := 16) rfl (by kernel_rfl) (by kernel_rfl) (fun KK hK => ?_)
   go_simp
   go_at_call 37
   have W4 := Lib.hid (W1.out.later HB2.out)
   have HC := acts_any (.inr (.inr (.inl HK.out))) W4.out HI.out HLP.out.1 (HO.out.go (Go4.of_below (O := U) (HX.out.2.trans (HB2.out.mono HX.out.2.size)))) HZ.out
   unfold OpD.val at HC
   rw [← HPB.out.1, ← HPB.out.2] at HC
   have hHeld1 := hHeld
   refine HC.mono ?_
   intro e9 Z9 hm
   have HM := Lib.hid hm
   have he9 := hm.1
   subst he9
   clear hm HC hHeld1 hHeld
   go_wp2_with fail
   refine hK.out _ _ ⟨fun h => (by cases h), ?_⟩
   clear hK
   try simp only [Act.put, List.setIfInBounds_toArray, List.set_cons_zero, List.set_cons_succ]
   refine AnyE.one (i := 17) rfl (by kernel_rfl) (by kernel_rfl) (fun KK hK => ?_)
   go_simp
   refine hK.out _ _ ⟨fun h => (by cases h), ?_⟩
   clear hK
   try simp only [Act.put, List.setIfInBounds_toArray, List.set_cons_zero, List.set_cons_succ]
   refine AnyE.done (by kernel_rfl) (NoPanic.normal ?_) _
   go_simp
   go_step
   go_wp2
   go_ret
   exact plays_acts HI.out HLP.out.2 (Go4.of_below (HX.out.2.trans (HB2.out.mono HX.out.2.size))) HM.out
  have hk3 := hk
  clear hk
  by_cases hk : o.kind = 4
  ·have HK := Lib.hid hk
   have e17 : (o.kind == 17) = false := by simp; omega
   have e18 : (o.kind == 18) = false := by simp; omega
   have e19 : (o.kind == 19) = false := by simp; omega
   have e1 : (o.kind == 1) = false := by simp; omega
   have e2 : (o.kind == 2) = false := by simp; omega
   have e3 : (o.kind == 3) = false := by simp; omega
   have e4 : (o.kind == 4) = true := by simp; exact hk
   clear hk
   have c0 := (HX.out.1.later HBD.out).cells.1
   go_upto_region 17 with fail
   clear c0 e17 e18 e19 e1 e2 e3 e4
   have BD : Below Z0.heap.size Z0 Z0.drew := (Below.refl _ _).drew
   refine wp_region_noPanic ?_
   refine wp_region_anyE (S := fun wx => OBox wx bo o ∧ Below X.heap.size X wx) (E := fun j => decide (j < 16)) (by kernel_rfl) ?_
   have bd2 : Below X.heap.size X Z0.drew := HBD.out.trans (BD.mono HBD.out.size)
   have hHeld : OBox Z0.drew bo o ∧ Below X.heap.size X Z0.drew := ⟨HX.out.1.later bd2, bd2⟩
   have HB2 := Lib.hid bd2
   have hZ0 : ∃ z, z = Z0.drew := ⟨_, rfl⟩
   obtain ⟨Z2, hZ0⟩ := hZ0
   rw [← hZ0] at HB2 hHeld ⊢
   clear hZ0 BD bd2
   refine AnyE.takeD (i := 0) (fun j => [16, 17].contains j) (.pointer (some ⟨wB, 0, none⟩)) rfl (by kernel_rfl) (by kernel_rfl) (by kernel_rfl) (fun _ _ _ h => h) (.inl ⟨by kernel_rfl, fun wy hy => by (go_simp; done)⟩) hHeld ?_
   try simp only [Act.put, List.setIfInBounds_toArray, List.set_cons_zero, List.set_cons_succ]
   refine AnyE.takeD (i := 1) (fun j => [16, 17].contains j) (.agg #[.int .i64 o.kind, .int .i64 o.obj, .string o.nm, .string o.nt, .slice o.aB o.nB o.kB, .int .i64 o.pos, .int .i64 o.num, .slice o.aC o.nC o.kC, .slice o.aF o.nF o.kF]) rfl (by kernel_rfl) (by kernel_rfl) (by kernel_rfl) (fun _ _ _ h => h) (.inl ⟨by kernel_rfl, fun wy hy => by (have q0 := hy.1.cells.1; have q1 := hy.1.cells.2.1; have q2 := hy.1.cells.2.2.1; have q3 := hy.1.cells.2.2.2.1; have q4 := hy.1.cells.2.2.2.2.1; have q5 := hy.1.cells.2.2.2.2.2.1; have q6 := hy.1.cells.2.2.2.2.2.2.1; have q7 := hy.1.cells.2.2.2.2.2.2.2.1; have q8 := hy.1.cells.2.2.2.2.2.2.2.2; go_simp; done)⟩) hHeld ?_
   try simp only [Act.put, List.setIfInBounds_toArray, List.set_cons_zero, List.set_cons_succ]
   refine AnyE.takeD (i := 2) (fun j => [3, 4, 5, 7, 8, 16, 17].contains j) (.pointer (some ⟨wB, 0, none⟩)) rfl (by kernel_rfl) (by kernel_rfl) (by kernel_rfl) (fun _ _ _ h => h) (.inl ⟨by kernel_rfl, fun wy hy => by (go_simp; done)⟩) hHeld ?_
   try simp only [Act.put, List.setIfInBounds_toArray, List.set_cons_zero, List.set_cons_succ]
   refine AnyE.takeD (i := 3) (fun j => [4, 5, 7, 8, 16, 17].contains j) (.pointer (some ⟨wB, 0, none⟩)) rfl (by kernel_rfl) (by kernel_rfl) (by kernel_rfl) (fun _ _ _ h => h) (.inl ⟨by kernel_rfl, fun wy hy => by (go_simp; done)⟩) hHeld ?_
   try simp only [Act.put, List.setIfInBounds_toArray, List.set_cons_zero, List.set_cons_succ]
   refine AnyE.takeD (i := 4) (fun j => [5, 7, 8, 16, 17].contains j) (.pointer (some ⟨wB, 0, none⟩)) rfl (by kernel_rfl) (by kernel_rfl) (by kernel_rfl) (fun _ _ _ h => h) (.inl ⟨by kernel_rfl, fun wy hy => by (go_simp; done)⟩) hHeld ?_
   try simp only [Act.put, List.setIfInBounds_toArray, List.set_cons_zero, List.set_cons_succ]
   refine AnyE.takeD (i := 5) (fun j => [7, 8, 16, 17].contains j) (.slice (some ⟨gD, 0, none⟩) qn cD) rfl (by kernel_rfl) (by kernel_rfl) (by kernel_rfl) (fun _ _ _ h => h) (.inl ⟨by kernel_rfl, fun wy hy => by (have q0 := (CELLS.out hy.2).1; go_simp; done)⟩) hHeld ?_
   try simp only [Act.put, List.setIfInBounds_toArray, List.set_cons_zero, List.set_cons_succ]
   refine AnyE.takeD (i := 6) (fun j => [7, 8, 16, 17].contains j) (.int .i64 (i : Int)) rfl (by kernel_rfl) (by kernel_rfl) (by kernel_rfl) (fun _ _ _ h => h) (.inl ⟨by kernel_rfl, fun wy hy => by (go_simp; done)⟩) hHeld ?_
   try simp only [Act.put, List.setIfInBounds_toArray, List.set_cons_zero, List.set_cons_succ]
   refine AnyE.takeD (i := 7) (fun j => [8, 16, 17].contains j) (.pointer (some ⟨gD, i, none⟩)) rfl (by kernel_rfl) (by kernel_rfl) (by kernel_rfl) (fun _ _ _ h => h) (.inl ⟨by kernel_rfl, fun wy hy => by (go_simp; done)⟩) hHeld ?_
   try simp only [Act.put, List.setIfInBounds_toArray, List.set_cons_zero, List.set_cons_succ]
   refine AnyE.takeD (i := 8) (fun j => [16, 17].contains j) (.pointer (some ⟨dB, 0, none⟩)) rfl (by kernel_rfl) (by kernel_rfl) (by kernel_rfl) (fun _ _ _ h => h) (.inl ⟨by kernel_rfl, fun wy hy => by (have q0 := (CI.out hy.2).1; go_simp; done)⟩) hHeld ?_
   try simp only [Act.put, List.setIfInBounds_toArray, List.set_cons_zero, List.set_cons_succ]
   refine AnyE.takeD (i := 9) (fun j => [10, 11, 12, 14, 15, 16, 17].contains j) (.pointer (some ⟨wB, 0, none⟩)) rfl (by kernel_rfl) (by kernel_rfl) (by kernel_rfl) (fun _ _ _ h => h) (.inl ⟨by kernel_rfl, fun wy hy => by (go_simp; done)⟩) hHeld ?_
   try simp only [Act.put, List.setIfInBounds_toArray, List.set_cons_zero, List.set_cons_succ]
   refine AnyE.takeD (i := 10) (fun j => [11, 12, 14, 15, 16, 17].contains j) (.pointer (some ⟨wB, 0, none⟩)) rfl (by kernel_rfl) (by kernel_rfl) (by kernel_rfl) (fun _ _ _ h => h) (.inl ⟨by kernel_rfl, fun wy hy => by (go_simp; done)⟩) hHeld ?_
   try simp only [Act.put, List.setIfInBounds_toArray, List.set_cons_zero, List.set_cons_succ]
   refine AnyE.takeD (i := 11) (fun j => [12, 14, 15, 16, 17].contains j) (.pointer (some ⟨wB, 1, none⟩)) rfl (by kernel_rfl) (by kernel_rfl) (by kernel_rfl) (fun _ _ _ h => h) (.inl ⟨by kernel_rfl, fun wy hy => by (go_simp; done)⟩) hHeld ?_
   try simp only [Act.put, List.setIfInBounds_toArray, List.set_cons_zero, List.set_cons_succ]
   refine AnyE.takeD (i := 12) (fun j => [14, 15, 16, 17].contains j) (.slice (some ⟨gR, 0, none⟩) qn cR) rfl (by kernel_rfl) (by kernel_rfl) (by kernel_rfl) (fun _ _ _ h => h) (.inl ⟨by kernel_rfl, fun wy hy => by (have q0 := (CELLS.out hy.2).2; go_simp; done)⟩) hHeld ?_
   try simp only [Act.put, List.setIfInBounds_toArray, List.set_cons_zero, List.set_cons_succ]
   refine AnyE.takeD (i := 13) (fun j => [14, 15, 16, 17].contains j) (.int .i64 (i : Int)) rfl (by kernel_rfl) (by kernel_rfl) (by kernel_rfl) (fun _ _ _ h => h) (.inl ⟨by kernel_rfl, fun wy hy => by (go_simp; done)⟩) hHeld ?_
   try simp only [Act.put, List.setIfInBounds_toArray, List.set_cons_zero, List.set_cons_succ]
   refine AnyE.takeD (i := 14) (fun j => [15, 16, 17].contains j) (.pointer (some ⟨gR, i, none⟩)) rfl (by kernel_rfl) (by kernel_rfl) (by kernel_rfl) (fun _ _ _ h => h) (.inl ⟨by kernel_rfl, fun wy hy => by (go_simp; done)⟩) hHeld ?_
   try simp only [Act.put, List.setIfInBounds_toArray, List.set_cons_zero, List.set_cons_succ]
   refine AnyE.takeD (i := 15) (fun j => [16, 17].contains j) (.pointer (some ⟨rB, 0, none⟩)) rfl (by kernel_rfl) (by kernel_rfl) (by kernel_rfl) (fun _ _ _ h => h) (.inl ⟨by kernel_rfl, fun wy hy => by (have q0 := (CI.out hy.2).2; go_simp; done)⟩) hHeld ?_
   try simp only [Act.put, List.setIfInBounds_toArray, List.set_cons_zero, List.set_cons_succ]
   refine AnyE.one (i := 16) rfl (by kernel_rfl) (by kernel_rfl) (fun KK hK => ?_)
   go_simp
   go_at_call 37
   have W4 := Lib.hid (W1.out.later HB2.out)
   have HC := acts_any (.inr (.inr (.inr (.inl HK.out)))) W4.out HI.out HLP.out.1 (HO.out.go (Go4.of_below (O := U) (HX.out.2.trans (HB2.out.mono HX.out.2.size)))) HZ.out
   unfold OpD.val at HC
   rw [← HPB.out.1, ← HPB.out.2] at HC
   have hHeld1 := hHeld
   refine HC.mono ?_
   intro e9 Z9 hm
   have HM := Lib.hid hm
   have he9 := hm.1
   subst he9
   clear hm HC hHeld1 hHeld
   go_wp2_with fail
   refine hK.out _ _ ⟨fun h => (by cases h), ?_⟩
   clear hK
   try simp only [Act.put, List.setIfInBounds_toArray, List.set_cons_zero, List.set_cons_succ]
   refine AnyE.one (i := 17) rfl (by kernel_rfl) (by kernel_rfl) (fun KK hK => ?_)
   go_simp
   refine hK.out _ _ ⟨fun h => (by cases h), ?_⟩
   clear hK
   try simp only [Act.put, List.setIfInBounds_toArray, List.set_cons_zero, List.set_cons_succ]
   refine AnyE.done (by kernel_rfl) (NoPanic.normal ?_) _
   go_simp
   go_step
   go_wp2
   go_ret
   exact plays_acts HI.out HLP.out.2 (Go4.of_below (HX.out.2.trans (HB2.out.mono HX.out.2.size))) HM.out
  have hk4 := hk
  clear hk
  by_cases hk : o.kind = 5
  ·have HK := Lib.hid hk
   have e17 : (o.kind == 17) = false := by simp; omega
   have e18 : (o.kind == 18) = false := by simp; omega
   have e19 : (o.kind == 19) = false := by simp; omega
   have e1 : (o.kind == 1) = false := by simp; omega
   have e2 : (o.kind == 2) = false := by simp; omega
   have e3 : (o.kind == 3) = false := by simp; omega
   have e4 : (o.kind == 4) = false := by simp; omega
   have e5 : (o.kind == 5) = true := by simp; exact hk
   clear hk
   have c0 := (HX.out.1.later HBD.out).cells.1
   go_upto_region 17 with fail
   clear c0 e17 e18 e19 e1 e2 e3 e4 e5
   have BD : Below Z0.heap.size Z0 Z0.drew := (Below.refl _ _).drew
   refine wp_region_noPanic ?_
   refine wp_region_anyE (S := fun wx => OBox wx bo o ∧ Below X.heap.size X wx) (E := fun j => decide (j < 16)) (by kernel_rfl) ?_
   have bd2 : Below X.heap.size X Z0.drew := HBD.out.trans (BD.mono HBD.out.size)
   have hHeld : OBox Z0.drew bo o ∧ Below X.heap.size X Z0.drew := ⟨HX.out.1.later bd2, bd2⟩
   have HB2 := Lib.hid bd2
   have hZ0 : ∃ z, z = Z0.drew := ⟨_, rfl⟩
   obtain ⟨Z2, hZ0⟩ := hZ0
   rw [← hZ0] at HB2 hHeld ⊢
   clear hZ0 BD bd2
   refine AnyE.takeD (i := 0) (fun j => [16, 17].contains j) (.pointer (some ⟨wB, 0, none⟩)) rfl (by kernel_rfl) (by kernel_rfl) (by kernel_rfl) (fun _ _ _ h => h) (.inl ⟨by kernel_rfl, fun wy hy => by (go_simp; done)⟩) hHeld ?_
   try simp only [Act.put, List.setIfInBounds_toArray, List.set_cons_zero, List.set_cons_succ]
   refine AnyE.takeD (i := 1) (fun j => [16, 17].contains j) (.agg #[.int .i64 o.kind, .int .i64 o.obj, .string o.nm, .string o.nt, .slice o.aB o.nB o.kB, .int .i64 o.pos, .int .i64 o.num, .slice o.aC o.nC o.kC, .slice o.aF o.nF o.kF]) rfl (by kernel_rfl) (by kernel_rfl) (by kernel_rfl) (fun _ _ _ h => h) (.inl ⟨by kernel_rfl, fun wy hy => by (have q0 := hy.1.cells.1; have q1 := hy.1.cells.2.1; have q2 := hy.1.cells.2.2.1; have q3 := hy.1.cells.2.2.2.1; have q4 := hy.1.cells.2.2.2.2.1; have q5 := hy.1.cells.2.2.2.2.2.1; have q6 := hy.1.cells.2.2.2.2.2.2.1; have q7 := hy.1.cells.2.2.2.2.2.2.2.1; have q8 := hy.1.cells.2.2.2.2.2.2.2.2; go_simp; done)⟩) hHeld ?_
   try simp only [Act.put, List.setIfInBounds_toArray, List.set_cons_zero, List.set_cons_succ]
   refine AnyE.takeD (i := 2) (fun j => [3, 4, 5, 7, 8, 16, 17].contains j) (.pointer (some ⟨wB, 0, none⟩)) rfl (by kernel_rfl) (by kernel_rfl) (by kernel_rfl) (fun _ _ _ h => h) (.inl ⟨by kernel_rfl, fun wy hy => by (go_simp; done)⟩) hHeld ?_
   try simp only [Act.put, List.setIfInBounds_toArray, List.set_cons_zero, List.set_cons_succ]
   refine AnyE.takeD (i := 3) (fun j => [4, 5, 7, 8, 16, 17].contains j) (.pointer (some ⟨wB, 0, none⟩)) rfl (by kernel_rfl) (by kernel_rfl) (by kernel_rfl) (fun _ _ _ h => h) (.inl ⟨by kernel_rfl, fun wy hy => by (go_simp; done)⟩) hHeld ?_
   try simp only [Act.put, List.setIfInBounds_toArray, List.set_cons_zero, List.set_cons_succ]
   refine AnyE.takeD (i := 4) (fun j => [5, 7, 8, 16, 17].contains j) (.pointer (some ⟨wB, 0, none⟩)) rfl (by kernel_rfl) (by kernel_rfl) (by kernel_rfl) (fun _ _ _ h => h) (.inl ⟨by kernel_rfl, fun wy hy => by (go_simp; done)⟩) hHeld ?_
   try simp only [Act.put, List.setIfInBounds_toArray, List.set_cons_zero, List.set_cons_succ]
   refine AnyE.takeD (i := 5) (fun j => [7, 8, 16, 17].contains j) (.slice (some ⟨gD, 0, none⟩) qn cD) rfl (by kernel_rfl) (by kernel_rfl) (by kernel_rfl) (fun _ _ _ h => h) (.inl ⟨by kernel_rfl, fun wy hy => by (have q0 := (CELLS.out hy.2).1; go_simp; done)⟩) hHeld ?_
   try simp only [Act.put, List.setIfInBounds_toArray, List.set_cons_zero, List.set_cons_succ]
   refine AnyE.takeD (i := 6) (fun j => [7, 8, 16, 17].contains j) (.int .i64 (i : Int)) rfl (by kernel_rfl) (by kernel_rfl) (by kernel_rfl) (fun _ _ _ h => h) (.inl ⟨by kernel_rfl, fun wy hy => by (go_simp; done)⟩) hHeld ?_
   try simp only [Act.put, List.setIfInBounds_toArray, List.set_cons_zero, List.set_cons_succ]
   refine AnyE.takeD (i := 7) (fun j => [8, 16, 17].contains j) (.pointer (some ⟨gD, i, none⟩)) rfl (by kernel_rfl) (by kernel_rfl) (by kernel_rfl) (fun _ _ _ h => h) (.inl ⟨by kernel_rfl, fun wy hy => by (go_simp; done)⟩) hHeld ?_
   try simp only [Act.put, List.setIfInBounds_toArray, List.set_cons_zero, List.set_cons_succ]
   refine AnyE.takeD (i := 8) (fun j => [16, 17].contains j) (.pointer (some ⟨dB, 0, none⟩)) rfl (by kernel_rfl) (by kernel_rfl) (by kernel_rfl) (fun _ _ _ h => h) (.inl ⟨by kernel_rfl, fun wy hy => by (have q0 := (CI.out hy.2).1; go_simp; done)⟩) hHeld ?_
   try simp only [Act.put, List.setIfInBounds_toArray, List.set_cons_zero, List.set_cons_succ]
   refine AnyE.takeD (i := 9) (fun j => [10, 11, 12, 14, 15, 16, 17].contains j) (.pointer (some ⟨wB, 0, none⟩)) rfl (by kernel_rfl) (by kernel_rfl) (by kernel_rfl) (fun _ _ _ h => h) (.inl ⟨by kernel_rfl, fun wy hy => by (go_simp; done)⟩) hHeld ?_
   try simp only [Act.put, List.setIfInBounds_toArray, List.set_cons_zero, List.set_cons_succ]
   refine AnyE.takeD (i := 10) (fun j => [11, 12, 14, 15, 16, 17].contains j) (.pointer (some ⟨wB, 0, none⟩)) rfl (by kernel_rfl) (by kernel_rfl) (by kernel_rfl) (fun _ _ _ h => h) (.inl ⟨by kernel_rfl, fun wy hy => by (go_simp; done)⟩) hHeld ?_
   try simp only [Act.put, List.setIfInBounds_toArray, List.set_cons_zero, List.set_cons_succ]
   refine AnyE.takeD (i := 11) (fun j => [12, 14, 15, 16, 17].contains j) (.pointer (some ⟨wB, 1, none⟩)) rfl (by kernel_rfl) (by kernel_rfl) (by kernel_rfl) (fun _ _ _ h => h) (.inl ⟨by kernel_rfl, fun wy hy => by (go_simp; done)⟩) hHeld ?_
   try simp only [Act.put, List.setIfInBounds_toArray, List.set_cons_zero, List.set_cons_succ]
   refine AnyE.takeD (i := 12) (fun j => [14, 15, 16, 17].contains j) (.slice (some ⟨gR, 0, none⟩) qn cR) rfl (by kernel_rfl) (by kernel_rfl) (by kernel_rfl) (fun _ _ _ h => h) (.inl ⟨by kernel_rfl, fun wy hy => by (have q0 := (CELLS.out hy.2).2; go_simp; done)⟩) hHeld ?_
   try simp only [Act.put, List.setIfInBounds_toArray, List.set_cons_zero, List.set_cons_succ]
   refine AnyE.takeD (i := 13) (fun j => [14, 15, 16, 17].contains j) (.int .i64 (i : Int)) rfl (by kernel_rfl) (by kernel_rfl) (by kernel_rfl) (fun _ _ _ h => h) (.inl ⟨by kernel_rfl, fun wy hy => by (go_simp; done)⟩) hHeld ?_
   try simp only [Act.put, List.setIfInBounds_toArray, List.set_cons_zero, List.set_cons_succ]
   refine AnyE.takeD (i := 14) (fun j => [15, 16, 17].contains j) (.pointer (some ⟨gR, i, none⟩)) rfl (by kernel_rfl) (by kernel_rfl) (by kernel_rfl) (fun _ _ _ h => h) (.inl ⟨by kernel_rfl, fun wy hy => by (go_simp; done)⟩) hHeld ?_
   try simp only [Act.put, List.setIfInBounds_toArray, List.set_cons_zero, List.set_cons_succ]
   refine AnyE.takeD (i := 15) (fun j => [16, 17].contains j) (.pointer (some ⟨rB, 0, none⟩)) rfl (by kernel_rfl) (by kernel_rfl) (by kernel_rfl) (fun _ _ _ h => h) (.inl ⟨by kernel_rfl, fun wy hy => by (have q0 := (CI.out hy.2).2; go_simp; done)⟩) hHeld ?_
   try simp only [Act.put, List.setIfInBounds_toArray, List.set_cons_zero, List.set_cons_succ]
   refine AnyE.one (i := 16) rfl (by kernel_rfl) (by kernel_rfl) (fun KK hK => ?_)
   go_simp
   go_at_call 37
   have W4 := Lib.hid (W1.out.later HB2.out)
   have HC := acts_any (.inr (.inr (.inr (.inr (.inl HK.out))))) W4.out HI.out HLP.out.1 (HO.out.go (Go4.of_below (O := U) (HX.out.2.trans (HB2.out.mono HX.out.2.size)))) HZ.out
   unfold OpD.val at HC
   rw [← HPB.out.1, ← HPB.out.2] at HC
   have hHeld1 := hHeld
   refine HC.mono ?_
   intro e9 Z9 hm
   have HM := Lib.hid hm
   have he9 := hm.1
   subst he9
   clear hm HC hHeld1 hHeld
   go_wp2_with fail
   refine hK.out _ _ ⟨fun h => (by cases h), ?_⟩
   clear hK
   try simp only [Act.put, List.setIfInBounds_toArray, List.set_cons_zero, List.set_cons_succ]
   refine AnyE.one (i := 17) rfl (by kernel_rfl) (by kernel_rfl) (fun KK hK => ?_)
   go_simp
   refine hK.out _ _ ⟨fun h => (by cases h), ?_⟩
   clear hK
   try simp only [Act.put, List.setIfInBounds_toArray, List.set_cons_zero, List.set_cons_succ]
   refine AnyE.done (by kernel_rfl) (NoPanic.normal ?_) _
   go_simp
   go_step
   go_wp2
   go_ret
   exact plays_acts HI.out HLP.out.2 (Go4.of_below (HX.out.2.trans (HB2.out.mono HX.out.2.size))) HM.out
  have hk5 := hk
  clear hk
  by_cases hk : o.kind = 11
  ·have HK := Lib.hid hk
   have e17 : (o.kind == 17) = false := by simp; omega
   have e18 : (o.kind == 18) = false := by simp; omega
   have e19 : (o.kind == 19) = false := by simp; omega
   have e1 : (o.kind == 1) = false := by simp; omega
   have e2 : (o.kind == 2) = false := by simp; omega
   have e3 : (o.kind == 3) = false := by simp; omega
   have e4 : (o.kind == 4) = false := by simp; omega
   have e5 : (o.kind == 5) = false := by simp; omega
   have e11 : (o.kind == 11) = true := by simp; exact hk
   clear hk
   have c0 := (HX.out.1.later HBD.out).cells.1
   go_upto_region 17 with fail
   clear c0 e17 e18 e19 e1 e2 e3 e4 e5 e11
   have BD : Below Z0.heap.size Z0 Z0.drew := (Below.refl _ _).drew
   refine wp_region_noPanic ?_
   refine wp_region_anyE (S := fun wx => OBox wx bo o ∧ Below X.heap.size X wx) (E := fun j => decide (j < 16)) (by kernel_rfl) ?_
   have bd2 : Below X.heap.size X Z0.drew := HBD.out.trans (BD.mono HBD.out.size)
   have hHeld : OBox Z0.drew bo o ∧ Below X.heap.size X Z0.drew := ⟨HX.out.1.later bd2, bd2⟩
   have HB2 := Lib.hid bd2
   have hZ0 : ∃ z, z = Z0.drew := ⟨_, rfl⟩
   obtain ⟨Z2, hZ0⟩ := hZ0
   rw [← hZ0] at HB2 hHeld ⊢
   clear hZ0 BD bd2
   refine AnyE.takeD (i := 0) (fun j => [16, 17].contains j) (.pointer (some ⟨wB, 0, none⟩)) rfl (by kernel_rfl) (by kernel_rfl) (by kernel_rfl) (fun _ _ _ h => h) (.inl ⟨by kernel_rfl, fun wy hy => by (go_simp; done)⟩) hHeld ?_
   try simp only [Act.put, List.setIfInBounds_toArray, List.set_cons_zero, List.set_cons_succ]
   refine AnyE.takeD (i := 1) (fun j => [16, 17].contains j) (.agg #[.int .i64 o.kind, .int .i64 o.obj, .string o.nm, .string o.nt, .slice o.aB o.nB o.kB, .int .i64 o.pos, .int .i64 o.num, .slice o.aC o.nC o.kC, .slice o.aF o.nF o.kF]) rfl (by kernel_rfl) (by kernel_rfl) (by kernel_rfl) (fun _ _ _ h => h) (.inl ⟨by kernel_rfl, fun wy hy => by (have q0 := hy.1.cells.1; have q1 := hy.1.cells.2.1; have q2 := hy.1.cells.2.2.1; have q3 := hy.1.cells.2.2.2.1; have q4 := hy.1.cells.2.2.2.2.1; have q5 := hy.1.cells.2.2.2.2.2.1; have q6 := hy.1.cells.2.2.2.2.2.2.1; have q7 := hy.1.cells.2.2.2.2.2.2.2.1; have q8 := hy.1.cells.2.2.2.2.2.2.2.2; go_simp; done)⟩) hHeld ?_
   try simp only [Act.put, List.setIfInBounds_toArray, List.set_cons_zero, List.set_cons_succ]
   refine AnyE.takeD (i := 2) (fun j => [3, 4, 5, 7, 8, 16, 17].contains j) (.pointer (some ⟨wB, 0, none⟩)) rfl (by kernel_rfl) (by kernel_rfl) (by kernel_rfl) (fun _ _ _ h => h) (.inl ⟨by kernel_rfl, fun wy hy => by (go_simp; done)⟩) hHeld ?_
   try simp only [Act.put, List.setIfInBounds_toArray, List.set_cons_zero, List.set_cons_succ]
   refine AnyE.takeD (i := 3) (fun j => [4, 5, 7, 8, 16, 17].contains j) (.pointer (some ⟨wB, 0, none⟩)) rfl (by kernel_rfl) (by kernel_rfl) (by kernel_rfl) (fun _ _ _ h => h) (.inl ⟨by kernel_rfl, fun wy hy => by (go_simp; done)⟩) hHeld ?_
   try simp only [Act.put, List.setIfInBounds_toArray, List.set_cons_zero, List.set_cons_succ]
   refine AnyE.takeD (i := 4) (fun j => [5, 7, 8, 16, 17].contains j) (.pointer (some ⟨wB, 0, none⟩)) rfl (by kernel_rfl) (by kernel_rfl) (by kernel_rfl) (fun _ _ _ h => h) (.inl ⟨by kernel_rfl, fun wy hy => by (go_simp; done)⟩) hHeld ?_
   try simp only [Act.put, List.setIfInBounds_toArray, List.set_cons_zero, List.set_cons_succ]
   refine AnyE.takeD (i := 5) (fun j => [7, 8, 16, 17].contains j) (.slice (some ⟨gD, 0, none⟩) qn cD) rfl (by kernel_rfl) (by kernel_rfl) (by kernel_rfl) (fun _ _ _ h => h) (.inl ⟨by kernel_rfl, fun wy hy => by (have q0 := (CELLS.out hy.2).1; go_simp; done)⟩) hHeld ?_
   try simp only [Act.put, List.setIfInBounds_toArray, List.set_cons_zero, List.set_cons_succ]
   refine AnyE.takeD (i := 6) (fun j => [7, 8, 16, 17].contains j) (.int .i64 (i : Int)) rfl (by kernel_rfl) (by kernel_rfl) (by kernel_rfl) (fun _ _ _ h => h) (.inl ⟨by kernel_rfl, fun wy hy => by (go_simp; done)⟩) hHeld ?_
   try simp only [Act.put, List.setIfInBounds_toArray, List.set_cons_zero, List.set_cons_succ]
   refine AnyE.takeD (i := 7) (fun j => [8, 16, 17].contains j) (.pointer (some ⟨gD, i, none⟩)) rfl (by kernel_rfl) (by kernel_rfl) (by kernel_rfl) (fun _ _ _ h => h) (.inl ⟨by kernel_rfl, fun wy hy => by (go_simp; done)⟩) hHeld ?_
   try simp only [Act.put, List.setIfInBounds_toArray, List.set_cons_zero, List.set_cons_succ]
   refine AnyE.takeD (i := 8) (fun j => [16, 17].contains j) (.pointer (some ⟨dB, 0, none⟩)) rfl (by kernel_rfl) (by kernel_rfl) (by kernel_rfl) (fun _ _ _ h => h) (.inl ⟨by kernel_rfl, fun wy hy => by (have q0 := (CI.out hy.2).1; go_simp; done)⟩) hHeld ?_
   try simp only [Act.put, List.setIfInBounds_toArray, List.set_cons_zero, List.set_cons_succ]
   refine AnyE.takeD (i := 9) (fun j => [10, 11, 12, 14, 15, 16, 17].contains j) (.pointer (some ⟨wB, 0, none⟩)) rfl (by kernel_rfl) (by kernel_rfl) (by kernel_rfl) (fun _ _ _ h => h) (.inl ⟨by kernel_rfl, fun wy hy => by (go_simp; done)⟩) hHeld ?_
   try simp only [Act.put, List.setIfInBounds_toArray, List.set_cons_zero, List.set_cons_succ]
   refine AnyE.takeD (i := 10) (fun j => [11, 12, 14, 15, 16, 17].contains j) (.pointer (some ⟨wB, 0, none⟩)) rfl (by kernel_rfl) (by kernel_rfl) (by kernel_rfl) (fun _ _ _ h => h) (.inl ⟨by kernel_rfl, fun wy hy => by (go_simp; done)⟩) hHeld ?_
   try simp only [Act.put, List.setIfInBounds_toArray, List.set_cons_zero, List.set_cons_succ]
   refine AnyE.takeD (i := 11) (fun j => [12, 14, 15, 16, 17].contains j) (.pointer (some ⟨wB, 1, none⟩)) rfl (by kernel_rfl) (by kernel_rfl) (by kernel_rfl) (fun _ _ _ h => h) (.inl ⟨by kernel_rfl, fun wy hy => by (go_simp; done)⟩) hHeld ?_
   try simp only [Act.put, List.setIfInBounds_toArray, List.set_cons_zero, List.set_cons_succ]
   refine AnyE.takeD (i := 12) (fun j => [14, 15, 16, 17].contains j) (.slice (some ⟨gR, 0, none⟩) qn cR) rfl (by kernel_rfl) (by kernel_rfl) (by kernel_rfl) (fun _ _ _ h => h) (.inl ⟨by kernel_rfl, fun wy hy => by (have q0 := (CELLS.out hy.2).2; go_simp; done)⟩) hHeld ?_
   try simp only [Act.put, List.setIfInBounds_toArray, List.set_cons_zero, List.set_cons_succ]
   refine AnyE.takeD (i := 13) (fun j => [14, 15, 16, 17].contains j) (.int .i64 (i : Int)) rfl (by kernel_rfl) (by kernel_rfl) (by kernel_rfl) (fun _ _ _ h => h) (.inl ⟨by kernel_rfl, fun wy hy => by (go_simp; done)⟩) hHeld ?_
   try simp only [Act.put, List.setIfInBounds_toArray, List.set_cons_zero, List.set_cons_succ]
   refine AnyE.takeD (i := 14) (fun j => [15, 16, 17].contains j) (.pointer (some ⟨gR, i, none⟩)) rfl (by kernel_rfl) (by kernel_rfl) (by kernel_rfl) (fun _ _ _ h => h) (.inl ⟨by kernel_rfl, fun wy hy => by (go_simp; done)⟩) hHeld ?_
   try simp only [Act.put, List.setIfInBounds_toArray, List.set_cons_zero, List.set_cons_succ]
   refine AnyE.takeD (i := 15) (fun j => [16, 17].contains j) (.pointer (some ⟨rB, 0, none⟩)) rfl (by kernel_rfl) (by kernel_rfl) (by kernel_rfl) (fun _ _ _ h => h) (.inl ⟨by kernel_rfl, fun wy hy => by (have q0 := (CI.out hy.2).2; go_simp; done)⟩) hHeld ?_
   try simp only [Act.put, List.setIfInBounds_toArray, List.set_cons_zero, List.set_cons_succ]
   refine AnyE.one (i := 16) rfl (by kernel_rfl) (by kernel_rfl) (fun KK hK => ?_)
   go_simp
   go_at_call 37
   have W4 := Lib.hid (W1.out.later HB2.out)
   have HC := acts_any (.inr (.inr (.inr (.inr (.inr (.inl HK.out)))))) W4.out HI.out HLP.out.1 (HO.out.go (Go4.of_below (O := U) (HX.out.2.trans (HB2.out.mono HX.out.2.size)))) HZ.out
   unfold OpD.val at HC
   rw [← HPB.out.1, ← HPB.out.2] at HC
   have hHeld1 := hHeld
   refine HC.mono ?_
   intro e9 Z9 hm
   have HM := Lib.hid hm
   have he9 := hm.1
   subst he9
   clear hm HC hHeld1 hHeld
   go_wp2_with fail
   refine hK.out _ _ ⟨fun h => (by cases h), ?_⟩
   clear hK
   try simp only [Act.put, List.setIfInBounds_toArray, List.set_cons_zero, List.set_cons_succ]
   refine AnyE.one (i := 17) rfl (by kernel_rfl) (by kernel_rfl) (fun KK hK => ?_)
   go_simp
   refine hK.out _ _ ⟨fun h => (by cases h), ?_⟩
   clear hK
   try simp only [Act.put, List.setIfInBounds_toArray, List.set_cons_zero, List.set_cons_succ]
   refine AnyE.done (by kernel_rfl) (NoPanic.normal ?_) _
   go_simp
   go_step
   go_wp2
   go_ret
   exact plays_acts HI.out HLP.out.2 (Go4.of_below (HX.out.2.trans (HB2.out.mono HX.out.2.size))) HM.out
  have hk11 := hk
  clear hk
  by_cases hk : o.kind = 13
  ·have HK := Lib.hid hk
   have e17 : (o.kind == 17) = false := by simp; omega
   have e18 : (o.kind == 18) = false := by simp; omega
   have e19 : (o.kind == 19) = false := by simp; omega
   have e1 : (o.kind == 1) = false := by simp; omega
   have e2 : (o.kind == 2) = false := by simp; omega
   have e3 : (o.kind == 3) = false := by simp; omega
   have e4 : (o.kind == 4) = false := by simp; omega
   have e5 : (o.kind == 5) = false := by simp; omega
   have e11 : (o.kind == 11) = false := by simp; omega
   have e13 : (o.kind == 13) = true := by simp; exact hk
   clear hk
   have c0 := (HX.out.1.later HBD.out).cells.1
   go_upto_region 17 with fail
   clear c0 e17 e18 e19 e1 e2 e3 e4 e5 e11 e13
   have BD : Below Z0.heap.size Z0 Z0.drew := (Below.refl _ _).drew
   refine wp_region_noPanic ?_
   refine wp_region_anyE (S := fun wx => OBox wx bo o ∧ Below X.heap.size X wx) (E := fun j => decide (j < 16)) (by kernel_rfl) ?_
   have bd2 : Below X.heap.size X Z0.drew := HBD.out.trans (BD.mono HBD.out.size)
   have hHeld : OBox Z0.drew bo o ∧ Below X.heap.size X Z0.drew := ⟨HX.out.1.later bd2, bd2⟩
   have HB2 := Lib.hid bd2
   have hZ0 : ∃ z, z = Z0.drew := ⟨_, rfl⟩
   obtain ⟨Z2, hZ0⟩ := hZ0
   rw [← hZ0] at HB2 hHeld ⊢
   clear hZ0 BD bd2
   refine AnyE.takeD (i := 0) (fun j => [16, 17].contains j) (.pointer (some ⟨wB, 0, none⟩)) rfl (by kernel_rfl) (by kernel_rfl) (by kernel_rfl) (fun _ _ _ h => h) (.inl ⟨by kernel_rfl, fun wy hy => by (go_simp; done)⟩) hHeld ?_
   try simp only [Act.put, List.setIfInBounds_toArray, List.set_cons_zero, List.set_cons_succ]
   refine AnyE.takeD (i := 1) (fun j => [16, 17].contains j) (.agg #[.int .i64 o.kind, .int .i64 o.obj, .string o.nm, .string o.nt, .slice o.aB o.nB o.kB, .int .i64 o.pos, .int .i64 o.num, .slice o.aC o.nC o.kC, .slice o.aF o.nF o.kF]) rfl (by kernel_rfl) (by kernel_rfl) (by kernel_rfl) (fun _ _ _ h => h) (.inl ⟨by kernel_rfl, fun wy hy => by (have q0 := hy.1.cells.1; have q1 := hy.1.cells.2.1; have q2 := hy.1.cells.2.2.1; have q3 := hy.1.cells.2.2.2.1; have q4 := hy.1.cells.2.2.2.2.1; have q5 := hy.1.cells.2.2.2.2.2.1; have q6 := hy.1.cells.2.2.2.2.2.2.1; have q7 := hy.1.cells.2.2.2.2.2.2.2.1; have q8 := hy.1.cells.2.2.2.2.2.2.2.2; go_simp; done)⟩) hHeld ?_
   try simp only [Act.put, List.setIfInBounds_toArray, List.set_cons_zero, List.set_cons_succ]
   refine AnyE.takeD (i := 2) (fun j => [3, 4, 5, 7, 8, 16, 17].contains j) (.pointer (some ⟨wB, 0, none⟩)) rfl (by kernel_rfl) (by kernel_rfl) (by kernel_rfl) (fun _ _ _ h => h) (.inl ⟨by kernel_rfl, fun wy hy => by (go_simp; done)⟩) hHeld ?_
   try simp only [Act.put, List.setIfInBounds_toArray, List.set_cons_zero, List.set_cons_succ]
   refine AnyE.takeD (i := 3) (fun j => [4, 5, 7, 8, 16, 17].contains j) (.pointer (some ⟨wB, 0, none⟩)) rfl (by kernel_rfl) (by kernel_rfl) (by kernel_rfl) (fun _ _ _ h => h) (.inl ⟨by kernel_rfl, fun wy hy => by (go_simp; done)⟩) hHeld ?_
   try simp only [Act.put, List.setIfInBounds_toArray, List.set_cons_zero, List.set_cons_succ]
   refine AnyE.takeD (i := 4) (fun j => [5, 7, 8, 16, 17].contains j) (.pointer (some ⟨wB, 0, none⟩)) rfl (by kernel_rfl) (by kernel_rfl) (by kernel_rfl) (fun _ _ _ h => h) (.inl ⟨by kernel_rfl, fun wy hy => by (go_simp; done)⟩) hHeld ?_
   try simp only [Act.put, List.setIfInBounds_toArray, List.set_cons_zero, List.set_cons_succ]
   refine AnyE.takeD (i := 5) (fun j => [7, 8, 16, 17].contains j) (.slice (some ⟨gD, 0, none⟩) qn cD) rfl (by kernel_rfl) (by kernel_rfl) (by kernel_rfl) (fun _ _ _ h => h) (.inl ⟨by kernel_rfl, fun wy hy => by (have q0 := (CELLS.out hy.2).1; go_simp; done)⟩) hHeld ?_
   try simp only [Act.put, List.setIfInBounds_toArray, List.set_cons_zero, List.set_cons_succ]
   refine AnyE.takeD (i := 6) (fun j => [7, 8, 16, 17].contains j) (.int .i64 (i : Int)) rfl (by kernel_rfl) (by kernel_rfl) (by kernel_rfl) (fun _ _ _ h => h) (.inl ⟨by kernel_rfl, fun wy hy => by (go_simp; done)⟩) hHeld ?_
   try simp only [Act.put, List.setIfInBounds_toArray, List.set_cons_zero, List.set_cons_succ]
   refine AnyE.takeD (i := 7) (fun j => [8, 16, 17].contains j) (.pointer (some ⟨gD, i, none⟩)) rfl (by kernel_rfl) (by kernel_rfl) (by kernel_rfl) (fun _ _ _ h => h) (.inl ⟨by kernel_rfl, fun wy hy => by (go_simp; done)⟩) hHeld ?_
   try simp only [Act.put, List.setIfInBounds_toArray, List.set_cons_zero, List.set_cons_succ]
   refine AnyE.takeD (i := 8) (fun j => [16, 17].contains j) (.pointer (some ⟨dB, 0, none⟩)) rfl (by kernel_rfl) (by kernel_rfl) (by kernel_rfl) (fun _ _ _ h => h) (.inl ⟨by kernel_rfl, fun wy hy => by (have q0 := (CI.out hy.2).1; go_simp; done)⟩) hHeld ?_
   try simp only [Act.put, List.setIfInBounds_toArray, List.set_cons_zero, List.set_cons_succ]
   refine AnyE.takeD (i := 9) (fun j => [10, 11, 12, 14, 15, 16, 17].contains j) (.pointer (some ⟨wB, 0, none⟩)) rfl (by kernel_rfl) (by kernel_rfl) (by kernel_rfl) (fun _ _ _ h => h) (.inl ⟨by kernel_rfl, fun wy hy => by (go_simp; done)⟩) hHeld ?_
   try simp only [Act.put, List.setIfInBounds_toArray, List.set_cons_zero, List.set_cons_succ]
   refine AnyE.takeD (i := 10) (fun j => [11, 12, 14, 15, 16, 17].contains j) (.pointer (some ⟨wB, 0, none⟩)) rfl (by kernel_rfl) (by kernel_rfl) (by kernel_rfl) (fun _ _ _ h => h) (.inl ⟨by kernel_rfl, fun wy hy => by (go_simp; done)⟩) hHeld ?_
   try simp only [Act.put, List.setIfInBounds_toArray, List.set_cons_zero, List.set_cons_succ]
   refine AnyE.takeD (i := 11) (fun j => [12, 14, 15, 16, 17].contains j) (.pointer (some ⟨wB, 1, none⟩)) rfl (by kernel_rfl) (by kernel_rfl) (by kernel_rfl) (fun _ _ _ h => h) (.inl ⟨by kernel_rfl, fun wy hy => by (go_simp; done)⟩) hHeld ?_
   try simp only [Act.put, List.setIfInBounds_toArray, List.set_cons_zero, List.set_cons_succ]
   refine AnyE.takeD (i := 12) (fun j => [14, 15, 16, 17].contains j) (.slice (some ⟨gR, 0, none⟩) qn cR) rfl (by kernel_rfl) (by kernel_rfl) (by kernel_rfl) (fun _ _ _ h => h) (.inl ⟨by kernel_rfl, fun wy hy => by (have q0 := (CELLS.out hy.2).2; go_simp; done)⟩) hHeld ?_
   try simp only [Act.put, List.setIfInBounds_toArray, List.set_cons_zero, List.set_cons_succ]
   refine AnyE.takeD (i := 13) (fun j => [14, 15, 16, 17].contains j) (.int .i64 (i : Int)) rfl (by kernel_rfl) (by kernel_rfl) (by kernel_rfl) (fun _ _ _ h => h) (.inl ⟨by kernel_rfl, fun wy hy => by (go_simp; done)⟩) hHeld ?_
   try simp only [Act.put, List.setIfInBounds_toArray, List.set_cons_zero, List.set_cons_succ]
   refine AnyE.takeD (i := 14) (fun j => [15, 16, 17].contains j) (.pointer (some ⟨gR, i, none⟩)) rfl (by kernel_rfl) (by kernel_rfl) (by kernel_rfl) (fun _ _ _ h => h) (.inl ⟨by kernel_rfl, fun wy hy => by (go_simp; done)⟩) hHeld ?_
   try simp only [Act.put, List.setIfInBounds_toArray, List.set_cons_zero, List.set_cons_succ]
   refine AnyE.takeD (i := 15) (fun j => [16, 17].contains j) (.pointer (some ⟨rB, 0, none⟩)) rfl (by kernel_rfl) (by kernel_rfl) (by kernel_rfl) (fun _ _ _ h => h) (.inl ⟨by kernel_rfl, fun wy hy => by (have q0 := (CI.out hy.2).2; go_simp; done)⟩) hHeld ?_
   try simp only [Act.put, List.setIfInBounds_toArray, List.set_cons_zero, List.set_cons_succ]
   refine AnyE.one (i := 16) rfl (by kernel_rfl) (by kernel_rfl) (fun KK hK => ?_)
   go_simp
   go_at_call 37
   have W4 := Lib.hid (W1.out.later HB2.out)
   have HC := acts_any (.inr (.inr (.inr (.inr (.inr (.inr (.inl HK.out))))))) W4.out HI.out HLP.out.1 (HO.out.go (Go4.of_below (O := U) (HX.out.2.trans (HB2.out.mono HX.out.2.size)))) HZ.out
   unfold OpD.val at HC
   rw [← HPB.out.1, ← HPB.out.2] at HC
   have hHeld1 := hHeld
   refine HC.mono ?_
   intro e9 Z9 hm
   have HM := Lib.hid hm
   have he9 := hm.1
   subst he9
   clear hm HC hHeld1 hHeld
   go_wp2_with fail
   refine hK.out _ _ ⟨fun h => (by cases h), ?_⟩
   clear hK
   try simp only [Act.put, List.setIfInBounds_toArray, List.set_cons_zero, List.set_cons_succ]
   refine AnyE.one (i := 17) rfl (by kernel_rfl) (by kernel_rfl) (fun KK hK => ?_)
   go_simp
   refine hK.out _ _ ⟨fun h => (by cases h), ?_⟩
   clear hK
   try simp only [Act.put, List.setIfInBounds_toArray, List.set_cons_zero, List.set_cons_succ]
   refine AnyE.done (by kernel_rfl) (NoPanic.normal ?_) _
   go_simp
   go_step
   go_wp2
   go_ret
   exact plays_acts HI.out HLP.out.2 (Go4.of_below (HX.out.2.trans (HB2.out.mono HX.out.2.size))) HM.out
  have hk13 := hk
  clear hk
  by_cases hk : o.kind = 14
  ·have HK := Lib.hid hk
   have e17 : (o.kind == 17) = false := by simp; omega
   have e18 : (o.kind == 18) = false := by simp; omega
   have e19 : (o.kind == 19) = false := by simp; omega
   have e1 : (o.kind == 1) = false := by simp; omega
   have e2 : (o.kind == 2) = false := by simp; omega
   have e3 : (o.kind == 3) = false := by simp; omega
   have e4 : (o.kind == 4) = false := by simp; omega
   have e5 : (o.kind == 5) = false := by simp; omega
   have e11 : (o.kind == 11) = false := by simp; omega
   have e13 : (o.kind == 13) = false := by simp; omega
   have e14 : (o.kind == 14) = true := by simp; exact hk
   clear hk
   have c0 := (HX.out.1.later HBD.out).cells.1
   go_upto_region 17 with fail
   clear c0 e17 e18 e19 e1 e2 e3 e4 e5 e11 e13 e14
   have BD : Below Z0.heap.size Z0 Z0.drew := (Below.refl _ _).drew
   refine wp_region_noPanic ?_
   refine wp_region_anyE (S := fun wx => OBox wx bo o ∧ Below X.heap.size X wx) (E := fun j => decide (j < 16)) (by kernel_rfl) ?_
   have bd2 : Below X.heap.size X Z0.drew := HBD.out.trans (BD.mono HBD.out.size)
   have hHeld : OBox Z0.drew bo o ∧ Below X.heap.size X Z0.drew := ⟨HX.out.1.later bd2, bd2⟩
   have HB2 := Lib.hid bd2
   have hZ0 : ∃ z, z = Z0.drew := ⟨_, rfl⟩
   obtain ⟨Z2, hZ0⟩ := hZ0
   rw [← hZ0] at HB2 hHeld ⊢
   clear hZ0 BD bd2
   refine AnyE.takeD (i := 0) (fun j => [16, 17].contains j) (.pointer (some ⟨wB, 0, none⟩)) rfl (by kernel_rfl) (by kernel_rfl) (by kernel_rfl) (fun _ _ _ h => h) (.inl ⟨by kernel_rfl, fun wy hy => by (go_simp; done)⟩) hHeld ?_
   try simp only [Act.put, List.setIfInBounds_toArray, List.set_cons_zero, List.set_cons_succ]
   refine AnyE.takeD (i := 1) (fun j => [16, 17].contains j) (.agg #[.int .i64 o.kind, .int .i64 o.obj, .string o.nm, .string o.nt, .slice o.aB o.nB o.kB, .int .i64 o.pos, .int .i64 o.num, .slice o.aC o.nC o.kC, .slice o.aF o.nF o.kF]) rfl (by kernel_rfl) (by kernel_rfl) (by kernel_rfl) (fun _ _ _ h => h) (.inl ⟨by kernel_rfl, fun wy hy => by (have q0 := hy.1.cells.1; have q1 := hy.1.cells.2.1; have q2 := hy.1.cells.2.2.1; have q3 := hy.1.cells.2.2.2.1; have q4 := hy.1.cells.2.2.2.2.1; have q5 := hy.1.cells.2.2.2.2.2.1; have q6 := hy.1.cells.2.2.2.2.2.2.1; have q7 := hy.1.cells.2.2.2.2.2.2.2.1; have q8 := hy.1.cells.2.2.2.2.2.2.2.2; go_simp; done)⟩) hHeld ?_
   try simp only [Act.put, List.setIfInBounds_toArray, List.set_cons_zero, List.set_cons_succ]
   refine AnyE.takeD (i := 2) (fun j => [3, 4, 5, 7, 8, 16, 17].contains j) (.pointer (some ⟨wB, 0, none⟩)) rfl (by kernel_rfl) (by kernel_rfl) (by kernel_rfl) (fun _ _ _ h => h) (.inl ⟨by kernel_rfl, fun wy hy => by (go_simp; done)⟩) hHeld ?_
   try simp only [Act.put, List.setIfInBounds_toArray, List.set_cons_zero, List.set_cons_succ]
   refine AnyE.takeD (i := 3) (fun j => [4, 5, 7, 8, 16, 17].contains j) (.pointer (some ⟨wB, 0, none⟩)) rfl (by kernel_rfl) (by kernel_rfl) (by kernel_rfl) (fun _ _ _ h => h) (.inl ⟨by kernel_rfl, fun wy hy => by (go_simp; done)⟩) hHeld ?_
   try simp only [Act.put, List.setIfInBounds_toArray, List.set_cons_zero, List.set_cons_succ]
   refine AnyE.takeD (i := 4) (fun j => [5, 7, 8, 16, 17].contains j) (.pointer (some ⟨wB, 0, none⟩)) rfl (by kernel_rfl) (by kernel_rfl) (by kernel_rfl) (fun _ _ _ h => h) (.inl ⟨by kernel_rfl, fun wy hy => by (go_simp; done)⟩) hHeld ?_
   try simp only [Act.put, List.setIfInBounds_toArray, List.set_cons_zero, List.set_cons_succ]
   refine AnyE.takeD (i := 5) (fun j => [7, 8, 16, 17].contains j) (.slice (some ⟨gD, 0, none⟩) qn cD) rfl (by kernel_rfl) (by kernel_rfl) (by kernel_rfl) (fun _ _ _ h => h) (.inl ⟨by kernel_rfl, fun wy hy => by (have q0 := (CELLS.out hy.2).1; go_simp; done)⟩) hHeld ?_
   try simp only [Act.put, List.setIfInBounds_toArray, List.set_cons_zero, List.set_cons_succ]
   refine AnyE.takeD (i := 6) (fun j => [7, 8, 16, 17].contains j) (.int .i64 (i : Int)) rfl (by kernel_rfl) (by kernel_rfl) (by kernel_rfl) (fun _ _ _ h => h) (.inl ⟨by kernel_rfl, fun wy hy => by (go_simp; done)⟩) hHeld ?_
   try simp only [Act.put, List.setIfInBounds_toArray, List.set_cons_zero, List.set_cons_succ]
   refine AnyE.takeD (i := 7) (fun j => [8, 16, 17].contains j) (.pointer (some ⟨gD, i, none⟩)) rfl (by kernel_rfl) (by kernel_rfl) (by kernel_rfl) (fun _ _ _ h => h) (.inl ⟨by kernel_rfl, fun wy hy => by (go_simp; done)⟩) hHeld ?_
   try simp only [Act.put, List.setIfInBounds_toArray, List.set_cons_zero, List.set_cons_succ]
   refine AnyE.takeD (i := 8) (fun j => [16, 17].contains j) (.pointer (some ⟨dB, 0, none⟩)) rfl (by kernel_rfl) (by kernel_rfl) (by kernel_rfl) (fun _ _ _ h => h) (.inl ⟨by kernel_rfl, fun wy hy => by (have q0 := (CI.out hy.2).1; go_simp; done)⟩) hHeld ?_
   try simp only [Act.put, List.setIfInBounds_toArray, List.set_cons_zero, List.set_cons_succ]
   refine AnyE.takeD (i := 9) (fun j => [10, 11, 12, 14, 15, 16, 17].contains j) (.pointer (some ⟨wB, 0, none⟩)) rfl (by kernel_rfl) (by kernel_rfl) (by kernel_rfl) (fun _ _ _ h => h) (.inl ⟨by kernel_rfl, fun wy hy => by (go_simp; done)⟩) hHeld ?_
   try simp only [Act.put, List.setIfInBounds_toArray, List.set_cons_zero, List.set_cons_succ]
   refine AnyE.takeD (i := 10) (fun j => [11, 12, 14, 15, 16, 17].contains j) (.pointer (some ⟨wB, 0, none⟩)) rfl (by kernel_rfl) (by kernel_rfl) (by kernel_rfl) (fun _ _ _ h => h) (.inl ⟨by kernel_rfl, fun wy hy => by (go_simp; done)⟩) hHeld ?_
   try simp only [Act.put, List.setIfInBounds_toArray, List.set_cons_zero, List.set_cons_succ]
   refine AnyE.takeD (i := 11) (fun j => [12, 14, 15, 16, 17].contains j) (.pointer (some ⟨wB, 1, none⟩)) rfl (by kernel_rfl) (by kernel_rfl) (by kernel_rfl) (fun _ _ _ h => h) (.inl ⟨by kernel_rfl, fun wy hy => by (go_simp; done)⟩) hHeld ?_
   try simp only [Act.put, List.setIfInBounds_toArray, List.set_cons_zero, List.set_cons_succ]
   refine AnyE.takeD (i := 12) (fun j => [14, 15, 16, 17].contains j) (.slice (some ⟨gR, 0, none⟩) qn cR) rfl (by kernel_rfl) (by kernel_rfl) (by kernel_rfl) (fun _ _ _ h => h) (.inl ⟨by kernel_rfl, fun wy hy => by (have q0 := (CELLS.out hy.2).2; go_simp; done)⟩) hHeld ?_
   try simp only [Act.put, List.setIfInBounds_toArray, List.set_cons_zero, List.set_cons_succ]
   refine AnyE.takeD (i := 13) (fun j => [14, 15, 16, 17].contains j) (.int .i64 (i : Int)) rfl (by kernel_rfl) (by kernel_rfl) (by kernel_rfl) (fun _ _ _ h => h) (.inl ⟨by kernel_rfl, fun wy hy => by (go_simp; done)⟩) hHeld ?_
   try simp only [Act.put, List.setIfInBounds_toArray, List.set_cons_zero, List.set_cons_succ]
   refine AnyE.takeD (i := 14) (fun j => [15, 16, 17].contains j) (.pointer (some ⟨gR, i, none⟩)) rfl (by kernel_rfl) (by kernel_rfl) (by kernel_rfl) (fun _ _ _ h => h) (.inl ⟨by kernel_rfl, fun wy hy => by (go_simp; done)⟩) hHeld ?_
   try simp only [Act.put, List.setIfInBounds_toArray, List.set_cons_zero, List.set_cons_succ]
   refine AnyE.takeD (i := 15) (fun j => [16, 17].contains j) (.pointer (some ⟨rB, 0, none⟩)) rfl (by kernel_rfl) (by kernel_rfl) (by kernel_rfl) (fun _ _ _ h => h) (.inl ⟨by kernel_rfl, fun wy hy => by (have q0 := (CI.out hy.2).2; go_simp; done)⟩) hHeld ?_
   try simp only [Act.put, List.setIfInBounds_toArray, List.set_cons_zero, List.set_cons_succ]
   refine AnyE.one (i := 16) rfl (by kernel_rfl) (by kernel_rfl) (fun KK hK => ?_)
   go_simp
   go_at_call 37
   have W4 := Lib.hid (W1.out.later HB2.out)
   have HC := acts_any (.inr (.inr (.inr (.inr (.inr (.inr (.inr (HK.out)))))))) W4.out HI.out HLP.out.1 (HO.out.go (Go4.of_below (O := U) (HX.out.2.trans (HB2.out.mono HX.out.2.size)))) HZ.out
   unfold OpD.val at HC
   rw [← HPB.out.1, ← HPB.out.2] at HC
   have hHeld1 := hHeld
   refine HC.mono ?_
   intro e9 Z9 hm
   have HM := Lib.hid hm
   have he9 := hm.1
   subst he9
   clear hm HC hHeld1 hHeld
   go_wp2_with fail
   refine hK.out _ _ ⟨fun h => (by cases h), ?_⟩
   clear hK
   try simp only [Act.put, List.setIfInBounds_toArray, List.set_cons_zero, List.set_cons_succ]
   refine AnyE.one (i := 17) rfl (by kernel_rfl) (by kernel_rfl) (fun KK hK => ?_)
   go_simp
   refine hK.out _ _ ⟨fun h => (by cases h), ?_⟩
   clear hK
   try simp only [Act.put, List.setIfInBounds_toArray, List.set_cons_zero, List.set_cons_succ]
   refine AnyE.done (by kernel_rfl) (NoPanic.normal ?_) _
   go_simp
   go_step
   go_wp2
   go_ret
   exact plays_acts HI.out HLP.out.2 (Go4.of_below (HX.out.2.trans (HB2.out.mono HX.out.2.size))) HM.out
  have hk14 := hk
  clear hk
  have e17 : (o.kind == 17) = false := by simp; omega
  have e18 : (o.kind == 18) = false := by simp; omega
  have e19 : (o.kind == 19) = false := by simp; omega
  have e1 : (o.kind == 1) = false := by simp; omega
  have e2 : (o.kind == 2) = false := by simp; omega
  have e3 : (o.kind == 3) = false := by simp; omega
  have e4 : (o.kind == 4) = false := by simp; omega
  have e5 : (o.kind == 5) = false := by simp; omega
  have e11 : (o.kind == 11) = false := by simp; omega
  have e13 : (o.kind == 13) = false := by simp; omega
  have e14 : (o.kind == 14) = false := by simp; omega
  have HNK : Hid (o.kind ≠ 17 ∧ o.kind ≠ 18 ∧ o.kind ≠ 19) := ⟨hk17, hk18, hk19⟩
  clear hk17 hk18 hk19 hk1 hk2 hk3 hk4 hk5 hk11 hk13 hk14
  have c0 := (HX.out.1.later HBD.out).cells.1
  go_upto_region 18 with fail
  clear c0 e17 e18 e19 e1 e2 e3 e4 e5 e11 e13 e14
  have BD : Below Z0.heap.size Z0 Z0.drew := (Below.refl _ _).drew
  refine wp_region_noPanic ?_
  refine wp_region_anyE (S := fun wx => OBox wx bo o ∧ Below X.heap.size X wx) (E := fun j => decide (j < 16)) (by kernel_rfl) ?_
  have bd2 : Below X.heap.size X Z0.drew := HBD.out.trans (BD.mono HBD.out.size)
  have hHeld : OBox Z0.drew bo o ∧ Below X.heap.size X Z0.drew := ⟨HX.out.1.later bd2, bd2⟩
  have HB2 := Lib.hid bd2
  have hZ0 : ∃ z, z = Z0.drew := ⟨_, rfl⟩
  obtain ⟨Z2, hZ0⟩ := hZ0
  rw [← hZ0] at HB2 hHeld ⊢
  clear hZ0 BD bd2
  refine AnyE.takeD (i := 0) (fun j => [16, 17].contains j) (.pointer (some ⟨wB, 0, none⟩)) rfl (by kernel_rfl) (by kernel_rfl) (by kernel_rfl) (fun _ _ _ h => h) (.inl ⟨by kernel_rfl, fun wy hy => by (go_simp; done)⟩) hHeld ?_
  try simp only [Act.put, List.setIfInBounds_toArray, List.set_cons_zero, List.set_cons_succ]
  refine AnyE.takeD (i := 1) (fun j => [16, 17].contains j) (.agg #[.int .i64 o.kind, .int .i64 o.obj, .string o.nm, .string o.nt, .slice o.aB o.nB o.kB, .int .i64 o.pos, .int .i64 o.num, .slice o.aC o.nC o.kC, .slice o.aF o.nF o.kF]) rfl (by kernel_rfl) (by kernel_rfl) (by kernel_rfl) (fun _ _ _ h => h) (.inl ⟨by kernel_rfl, fun wy hy => by (have q0 := hy.1.cells.1; have q1 := hy.1.cells.2.1; have q2 := hy.1.cells.2.2.1; have q3 := hy.1.cells.2.2.2.1; have q4 := hy.1.cells.2.2.2.2.1; have q5 := hy.1.cells.2.2.2.2.2.1; have q6 := hy.1.cells.2.2.2.2.2.2.1; have q7 := hy.1.cells.2.2.2.2.2.2.2.1; have q8 := hy.1.cells.2.2.2.2.2.2.2.2; go_simp; done)⟩) hHeld ?_
  try simp only [Act.put, List.setIfInBounds_toArray, List.set_cons_zero, List.set_cons_succ]
  refine AnyE.takeD (i := 2) (fun j => [3, 4, 5, 7, 8, 16, 17].contains j) (.pointer (some ⟨wB, 0, none⟩)) rfl (by kernel_rfl) (by kernel_rfl) (by kernel_rfl) (fun _ _ _ h => h) (.inl ⟨by kernel_rfl, fun wy hy => by (go_simp; done)⟩) hHeld ?_
  try simp only [Act.put, List.setIfInBounds_toArray, List.set_cons_zero, List.set_cons_succ]
  refine AnyE.takeD (i := 3) (fun j => [4, 5, 7, 8, 16, 17].contains j) (.pointer (some ⟨wB, 0, none⟩)) rfl (by kernel_rfl) (by kernel_rfl) (by kernel_rfl) (fun _ _ _ h => h) (.inl ⟨by kernel_rfl, fun wy hy => by (go_simp; done)⟩) hHeld ?_
  try simp only [Act.put, List.setIfInBounds_toArray, List.set_cons_zero, List.set_cons_succ]
  refine AnyE.takeD (i := 4) (fun j => [5, 7, 8, 16, 17].contains j) (.pointer (some ⟨wB, 0, none⟩)) rfl (by kernel_rfl) (by kernel_rfl) (by kernel_rfl) (fun _ _ _ h => h) (.inl ⟨by kernel_rfl, fun wy hy => by (go_simp; done)⟩) hHeld ?_
  try simp only [Act.put, List.setIfInBounds_toArray, List.set_cons_zero, List.set_cons_succ]
  refine AnyE.takeD (i := 5) (fun j => [7, 8, 16, 17].contains j) (.slice (some ⟨gD, 0, none⟩) qn cD) rfl (by kernel_rfl) (by kernel_rfl) (by kernel_rfl) (fun _ _ _ h => h) (.inl ⟨by kernel_rfl, fun wy hy => by (have q0 := (CELLS.out hy.2).1; go_simp; done)⟩) hHeld ?_
  try simp only [Act.put, List.setIfInBounds_toArray, List.set_cons_zero, List.set_cons_succ]
  refine AnyE.takeD (i := 6) (fun j => [7, 8, 16, 17].contains j) (.int .i64 (i : Int)) rfl (by kernel_rfl) (by kernel_rfl) (by kernel_rfl) (fun _ _ _ h => h) (.inl ⟨by kernel_rfl, fun wy hy => by (go_simp; done)⟩) hHeld ?_
  try simp only [Act.put, List.setIfInBounds_toArray, List.set_cons_zero, List.set_cons_succ]
  refine AnyE.takeD (i := 7) (fun j => [8, 16, 17].contains j) (.pointer (some ⟨gD, i, none⟩)) rfl (by kernel_rfl) (by kernel_rfl) (by kernel_rfl) (fun _ _ _ h => h) (.inl ⟨by kernel_rfl, fun wy hy => by (go_simp; done)⟩) hHeld ?_
  try simp only [Act.put, List.setIfInBounds_toArray, List.set_cons_zero, List.set_cons_succ]
  refine AnyE.takeD (i := 8) (fun j => [16, 17].contains j) (.pointer (some ⟨dB, 0, none⟩)) rfl (by kernel_rfl) (by kernel_rfl) (by kernel_rfl) (fun _ _ _ h => h) (.inl ⟨by kernel_rfl, fun wy hy => by (have q0 := (CI.out hy.2).1; go_simp; done)⟩) hHeld ?_
  try simp only [Act.put, List.setIfInBounds_toArray, List.set_cons_zero, List.set_cons_succ]
  refine AnyE.takeD (i := 9) (fun j => [10, 11, 12, 14, 15, 16, 17].contains j) (.pointer (some ⟨wB, 0, none⟩)) rfl (by kernel_rfl) (by kernel_rfl) (by kernel_rfl) (fun _ _ _ h => h) (.inl ⟨by kernel_rfl, fun wy hy => by (go_simp; done)⟩) hHeld ?_
  try simp only [Act.put, List.setIfInBounds_toArray, List.set_cons_zero, List.set_cons_succ]
  refine AnyE.takeD (i := 10) (fun j => [11, 12, 14, 15, 16, 17].contains j) (.pointer (some ⟨wB, 0, none⟩)) rfl (by kernel_rfl) (by kernel_rfl) (by kernel_rfl) (fun _ _ _ h => h) (.inl ⟨by kernel_rfl, fun wy hy => by (go_simp; done)⟩) hHeld ?_
  try simp only [Act.put, List.setIfInBounds_toArray, List.set_cons_zero, List.set_cons_succ]
  refine AnyE.takeD (i := 11) (fun j => [12, 14, 15, 16, 17].contains j) (.pointer (some ⟨wB, 1, none⟩)) rfl (by kernel_rfl) (by kernel_rfl) (by kernel_rfl) (fun _ _ _ h => h) (.inl ⟨by kernel_rfl, fun wy hy => by (go_simp; done)⟩) hHeld ?_
  try simp only [Act.put, List.setIfInBounds_toArray, List.set_cons_zero, List.set_cons_succ]
  refine AnyE.takeD (i := 12) (fun j => [14, 15, 16, 17].contains j) (.slice (some ⟨gR, 0, none⟩) qn cR) rfl (by kernel_rfl) (by kernel_rfl) (by kernel_rfl) (fun _ _ _ h => h) (.inl ⟨by kernel_rfl, fun wy hy => by (have q0 := (CELLS.out hy.2).2; go_simp; done)⟩) hHeld ?_
  try simp only [Act.put, List.setIfInBounds_toArray, List.set_cons_zero, List.set_cons_succ]
  refine AnyE.takeD (i := 13) (fun j => [14, 15, 16, 17].contains j) (.int .i64 (i : Int)) rfl (by kernel_rfl) (by kernel_rfl) (by kernel_rfl) (fun _ _ _ h => h) (.inl ⟨by kernel_rfl, fun wy hy => by (go_simp; done)⟩) hHeld ?_
  try simp only [Act.put, List.setIfInBounds_toArray, List.set_cons_zero, List.set_cons_succ]
  refine AnyE.takeD (i := 14) (fun j => [15, 16, 17].contains j) (.pointer (some ⟨gR, i, none⟩)) rfl (by kernel_rfl) (by kernel_rfl) (by kernel_rfl) (fun _ _ _ h => h) (.inl ⟨by kernel_rfl, fun wy hy => by (go_simp; done)⟩) hHeld ?_
  try simp only [Act.put, List.setIfInBounds_toArray, List.set_cons_zero, List.set_cons_succ]
  refine AnyE.takeD (i := 15) (fun j => [16, 17].contains j) (.pointer (some ⟨rB, 0, none⟩)) rfl (by kernel_rfl) (by kernel_rfl) (by kernel_rfl) (fun _ _ _ h => h) (.inl ⟨by kernel_rfl, fun wy hy => by (have q0 := (CI.out hy.2).2; go_simp; done)⟩) hHeld ?_
  try simp only [Act.put, List.setIfInBounds_toArray, List.set_cons_zero, List.set_cons_succ]
  refine AnyE.one (i := 16) rfl (by kernel_rfl) (by kernel_rfl) (fun KK hK => ?_)
  go_simp
  go_at_call 38
  have W4 := Lib.hid (W1.out.later HB2.out)
  have HC := tells_any W4.out HI.out HLP.out.1 (HO.out.go (Go4.of_below (O := U) (HX.out.2.trans (HB2.out.mono HX.out.2.size)))) HZ.out
  unfold OpD.val at HC
  rw [← HPB.out.1, ← HPB.out.2] at HC
  have hHeld1 := hHeld
  refine HC.mono ?_
  intro e9 Z9 hm
  have HM := Lib.hid hm
  have he9 := hm.1
  subst he9
  clear hm HC hHeld1 hHeld
  go_wp2_with fail
  refine hK.out _ _ ⟨fun h => (by cases h), ?_⟩
  clear hK
  try simp only [Act.put, List.setIfInBounds_toArray, List.set_cons_zero, List.set_cons_succ]
  refine AnyE.one (i := 17) rfl (by kernel_rfl) (by kernel_rfl) (fun KK hK => ?_)
  go_simp
  refine hK.out _ _ ⟨fun h => (by cases h), ?_⟩
  clear hK
  try simp only [Act.put, List.setIfInBounds_toArray, List.set_cons_zero, List.set_cons_succ]
  refine AnyE.done (by kernel_rfl) (NoPanic.normal ?_) _
  go_simp
  go_step
  go_wp2
  go_ret
  exact plays_acts HI.out HLP.out.2 (Go4.of_below (HX.out.2.trans (HB2.out.mono HX.out.2.size))) HM.out
 ·have hie2 : o.obj.tmod (qn : Int) = (i : Int) := by rw [HIE.out.2, if_neg hn]
  have hn0 : ¬ (i : Int) < 0 := by omega
  rw [hie2]
  clear hn hie2
  go_upto_region 4 with fail
  by_cases hk : o.kind = 17
  ·have HK := Lib.hid hk
   have e17 : (o.kind == 17) = true := by simp; exact hk
   clear hk
   have c0 := (HX.out.1.later HBD.out).cells.1
   have q1 := (HX.out.1.later HBD.out).cells.2.1
   have q2 := (HX.out.1.later HBD.out).cells.2.2.1
   have q3 := (HX.out.1.later HBD.out).cells.2.2.2.1
   have q4 := (HX.out.1.later HBD.out).cells.2.2.2.2.1
   have q5 := (HX.out.1.later HBD.out).cells.2.2.2.2.2.1
   have q6 := (HX.out.1.later HBD.out).cells.2.2.2.2.2.2.1
   have q7 := (HX.out.1.later HBD.out).cells.2.2.2.2.2.2.2.1
   have q8 := (HX.out.1.later HBD.out).cells.2.2.2.2.2.2.2.2
   go_wp2_with fail
   have HC := makes_any (.inl HK.out) W3.out HI.out HLP.out.2 (HO.out.go (Go4.of_below (O := U) (HX.out.2.trans (HBD.out.mono HX.out.2.size)))) HZ.out
   unfold OpD.val at HC
   refine HC.mono ?_
   intro e9 Z9 hm
   have HM := Lib.hid hm
   have he9 := hm.1
   subst he9
   clear hm HC c0 q1 q2 q3 q4 q5 q6 q7 q8
   go_wp2
   go_ret
   exact plays_makes (.inl HK.out) (Go4.of_below (HX.out.2.trans (HBD.out.mono HX.out.2.size))) HM.out
  have hk17 := hk
  clear hk
  by_cases hk : o.kind = 18
  ·have HK := Lib.hid hk
   have e17 : (o.kind == 17) = false := by simp; omega
   have e18 : (o.kind == 18) = true := by simp; exact hk
   clear hk
   have c0 := (HX.out.1.later HBD.out).cells.1
   have q1 := (HX.out.1.later HBD.out).cells.2.1
   have q2 := (HX.out.1.later HBD.out).cells.2.2.1
   have q3 := (HX.out.1.later HBD.out).cells.2.2.2.1
   have q4 := (HX.out.1.later HBD.out).cells.2.2.2.2.1
   have q5 := (HX.out.1.later HBD.out).cells.2.2.2.2.2.1
   have q6 := (HX.out.1.later HBD.out).cells.2.2.2.2.2.2.1
   have q7 := (HX.out.1.later HBD.out).cells.2.2.2.2.2.2.2.1
   have q8 := (HX.out.1.later HBD.out).cells.2.2.2.2.2.2.2.2
   go_wp2_with fail
   have HC := makes_any (.inr (.inl HK.out)) W3.out HI.out HLP.out.2 (HO.out.go (Go4.of_below (O := U) (HX.out.2.trans (HBD.out.mono HX.out.2.size)))) HZ.out
   unfold OpD.val at HC
   refine HC.mono ?_
   intro e9 Z9 hm
   have HM := Lib.hid hm
   have he9 := hm.1
   subst he9
   clear hm HC c0 q1 q2 q3 q4 q5 q6 q7 q8
   go_wp2
   go_ret
   exact plays_makes (.inr (.inl HK.out)) (Go4.of_below (HX.out.2.trans (HBD.out.mono HX.out.2.size))) HM.out
  have hk18 := hk
  clear hk
  by_cases hk : o.kind = 19
  ·have HK := Lib.hid hk
   have e17 : (o.kind == 17) = false := by simp; omega
   have e18 : (o.kind == 18) = false := by simp; omega
   have e19 : (o.kind == 19) = true := by simp; exact hk
   clear hk
   have c0 := (HX.out.1.later HBD.out).cells.1
   have q1 := (HX.out.1.later HBD.out).cells.2.1
   have q2 := (HX.out.1.later HBD.out).cells.2.2.1
   have q3 := (HX.out.1.later HBD.out).cells.2.2.2.1
   have q4 := (HX.out.1.later HBD.out).cells.2.2.2.2.1
   have q5 := (HX.out.1.later HBD.out).cells.2.2.2.2.2.1
   have q6 := (HX.out.1.later HBD.out).cells.2.2.2.2.2.2.1
   have q7 := (HX.out.1.later HBD.out).cells.2.2.2.2.2.2.2.1
   have q8 := (HX.out.1.later HBD.out).cells.2.2.2.2.2.2.2.2
   go_wp2_with fail
   have HC := makes_any (.inr (.inr HK.out)) W3.out HI.out HLP.out.2 (HO.out.go (Go4.of_below (O := U) (HX.out.2.trans (HBD.out.mono HX.out.2.size)))) HZ.out
   unfold OpD.val at HC
   refine HC.mono ?_
   intro e9 Z9 hm
   have HM := Lib.hid hm
   have he9 := hm.1
   subst he9
   clear hm HC c0 q1 q2 q3 q4 q5 q6 q7 q8
   go_wp2
   go_ret
   exact plays_makes (.inr (.inr HK.out)) (Go4.of_below (HX.out.2.trans (HBD.out.mono HX.out.2.size))) HM.out
  have hk19 := hk
  clear hk
  by_cases hk : o.kind = 1
  ·have HK := Lib.hid hk
   have e17 : (o.kind == 17) = false := by simp; omega
   have e18 : (o.kind == 18) = false := by simp; omega
   have e19 : (o.kind == 19) = false := by simp; omega
   have e1 : (o.kind == 1) = true := by simp; exact hk
   clear hk
   have c0 := (HX.out.1.later HBD.out).cells.1
   go_upto_region 17 with fail
   clear c0 e17 e18 e19 e1
   have BD : Below Z0.heap.size Z0 Z0.drew := (Below.refl _ _).drew
   refine wp_region_noPanic ?_
   refine wp_region_anyE (S := fun wx => OBox wx bo o ∧ Below X.heap.size X wx) (E := fun j => decide (j < 16)) (by kernel_rfl) ?_
   have bd2 : Below X.heap.size X Z0.drew := HBD.out.trans (BD.mono HBD.out.size)
   have hHeld : OBox Z0.drew bo o ∧ Below X.heap.size X Z0.drew := ⟨HX.out.1.later bd2, bd2⟩
   have HB2 := Lib.hid bd2
   have hZ0 : ∃ z, z = Z0.drew := ⟨_, rfl⟩
   obtain ⟨Z2, hZ0⟩ := hZ0
   rw [← hZ0] at HB2 hHeld ⊢
   clear hZ0 BD bd2
   refine AnyE.takeD (i := 0) (fun j => [16, 17].contains j) (.pointer (some ⟨wB, 0, none⟩)) rfl (by kernel_rfl) (by kernel_rfl) (by kernel_rfl) (fun _ _ _ h => h) (.inl ⟨by kernel_rfl, fun wy hy => by (go_simp; done)⟩) hHeld ?_
   try simp only [Act.put, List.setIfInBounds_toArray, List.set_cons_zero, List.set_cons_succ]
   refine AnyE.takeD (i := 1) (fun j => [16, 17].contains j) (.agg #[.int .i64 o.kind, .int .i64 o.obj, .string o.nm, .string o.nt, .slice o.aB o.nB o.kB, .int .i64 o.pos, .int .i64 o.num, .slice o.aC o.nC o.kC, .slice o.aF o.nF o.kF]) rfl (by kernel_rfl) (by kernel_rfl) (by kernel_rfl) (fun _ _ _ h => h) (.inl ⟨by kernel_rfl, fun wy hy => by (have q0 := hy.1.cells.1; have q1 := hy.1.cells.2.1; have q2 := hy.1.cells.2.2.1; have q3 := hy.1.cells.2.2.2.1; have q4 := hy.1.cells.2.2.2.2.1; have q5 := hy.1.cells.2.2.2.2.2.1; have q6 := hy.1.cells.2.2.2.2.2.2.1; have q7 := hy.1.cells.2.2.2.2.2.2.2.1; have q8 := hy.1.cells.2.2.2.2.2.2.2.2; go_simp; done)⟩) hHeld ?_
   try simp only [Act.put, List.setIfInBounds_toArray, List.set_cons_zero, List.set_cons_succ]
   refine AnyE.takeD (i := 2) (fun j => [3, 4, 5, 7, 8, 16, 17].contains j) (.pointer (some ⟨wB, 0, none⟩)) rfl (by kernel_rfl) (by kernel_rfl) (by kernel_rfl) (fun _ _ _ h => h) (.inl ⟨by kernel_rfl, fun wy hy => by (go_simp; done)⟩) hHeld ?_
   try simp only [Act.put, List.setIfInBounds_toArray, List.set_cons_zero, List.set_cons_succ]
   refine AnyE.takeD (i := 3) (fun j => [4, 5, 7, 8, 16, 17].contains j) (.pointer (some ⟨wB, 0, none⟩)) rfl (by kernel_rfl) (by kernel_rfl) (by kernel_rfl) (fun _ _ _ h => h) (.inl ⟨by kernel_rfl, fun wy hy => by (go_simp; done)⟩) hHeld ?_
   try simp only [Act.put, List.setIfInBounds_toArray, List.set_cons_zero, List.set_cons_succ]
   refine AnyE.takeD (i := 4) (fun j => [5, 7, 8, 16, 17].contains j) (.pointer (some ⟨wB, 0, none⟩)) rfl (by kernel_rfl) (by kernel_rfl) (by kernel_rfl) (fun _ _ _ h => h) (.inl ⟨by kernel_rfl, fun wy hy => by (go_simp; done)⟩) hHeld ?_
   try simp only [Act.put, List.setIfInBounds_toArray, List.set_cons_zero, List.set_cons_succ]
   refine AnyE.takeD (i := 5) (fun j => [7, 8, 16, 17].contains j) (.slice (some ⟨gD, 0, none⟩) qn cD) rfl (by kernel_rfl) (by kernel_rfl) (by kernel_rfl) (fun _ _ _ h => h) (.inl ⟨by kernel_rfl, fun wy hy => by (have q0 := (CELLS.out hy.2).1; go_simp; done)⟩) hHeld ?_
   try simp only [Act.put, List.setIfInBounds_toArray, List.set_cons_zero, List.set_cons_succ]
   refine AnyE.takeD (i := 6) (fun j => [7, 8, 16, 17].contains j) (.int .i64 (i : Int)) rfl (by kernel_rfl) (by kernel_rfl) (by kernel_rfl) (fun _ _ _ h => h) (.inl ⟨by kernel_rfl, fun wy hy => by (go_simp; done)⟩) hHeld ?_
   try simp only [Act.put, List.setIfInBounds_toArray, List.set_cons_zero, List.set_cons_succ]
   refine AnyE.takeD (i := 7) (fun j => [8, 16, 17].contains j) (.pointer (some ⟨gD, i, none⟩)) rfl (by kernel_rfl) (by kernel_rfl) (by kernel_rfl) (fun _ _ _ h => h) (.inl ⟨by kernel_rfl, fun wy hy => by (go_simp; done)⟩) hHeld ?_
   try simp only [Act.put, List.setIfInBounds_toArray, List.set_cons_zero, List.set_cons_succ]
   refine AnyE.takeD (i := 8) (fun j => [16, 17].contains j) (.pointer (some ⟨dB, 0, none⟩)) rfl (by kernel_rfl) (by kernel_rfl) (by kernel_rfl) (fun _ _ _ h => h) (.inl ⟨by kernel_rfl, fun wy hy => by (have q0 := (CI.out hy.2).1; go_simp; done)⟩) hHeld ?_
   try simp only [Act.put, List.setIfInBounds_toArray, List.set_cons_zero, List.set_cons_succ]
   refine AnyE.takeD (i := 9) (fun j => [10, 11, 12, 14, 15, 16, 17].contains j) (.pointer (some ⟨wB, 0, none⟩)) rfl (by kernel_rfl) (by kernel_rfl) (by kernel_rfl) (fun _ _ _ h => h) (.inl ⟨by kernel_rfl, fun wy hy => by (go_simp; done)⟩) hHeld ?_
   try simp only [Act.put, List.setIfInBounds_toArray, List.set_cons_zero, List.set_cons_succ]
   refine AnyE.takeD (i := 10) (fun j => [11, 12, 14, 15, 16, 17].contains j) (.pointer (some ⟨wB, 0, none⟩)) rfl (by kernel_rfl) (by kernel_rfl) (by kernel_rfl) (fun _ _ _ h => h) (.inl ⟨by kernel_rfl, fun wy hy => by (go_simp; done)⟩) hHeld ?_
   try simp only [Act.put, List.setIfInBounds_toArray, List.set_cons_zero, List.set_cons_succ]
   refine AnyE.takeD (i := 11) (fun j => [12, 14, 15, 16, 17].contains j) (.pointer (some ⟨wB, 1, none⟩)) rfl (by kernel_rfl) (by kernel_rfl) (by kernel_rfl) (fun _ _ _ h => h) (.inl ⟨by kernel_rfl, fun wy hy => by (go_simp; done)⟩) hHeld ?_
   try simp only [Act.put, List.setIfInBounds_toArray, List.set_cons_zero, List.set_cons_succ]
   refine AnyE.takeD (i := 12) (fun j => [14, 15, 16, 17].contains j) (.slice (some ⟨gR, 0, none⟩) qn cR) rfl (by kernel_rfl) (by kernel_rfl) (by kernel_rfl) (fun _ _ _ h => h) (.inl ⟨by kernel_rfl, fun wy hy => by (have q0 := (CELLS.out hy.2).2; go_simp; done)⟩) hHeld ?_
   try simp only [Act.put, List.setIfInBounds_toArray, List.set_cons_zero, List.set_cons_succ]
   refine AnyE.takeD (i := 13) (fun j => [14, 15, 16, 17].contains j) (.int .i64 (i : Int)) rfl (by kernel_rfl) (by kernel_rfl) (by kernel_rfl) (fun _ _ _ h => h) (.inl ⟨by kernel_rfl, fun wy hy => by (go_simp; done)⟩) hHeld ?_
   try simp only [Act.put, List.setIfInBounds_toArray, List.set_cons_zero, List.set_cons_succ]
   refine AnyE.takeD (i := 14) (fun j => [15, 16, 17].contains j) (.pointer (some ⟨gR, i, none⟩)) rfl (by kernel_rfl) (by kernel_rfl) (by kernel_rfl) (fun _ _ _ h => h) (.inl ⟨by kernel_rfl, fun wy hy => by (go_simp; done)⟩) hHeld ?_
   try simp only [Act.put, List.setIfInBounds_toArray, List.set_cons_zero, List.set_cons_succ]
   refine AnyE.takeD (i := 15) (fun j => [16, 17].contains j) (.pointer (some ⟨rB, 0, none⟩)) rfl (by kernel_rfl) (by kernel_rfl) (by kernel_rfl) (fun _ _ _ h => h) (.inl ⟨by kernel_rfl, fun wy hy => by (have q0 := (CI.out hy.2).2; go_simp; done)⟩) hHeld ?_
   try simp only [Act.put, List.setIfInBounds_toArray, List.set_cons_zero, List.set_cons_succ]
   refine AnyE.one (i := 16) rfl (by kernel_rfl) (by kernel_rfl) (fun KK hK => ?_)
   go_simp
   go_at_call 37
   have W4 := Lib.hid (W1.out.later HB2.out)
   have HC := acts_any (.inl HK.out) W4.out HI.out HLP.out.1 (HO.out.go (Go4.of_below (O := U) (HX.out.2.trans (HB2.out.mono HX.out.2.size)))) HZ.out
   unfold OpD.val at HC
   rw [← HPB.out.1, ← HPB.out.2] at HC
   have hHeld1 := hHeld
   refine HC.mono ?_
   intro e9 Z9 hm
   have HM := Lib.hid hm
   have he9 := hm.1
   subst he9
   clear hm HC hHeld1 hHeld
   go_wp2_with fail
   refine hK.out _ _ ⟨fun h => (by cases h), ?_⟩
   clear hK
   try simp only [Act.put, List.setIfInBounds_toArray, List.set_cons_zero, List.set_cons_succ]
   refine AnyE.one (i := 17) rfl (by kernel_rfl) (by kernel_rfl) (fun KK hK => ?_)
   go_simp
   refine hK.out _ _ ⟨fun h => (by cases h), ?_⟩
   clear hK
   try simp only [Act.put, List.setIfInBounds_toArray, List.set_cons_zero, List.set_cons_succ]
   refine AnyE.done (by kernel_rfl) (NoPanic.normal ?_) _
   go_simp
   go_step
   go_wp2
   go_ret
   exact plays_acts HI.out HLP.out.2 (Go4.of_below (HX.out.2.trans (HB2.out.mono HX.out.2.size))) HM.out
  have hk1 := hk
  clear hk
  by_cases hk : o.kind = 2
  ·have HK := Lib.hid hk
   have e17 : (o.kind == 17) = false := by simp; omega
   have e18 : (o.kind == 18) = false := by simp; omega
   have e19 : (o.kind == 19) = false := by simp; omega
   have e1 : (o.kind == 1) = false := by simp; omega
   have e2 : (o.kind == 2) = true := by simp; exact hk
   clear hk
   have c0 := (HX.out.1.later HBD.out).cells.1
   go_upto_region 17 with fail
   clear c0 e17 e18 e19 e1 e2
   have BD : Below Z0.heap.size Z0 Z0.drew := (Below.refl _ _).drew
   refine wp_region_noPanic ?_
   refine wp_region_anyE (S := fun wx => OBox wx bo o ∧ Below X.heap.size X wx) (E := fun j => decide (j < 16)) (by kernel_rfl) ?_
   have bd2 : Below X.heap.size X Z0.drew := HBD.out.trans (BD.mono HBD.out.size)
   have hHeld : OBox Z0.drew bo o ∧ Below X.heap.size X Z0.drew := ⟨HX.out.1.later bd2, bd2⟩
   have HB2 := Lib.hid bd2
   have hZ0 : ∃ z, z = Z0.drew := ⟨_, rfl⟩
   obtain ⟨Z2, hZ0⟩ := hZ0
   rw [← hZ0] at HB2 hHeld ⊢
   clear hZ0 BD bd2
   refine AnyE.takeD (i := 0) (fun j => [16, 17].contains j) (.pointer (some ⟨wB, 0, none⟩)) rfl (by kernel_rfl) (by kernel_rfl) (by kernel_rfl) (fun _ _ _ h => h) (.inl ⟨by kernel_rfl, fun wy hy => by (go_simp; done)⟩) hHeld ?_
   try simp only [Act.put, List.setIfInBounds_toArray, List.set_cons_zero, List.set_cons_succ]
   refine AnyE.takeD (i := 1) (fun j => [16, 17].contains j) (.agg #[.int .i64 o.kind, .int .i64 o.obj, .string o.nm, .string o.nt, .slice o.aB o.nB o.kB, .int .i64 o.pos, .int .i64 o.num, .slice o.aC o.nC o.kC, .slice o.aF o.nF o.kF]) rfl (by kernel_rfl) (by kernel_rfl) (by kernel_rfl) (fun _ _ _ h => h) (.inl ⟨by kernel_rfl, fun wy hy => by (have q0 := hy.1.cells.1; have q1 := hy.1.cells.2.1; have q2 := hy.1.cells.2.2.1; have q3 := hy.1.cells.2.2.2.1; have q4 := hy.1.cells.2.2.2.2.1; have q5 := hy.1.cells.2.2.2.2.2.1; have q6 := hy.1.cells.2.2.2.2.2.2.1; have q7 := hy.1.cells.2.2.2.2.2.2.2.1; have q8 := hy.1.cells.2.2.2.2.2.2.2.2; go_simp; done)⟩) hHeld ?_
   try simp only [Act.put, List.setIfInBounds_toArray, List.set_cons_zero, List.set_cons_succ]
   refine AnyE.takeD (i := 2) (fun j => [3, 4, 5, 7, 8, 16, 17].contains j) (.pointer (some ⟨wB, 0, none⟩)) rfl (by kernel_rfl) (by kernel_rfl) (by kernel_rfl) (fun _ _ _ h => h) (.inl ⟨by kernel_rfl, fun wy hy => by (go_simp; done)⟩) hHeld ?_
   try simp only [Act.put, List.setIfInBounds_toArray, List.set_cons_zero, List.set_cons_succ]
   refine AnyE.takeD (i := 3) (fun j => [4, 5, 7, 8, 16, 17].contains j) (.pointer (some ⟨wB, 0, none⟩)) rfl (by kernel_rfl) (by kernel_rfl) (by kernel_rfl) (fun _ _ _ h => h) (.inl ⟨by kernel_rfl, fun wy hy => by (go_simp; done)⟩) hHeld ?_
   try simp only [Act.put, List.setIfInBounds_toArray, List.set_cons_zero, List.set_cons_succ]
   refine AnyE.takeD (i := 4) (fun j => [5, 7, 8, 16, 17].contains j) (.pointer (some ⟨wB, 0, none⟩)) rfl (by kernel_rfl) (by kernel_rfl) (by kernel_rfl) (fun _ _ _ h => h) (.inl ⟨by kernel_rfl, fun wy hy => by (go_simp; done)⟩) hHeld ?_
   try simp only [Act.put, List.setIfInBounds_toArray, List.set_cons_zero, List.set_cons_succ]
   refine AnyE.takeD (i := 5) (fun j => [7, 8, 16, 17].contains j) (.slice (some ⟨gD, 0, none⟩) qn cD) rfl (by kernel_rfl) (by kernel_rfl) (by kernel_rfl) (fun _ _ _ h => h) (.inl ⟨by kernel_rfl, fun wy hy => by (have q0 := (CELLS.out hy.2).1; go_simp; done)⟩) hHeld ?_
   try simp only [Act.put, List.setIfInBounds_toArray, List.set_cons_zero, List.set_cons_succ]
   refine AnyE.takeD (i := 6) (fun j => [7, 8, 16, 17].contains j) (.int .i64 (i : Int)) rfl (by kernel_rfl) (by kernel_rfl) (by kernel_rfl) (fun _ _ _ h => h) (.inl ⟨by kernel_rfl, fun wy hy => by (go_simp; done)⟩) hHeld ?_
   try simp only [Act.put, List.setIfInBounds_toArray, List.set_cons_zero, List.set_cons_succ]
   refine AnyE.takeD (i := 7) (fun j => [8, 16, 17].contains j) (.pointer (some ⟨gD, i, none⟩)) rfl (by kernel_rfl) (by kernel_rfl) (by kernel_rfl) (fun _ _ _ h => h) (.inl ⟨by kernel_rfl, fun wy hy => by (go_simp; done)⟩) hHeld ?_
   try simp only [Act.put, List.setIfInBounds_toArray, List.set_cons_zero, List.set_cons_succ]
   refine AnyE.takeD (i := 8) (fun j => [16, 17].contains j) (.pointer (some ⟨dB, 0, none⟩)) rfl (by kernel_rfl) (by kernel_rfl) (by kernel_rfl) (fun _ _ _ h => h) (.inl ⟨by kernel_rfl, fun wy hy => by (have q0 := (CI.out hy.2).1; go_simp; done)⟩) hHeld ?_
   try simp only [Act.put, List.setIfInBounds_toArray, List.set_cons_zero, List.set_cons_succ]
   refine AnyE.takeD (i := 9) (fun j => [10, 11, 12, 14, 15, 16, 17].contains j) (.pointer (some ⟨wB, 0, none⟩)) rfl (by kernel_rfl) (by kernel_rfl) (by kernel_rfl) (fun _ _ _ h => h) (.inl ⟨by kernel_rfl, fun wy hy => by (go_simp; done)⟩) hHeld ?_
   try simp only [Act.put, List.setIfInBounds_toArray, List.set_cons_zero, List.set_cons_succ]
   refine AnyE.takeD (i := 10) (fun j => [11, 12, 14, 15, 16, 17].contains j) (.pointer (some ⟨wB, 0, none⟩)) rfl (by kernel_rfl) (by kernel_rfl) (by kernel_rfl) (fun _ _ _ h => h) (.inl ⟨by kernel_rfl, fun wy hy => by (go_simp; done)⟩) hHeld ?_
   try simp only [Act.put, List.setIfInBounds_toArray, List.set_cons_zero, List.set_cons_succ]
   refine AnyE.takeD (i := 11) (fun j => [12, 14, 15, 16, 17].contains j) (.pointer (some ⟨wB, 1, none⟩)) rfl (by kernel_rfl) (by kernel_rfl) (by kernel_rfl) (fun _ _ _ h => h) (.inl ⟨by kernel_rfl, fun wy hy => by (go_simp; done)⟩) hHeld ?_
   try simp only [Act.put, List.setIfInBounds_toArray, List.set_cons_zero, List.set_cons_succ]
   refine AnyE.takeD (i := 12) (fun j => [14, 15, 16, 17].contains j) (.slice (some ⟨gR, 0, none⟩) qn cR) rfl (by kernel_rfl) (by kernel_rfl) (by kernel_rfl) (fun _ _ _ h => h) (.inl ⟨by kernel_rfl, fun wy hy => by (have q0 := (CELLS.out hy.2).2; go_simp; done)⟩) hHeld ?_
   try simp only [Act.put, List.setIfInBounds_toArray, List.set_cons_zero, List.set_cons_succ]
   refine AnyE.takeD (i := 13) (fun j => [14, 15, 16, 17].contains j) (.int .i64 (i : Int)) rfl (by kernel_rfl) (by kernel_rfl) (by kernel_rfl) (fun _ _ _ h => h) (.inl ⟨by kernel_rfl, fun wy hy => by (go_simp; done)⟩) hHeld ?_
   try simp only [Act.put, List.setIfInBounds_toArray, List.set_cons_zero, List.set_cons_succ]
   refine AnyE.takeD (i := 14) (fun j => [15, 16, 17].contains j) (.pointer (some ⟨gR, i, none⟩)) rfl (by kernel_rfl) (by kernel_rfl) (by kernel_rfl) (fun _ _ _ h => h) (.inl ⟨by kernel_rfl, fun wy hy => by (go_simp; done)⟩) hHeld ?_
   try simp only [Act.put, List.setIfInBounds_toArray, List.set_cons_zero, List.set_cons_succ]
   refine AnyE.takeD (i := 15) (fun j => [16, 17].contains j) (.pointer (some ⟨rB, 0, none⟩)) rfl (by kernel_rfl) (by kernel_rfl) (by kernel_rfl) (fun _ _ _ h => h) (.inl ⟨by kernel_rfl, fun wy hy => by (have q0 := (CI.out hy.2).2; go_simp; done)⟩) hHeld ?_
   try simp only [Act.put, List.setIfInBounds_toArray, List.set_cons_zero, List.set_cons_succ]
   refine AnyE.one (i := 16) rfl (by kernel_rfl) (by kernel_rfl) (fun KK hK => ?_)
   go_simp
   go_at_call 37
   have W4 := Lib.hid (W1.out.later HB2.out)
   have HC := acts_any (.inr (.inl HK.out)) W4.out HI.out HLP.out.1 (HO.out.go (Go4.of_below (O := U) (HX.out.2.trans (HB2.out.mono HX.out.2.size)))) HZ.out
   unfold OpD.val at HC
   rw [← HPB.out.1, ← HPB.out.2] at HC
   have hHeld1 := hHeld
   refine HC.mono ?_
   intro e9 Z9 hm
   have HM := Lib.hid hm
   have he9 := hm.1
   subst he9
   clear hm HC hHeld1 hHeld
   go_wp2_with fail
   refine hK.out _ _ ⟨fun h => (by cases h), ?_⟩
   clear hK
   try simp only [Act.put, List.setIfInBounds_toArray, List.set_cons_zero, List.set_cons_succ]
   refine AnyE.one (i := 17) rfl (by kernel_rfl) (by kernel_rfl) (fun KK hK => ?_)
   go_simp
   refine hK.out _ _ ⟨fun h => (by cases h), ?_⟩
   clear hK
   try simp only [Act.put, List.setIfInBounds_toArray, List.set_cons_zero, List.set_cons_succ]
   refine AnyE.done (by kernel_rfl) (NoPanic.normal ?_) _
   go_simp
   go_step
   go_wp2
   go_ret
   exact plays_acts HI.out HLP.out.2 (Go4.of_below (HX.out.2.trans (HB2.out.mono HX.out.2.size))) HM.out
  have hk2 := hk
  clear hk
  by_cases hk : o.kind = 3
  ·have HK := Lib.hid hk
   have e17 : (o.kind == 17) = false := by simp; omega
   have e18 : (o.kind == 18) = false := by simp; omega
   have e19 : (o.kind == 19) = false := by simp; omega
   have e1 : (o.kind == 1) = false := by simp; omega
   have e2 : (o.kind == 2) = false := by simp; omega
   have e3 : (o.kind == 3) = true := by simp; exact hk
   clear hk
   have c0 := (HX.out.1.later HBD.out).cells.1
   go_upto_region 17 with fail
   clear c0 e17 e18 e19 e1 e2 e3
   have BD : Below Z0.heap.size Z0 Z0.drew := (Below.refl _ _).drew
   refine wp_region_noPanic ?_
   refine wp_region_anyE (S := fun wx => OBox wx bo o ∧ Below X.heap.size X wx) (E := fun j => decide (j < 16)) (by kernel_rfl) ?_
   have bd2 : Below X.heap.size X Z0.drew := HBD.out.trans (BD.mono HBD.out.size)
   have hHeld : OBox Z0.drew bo o ∧ Below X.heap.size X Z0.drew := ⟨HX.out.1.later bd2, bd2⟩
   have HB2 := Lib.hid bd2
   have hZ0 : ∃ z, z = Z0.drew := ⟨_, rfl⟩
   obtain ⟨Z2, hZ0⟩ := hZ0
   rw [← hZ0] at HB2 hHeld ⊢
   clear hZ0 BD bd2
   refine AnyE.takeD (i := 0) (fun j => [16, 17].contains j) (.pointer (some ⟨wB, 0, none⟩)) rfl (by kernel_rfl) (by kernel_rfl) (by kernel_rfl) (fun _ _ _ h => h) (.inl ⟨by kernel_rfl, fun wy hy => by (go_simp; done)⟩) hHeld ?_
   try simp only [Act.put, List.setIfInBounds_toArray, List.set_cons_zero, List.set_cons_succ]
   refine AnyE.takeD (i := 1) (fun j => [16, 17].contains j) (.agg #[.int .i64 o.kind, .int .i64 o.obj, .string o.nm, .string o.nt, .slice o.aB o.nB o.kB, .int .i64 o.pos, .int .i64 o.num, .slice o.aC o.nC o.kC, .slice o.aF o.nF o.kF]) rfl (by kernel_rfl) (by kernel_rfl) (by kernel_rfl) (fun _ _ _ h => h) (.inl ⟨by kernel_rfl, fun wy hy => by (have q0 := hy.1.cells.1; have q1 := hy.1.cells.2.1; have q2 := hy.1.cells.2.2.1; have q3 := hy.1.cells.2.2.2.1; have q4 := hy.1.cells.2.2.2.2.1; have q5 := hy.1.cells.2.2.2.2.2.1; have q6 := hy.1.cells.2.2.2.2.2.2.1; have q7 := hy.1.cells.2.2.2.2.2.2.2.1; have q8 := hy.1.cells.2.2.2.2.2.2.2.2; go_simp; done)⟩) hHeld ?_
   try simp only [Act.put, List.setIfInBounds_toArray, List.set_cons_zero, List.set_cons_succ]
   refine AnyE.takeD (i := 2) (fun j => [3, 4, 5, 7, 8, 16, 17].contains j) (.pointer (some ⟨wB, 0, none⟩)) rfl (by kernel_rfl) (by kernel_rfl) (by kernel_rfl) (fun _ _ _ h => h) (.inl ⟨by kernel_rfl, fun wy hy => by (go_simp; done)⟩) hHeld ?_
   try simp only [Act.put, List.setIfInBounds_toArray, List.set_cons_zero, List.set_cons_succ]
   refine AnyE.takeD (i := 3) (fun j => [4, 5, 7, 8, 16, 17].contains j) (.pointer (some ⟨wB, 0, none⟩)) rfl (by kernel_rfl) (by kernel_rfl) (by kernel_rfl) (fun _ _ _ h => h) (.inl ⟨by kernel_rfl, fun wy hy => by (go_simp; done)⟩) hHeld ?_
   try simp only [Act.put, List.setIfInBounds_toArray, List.set_cons_zero, List.set_cons_succ]
   refine AnyE.takeD (i := 4) (fun j => [5, 7, 8, 16, 17].contains j) (.pointer (some ⟨wB, 0, none⟩)) rfl (by kernel_rfl) (by kernel_rfl) (by kernel_rfl) (fun _ _ _ h => h) (.inl ⟨by kernel_rfl, fun wy hy => by (go_simp; done)⟩) hHeld ?_
   try simp only [Act.put, List.setIfInBounds_toArray, List.set_cons_zero, List.set_cons_succ]
   refine AnyE.takeD (i := 5) (fun j => [7, 8, 16, 17].contains j) (.slice (some ⟨gD, 0, none⟩) qn cD) rfl (by kernel_rfl) (by kernel_rfl) (by kernel_rfl) (fun _ _ _ h => h) (.inl ⟨by kernel_rfl, fun wy hy => by (have q0 := (CELLS.out hy.2).1; go_simp; done)⟩) hHeld ?_
   try simp only [Act.put, List.setIfInBounds_toArray, List.set_cons_zero, List.set_cons_succ]
   refine AnyE.takeD (i := 6) (fun j => [7, 8, 16, 17].contains j) (.int .i64 (i : Int)) rfl (by kernel_rfl) (by kernel_rfl) (by kernel_rfl) (fun _ _ _ h => h) (.inl ⟨by kernel_rfl, fun wy hy => by (go_simp; done)⟩) hHeld ?_
   try simp only [Act.put, List.setIfInBounds_toArray, List.set_cons_zero, List.set_cons_succ]
   refine AnyE.takeD (i := 7) (fun j => [8, 16, 17].contains j) (.pointer (some ⟨gD, i, none⟩)) rfl (by kernel_rfl) (by kernel_rfl) (by kernel_rfl) (fun _ _ _ h => h) (.inl ⟨by kernel_rfl, fun wy hy => by (go_simp; done)⟩) hHeld ?_
   try simp only [Act.put, List.setIfInBounds_toArray, List.set_cons_zero, List.set_cons_succ]
   refine AnyE.takeD (i := 8) (fun j => [16, 17].contains j) (.pointer (some ⟨dB, 0, none⟩)) rfl (by kernel_rfl) (by kernel_rfl) (by kernel_rfl) (fun _ _ _ h => h) (.inl ⟨by kernel_rfl, fun wy hy => by (have q0 := (CI.out hy.2).1; go_simp; done)⟩) hHeld ?_
   try simp only [Act.put, List.setIfInBounds_toArray, List.set_cons_zero, List.set_cons_succ]
   refine AnyE.takeD (i := 9) (fun j => [10, 11, 12, 14, 15, 16, 17].contains j) (.pointer (some ⟨wB, 0, none⟩)) rfl (by kernel_rfl) (by kernel_rfl) (by kernel_rfl) (fun _ _ _ h => h) (.inl ⟨by kernel_rfl, fun wy hy => by (go_simp; done)⟩) hHeld ?_
   try simp only [Act.put, List.setIfInBounds_toArray, List.set_cons_zero, List.set_cons_succ]
   refine AnyE.takeD (i := 10) (fun j => [11, 12, 14, 15, 16, 17].contains j) (.pointer (some ⟨wB, 0, none⟩)) rfl (by kernel_rfl) (by kernel_rfl) (by kernel_rfl) (fun _ _ _ h => h) (.inl ⟨by kernel_rfl, fun wy hy => by (go_simp; done)⟩) hHeld ?_
   try simp only [Act.put, List.setIfInBounds_toArray, List.set_cons_zero, List.set_cons_succ]
   refine AnyE.takeD (i := 11) (fun j => [12, 14, 15, 16, 17].contains j) (.pointer (some ⟨wB, 1, none⟩)) rfl (by kernel_rfl) (by kernel_rfl) (by kernel_rfl) (fun _ _ _ h => h) (.inl ⟨by kernel_rfl, fun wy hy => by (go_simp; done)⟩) hHeld ?_
   try simp only [Act.put, List.setIfInBounds_toArray, List.set_cons_zero, List.set_cons_succ]
   refine AnyE.takeD (i := 12) (fun j => [14, 15, 16, 17].contains j) (.slice (some ⟨gR, 0, none⟩) qn cR) rfl (by kernel_rfl) (by kernel_rfl) (by kernel_rfl) (fun _ _ _ h => h) (.inl ⟨by kernel_rfl, fun wy hy => by (have q0 := (CELLS.out hy.2).2; go_simp; done)⟩) hHeld ?_
   try simp only [Act.put, List.setIfInBounds_toArray, List.set_cons_zero, List.set_cons_succ]
   refine AnyE.takeD (i := 13) (fun j => [14, 15, 16, 17].contains j) (.int .i64 (i : Int)) rfl (by kernel_rfl) (by kernel_rfl) (by kernel_rfl) (fun _ _ _ h => h) (.inl ⟨by kernel_rfl, fun wy hy => by (go_simp; done)⟩) hHeld ?_
   try simp only [Act.put, List.setIfInBounds_toArray, List.set_cons_zero, List.set_cons_succ]
   refine AnyE.takeD (i := 14) (fun j => [15, 16, 17].contains j) (.pointer (some ⟨gR, i, none⟩)) rfl (by kernel_rfl) (by kernel_rfl) (by kernel_rfl) (fun _ _ _ h => h) (.inl ⟨by kernel_rfl, fun wy hy => by (go_simp; done)⟩) hHeld ?_
   try simp only [Act.put, List.setIfInBounds_toArray, List.set_cons_zero, List.set_cons_succ]
   refine AnyE.takeD (i := 15) (fun j => [16, 17].contains j) (.pointer (some ⟨rB, 0, none⟩)) rfl (by kernel_rfl) (by kernel_rfl) (by kernel_rfl) (fun _ _ _ h => h) (.inl ⟨by kernel_rfl, fun wy hy => by (have q0 := (CI.out hy.2).2; go_simp; done)⟩) hHeld ?_
   try simp only [Act.put, List.setIfInBounds_toArray, List.set_cons_zero, List.set_cons_succ]
   refine AnyE.one (i := 16) rfl (by kernel_rfl) (by kernel_rfl) (fun KK hK => ?_)
   go_simp
   go_at_call 37
   have W4 := Lib.hid (W1.out.later HB2.out)
   have HC := acts_any (.inr (.inr (.inl HK.out))) W4.out HI.out HLP.out.1 (HO.out.go (Go4.of_below (O := U) (HX.out.2.trans (HB2.out.mono HX.out.2.size)))) HZ.out
   unfold OpD.val at HC
   rw [← HPB.out.1, ← HPB.out.2] at HC
   have hHeld1 := hHeld
   refine HC.mono ?_
   intro e9 Z9 hm
   have HM := Lib.hid hm
   have he9 := hm.1
   subst he9
   clear hm HC hHeld1 hHeld
   go_wp2_with fail
   refine hK.out _ _ ⟨fun h => (by cases h), ?_⟩
   clear hK
   try simp only [Act.put, List.setIfInBounds_toArray, List.set_cons_zero, List.set_cons_succ]
   refine AnyE.one (i := 17) rfl (by kernel_rfl) (by kernel_rfl) (fun KK hK => ?_)
   go_simp
   refine hK.out _ _ ⟨fun h => (by cases h), ?_⟩
   clear hK
   try simp only [Act.put, List.setIfInBounds_toArray, List.set_cons_zero, List.set_cons_succ]
   refine AnyE.done (by kernel_rfl) (NoPanic.normal ?_) _
   go_simp
   go_step
   go_wp2
   go_ret
   exact plays_acts HI.out HLP.out.2 (Go4.of_below (HX.out.2.trans (HB2.out.mono HX.out.2.size))) HM.out
  have hk3 := hk
  clear hk
  by_cases hk : o.kind = 4
  ·have HK := Lib.hid hk
   have e17 : (o.kind == 17) = false := by simp; omega
   have e18 : (o.kind == 18) = false := by simp; omega
   have e19 : (o.kind == 19) = false := by simp; omega
   have e1 : (o.kind == 1) = false := by simp; omega
   have e2 : (o.kind == 2) = false := by simp; omega
   have e3 : (o.kind == 3) = false := by simp; omega
   have e4 : (o.kind == 4) = true := by simp; exact hk
   clear hk
   have c0 := (HX.out.1.later HBD.out).cells.1
   go_upto_region 17 with fail
   clear c0 e17 e18 e19 e1 e2 e3 e4
   have BD : Below Z0.heap.size Z0 Z0.drew := (Below.refl _ _).drew
   refine wp_region_noPanic ?_
   refine wp_region_anyE (S := fun wx => OBox wx bo o ∧ Below X.heap.size X wx) (E := fun j => decide (j < 16)) (by kernel_rfl) ?_
   have bd2 : Below X.heap.size X Z0.drew := HBD.out.trans (BD.mono HBD.out.size)
   have hHeld : OBox Z0.drew bo o ∧ Below X.heap.size X Z0.drew := ⟨HX.out.1.later bd2, bd2⟩
   have HB2 := Lib.hid bd2
   have hZ0 : ∃ z, z = Z0.drew := ⟨_, rfl⟩
   obtain ⟨Z2, hZ0⟩ := hZ0
   rw [← hZ0] at HB2 hHeld ⊢
   clear hZ0 BD bd2
   refine AnyE.takeD (i := 0) (fun j => [16, 17].contains j) (.pointer (some ⟨wB, 0, none⟩)) rfl (by kernel_rfl) (by kernel_rfl) (by kernel_rfl) (fun _ _ _ h => h) (.inl ⟨by kernel_rfl, fun wy hy => by (go_simp; done)⟩) hHeld ?_
   try simp only [Act.put, List.setIfInBounds_toArray, List.set_cons_zero, List.set_cons_succ]
   refine AnyE.takeD (i := 1) (fun j => [16, 17].contains j) (.agg #[.int .i64 o.kind, .int .i64 o.obj, .string o.nm, .string o.nt, .slice o.aB o.nB o.kB, .int .i64 o.pos, .int .i64 o.num, .slice o.aC o.nC o.kC, .slice o.aF o.nF o.kF]) rfl (by kernel_rfl) (by kernel_rfl) (by kernel_rfl) (fun _ _ _ h => h) (.inl ⟨by kernel_rfl, fun wy hy => by (have q0 := hy.1.cells.1; have q1 := hy.1.cells.2.1; have q2 := hy.1.cells.2.2.1; have q3 := hy.1.cells.2.2.2.1; have q4 := hy.1.cells.2.2.2.2.1; have q5 := hy.1.cells.2.2.2.2.2.1; have q6 := hy.1.cells.2.2.2.2.2.2.1; have q7 := hy.1.cells.2.2.2.2.2.2.2.1; have q8 := hy.1.cells.2.2.2.2.2.2.2.2; go_simp; done)⟩) hHeld ?_
   try simp only [Act.put, List.setIfInBounds_toArray, List.set_cons_zero, List.set_cons_succ]
   refine AnyE.takeD (i := 2) (fun j => [3, 4, 5, 7, 8, 16, 17].contains j) (.pointer (some ⟨wB, 0, none⟩)) rfl (by kernel_rfl) (by kernel_rfl) (by kernel_rfl) (fun _ _ _ h => h) (.inl ⟨by kernel_rfl, fun wy hy => by (go_simp; done)⟩) hHeld ?_
   try simp only [Act.put, List.setIfInBounds_toArray, List.set_cons_zero, List.set_cons_succ]
   refine AnyE.takeD (i := 3) (fun j => [4, 5, 7, 8, 16, 17].contains j) (.pointer (some ⟨wB, 0, none⟩)) rfl (by kernel_rfl) (by kernel_rfl) (by kernel_rfl) (fun _ _ _ h => h) (.inl ⟨by kernel_rfl, fun wy hy => by (go_simp; done)⟩) hHeld ?_
   try simp only [Act.put, List.setIfInBounds_toArray, List.set_cons_zero, List.set_cons_succ]
   refine AnyE.takeD (i := 4) (fun j => [5, 7, 8, 16, 17].contains j) (.pointer (some ⟨wB, 0, none⟩)) rfl (by kernel_rfl) (by kernel_rfl) (by kernel_rfl) (fun _ _ _ h => h) (.inl ⟨by kernel_rfl, fun wy hy => by (go_simp; done)⟩) hHeld ?_
   try simp only [Act.put, List.setIfInBounds_toArray, List.set_cons_zero, List.set_cons_succ]
   refine AnyE.takeD (i := 5) (fun j => [7, 8, 16, 17].contains j) (.slice (some ⟨gD, 0, none⟩) qn cD) rfl (by kernel_rfl) (by kernel_rfl) (by kernel_rfl) (fun _ _ _ h => h) (.inl ⟨by kernel_rfl, fun wy hy => by (have q0 := (CELLS.out hy.2).1; go_simp; done)⟩) hHeld ?_
   try simp only [Act.put, List.setIfInBounds_toArray, List.set_cons_zero, List.set_cons_succ]
   refine AnyE.takeD (i := 6) (fun j => [7, 8, 16, 17].contains j) (.int .i64 (i : Int)) rfl (by kernel_rfl) (by kernel_rfl) (by kernel_rfl) (fun _ _ _ h => h) (.inl ⟨by kernel_rfl, fun wy hy => by (go_simp; done)⟩) hHeld ?_
   try simp only [Act.put, List.setIfInBounds_toArray, List.set_cons_zero, List.set_cons_succ]
   refine AnyE.takeD (i := 7) (fun j => [8, 16, 17].contains j) (.pointer (some ⟨gD, i, none⟩)) rfl (by kernel_rfl) (by kernel_rfl) (by kernel_rfl) (fun _ _ _ h => h) (.inl ⟨by kernel_rfl, fun wy hy => by (go_simp; done)⟩) hHeld ?_
   try simp only [Act.put, List.setIfInBounds_toArray, List.set_cons_zero, List.set_cons_succ]
   refine AnyE.takeD (i := 8) (fun j => [16, 17].contains j) (.pointer (some ⟨dB, 0, none⟩)) rfl (by kernel_rfl) (by kernel_rfl) (by kernel_rfl) (fun _ _ _ h => h) (.inl ⟨by kernel_rfl, fun wy hy => by (have q0 := (CI.out hy.2).1; go_simp; done)⟩) hHeld ?_
   try simp only [Act.put, List.setIfInBounds_toArray, List.set_cons_zero, List.set_cons_succ]
   refine AnyE.takeD (i := 9) (fun j => [10, 11, 12, 14, 15, 16, 17].contains j) (.pointer (some ⟨wB, 0, none⟩)) rfl (by kernel_rfl) (by kernel_rfl) (by kernel_rfl) (fun _ _ _ h => h) (.inl ⟨by kernel_rfl, fun wy hy => by (go_simp; done)⟩) hHeld ?_
   try simp only [Act.put, List.setIfInBounds_toArray, List.set_cons_zero, List.set_cons_succ]
   refine AnyE.takeD (i := 10) (fun j => [11, 12, 14, 15, 16, 17].contains j) (.pointer (some ⟨wB, 0, none⟩)) rfl (by kernel_rfl) (by kernel_rfl) (by kernel_rfl) (fun _ _ _ h => h) (.inl ⟨by kernel_rfl, fun wy hy => by (go_simp; done)⟩) hHeld ?_
   try simp only [Act.put, List.setIfInBounds_toArray, List.set_cons_zero, List.set_cons_succ]
   refine AnyE.takeD (i := 11) (fun j => [12, 14, 15, 16, 17].contains j) (.pointer (some ⟨wB, 1, none⟩)) rfl (by kernel_rfl) (by kernel_rfl) (by kernel_rfl) (fun _ _ _ h => h) (.inl ⟨by kernel_rfl, fun wy hy => by (go_simp; done)⟩) hHeld ?_
   try simp only [Act.put, List.setIfInBounds_toArray, List.set_cons_zero, List.set_cons_succ]
   refine AnyE.takeD (i := 12) (fun j => [14, 15, 16, 17].contains j) (.slice (some ⟨gR, 0, none⟩) qn cR) rfl (by kernel_rfl) (by kernel_rfl) (by kernel_rfl) (fun _ _ _ h => h) (.inl ⟨by kernel_rfl, fun wy hy => by (have q0 := (CELLS.out hy.2).2; go_simp; done)⟩) hHeld ?_
   try simp only [Act.put, List.setIfInBounds_toArray, List.set_cons_zero, List.set_cons_succ]
   refine AnyE.takeD (i := 13) (fun j => [14, 15, 16, 17].contains j) (.int .i64 (i : Int)) rfl (by kernel_rfl) (by kernel_rfl) (by kernel_rfl) (fun _ _ _ h => h) (.inl ⟨by kernel_rfl, fun wy hy => by (go_simp; done)⟩) hHeld ?_
   try simp only [Act.put, List.setIfInBounds_toArray, List.set_cons_zero, List.set_cons_succ]
   refine AnyE.takeD (i := 14) (fun j => [15, 16, 17].contains j) (.pointer (some ⟨gR, i, none⟩)) rfl (by kernel_rfl) (by kernel_rfl) (by kernel_rfl) (fun _ _ _ h => h) (.inl ⟨by kernel_rfl, fun wy hy => by (go_simp; done)⟩) hHeld ?_
   try simp only [Act.put, List.setIfInBounds_toArray, List.set_cons_zero, List.set_cons_succ]
   refine AnyE.takeD (i := 15) (fun j => [16, 17].contains j) (.pointer (some ⟨rB, 0, none⟩)) rfl (by kernel_rfl) (by kernel_rfl) (by kernel_rfl) (fun _ _ _ h => h) (.inl ⟨by kernel_rfl, fun wy hy => by (have q0 := (CI.out hy.2).2; go_simp; done)⟩) hHeld ?_
   try simp only [Act.put, List.setIfInBounds_toArray, List.set_cons_zero, List.set_cons_succ]
   refine AnyE.one (i := 16) rfl (by kernel_rfl) (by kernel_rfl) (fun KK hK => ?_)
   go_simp
   go_at_call 37
   have W4 := Lib.hid (W1.out.later HB2.out)
   have HC := acts_any (.inr (.inr (.inr (.inl HK.out)))) W4.out HI.out HLP.out.1 (HO.out.go (Go4.of_below (O := U) (HX.out.2.trans (HB2.out.mono HX.out.2.size)))) HZ.out
   unfold OpD.val at HC
   rw [← HPB.out.1, ← HPB.out.2] at HC
   have hHeld1 := hHeld
   refine HC.mono ?_
   intro e9 Z9 hm
   have HM := Lib.hid hm
   have he9 := hm.1
   subst he9
   clear hm HC hHeld1 hHeld
   go_wp2_with fail
   refine hK.out _ _ ⟨fun h => (by cases h), ?_⟩
   clear hK
   try simp only [Act.put, List.setIfInBounds_toArray, List.set_cons_zero, List.set_cons_succ]
   refine AnyE.one (i := 17) rfl (by kernel_rfl) (by kernel_rfl) (fun KK hK => ?_)
   go_simp
   refine hK.out _ _ ⟨fun h => (by cases h), ?_⟩
   clear hK
   try simp only [Act.put, List.setIfInBounds_toArray, List.set_cons_zero, List.set_cons_succ]
   refine AnyE.done (by kernel_rfl) (NoPanic.normal ?_) _
   go_simp
   go_step
   go_wp2
   go_ret
   exact plays_acts HI.out HLP.out.2 (Go4.of_below (HX.out.2.trans (HB2.out.mono HX.out.2.size))) HM.out
  have hk4 := hk
  clear hk
  by_cases hk : o.kind = 5
  ·have HK := Lib.hid hk
   have e17 : (o.kind == 17) = false := by simp; omega
   have e18 : (o.kind == 18) = false := by simp; omega
   have e19 : (o.kind == 19) = false := by simp; omega
   have e1 : (o.kind == 1) = false := by simp; omega
   have e2 : (o.kind == 2) = false := by simp; omega
   have e3 : (o.kind == 3) = false := by simp; omega
   have e4 : (o.kind == 4) = false := by simp; omega
   have e5 : (o.kind == 5) = true := by simp; exact hk
   clear hk
   have c0 := (HX.out.1.later HBD.out).cells.1
   go_upto_region 17 with fail
   clear c0 e17 e18 e19 e1 e2 e3 e4 e5
   have BD : Below Z0.heap.size Z0 Z0.drew := (Below.refl _ _).drew
   refine wp_region_noPanic ?_
   refine wp_region_anyE (S := fun wx => OBox wx bo o ∧ Below X.heap.size X wx) (E := fun j => decide (j < 16)) (by kernel_rfl) ?_
   have bd2 : Below X.heap.size X Z0.drew := HBD.out.trans (BD.mono HBD.out.size)
   have hHeld : OBox Z0.drew bo o ∧ Below X.heap.size X Z0.drew := ⟨HX.out.1.later bd2, bd2⟩
   have HB2 := Lib.hid bd2
   have hZ0 : ∃ z, z = Z0.drew := ⟨_, rfl⟩
   obtain ⟨Z2, hZ0⟩ := hZ0
   rw [← hZ0] at HB2 hHeld ⊢
   clear hZ0 BD bd2
   refine AnyE.takeD (i := 0) (fun j => [16, 17].contains j) (.pointer (some ⟨wB, 0, none⟩)) rfl (by kernel_rfl) (by kernel_rfl) (by kernel_rfl) (fun _ _ _ h => h) (.inl ⟨by kernel_rfl, fun wy hy => by (go_simp; done)⟩) hHeld ?_
   try simp only [Act.put, List.setIfInBounds_toArray, List.set_cons_zero, List.set_cons_succ]
   refine AnyE.takeD (i := 1) (fun j => [16, 17].contains j) (.agg #[.int .i64 o.kind, .int .i64 o.obj, .string o.nm, .string o.nt, .slice o.aB o.nB o.kB, .int .i64 o.pos, .int .i64 o.num, .slice o.aC o.nC o.kC, .slice o.aF o.nF o.kF]) rfl (by kernel_rfl) (by kernel_rfl) (by kernel_rfl) (fun _ _ _ h => h) (.inl ⟨by kernel_rfl, fun wy hy => by (have q0 := hy.1.cells.1; have q1 := hy.1.cells.2.1; have q2 := hy.1.cells.2.2.1; have q3 := hy.1.cells.2.2.2.1; have q4 := hy.1.cells.2.2.2.2.1; have q5 := hy.1.cells.2.2.2.2.2.1; have q6 := hy.1.cells.2.2.2.2.2.2.1; have q7 := hy.1.cells.2.2.2.2.2.2.2.1; have q8 := hy.1.cells.2.2.2.2.2.2.2.2; go_simp; done)⟩) hHeld ?_
   try simp only [Act.put, List.setIfInBounds_toArray, List.set_cons_zero, List.set_cons_succ]
   refine AnyE.takeD (i := 2) (fun j => [3, 4, 5, 7, 8, 16, 17].contains j) (.pointer (some ⟨wB, 0, none⟩)) rfl (by kernel_rfl) (by kernel_rfl) (by kernel_rfl) (fun _ _ _ h => h) (.inl ⟨by kernel_rfl, fun wy hy => by (go_simp; done)⟩) hHeld ?_
   try simp only [Act.put, List.setIfInBounds_toArray, List.set_cons_zero, List.set_cons_succ]
   refine AnyE.takeD (i := 3) (fun j => [4, 5, 7, 8, 16, 17].contains j) (.pointer (some ⟨wB, 0, none⟩)) rfl (by kernel_rfl) (by kernel_rfl) (by kernel_rfl) (fun _ _ _ h => h) (.inl ⟨by kernel_rfl, fun wy hy => by (go_simp; done)⟩) hHeld ?_
   try simp only [Act.put, List.setIfInBounds_toArray, List.set_cons_zero, List.set_cons_succ]
   refine AnyE.takeD (i := 4) (fun j => [5, 7, 8, 16, 17].contains j) (.pointer (some ⟨wB, 0, none⟩)) rfl (by kernel_rfl) (by kernel_rfl) (by kernel_rfl) (fun _ _ _ h => h) (.inl ⟨by kernel_rfl, fun wy hy => by (go_simp; done)⟩) hHeld ?_
   try simp only [Act.put, List.setIfInBounds_toArray, List.set_cons_zero, List.set_cons_succ]
   refine AnyE.takeD (i := 5) (fun j => [7, 8, 16, 17].contains j) (.slice (some ⟨gD, 0, none⟩) qn cD) rfl (by kernel_rfl) (by kernel_rfl) (by kernel_rfl) (fun _ _ _ h => h) (.inl ⟨by kernel_rfl, fun wy hy => by (have q0 := (CELLS.out hy.2).1; go_simp; done)⟩) hHeld ?_
   try simp only [Act.put, List.setIfInBounds_toArray, List.set_cons_zero, List.set_cons_succ]
   refine AnyE.takeD (i := 6) (fun j => [7, 8, 16, 17].contains j) (.int .i64 (i : Int)) rfl (by kernel_rfl) (by kernel_rfl) (by kernel_rfl) (fun _ _ _ h => h) (.inl ⟨by kernel_rfl, fun wy hy => by (go_simp; done)⟩) hHeld ?_
   try simp only [Act.put, List.setIfInBounds_toArray, List.set_cons_zero, List.set_cons_succ]
   refine AnyE.takeD (i := 7) (fun j => [8, 16, 17].contains j) (.pointer (some ⟨gD, i, none⟩)) rfl (by kernel_rfl) (by kernel_rfl) (by kernel_rfl) (fun _ _ _ h => h) (.inl ⟨by kernel_rfl, fun wy hy => by (go_simp; done)⟩) hHeld ?_
   try simp only [Act.put, List.setIfInBounds_toArray, List.set_cons_zero, List.set_cons_succ]
   refine AnyE.takeD (i := 8) (fun j => [16, 17].contains j) (.pointer (some ⟨dB, 0, none⟩)) rfl (by kernel_rfl) (by kernel_rfl) (by kernel_rfl) (fun _ _ _ h => h) (.inl ⟨by kernel_rfl, fun wy hy => by (have q0 := (CI.out hy.2).1; go_simp; done)⟩) hHeld ?_
   try simp only [Act.put, List.setIfInBounds_toArray, List.set_cons_zero, List.set_cons_succ]
   refine AnyE.takeD (i := 9) (fun j => [10, 11, 12, 14, 15, 16, 17].contains j) (.pointer (some ⟨wB, 0, none⟩)) rfl (by kernel_rfl) (by kernel_rfl) (by kernel_rfl) (fun _ _ _ h => h) (.inl ⟨by kernel_rfl, fun wy hy => by (go_simp; done)⟩) hHeld ?_
   try simp only [Act.put, List.setIfInBounds_toArray, List.set_cons_zero, List.set_cons_succ]
   refine AnyE.takeD (i := 10) (fun j => [11, 12, 14, 15, 16, 17].contains j) (.pointer (some ⟨wB, 0, none⟩)) rfl (by kernel_rfl) (by kernel_rfl) (by kernel_rfl) (fun _ _ _ h => h) (.inl ⟨by kernel_rfl, fun wy hy => by (go_simp; done)⟩) hHeld ?_
   try simp only [Act.put, List.setIfInBounds_toArray, List.set_cons_zero, List.set_cons_succ]
   refine AnyE.takeD (i := 11) (fun j => [12, 14, 15, 16, 17].contains j) (.pointer (some ⟨wB, 1, none⟩)) rfl (by kernel_rfl) (by kernel_rfl) (by kernel_rfl) (fun _ _ _ h => h) (.inl ⟨by kernel_rfl, fun wy hy => by (go_simp; done)⟩) hHeld ?_
   try simp only [Act.put, List.setIfInBounds_toArray, List.set_cons_zero, List.set_cons_succ]
   refine AnyE.takeD (i := 12) (fun j => [14, 15, 16, 17].contains j) (.slice (some ⟨gR, 0, none⟩) qn cR) rfl (by kernel_rfl) (by kernel_rfl) (by kernel_rfl) (fun _ _ _ h => h) (.inl ⟨by kernel_rfl, fun wy hy => by (have q0 := (CELLS.out hy.2).2; go_simp; done)⟩) hHeld ?_
   try simp only [Act.put, List.setIfInBounds_toArray, List.set_cons_zero, List.set_cons_succ]
   refine AnyE.takeD (i := 13) (fun j => [14, 15, 16, 17].contains j) (.int .i64 (i : Int)) rfl (by kernel_rfl) (by kernel_rfl) (by kernel_rfl) (fun _ _ _ h => h) (.inl ⟨by kernel_rfl, fun wy hy => by (go_simp; done)⟩) hHeld ?_
   try simp only [Act.put, List.setIfInBounds_toArray, List.set_cons_zero, List.set_cons_succ]
   refine AnyE.takeD (i := 14) (fun j => [15, 16, 17].contains j) (.pointer (some ⟨gR, i, none⟩)) rfl (by kernel_rfl) (by kernel_rfl) (by kernel_rfl) (fun _ _ _ h => h) (.inl ⟨by kernel_rfl, fun wy hy => by (go_simp; done)⟩) hHeld ?_
   try simp only [Act.put, List.setIfInBounds_toArray, List.set_cons_zero, List.set_cons_succ]
   refine AnyE.takeD (i := 15) (fun j => [16, 17].contains j) (.pointer (some ⟨rB, 0, none⟩)) rfl (by kernel_rfl) (by kernel_rfl) (by kernel_rfl) (fun _ _ _ h => h) (.inl ⟨by kernel_rfl, fun wy hy => by (have q0 := (CI.out hy.2).2; go_simp; done)⟩) hHeld ?_
   try simp only [Act.put, List.setIfInBounds_toArray, List.set_cons_zero, List.set_cons_succ]
   refine AnyE.one (i := 16) rfl (by kernel_rfl) (by kernel_rfl) (fun KK hK => ?_)
   go_simp
   go_at_call 37
   have W4 := Lib.hid (W1.out.later HB2.out)
   have HC := acts_any (.inr (.inr (.inr (.inr (.inl HK.out))))) W4.out HI.out HLP.out.1 (HO.out.go (Go4.of_below (O := U) (HX.out.2.trans (HB2.out.mono HX.out.2.size)))) HZ.out
   unfold OpD.val at HC
   rw [← HPB.out.1, ← HPB.out.2] at HC
   have hHeld1 := hHeld
   refine HC.mono ?_
   intro e9 Z9 hm
   have HM := Lib.hid hm
   have he9 := hm.1
   subst he9
   clear hm HC hHeld1 hHeld
   go_wp2_with fail
   refine hK.out _ _ ⟨fun h => (by cases h), ?_⟩
   clear hK
   try simp only [Act.put, List.setIfInBounds_toArray, List.set_cons_zero, List.set_cons_succ]
   refine AnyE.one (i := 17) rfl (by kernel_rfl) (by kernel_rfl) (fun KK hK => ?_)
   go_simp
   refine hK.out _ _ ⟨fun h => (by cases h), ?_⟩
   clear hK
   try simp only [Act.put, List.setIfInBounds_toArray, List.set_cons_zero, List.set_cons_succ]
   refine AnyE.done (by kernel_rfl) (NoPanic.normal ?_) _
   go_simp
   go_step
   go_wp2
   go_ret
   exact plays_acts HI.out HLP.out.2 (Go4.of_below (HX.out.2.trans (HB2.out.mono HX.out.2.size))) HM.out
  have hk5 := hk
  clear hk
  by_cases hk : o.kind = 11
  ·have HK := Lib.hid hk
   have e17 : (o.kind == 17) = false := by simp; omega
   have e18 : (o.kind == 18) = false := by simp; omega
   have e19 : (o.kind == 19) = false := by simp; omega
   have e1 : (o.kind == 1) = false := by simp; omega
   have e2 : (o.kind == 2) = false := by simp; omega
   have e3 : (o.kind == 3) = false := by simp; omega
   have e4 : (o.kind == 4) = false := by simp; omega
   have e5 : (o.kind == 5) = false := by simp; omega
   have e11 : (o.kind == 11) = true := by simp; exact hk
   clear hk
   have c0 := (HX.out.1.later HBD.out).cells.1
   go_upto_region 17 with fail
   clear c0 e17 e18 e19 e1 e2 e3 e4 e5 e11
   have BD : Below Z0.heap.size Z0 Z0.drew := (Below.refl _ _).drew
   refine wp_region_noPanic ?_
   refine wp_region_anyE (S := fun wx => OBox wx bo o ∧ Below X.heap.size X wx) (E := fun j => decide (j < 16)) (by kernel_rfl) ?_
   have bd2 : Below X.heap.size X Z0.drew := HBD.out.trans (BD.mono HBD.out.size)
   have hHeld : OBox Z0.drew bo o ∧ Below X.heap.size X Z0.drew := ⟨HX.out.1.later bd2, bd2⟩
   have HB2 := Lib.hid bd2
   have hZ0 : ∃ z, z = Z0.drew := ⟨_, rfl⟩
   obtain ⟨Z2, hZ0⟩ := hZ0
   rw [← hZ0] at HB2 hHeld ⊢
   clear hZ0 BD bd2
   refine AnyE.takeD (i := 0) (fun j => [16, 17].contains j) (.pointer (some ⟨wB, 0, none⟩)) rfl (by kernel_rfl) (by kernel_rfl) (by kernel_rfl) (fun _ _ _ h => h) (.inl ⟨by kernel_rfl, fun wy hy => by (go_simp; done)⟩) hHeld ?_
   try simp only [Act.put, List.setIfInBounds_toArray, List.set_cons_zero, List.set_cons_succ]
   refine AnyE.takeD (i := 1) (fun j => [16, 17].contains j) (.agg #[.int .i64 o.kind, .int .i64 o.obj, .string o.nm, .string o.nt, .slice o.aB o.nB o.kB, .int .i64 o.pos, .int .i64 o.num, .slice o.aC o.nC o.kC, .slice o.aF o.nF o.kF]) rfl (by kernel_rfl) (by kernel_rfl) (by kernel_rfl) (fun _ _ _ h => h) (.inl ⟨by kernel_rfl, fun wy hy => by (have q0 := hy.1.cells.1; have q1 := hy.1.cells.2.1; have q2 := hy.1.cells.2.2.1; have q3 := hy.1.cells.2.2.2.1; have q4 := hy.1.cells.2.2.2.2.1; have q5 := hy.1.cells.2.2.2.2.2.1; have q6 := hy.1.cells.2.2.2.2.2.2.1; have q7 := hy.1.cells.2.2.2.2.2.2.2.1; have q8 := hy.1.cells.2.2.2.2.2.2.2.2; go_simp; done)⟩) hHeld ?_
   try simp only [Act.put, List.setIfInBounds_toArray, List.set_cons_zero, List.set_cons_succ]
   refine AnyE.takeD (i := 2) (fun j => [3, 4, 5, 7, 8, 16, 17].contains j) (.pointer (some ⟨wB, 0, none⟩)) rfl (by kernel_rfl) (by kernel_rfl) (by kernel_rfl) (fun _ _ _ h => h) (.inl ⟨by kernel_rfl, fun wy hy => by (go_simp; done)⟩) hHeld ?_
   try simp only [Act.put, List.setIfInBounds_toArray, List.set_cons_zero, List.set_cons_succ]
   refine AnyE.takeD (i := 3) (fun j => [4, 5, 7, 8, 16, 17].contains j) (.pointer (some ⟨wB, 0, none⟩)) rfl (by kernel_rfl) (by kernel_rfl) (by kernel_rfl) (fun _ _ _ h => h) (.inl ⟨by kernel_rfl, fun wy hy => by (go_simp; done)⟩) hHeld ?_
   try simp only [Act.put, List.setIfInBounds_toArray, List.set_cons_zero, List.set_cons_succ]
   refine AnyE.takeD (i := 4) (fun j => [5, 7, 8, 16, 17].contains j) (.pointer (some ⟨wB, 0, none⟩)) rfl (by kernel_rfl) (by kernel_rfl) (by kernel_rfl) (fun _ _ _ h => h) (.inl ⟨by kernel_rfl, fun wy hy => by (go_simp; done)⟩) hHeld ?_
   try simp only [Act.put, List.setIfInBounds_toArray, List.set_cons_zero, List.set_cons_succ]
   refine AnyE.takeD (i := 5) (fun j => [7, 8, 16, 17].contains j) (.slice (some ⟨gD, 0, none⟩) qn cD) rfl (by kernel_rfl) (by kernel_rfl) (by kernel_rfl) (fun _ _ _ h => h) (.inl ⟨by kernel_rfl, fun wy hy => by (have q0 := (CELLS.out hy.2).1; go_simp; done)⟩) hHeld ?_
   try simp only [Act.put, List.setIfInBounds_toArray, List.set_cons_zero, List.set_cons_succ]
   refine AnyE.takeD (i := 6) (fun j => [7, 8, 16, 17].contains j) (.int .i64 (i : Int)) rfl (by kernel_rfl) (by kernel_rfl) (by kernel_rfl) (fun _ _ _ h => h) (.inl ⟨by kernel_rfl, fun wy hy => by (go_simp; done)⟩) hHeld ?_
   try simp only [Act.put, List.setIfInBounds_toArray, List.set_cons_zero, List.set_cons_succ]
   refine AnyE.takeD (i := 7) (fun j => [8, 16, 17].contains j) (.pointer (some ⟨gD, i, none⟩)) rfl (by kernel_rfl) (by kernel_rfl) (by kernel_rfl) (fun _ _ _ h => h) (.inl ⟨by kernel_rfl, fun wy hy => by (go_simp; done)⟩) hHeld ?_
   try simp only [Act.put, List.setIfInBounds_toArray, List.set_cons_zero, List.set_cons_succ]
   refine AnyE.takeD (i := 8) (fun j => [16, 17].contains j) (.pointer (some ⟨dB, 0, none⟩)) rfl (by kernel_rfl) (by kernel_rfl) (by kernel_rfl) (fun _ _ _ h => h) (.inl ⟨by kernel_rfl, fun wy hy => by (have q0 := (CI.out hy.2).1; go_simp; done)⟩) hHeld ?_
   try simp only [Act.put, List.setIfInBounds_toArray, List.set_cons_zero, List.set_cons_succ]
   refine AnyE.takeD (i := 9) (fun j => [10, 11, 12, 14, 15, 16, 17].contains j) (.pointer (some ⟨wB, 0, none⟩)) rfl (by kernel_rfl) (by kernel_rfl) (by kernel_rfl) (fun _ _ _ h => h) (.inl ⟨by kernel_rfl, fun wy hy => by (go_simp; done)⟩) hHeld ?_
   try simp only [Act.put, List.setIfInBounds_toArray, List.set_cons_zero, List.set_cons_succ]
   refine AnyE.takeD (i := 10) (fun j => [11, 12, 14, 15, 16, 17].contains j) (.pointer (some ⟨wB, 0, none⟩)) rfl (by kernel_rfl) (by kernel_rfl) (by kernel_rfl) (fun _ _ _ h => h) (.inl ⟨by kernel_rfl, fun wy hy => by (go_simp; done)⟩) hHeld ?_
   try simp only [Act.put, List.setIfInBounds_toArray, List.set_cons_zero, List.set_cons_succ]
   refine AnyE.takeD (i := 11) (fun j => [12, 14, 15, 16, 17].contains j) (.pointer (some ⟨wB, 1, none⟩)) rfl (by kernel_rfl) (by kernel_rfl) (by kernel_rfl) (fun _ _ _ h => h) (.inl ⟨by kernel_rfl, fun wy hy => by (go_simp; done)⟩) hHeld ?_
   try simp only [Act.put, List.setIfInBounds_toArray, List.set_cons_zero, List.set_cons_succ]
   refine AnyE.takeD (i := 12) (fun j => [14, 15, 16, 17].contains j) (.slice (some ⟨gR, 0, none⟩) qn cR) rfl (by kernel_rfl) (by kernel_rfl) (by kernel_rfl) (fun _ _ _ h => h) (.inl ⟨by kernel_rfl, fun wy hy => by (have q0 := (CELLS.out hy.2).2; go_simp; done)⟩) hHeld ?_
   try simp only [Act.put, List.setIfInBounds_toArray, List.set_cons_zero, List.set_cons_succ]
   refine AnyE.takeD (i := 13) (fun j => [14, 15, 16, 17].contains j) (.int .i64 (i : Int)) rfl (by kernel_rfl) (by kernel_rfl) (by kernel_rfl) (fun _ _ _ h => h) (.inl ⟨by kernel_rfl, fun wy hy => by (go_simp; done)⟩) hHeld ?_
   try simp only [Act.put, List.setIfInBounds_toArray, List.set_cons_zero, List.set_cons_succ]
   refine AnyE.takeD (i := 14) (fun j => [15, 16, 17].contains j) (.pointer (some ⟨gR, i, none⟩)) rfl (by kernel_rfl) (by kernel_rfl) (by kernel_rfl) (fun _ _ _ h => h) (.inl ⟨by kernel_rfl, fun wy hy => by (go_simp; done)⟩) hHeld ?_
   try simp only [Act.put, List.setIfInBounds_toArray, List.set_cons_zero, List.set_cons_succ]
   refine AnyE.takeD (i := 15) (fun j => [16, 17].contains j) (.pointer (some ⟨rB, 0, none⟩)) rfl (by kernel_rfl) (by kernel_rfl) (by kernel_rfl) (fun _ _ _ h => h) (.inl ⟨by kernel_rfl, fun wy hy => by (have q0 := (CI.out hy.2).2; go_simp; done)⟩) hHeld ?_
   try simp only [Act.put, List.setIfInBounds_toArray, List.set_cons_zero, List.set_cons_succ]
   refine AnyE.one (i := 16) rfl (by kernel_rfl) (by kernel_rfl) (fun KK hK => ?_)
   go_simp
   go_at_call 37
   have W4 := Lib.hid (W1.out.later HB2.out)
   have HC := acts_any (.inr (.inr (.inr (.inr (.inr (.inl HK.out)))))) W4.out HI.out HLP.out.1 (HO.out.go (Go4.of_below (O := U) (HX.out.2.trans (HB2.out.mono HX.out.2.size)))) HZ.out
   unfold OpD.val at HC
   rw [← HPB.out.1, ← HPB.out.2] at HC
   have hHeld1 := hHeld
   refine HC.mono ?_
   intro e9 Z9 hm
   have HM := Lib.hid hm
   have he9 := hm.1
   subst he9
   clear hm HC hHeld1 hHeld
   go_wp2_with fail
   refine hK.out _ _ ⟨fun h => (by cases h), ?_⟩
   clear hK
   try simp only [Act.put, List.setIfInBounds_toArray, List.set_cons_zero, List.set_cons_succ]
   refine AnyE.one (i := 17) rfl (by kernel_rfl) (by kernel_rfl) (fun KK hK => ?_)
   go_simp
   refine hK.out _ _ ⟨fun h => (by cases h), ?_⟩
   clear hK
   try simp only [Act.put, List.setIfInBounds_toArray, List.set_cons_zero, List.set_cons_succ]
   refine AnyE.done (by kernel_rfl) (NoPanic.normal ?_) _
   go_simp
   go_step
   go_wp2
   go_ret
   exact plays_acts HI.out HLP.out.2 (Go4.of_below (HX.out.2.trans (HB2.out.mono HX.out.2.size))) HM.out
  have hk11 := hk
  clear hk
  by_cases hk : o.kind = 13
  ·have HK := Lib.hid hk
   have e17 : (o.kind == 17) = false := by simp; omega
   have e18 : (o.kind == 18) = false := by simp; omega
   have e19 : (o.kind == 19) = false := by simp; omega
   have e1 : (o.kind == 1) = false := by simp; omega
   have e2 : (o.kind == 2) = false := by simp; omega
   have e3 : (o.kind == 3) = false := by simp; omega
   have e4 : (o.kind == 4) = false := by simp; omega
   have e5 : (o.kind == 5) = false := by simp; omega
   have e11 : (o.kind == 11) = false := by simp; omega
   have e13 : (o.kind == 13) = true := by simp; exact hk
   clear hk
   have c0 := (HX.out.1.later HBD.out).cells.1
   go_upto_region 17 with fail
   clear c0 e17 e18 e19 e1 e2 e3 e4 e5 e11 e13
   have BD : Below Z0.heap.size Z0 Z0.drew := (Below.refl _ _).drew
   refine wp_region_noPanic ?_
   refine wp_region_anyE (S := fun wx => OBox wx bo o ∧ Below X.heap.size X wx) (E := fun j => decide (j < 16)) (by kernel_rfl) ?_
   have bd2 : Below X.heap.size X Z0.drew := HBD.out.trans (BD.mono HBD.out.size)
   have hHeld : OBox Z0.drew bo o ∧ Below X.heap.size X Z0.drew := ⟨HX.out.1.later bd2, bd2⟩
   have HB2 := Lib.hid bd2
   have hZ0 : ∃ z, z = Z0.drew := ⟨_, rfl⟩
   obtain ⟨Z2, hZ0⟩ := hZ0
   rw [← hZ0] at HB2 hHeld ⊢
   clear hZ0 BD bd2
   refine AnyE.takeD (i := 0) (fun j => [16, 17].contains j) (.pointer (some ⟨wB, 0, none⟩)) rfl (by kernel_rfl) (by kernel_rfl) (by kernel_rfl) (fun _ _ _ h => h) (.inl ⟨by kernel_rfl, fun wy hy => by (go_simp; done)⟩) hHeld ?_
   try simp only [Act.put, List.setIfInBounds_toArray, List.set_cons_zero, List.set_cons_succ]
   refine AnyE.takeD (i := 1) (fun j => [16, 17].contains j) (.agg #[.int .i64 o.kind, .int .i64 o.obj, .string o.nm, .string o.nt, .slice o.aB o.nB o.kB, .int .i64 o.pos, .int .i64 o.num, .slice o.aC o.nC o.kC, .slice o.aF o.nF o.kF]) rfl (by kernel_rfl) (by kernel_rfl) (by kernel_rfl) (fun _ _ _ h => h) (.inl ⟨by kernel_rfl, fun wy hy => by (have q0 := hy.1.cells.1; have q1 := hy.1.cells.2.1; have q2 := hy.1.cells.2.2.1; have q3 := hy.1.cells.2.2.2.1; have q4 := hy.1.cells.2.2.2.2.1; have q5 := hy.1.cells.2.2.2.2.2.1; have q6 := hy.1.cells.2.2.2.2.2.2.1; have q7 := hy.1.cells.2.2.2.2.2.2.2.1; have q8 := hy.1.cells.2.2.2.2.2.2.2.2; go_simp; done)⟩) hHeld ?_
   try simp only [Act.put, List.setIfInBounds_toArray, List.set_cons_zero, List.set_cons_succ]
   refine AnyE.takeD (i := 2) (fun j => [3, 4, 5, 7, 8, 16, 17].contains j) (.pointer (some ⟨wB, 0, none⟩)) rfl (by kernel_rfl) (by kernel_rfl) (by kernel_rfl) (fun _ _ _ h => h) (.inl ⟨by kernel_rfl, fun wy hy => by (go_simp; done)⟩) hHeld ?_
   try simp only [Act.put, List.setIfInBounds_toArray, List.set_cons_zero, List.set_cons_succ]
   refine AnyE.takeD (i := 3) (fun j => [4, 5, 7, 8, 16, 17].contains j) (.pointer (some ⟨wB, 0, none⟩)) rfl (by kernel_rfl) (by kernel_rfl) (by kernel_rfl) (fun _ _ _ h => h) (.inl ⟨by kernel_rfl, fun wy hy => by (go_simp; done)⟩) hHeld ?_
   try simp only [Act.put, List.setIfInBounds_toArray, List.set_cons_zero, List.set_cons_succ]
   refine AnyE.takeD (i := 4) (fun j => [5, 7, 8, 16, 17].contains j) (.pointer (some ⟨wB, 0, none⟩)) rfl (by kernel_rfl) (by kernel_rfl) (by kernel_rfl) (fun _ _ _ h => h) (.inl ⟨by kernel_rfl, fun wy hy => by (go_simp; done)⟩) hHeld ?_
   try simp only [Act.put, List.setIfInBounds_toArray, List.set_cons_zero, List.set_cons_succ]
   refine AnyE.takeD (i := 5) (fun j => [7, 8, 16, 17].contains j) (.slice (some ⟨gD, 0, none⟩) qn cD) rfl (by kernel_rfl) (by kernel_rfl) (by kernel_rfl) (fun _ _ _ h => h) (.inl ⟨by kernel_rfl, fun wy hy => by (have q0 := (CELLS.out hy.2).1; go_simp; done)⟩) hHeld ?_
   try simp only [Act.put, List.setIfInBounds_toArray, List.set_cons_zero, List.set_cons_succ]
   refine AnyE.takeD (i := 6) (fun j => [7, 8, 16, 17].contains j) (.int .i64 (i : Int)) rfl (by kernel_rfl) (by kernel_rfl) (by kernel_rfl) (fun _ _ _ h => h) (.inl ⟨by kernel_rfl, fun wy hy => by (go_simp; done)⟩) hHeld ?_
   try simp only [Act.put, List.setIfInBounds_toArray, List.set_cons_zero, List.set_cons_succ]
   refine AnyE.takeD (i := 7) (fun j => [8, 16, 17].contains j) (.pointer (some ⟨gD, i, none⟩)) rfl (by kernel_rfl) (by kernel_rfl) (by kernel_rfl) (fun _ _ _ h => h) (.inl ⟨by kernel_rfl, fun wy hy => by (go_simp; done)⟩) hHeld ?_
   try simp only [Act.put, List.setIfInBounds_toArray, List.set_cons_zero, List.set_cons_succ]
   refine AnyE.takeD (i := 8) (fun j => [16, 17].contains j) (.pointer (some ⟨dB, 0, none⟩)) rfl (by kernel_rfl) (by kernel_rfl) (by kernel_rfl) (fun _ _ _ h => h) (.inl ⟨by kernel_rfl, fun wy hy => by (have q0 := (CI.out hy.2).1; go_simp; done)⟩) hHeld ?_
   try simp only [Act.put, List.setIfInBounds_toArray, List.set_cons_zero, List.set_cons_succ]
   refine AnyE.takeD (i := 9) (fun j => [10, 11, 12, 14, 15, 16, 17].contains j) (.pointer (some ⟨wB, 0, none⟩)) rfl (by kernel_rfl) (by kernel_rfl) (by kernel_rfl) (fun _ _ _ h => h) (.inl ⟨by kernel_rfl, fun wy hy => by (go_simp; done)⟩) hHeld ?_
   try simp only [Act.put, List.setIfInBounds_toArray, List.set_cons_zero, List.set_cons_succ]
   refine AnyE.takeD (i := 10) (fun j => [11, 12, 14, 15, 16, 17].contains j) (.pointer (some ⟨wB, 0, none⟩)) rfl (by kernel_rfl) (by kernel_rfl) (by kernel_rfl) (fun _ _ _ h => h) (.inl ⟨by kernel_rfl, fun wy hy => by (go_simp; done)⟩) hHeld ?_
   try simp only [Act.put, List.setIfInBounds_toArray, List.set_cons_zero, List.set_cons_succ]
   refine AnyE.takeD (i := 11) (fun j => [12, 14, 15, 16, 17].contains j) (.pointer (some ⟨wB, 1, none⟩)) rfl (by kernel_rfl) (by kernel_rfl) (by kernel_rfl) (fun _ _ _ h => h) (.inl ⟨by kernel_rfl, fun wy hy => by (go_simp; done)⟩) hHeld ?_
   try simp only [Act.put, List.setIfInBounds_toArray, List.set_cons_zero, List.set_cons_succ]
   refine AnyE.takeD (i := 12) (fun j => [14, 15, 16, 17].contains j) (.slice (some ⟨gR, 0, none⟩) qn cR) rfl (by kernel_rfl) (by kernel_rfl) (by kernel_rfl) (fun _ _ _ h => h) (.inl ⟨by kernel_rfl, fun wy hy => by (have q0 := (CELLS.out hy.2).2; go_simp; done)⟩) hHeld ?_
   try simp only [Act.put, List.setIfInBounds_toArray, List.set_cons_zero, List.set_cons_succ]
   refine AnyE.takeD (i := 13) (fun j => [14, 15, 16, 17].contains j) (.int .i64 (i : Int)) rfl (by kernel_rfl) (by kernel_rfl) (by kernel_rfl) (fun _ _ _ h => h) (.inl ⟨by kernel_rfl, fun wy hy => by (go_simp; done)⟩) hHeld ?_
   try simp only [Act.put, List.setIfInBounds_toArray, List.set_cons_zero, List.set_cons_succ]
   refine AnyE.takeD (i := 14) (fun j => [15, 16, 17].contains j) (.pointer (some ⟨gR, i, none⟩)) rfl (by kernel_rfl) (by kernel_rfl) (by kernel_rfl) (fun _ _ _ h => h) (.inl ⟨by kernel_rfl, fun wy hy => by (go_simp; done)⟩) hHeld ?_
   try simp only [Act.put, List.setIfInBounds_toArray, List.set_cons_zero, List.set_cons_succ]
   refine AnyE.takeD (i := 15) (fun j => [16, 17].contains j) (.pointer (some ⟨rB, 0, none⟩)) rfl (by kernel_rfl) (by kernel_rfl) (by kernel_rfl) (fun _ _ _ h => h) (.inl ⟨by kernel_rfl, fun wy hy => by (have q0 := (CI.out hy.2).2; go_simp; done)⟩) hHeld ?_
   try simp only [Act.put, List.setIfInBounds_toArray, List.set_cons_zero, List.set_cons_succ]
   refine AnyE.one (i := 16) rfl (by kernel_rfl) (by kernel_rfl) (fun KK hK => ?_)
   go_simp
   go_at_call 37
   have W4 := Lib.hid (W1.out.later HB2.out)
   have HC := acts_any (.inr (.inr (.inr (.inr (.inr (.inr (.inl HK.out))))))) W4.out HI.out HLP.out.1 (HO.out.go (Go4.of_below (O := U) (HX.out.2.trans (HB2.out.mono HX.out.2.size)))) HZ.out
   unfold OpD.val at HC
   rw [← HPB.out.1, ← HPB.out.2] at HC
   have hHeld1 := hHeld
   refine HC.mono ?_
   intro e9 Z9 hm
   have HM := Lib.hid hm
   have he9 := hm.1
   subst he9
   clear hm HC hHeld1 hHeld
   go_wp2_with fail
   refine hK.out _ _ ⟨fun h => (by cases h), ?_⟩
   clear hK
   try simp only [Act.put, List.setIfInBounds_toArray, List.set_cons_zero, List.set_cons_succ]
   refine AnyE.one (i := 17) rfl (by kernel_rfl) (by kernel_rfl) (fun KK hK => ?_)
   go_simp
   refine hK.out _ _ ⟨fun h => (by cases h), ?_⟩
   clear hK
   try simp only [Act.put, List.setIfInBounds_toArray, List.set_cons_zero, List.set_cons_succ]
   refine AnyE.done (by kernel_rfl) (NoPanic.normal ?_) _
   go_simp
   go_step
   go_wp2
   go_ret
   exact plays_acts HI.out HLP.out.2 (Go4.of_below (HX.out.2.trans (HB2.out.mono HX.out.2.size))) HM.out
  have hk13 := hk
  clear hk
  by_cases hk : o.kind = 14
  ·have HK := Lib.hid hk
   have e17 : (o.kind == 17) = false := by simp; omega
   have e18 : (o.kind == 18) = false := by simp; omega
   have e19 : (o.kind == 19) = false := by simp; omega
   have e1 : (o.kind == 1) = false := by simp; omega
   have e2 : (o.kind == 2) = false := by simp; omega
   have e3 : (o.kind == 3) = false := by simp; omega
   have e4 : (o.kind == 4) = false := by simp; omega
   have e5 : (o.kind == 5) = false := by simp; omega
   have e11 : (o.kind == 11) = false := by simp; omega
   have e13 : (o.kind == 13) = false := by simp; omega
   have e14 : (o.kind == 14) = true := by simp; exact hk
   clear hk
   have c0 := (HX.out.1.later HBD.out).cells.1
   go_upto_region 17 with fail
   clear c0 e17 e18 e19 e1 e2 e3 e4 e5 e11 e13 e14
   have BD : Below Z0.heap.size Z0 Z0.drew := (Below.refl _ _).drew
   refine wp_region_noPanic ?_
   refine wp_region_anyE (S := fun wx => OBox wx bo o ∧ Below X.heap.size X wx) (E := fun j => decide (j < 16)) (by kernel_rfl) ?_
   have bd2 : Below X.heap.size X Z0.drew := HBD.out.trans (BD.mono HBD.out.size)
   have hHeld : OBox Z0.drew bo o ∧ Below X.heap.size X Z0.drew := ⟨HX.out.1.later bd2, bd2⟩
   have HB2 := Lib.hid bd2
   have hZ0 : ∃ z, z = Z0.drew := ⟨_, rfl⟩
   obtain ⟨Z2, hZ0⟩ := hZ0
   rw [← hZ0] at HB2 hHeld ⊢
   clear hZ0 BD bd2
   refine AnyE.takeD (i := 0) (fun j => [16, 17].contains j) (.pointer (some ⟨wB, 0, none⟩)) rfl (by kernel_rfl) (by kernel_rfl) (by kernel_rfl) (fun _ _ _ h => h) (.inl ⟨by kernel_rfl, fun wy hy => by (go_simp; done)⟩) hHeld ?_
   try simp only [Act.put, List.setIfInBounds_toArray, List.set_cons_zero, List.set_cons_succ]
   refine AnyE.takeD (i := 1) (fun j => [16, 17].contains j) (.agg #[.int .i64 o.kind, .int .i64 o.obj, .string o.nm, .string o.nt, .slice o.aB o.nB o.kB, .int .i64 o.pos, .int .i64 o.num, .slice o.aC o.nC o.kC, .slice o.aF o.nF o.kF]) rfl (by kernel_rfl) (by kernel_rfl) (by kernel_rfl) (fun _ _ _ h => h) (.inl ⟨by kernel_rfl, fun wy hy => by (have q0 := hy.1.cells.1; have q1 := hy.1.cells.2.1; have q2 := hy.1.cells.2.2.1; have q3 := hy.1.cells.2.2.2.1; have q4 := hy.1.cells.2.2.2.2.1; have q5 := hy.1.cells.2.2.2.2.2.1; have q6 := hy.1.cells.2.2.2.2.2.2.1; have q7 := hy.1.cells.2.2.2.2.2.2.2.1; have q8 := hy.1.cells.2.2.2.2.2.2.2.2; go_simp; done)⟩) hHeld ?_
   try simp only [Act.put, List.setIfInBounds_toArray, List.set_cons_zero, List.set_cons_succ]
   refine AnyE.takeD (i := 2) (fun j => [3, 4, 5, 7, 8, 16, 17].contains j) (.pointer (some ⟨wB, 0, none⟩)) rfl (by kernel_rfl) (by kernel_rfl) (by kernel_rfl) (fun _ _ _ h => h) (.inl ⟨by kernel_rfl, fun wy hy => by (go_simp; done)⟩) hHeld ?_
   try simp only [Act.put, List.setIfInBounds_toArray, List.set_cons_zero, List.set_cons_succ]
   refine AnyE.takeD (i := 3) (fun j => [4, 5, 7, 8, 16, 17].contains j) (.pointer (some ⟨wB, 0, none⟩)) rfl (by kernel_rfl) (by kernel_rfl) (by kernel_rfl) (fun _ _ _ h => h) (.inl ⟨by kernel_rfl, fun wy hy => by (go_simp; done)⟩) hHeld ?_
   try simp only [Act.put, List.setIfInBounds_toArray, List.set_cons_zero, List.set_cons_succ]
   refine AnyE.takeD (i := 4) (fun j => [5, 7, 8, 16, 17].contains j) (.pointer (some ⟨wB, 0, none⟩)) rfl (by kernel_rfl) (by kernel_rfl) (by kernel_rfl) (fun _ _ _ h => h) (.inl ⟨by kernel_rfl, fun wy hy => by (go_simp; done)⟩) hHeld ?_
   try simp only [Act.put, List.setIfInBounds_toArray, List.set_cons_zero, List.set_cons_succ]
   refine AnyE.takeD (i := 5) (fun j => [7, 8, 16, 17].contains j) (.slice (some ⟨gD, 0, none⟩) qn cD) rfl (by kernel_rfl) (by kernel_rfl) (by kernel_rfl) (fun _ _ _ h => h) (.inl ⟨by kernel_rfl, fun wy hy => by (have q0 := (CELLS.out hy.2).1; go_simp; done)⟩) hHeld ?_
   try simp only [Act.put, List.setIfInBounds_toArray, List.set_cons_zero, List.set_cons_succ]
   refine AnyE.takeD (i := 6) (fun j => [7, 8, 16, 17].contains j) (.int .i64 (i : Int)) rfl (by kernel_rfl) (by kernel_rfl) (by kernel_rfl) (fun _ _ _ h => h) (.inl ⟨by kernel_rfl, fun wy hy => by (go_simp; done)⟩) hHeld ?_
   try simp only [Act.put, List.setIfInBounds_toArray, List.set_cons_zero, List.set_cons_succ]
   refine AnyE.takeD (i := 7) (fun j => [8, 16, 17].contains j) (.pointer (some ⟨gD, i, none⟩)) rfl (by kernel_rfl) (by kernel_rfl) (by kernel_rfl) (fun _ _ _ h => h) (.inl ⟨by kernel_rfl, fun wy hy => by (go_simp; done)⟩) hHeld ?_
   try simp only [Act.put, List.setIfInBounds_toArray, List.set_cons_zero, List.set_cons_succ]
   refine AnyE.takeD (i := 8) (fun j => [16, 17].contains j) (.pointer (some ⟨dB, 0, none⟩)) rfl (by kernel_rfl) (by kernel_rfl) (by kernel_rfl) (fun _ _ _ h => h) (.inl ⟨by kernel_rfl, fun wy hy => by (have q0 := (CI.out hy.2).1; go_simp; done)⟩) hHeld ?_
   try simp only [Act.put, List.setIfInBounds_toArray, List.set_cons_zero, List.set_cons_succ]
   refine AnyE.takeD (i := 9) (fun j => [10, 11, 12, 14, 15, 16, 17].contains j) (.pointer (some ⟨wB, 0, none⟩)) rfl (by kernel_rfl) (by kernel_rfl) (by kernel_rfl) (fun _ _ _ h => h) (.inl ⟨by kernel_rfl, fun wy hy => by (go_simp; done)⟩) hHeld ?_
   try simp only [Act.put, List.setIfInBounds_toArray, List.set_cons_zero, List.set_cons_succ]
   refine AnyE.takeD (i := 10) (fun j => [11, 12, 14, 15, 16, 17].contains j) (.pointer (some ⟨wB, 0, none⟩)) rfl (by kernel_rfl) (by kernel_rfl) (by kernel_rfl) (fun _ _ _ h => h) (.inl ⟨by kernel_rfl, fun wy hy => by (go_simp; done)⟩) hHeld ?_
   try simp only [Act.put, List.setIfInBounds_toArray, List.set_cons_zero, List.set_cons_succ]
   refine AnyE.takeD (i := 11) (fun j => [12, 14, 15, 16, 17].contains j) (.pointer (some ⟨wB, 1, none⟩)) rfl (by kernel_rfl) (by kernel_rfl) (by kernel_rfl) (fun _ _ _ h => h) (.inl ⟨by kernel_rfl, fun wy hy => by (go_simp; done)⟩) hHeld ?_
   try simp only [Act.put, List.setIfInBounds_toArray, List.set_cons_zero, List.set_cons_succ]
   refine AnyE.takeD (i := 12) (fun j => [14, 15, 16, 17].contains j) (.slice (some ⟨gR, 0, none⟩) qn cR) rfl (by kernel_rfl) (by kernel_rfl) (by kernel_rfl) (fun _ _ _ h => h) (.inl ⟨by kernel_rfl, fun wy hy => by (have q0 := (CELLS.out hy.2).2; go_simp; done)⟩) hHeld ?_
   try simp only [Act.put, List.setIfInBounds_toArray, List.set_cons_zero, List.set_cons_succ]
   refine AnyE.takeD (i := 13) (fun j => [14, 15, 16, 17].contains j) (.int .i64 (i : Int)) rfl (by kernel_rfl) (by kernel_rfl) (by kernel_rfl) (fun _ _ _ h => h) (.inl ⟨by kernel_rfl, fun wy hy => by (go_simp; done)⟩) hHeld ?_
   try simp only [Act.put, List.setIfInBounds_toArray, List.set_cons_zero, List.set_cons_succ]
   refine AnyE.takeD (i := 14) (fun j => [15, 16, 17].contains j) (.pointer (some ⟨gR, i, none⟩)) rfl (by kernel_rfl) (by kernel_rfl) (by kernel_rfl) (fun _ _ _ h => h) (.inl ⟨by kernel_rfl, fun wy hy => by (go_simp; done)⟩) hHeld ?_
   try simp only [Act.put, List.setIfInBounds_toArray, List.set_cons_zero, List.set_cons_succ]
   refine AnyE.takeD (i := 15) (fun j => [16, 17].contains j) (.pointer (some ⟨rB, 0, none⟩)) rfl (by kernel_rfl) (by kernel_rfl) (by kernel_rfl) (fun _ _ _ h => h) (.inl ⟨by kernel_rfl, fun wy hy => by (have q0 := (CI.out hy.2).2; go_simp; done)⟩) hHeld ?_
   try simp only [Act.put, List.setIfInBounds_toArray, List.set_cons_zero, List.set_cons_succ]
   refine AnyE.one (i := 16) rfl (by kernel_rfl) (by kernel_rfl) (fun KK hK => ?_)
   go_simp
   go_at_call 37
   have W4 := Lib.hid (W1.out.later HB2.out)
   have HC := acts_any (.inr (.inr (.inr (.inr (.inr (.inr (.inr (HK.out)))))))) W4.out HI.out HLP.out.1 (HO.out.go (Go4.of_below (O := U) (HX.out.2.trans (HB2.out.mono HX.out.2.size)))) HZ.out
   unfold OpD.val at HC
   rw [← HPB.out.1, ← HPB.out.2] at HC
   have hHeld1 := hHeld
   refine HC.mono ?_
   intro e9 Z9 hm
   have HM := Lib.hid hm
   have he9 := hm.1
   subst he9
   clear hm HC hHeld1 hHeld
   go_wp2_with fail
   refine hK.out _ _ ⟨fun h => (by cases h), ?_⟩
   clear hK
   try simp only [Act.put, List.setIfInBounds_toArray, List.set_cons_zero, List.set_cons_succ]
   refine AnyE.one (i := 17) rfl (by kernel_rfl) (by kernel_rfl) (fun KK hK => ?_)
   go_simp
   refine hK.out _ _ ⟨fun h => (by cases h), ?_⟩
   clear hK
   try simp only [Act.put, List.setIfInBounds_toArray, List.set_cons_zero, List.set_cons_succ]
   refine AnyE.done (by kernel_rfl) (NoPanic.normal ?_) _
   go_simp
   go_step
   go_wp2
   go_ret
   exact plays_acts HI.out HLP.out.2 (Go4.of_below (HX.out.2.trans (HB2.out.mono HX.out.2.size))) HM.out
  have hk14 := hk
  clear hk
  have e17 : (o.kind == 17) = false := by simp; omega
  have e18 : (o.kind == 18) = false := by simp; omega
  have e19 : (o.kind == 19) = false := by simp; omega
  have e1 : (o.kind == 1) = false := by simp; omega
  have e2 : (o.kind == 2) = false := by simp; omega
  have e3 : (o.kind == 3) = false := by simp; omega
  have e4 : (o.kind == 4) = false := by simp; omega
  have e5 : (o.kind == 5) = false := by simp; omega
  have e11 : (o.kind == 11) = false := by simp; omega
  have e13 : (o.kind == 13) = false := by simp; omega
  have e14 : (o.kind == 14) = false := by simp; omega
  have HNK : Hid (o.kind ≠ 17 ∧ o.kind ≠ 18 ∧ o.kind ≠ 19) := ⟨hk17, hk18, hk19⟩
  clear hk17 hk18 hk19 hk1 hk2 hk3 hk4 hk5 hk11 hk13 hk14
  have c0 := (HX.out.1.later HBD.out).cells.1
  go_upto_region 18 with fail
  clear c0 e17 e18 e19 e1 e2 e3 e4 e5 e11 e13 e14
  have BD : Below Z0.heap.size Z0 Z0.drew := (Below.refl _ _).drew
  refine wp_region_noPanic ?_
  refine wp_region_anyE (S := fun wx => OBox wx bo o ∧ Below X.heap.size X wx) (E := fun j => decide (j < 16)) (by kernel_rfl) ?_
  have bd2 : Below X.heap.size X Z0.drew := HBD.out.trans (BD.mono HBD.out.size)
  have hHeld : OBox Z0.drew bo o ∧ Below X.heap.size X Z0.drew := ⟨HX.out.1.later bd2, bd2⟩
  have HB2 := Lib.hid bd2
  have hZ0 : ∃ z, z = Z0.drew := ⟨_, rfl⟩
  obtain ⟨Z2, hZ0⟩ := hZ0
  rw [← hZ0] at HB2 hHeld ⊢
  clear hZ0 BD bd2
  refine AnyE.takeD (i := 0) (fun j => [16, 17].contains j) (.pointer (some ⟨wB, 0, none⟩)) rfl (by kernel_rfl) (by kernel_rfl) (by kernel_rfl) (fun _ _ _ h => h) (.inl ⟨by kernel_rfl, fun wy hy => by (go_simp; done)⟩) hHeld ?_
  try simp only [Act.put, List.setIfInBounds_toArray, List.set_cons_zero, List.set_cons_succ]
  refine AnyE.takeD (i := 1) (fun j => [16, 17].contains j) (.agg #[.int .i64 o.kind, .int .i64 o.obj, .string o.nm, .string o.nt, .slice o.aB o.nB o.kB, .int .i64 o.pos, .int .i64 o.num, .slice o.aC o.nC o.kC, .slice o.aF o.nF o.kF]) rfl (by kernel_rfl) (by kernel_rfl) (by kernel_rfl) (fun _ _ _ h => h) (.inl ⟨by kernel_rfl, fun wy hy => by (have q0 := hy.1.cells.1; have q1 := hy.1.cells.2.1; have q2 := hy.1.cells.2.2.1; have q3 := hy.1.cells.2.2.2.1; have q4 := hy.1.cells.2.2.2.2.1; have q5 := hy.1.cells.2.2.2.2.2.1; have q6 := hy.1.cells.2.2.2.2.2.2.1; have q7 := hy.1.cells.2.2.2.2.2.2.2.1; have q8 := hy.1.cells.2.2.2.2.2.2.2.2; go_simp; done)⟩) hHeld ?_
  try simp only [Act.put, List.setIfInBounds_toArray, List.set_cons_zero, List.set_cons_succ]
  refine AnyE.takeD (i := 2) (fun j => [3, 4, 5, 7, 8, 16, 17].contains j) (.pointer (some ⟨wB, 0, none⟩)) rfl (by kernel_rfl) (by kernel_rfl) (by kernel_rfl) (fun _ _ _ h => h) (.inl ⟨by kernel_rfl, fun wy hy => by (go_simp; done)⟩) hHeld ?_
  try simp only [Act.put, List.setIfInBounds_toArray, List.set_cons_zero, List.set_cons_succ]
  refine AnyE.takeD (i := 3) (fun j => [4, 5, 7, 8, 16, 17].contains j) (.pointer (some ⟨wB, 0, none⟩)) rfl (by kernel_rfl) (by kernel_rfl) (by kernel_rfl) (fun _ _ _ h => h) (.inl ⟨by kernel_rfl, fun wy hy => by (go_simp; done)⟩) hHeld ?_
  try simp only [Act.put, List.setIfInBounds_toArray, List.set_cons_zero, List.set_cons_succ]
  refine AnyE.takeD (i := 4) (fun j => [5, 7, 8, 16, 17].contains j) (.pointer (some ⟨wB, 0, none⟩)) rfl (by kernel_rfl) (by kernel_rfl) (by kernel_rfl) (fun _ _ _ h => h) (.inl ⟨by kernel_rfl, fun wy hy => by (go_simp; done)⟩) hHeld ?_
  try simp only [Act.put, List.setIfInBounds_toArray, List.set_cons_zero, List.set_cons_succ]
  refine AnyE.takeD (i := 5) (fun j => [7, 8, 16, 17].contains j) (.slice (some ⟨gD, 0, none⟩) qn cD) rfl (by kernel_rfl) (by kernel_rfl) (by kernel_rfl) (fun _ _ _ h => h) (.inl ⟨by kernel_rfl, fun wy hy => by (have q0 := (CELLS.out hy.2).1; go_simp; done)⟩) hHeld ?_
  try simp only [Act.put, List.setIfInBounds_toArray, List.set_cons_zero, List.set_cons_succ]
  refine AnyE.takeD (i := 6) (fun j => [7, 8, 16, 17].contains j) (.int .i64 (i : Int)) rfl (by kernel_rfl) (by kernel_rfl) (by kernel_rfl) (fun _ _ _ h => h) (.inl ⟨by kernel_rfl, fun wy hy => by (go_simp; done)⟩) hHeld ?_
  try simp only [Act.put, List.setIfInBounds_toArray, List.set_cons_zero, List.set_cons_succ]
  refine AnyE.takeD (i := 7) (fun j => [8, 16, 17].contains j) (.pointer (some ⟨gD, i, none⟩)) rfl (by kernel_rfl) (by kernel_rfl) (by kernel_rfl) (fun _ _ _ h => h) (.inl ⟨by kernel_rfl, fun wy hy => by (go_simp; done)⟩) hHeld ?_
  try simp only [Act.put, List.setIfInBounds_toArray, List.set_cons_zero, List.set_cons_succ]
  refine AnyE.takeD (i := 8) (fun j => [16, 17].contains j) (.pointer (some ⟨dB, 0, none⟩)) rfl (by kernel_rfl) (by kernel_rfl) (by kernel_rfl) (fun _ _ _ h => h) (.inl ⟨by kernel_rfl, fun wy hy => by (have q0 := (CI.out hy.2).1; go_simp; done)⟩) hHeld ?_
  try simp only [Act.put, List.setIfInBounds_toArray, List.set_cons_zero, List.set_cons_succ]
  refine AnyE.takeD (i := 9) (fun j => [10, 11, 12, 14, 15, 16, 17].contains j) (.pointer (some ⟨wB, 0, none⟩)) rfl (by kernel_rfl) (by kernel_rfl) (by kernel_rfl) (fun _ _ _ h => h) (.inl ⟨by kernel_rfl, fun wy hy => by (go_simp; done)⟩) hHeld ?_
  try simp only [Act.put, List.setIfInBounds_toArray, List.set_cons_zero, List.set_cons_succ]
  refine AnyE.takeD (i := 10) (fun j => [11, 12, 14, 15, 16, 17].contains j) (.pointer (some ⟨wB, 0, none⟩)) rfl (by kernel_rfl) (by kernel_rfl) (by kernel_rfl) (fun _ _ _ h => h) (.inl ⟨by kernel_rfl, fun wy hy => by (go_simp; done)⟩) hHeld ?_
  try simp only [Act.put, List.setIfInBounds_toArray, List.set_cons_zero, List.set_cons_succ]
  refine AnyE.takeD (i := 11) (fun j => [12, 14, 15, 16, 17].contains j) (.pointer (some ⟨wB, 1, none⟩)) rfl (by kernel_rfl) (by kernel_rfl) (by kernel_rfl) (fun _ _ _ h => h) (.inl ⟨by kernel_rfl, fun wy hy => by (go_simp; done)⟩) hHeld ?_
  try simp only [Act.put, List.setIfInBounds_toArray, List.set_cons_zero, List.set_cons_succ]
  refine AnyE.takeD (i := 12) (fun j => [14, 15, 16, 17].contains j) (.slice (some ⟨gR, 0, none⟩) qn cR) rfl (by kernel_rfl) (by kernel_rfl) (by kernel_rfl) (fun _ _ _ h => h) (.inl ⟨by kernel_rfl, fun wy hy => by (have q0 := (CELLS.out hy.2).2; go_simp; done)⟩) hHeld ?_
  try simp only [Act.put, List.setIfInBounds_toArray, List.set_cons_zero, List.set_cons_succ]
  refine AnyE.takeD (i := 13) (fun j => [14, 15, 16, 17].contains j) (.int .i64 (i : Int)) rfl (by kernel_rfl) (by kernel_rfl) (by kernel_rfl) (fun _ _ _ h => h) (.inl ⟨by kernel_rfl, fun wy hy => by (go_simp; done)⟩) hHeld ?_
  try simp only [Act.put, List.setIfInBounds_toArray, List.set_cons_zero, List.set_cons_succ]
  refine AnyE.takeD (i := 14) (fun j => [15, 16, 17].contains j) (.pointer (some ⟨gR, i, none⟩)) rfl (by kernel_rfl) (by kernel_rfl) (by kernel_rfl) (fun _ _ _ h => h) (.inl ⟨by kernel_rfl, fun wy hy => by (go_simp; done)⟩) hHeld ?_
  try simp only [Act.put, List.setIfInBounds_toArray, List.set_cons_zero, List.set_cons_succ]
  refine AnyE.takeD (i := 15) (fun j => [16, 17].contains j) (.pointer (some ⟨rB, 0, none⟩)) rfl (by kernel_rfl) (by kernel_rfl) (by kernel_rfl) (fun _ _ _ h => h) (.inl ⟨by kernel_rfl, fun wy hy => by (have q0 := (CI.out hy.2).2; go_simp; done)⟩) hHeld ?_
  try simp only [Act.put, List.setIfInBounds_toArray, List.set_cons_zero, List.set_cons_succ]
  refine AnyE.one (i := 16) rfl (by kernel_rfl) (by kernel_rfl) (fun KK hK => ?_)
  go_simp
  go_at_call 38
  have W4 := Lib.hid (W1.out.later HB2.out)
  have HC := tells_any W4.out HI.out HLP.out.1 (HO.out.go (Go4.of_below (O := U) (HX.out.2.trans (HB2.out.mono HX.out.2.size)))) HZ.out
  unfold OpD.val at HC
  rw [← HPB.out.1, ← HPB.out.2] at HC
  have hHeld1 := hHeld
  refine HC.mono ?_
  intro e9 Z9 hm
  have HM := Lib.hid hm
  have he9 := hm.1
  subst he9
  clear hm HC hHeld1 hHeld
  go_wp2_with fail
  refine hK.out _ _ ⟨fun h => (by cases h), ?_⟩
  clear hK
  try simp only [Act.put, List.setIfInBounds_toArray, List.set_cons_zero, List.set_cons_succ]
  refine AnyE.one (i := 17) rfl (by kernel_rfl) (by kernel_rfl) (fun KK hK => ?_)
  go_simp
  refine hK.out _ _ ⟨fun h => (by cases h), ?_⟩
  clear hK
  try simp only [Act.put, List.setIfInBounds_toArray, List.set_cons_zero, List.set_cons_succ]
  refine AnyE.done (by kernel_rfl) (NoPanic.normal ?_) _
  go_simp
  go_step
  go_wp2
  go_ret
  exact plays_acts HI.out HLP.out.2 (Go4.of_below (HX.out.2.trans (HB2.out.mono HX.out.2.size))) HM.out
end Go.Proofs.Ytlkhphhmhffdjaa
