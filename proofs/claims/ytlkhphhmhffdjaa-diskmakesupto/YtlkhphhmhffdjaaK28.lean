import Derived.Test.YtlkhphhmhffdjaaK27
import Derived.Test.YtlkhphhmhffdjaaRows
import Derived.ProofKit
import Derived.OpenShut
import Derived.Deep.DeepHandedRow
import Derived.Lib.LaidTab
import Derived.Deep.Slices
import Derived.ChangeMaps5
import Derived.ChangeSlices
set_option linter.unusedSimpArgs false
set_option linter.unusedVariables false
namespace Go.Proofs.Ytlkhphhmhffdjaa
open Go.RowKit Go.MapKept Go.Sort
variable {w w' W X : World} {O O' U U' : Nat → Prop} {wB i : Nat} {z : Int} {qs : List Pr4} {o : OpD} {p : Pr4}
def opL (k cp : Int) (a : Option Addr) (n c : Nat) (fs : List (GF × Value)) : OpD := ⟨k, 0, ⟨#[]⟩, ⟨#[]⟩, none, 0, 0, [], 0, cp, none, 0, 0, [], a, n, c, fs⟩
theorem rdOp_L {k cp : Int} {a : Option Addr} {n c : Nat} {fs : List (GF × Value)} (hc0 : -9223372036854775808 ≤ cp) (hc1 : cp ≤ 9223372036854775807) (hf : RdGA w U a c fs) (hn : n = fs.length) (hlf : fs.length ≤ 300000) (hld : ∀ x ∈ fs, x.1.2.1.length ≤ 1048576) : RdOp w U (opL k cp a n c fs) :=
 ⟨⟨rd_nil5 _, fun b off n c e n0 q => (by cases e)⟩, by simp [opL], ⟨⟨Nat.le_refl _, Nat.zero_le _⟩, fun i j hj => (by simp [opL] at hj)⟩, rfl, fun _ => rfl, by simp [opL], hf, hn, hlf, hld, by simp [opL], ⟨hc0, hc1⟩, by simp [opL]⟩
theorem rdGA_nil : RdGA w U none 0 [] := ⟨⟨⟨Nat.le_refl _, Nat.zero_le _⟩, fun i x hx => (by simp at hx), fun x hx => (by simp at hx)⟩, fun g off e ne => absurd rfl ne, fun x hx => (by simp at hx)⟩
theorem makes0 (hk : o.kind = 17 ∨ o.kind = 18) (h : Ws w wB U z qs) (hl : Lks qs) (ho : RdOp w U o) (hz : z + 1000000000000 ≤ 4611686018427387904) : Calls Try.prog 7 #[.pointer (some ⟨wB, 0, none⟩), o.val, .int .i64 0] w (MakesP w wB U z qs) := by
 by_cases h5 : 5 ≤ qs.length
 ·exact makes_full h hl h5
 ·rcases hk with k | k
  ·exact makes_new k h hl ho (by omega)
  ·exact makes_load k h hl ho (by omega) hz
theorem MakesP.downs {e : Ending} (h : MakesP w wB U z qs e w') (hd : ∀ p ∈ qs, p.d.down = false) : e = .returned (.bool true) ∧ ∃ (U' : Nat → Prop) (z' : Int) (qs' : List Pr4), Ws w' wB U' z' qs' ∧ Lks qs' ∧ Go4 w w' U U' ∧ z' ≤ z + 1000000000000 ∧ ∀ p ∈ qs', p.d.down = false := by
 obtain ⟨he, U', z', qs', s, lk, g, hz, hq⟩ := h
 refine ⟨he, U', z', qs', s, lk, g, hz, ?_⟩
 rcases hq with rfl | ⟨p', rfl, e'⟩
 ·exact hd
 ·intro q hq
  rcases List.mem_append.1 hq with hq | hq
  ·exact hd q hq
  ·rw [List.mem_singleton] at hq
   subst hq
   exact e'
set_option maxRecDepth 100000 in
set_option maxHeartbeats 4000000 in
theorem diskMakes_walk {cp : Int} {aF : Option Addr} {nF kF : Nat} {fs : List (GF × Value)} (hc0 : -9223372036854775808 ≤ cp) (hc1 : cp ≤ 9223372036854775807) (hn : nF = fs.length) (hr : RdGA w (fun i => w.heap.size ≤ i) aF kF fs) (hlf : fs.length ≤ 300000) (hld : ∀ x ∈ fs, x.1.2.1.length ≤ 1048576) :
  Calls Try.prog 3 #[.int .i64 cp, .slice aF nF kF] w fun e w' => e = .returned (.bool true) ∧ Below w.heap.size w w' := by
 have HCP := Lib.hid (And.intro hc0 hc1)
 have HR := Lib.hid hr
 have HN := Lib.hid (And.intro hn (And.intro hlf hld))
 clear hr hn hlf hld hc0 hc1
 go_enter Try.func3, Try.ntmps3
 go_wp2_with fail
 refine (started_any (n := 9) (by decide) (by decide)).mono ?_
 rintro e1 Z1 ⟨wB, U1, z1, qs1, he1, w1, l1, dn1, n1, hz1, b1, u1⟩
 subst he1
 have S1 := Lib.hid (And.intro w1 (And.intro l1 (And.intro (fun p hp => (dn1 p hp).1 : ∀ p ∈ qs1, p.d.down = false) (And.intro hz1 (And.intro b1 u1)))))
 clear w1 l1 dn1 n1 hz1 b1 u1
 go_wp2_with fail
 refine (both_any _).mono ?_
 rintro e2 Z2 ⟨he2, b2⟩
 subst he2
 have S2 := Lib.hid (And.intro (S1.out.1.later b2) (And.intro S1.out.2.1 (And.intro S1.out.2.2.1 (And.intro S1.out.2.2.2.1 (And.intro (S1.out.2.2.2.2.1.trans (b2.mono S1.out.2.2.2.2.1.size)) S1.out.2.2.2.2.2)))))
 clear b2
 have HC := makes0 (o := opL 17 cp none 0 0 []) (.inl rfl) S2.out.1 S2.out.2.1 ((rdOp_L (k := 17) HCP.out.1 HCP.out.2 rdGA_nil rfl (by decide) (fun x hx => by simp at hx)).go (Go4.of_b S2.out.2.2.2.2.1 S2.out.2.2.2.2.2)) (by have := S2.out.2.2.2.1; omega)
 unfold OpD.val opL at HC
 simp only at HC
 go_wp2_with fail
 refine HC.mono ?_
 intro e3 Z3 hm
 obtain ⟨he, U3, z3, qs3, ws, lks, g, hz, hdn⟩ := hm.downs S2.out.2.2.1
 subst he
 have S3 := Lib.hid (And.intro ws (And.intro lks (And.intro hdn (And.intro (by have := S2.out.2.2.2.1; omega : z3 ≤ 5000000000000) (And.intro (S2.out.2.2.2.2.1.trans (g.below S2.out.2.2.2.2.1.size S2.out.2.2.2.2.2)) (fun i hi => (g.new i hi).elim (S2.out.2.2.2.2.2 i) (fun e => Nat.le_trans S2.out.2.2.2.2.1.size e) : ∀ i, U3 i → w.heap.size ≤ i))))))
 clear HC hm ws lks g hz hdn
 have HC := makes0 (o := opL 18 cp aF nF kF fs) (.inr rfl) S3.out.1 S3.out.2.1 ((rdOp_L (k := 18) HCP.out.1 HCP.out.2 HR.out HN.out.1 HN.out.2.1 HN.out.2.2).go (Go4.of_b S3.out.2.2.2.2.1 S3.out.2.2.2.2.2)) (by have := S3.out.2.2.2.1; omega)
 unfold OpD.val opL at HC
 simp only at HC
 go_wp2_with fail
 refine HC.mono ?_
 intro e4 Z4 hm
 obtain ⟨he, U4, z4, qs4, ws, lks, g, hz, hdn⟩ := hm.downs S3.out.2.2.1
 subst he
 have S4 := Lib.hid (And.intro ws (And.intro lks (And.intro hdn (And.intro (by have := S3.out.2.2.2.1; omega : z4 ≤ 6000000000000) (And.intro (S3.out.2.2.2.2.1.trans (g.below S3.out.2.2.2.2.1.size S3.out.2.2.2.2.2)) (fun i hi => (g.new i hi).elim (S3.out.2.2.2.2.2 i) (fun e => Nat.le_trans S3.out.2.2.2.2.1.size e) : ∀ i, U4 i → w.heap.size ≤ i))))))
 clear HC hm ws lks g hz hdn
 go_wp2_with fail
 refine S4.out.1.holds.mono ?_
 rintro e5 X ⟨he5, b5⟩
 subst he5
 have W1 := Lib.hid (S4.out.1.later b5)
 have BW := Lib.hid (S4.out.2.2.2.2.1.trans (b5.mono S4.out.2.2.2.2.1.size))
 obtain ⟨qs, hqs⟩ : ∃ q, q = qs4 := ⟨_, rfl⟩
 obtain ⟨U, hU⟩ : ∃ q, q = U4 := ⟨_, rfl⟩
 obtain ⟨z, hz⟩ : ∃ q, q = z4 := ⟨_, rfl⟩
 have LKS := Lib.hid (And.intro S4.out.2.1 S4.out.2.2.1)
 rw [← hqs, ← hU, ← hz] at W1
 rw [← hqs] at LKS
 clear b5 hqs hU hz
 obtain ⟨aD, cD, aR, cR, hr0⟩ := W1.out.rows
 obtain ⟨qn, hqn⟩ : ∃ qn, qn = qs.length := ⟨_, rfl⟩
 rw [← hqn] at hr0
 have HQN := Lib.hid hqn
 have HR0 := Lib.hid hr0
 clear hr0 hqn
 have hqx : qn ≤ 9223372036854775807 := by
  have := W1.out.few
  have := HQN.out
  omega
 go_wp2_with fail
 go_loopw [6, 7] (fun okv v wr => ∃ t : Nat, t ≤ qn ∧ okv = .bool true ∧ v = .int .i64 (t : Int) ∧ Hid (Below X.heap.size X wr)) (fun _ v _ => qn - (intOf v).toNat)
 case atStart => exact ⟨0, Nat.zero_le _, rfl, rfl, Below.refl _ _⟩
 case round =>
  obtain ⟨t, ht, rfl, rfl, HS⟩ := hrel
  have j2 : (0 : Int) ≤ (t : Int) := by omega
  have d0 := (HS.out.cell (World.block_lt_of_cell? _ _ HR0.out.1)).trans HR0.out.1
  by_cases hlt : t < qn
  ·have j1 : (t : Int) < (qn : Int) := by omega
   have hx : ∃ p, qs[t]? = some p := ⟨_, List.getElem?_eq_getElem (by rw [← HQN.out]; exact hlt)⟩
   obtain ⟨p0, hx0⟩ := hx
   have hr1 := HR0.out.2.2 t p0 hx0
   obtain ⟨gD, hr1⟩ := hr1
   obtain ⟨gR, hr1⟩ := hr1
   have haD := hr1.1
   have haR := hr1.2.1
   subst haD
   subst haR
   have hlp := LKS.out.1 p0 (List.mem_of_getElem? hx0)
   have HDN := Lib.hid (LKS.out.2 p0 (List.mem_of_getElem? hx0))
   have hT := W1.out.pr hx0
   have hfr : p0.r.fs = filesP p0.d := (hlp.files hT.1.rd.1.2).symm
   have hok := hT.1.dsk.1
   have hq : ∃ q, q = p0.d.cap - (totP p0.d.fs : Int) := ⟨_, rfl⟩
   obtain ⟨q, hq⟩ := hq
   have hqr : q = p0.r.cap - (totP p0.r.fs : Int) := by rw [hq, hlp.cap, tot_lk hlp]
   obtain ⟨A0, B0, dB, rB, d, r⟩ := p0
   simp only at hfr hok hr1 hq hqr HDN
   have HQ := Lib.hid (And.intro hq hqr)
   have HF := Lib.hid (And.intro hfr hok)
   have HI := Lib.hid hx0
   have r0 := HR0.out.1
   have r1 := HR0.out.2.1
   have cells : ∀ {V : World}, Below X.heap.size X V → V.cell? ⟨wB, 0, none⟩ = some (.slice (some ⟨gD, 0, none⟩) qn cD) ∧ V.cell? ⟨wB, 1, none⟩ = some (.slice (some ⟨gR, 0, none⟩) qn cR) ∧ V.cell? ⟨gD, t, none⟩ = some (.pointer (some ⟨dB, 0, none⟩)) ∧ V.cell? ⟨gR, t, none⟩ = some (.pointer (some ⟨rB, 0, none⟩)) := fun b => by
    have up : ∀ {ad : Addr} {v : Value}, X.cell? ad = some v → _ := fun {ad} {v} h => (b.cell (World.block_lt_of_cell? _ _ h)).trans h
    exact ⟨up r0, up r1, up hr1.2.2.1, up hr1.2.2.2⟩
   have CELLS := @Lib.hid _ @cells
   clear cells r0 r1 hr1 hlp hT hfr hok hq hqr hx0 hlt
   have jn0 : ¬ qn = 0 := by omega
   go_upto_region 8 with fail
   clear d0
   have BD : Below X.heap.size X wr.drew := HS.out.trans ((Below.refl wr.heap.size wr).drew.mono HS.out.size)
   refine wp_region_noPanic ?_
   refine wp_region_anyE (S := fun wx => Below X.heap.size X wx) (E := fun j => true) (by kernel_rfl) ?_
   have hHeld : Below X.heap.size X wr.drew := BD
   have HB0 := Lib.hid BD
   have hZ0 : ∃ z, z = wr.drew := ⟨_, rfl⟩
   obtain ⟨Z0, hZ0⟩ := hZ0
   rw [← hZ0] at HB0 hHeld ⊢
   clear hZ0 BD
   refine AnyE.take (i := 0) (.bool true) rfl (by kernel_rfl) (by kernel_rfl) (by kernel_rfl) (by kernel_rfl) (fun _ _ _ h => h) (.inl ⟨by kernel_rfl, fun wy hy => by (go_simp; done)⟩) hHeld ?_
   try simp only [Act.put, List.setIfInBounds_toArray, List.set_cons_zero, List.set_cons_succ]
   refine AnyE.take (i := 1) (.bool true) rfl (by kernel_rfl) (by kernel_rfl) (by kernel_rfl) (by kernel_rfl) (fun _ _ _ h => h) (.inl ⟨by kernel_rfl, fun wy hy => by (go_simp; done)⟩) hHeld ?_
   try simp only [Act.put, List.setIfInBounds_toArray, List.set_cons_zero, List.set_cons_succ]
   refine AnyE.take (i := 2) (.pointer (some ⟨wB, 0, none⟩)) rfl (by kernel_rfl) (by kernel_rfl) (by kernel_rfl) (by kernel_rfl) (fun _ _ _ h => h) (.inl ⟨by kernel_rfl, fun wy hy => by (go_simp; done)⟩) hHeld ?_
   try simp only [Act.put, List.setIfInBounds_toArray, List.set_cons_zero, List.set_cons_succ]
   refine AnyE.take (i := 3) (.pointer (some ⟨wB, 0, none⟩)) rfl (by kernel_rfl) (by kernel_rfl) (by kernel_rfl) (by kernel_rfl) (fun _ _ _ h => h) (.inl ⟨by kernel_rfl, fun wy hy => by (go_simp; done)⟩) hHeld ?_
   try simp only [Act.put, List.setIfInBounds_toArray, List.set_cons_zero, List.set_cons_succ]
   refine AnyE.take (i := 4) (.pointer (some ⟨wB, 0, none⟩)) rfl (by kernel_rfl) (by kernel_rfl) (by kernel_rfl) (by kernel_rfl) (fun _ _ _ h => h) (.inl ⟨by kernel_rfl, fun wy hy => by (go_simp; done)⟩) hHeld ?_
   try simp only [Act.put, List.setIfInBounds_toArray, List.set_cons_zero, List.set_cons_succ]
   refine AnyE.take (i := 5) (.slice (some ⟨gD, 0, none⟩) qn cD) rfl (by kernel_rfl) (by kernel_rfl) (by kernel_rfl) (by kernel_rfl) (fun _ _ _ h => h) (.inl ⟨by kernel_rfl, fun wy hy => by (have q0 := (CELLS.out hy).1; go_simp; done)⟩) hHeld ?_
   try simp only [Act.put, List.setIfInBounds_toArray, List.set_cons_zero, List.set_cons_succ]
   refine AnyE.take (i := 6) (.int .i64 (t : Int)) rfl (by kernel_rfl) (by kernel_rfl) (by kernel_rfl) (by kernel_rfl) (fun _ _ _ h => h) (.inl ⟨by kernel_rfl, fun wy hy => by (go_simp; done)⟩) hHeld ?_
   try simp only [Act.put, List.setIfInBounds_toArray, List.set_cons_zero, List.set_cons_succ]
   refine AnyE.take (i := 7) (.pointer (some ⟨gD, t, none⟩)) rfl (by kernel_rfl) (by kernel_rfl) (by kernel_rfl) (by kernel_rfl) (fun _ _ _ h => h) (.inl ⟨by kernel_rfl, fun wy hy => by (go_simp; done)⟩) hHeld ?_
   try simp only [Act.put, List.setIfInBounds_toArray, List.set_cons_zero, List.set_cons_succ]
   refine AnyE.take (i := 8) (.pointer (some ⟨dB, 0, none⟩)) rfl (by kernel_rfl) (by kernel_rfl) (by kernel_rfl) (by kernel_rfl) (fun _ _ _ h => h) (.inl ⟨by kernel_rfl, fun wy hy => by (have q0 := (CELLS.out hy).2.2.1; go_simp; done)⟩) hHeld ?_
   try simp only [Act.put, List.setIfInBounds_toArray, List.set_cons_zero, List.set_cons_succ]
   refine AnyE.take (i := 10) (.pointer (some ⟨wB, 0, none⟩)) rfl (by kernel_rfl) (by kernel_rfl) (by kernel_rfl) (by kernel_rfl) (fun _ _ _ h => h) (.inl ⟨by kernel_rfl, fun wy hy => by (go_simp; done)⟩) hHeld ?_
   try simp only [Act.put, List.setIfInBounds_toArray, List.set_cons_zero, List.set_cons_succ]
   refine AnyE.take (i := 11) (.pointer (some ⟨wB, 0, none⟩)) rfl (by kernel_rfl) (by kernel_rfl) (by kernel_rfl) (by kernel_rfl) (fun _ _ _ h => h) (.inl ⟨by kernel_rfl, fun wy hy => by (go_simp; done)⟩) hHeld ?_
   try simp only [Act.put, List.setIfInBounds_toArray, List.set_cons_zero, List.set_cons_succ]
   refine AnyE.take (i := 12) (.pointer (some ⟨wB, 1, none⟩)) rfl (by kernel_rfl) (by kernel_rfl) (by kernel_rfl) (by kernel_rfl) (fun _ _ _ h => h) (.inl ⟨by kernel_rfl, fun wy hy => by (go_simp; done)⟩) hHeld ?_
   try simp only [Act.put, List.setIfInBounds_toArray, List.set_cons_zero, List.set_cons_succ]
   refine AnyE.take (i := 13) (.slice (some ⟨gR, 0, none⟩) qn cR) rfl (by kernel_rfl) (by kernel_rfl) (by kernel_rfl) (by kernel_rfl) (fun _ _ _ h => h) (.inl ⟨by kernel_rfl, fun wy hy => by (have q0 := (CELLS.out hy).2.1; go_simp; done)⟩) hHeld ?_
   try simp only [Act.put, List.setIfInBounds_toArray, List.set_cons_zero, List.set_cons_succ]
   refine AnyE.take (i := 14) (.int .i64 (t : Int)) rfl (by kernel_rfl) (by kernel_rfl) (by kernel_rfl) (by kernel_rfl) (fun _ _ _ h => h) (.inl ⟨by kernel_rfl, fun wy hy => by (go_simp; done)⟩) hHeld ?_
   try simp only [Act.put, List.setIfInBounds_toArray, List.set_cons_zero, List.set_cons_succ]
   refine AnyE.take (i := 15) (.pointer (some ⟨gR, t, none⟩)) rfl (by kernel_rfl) (by kernel_rfl) (by kernel_rfl) (by kernel_rfl) (fun _ _ _ h => h) (.inl ⟨by kernel_rfl, fun wy hy => by (go_simp; done)⟩) hHeld ?_
   try simp only [Act.put, List.setIfInBounds_toArray, List.set_cons_zero, List.set_cons_succ]
   refine AnyE.take (i := 16) (.pointer (some ⟨rB, 0, none⟩)) rfl (by kernel_rfl) (by kernel_rfl) (by kernel_rfl) (by kernel_rfl) (fun _ _ _ h => h) (.inl ⟨by kernel_rfl, fun wy hy => by (have q0 := (CELLS.out hy).2.2.2; go_simp; done)⟩) hHeld ?_
   try simp only [Act.put, List.setIfInBounds_toArray, List.set_cons_zero, List.set_cons_succ]
   refine AnyE.one (i := 9) rfl (by kernel_rfl) (by kernel_rfl) (fun KK hK => ?_)
   go_simp
   go_at_call 10
   refine (files_any ((W1.out.later HB0.out).pr HI.out).1.dsk).mono ?_
   rintro e2 Y2 ⟨a6, n6, k6, l6, he2, f6, hl6, bq⟩
   subst he2
   simp only at hl6
   have F6 := Lib.hid (And.intro f6 hl6)
   have hHeld1 := hHeld
   have hHeld : Below X.heap.size X Y2 := hHeld1.trans (bq.mono hHeld1.size)
   have HBY2 := Lib.hid hHeld
   clear hHeld1
   clear bq f6 hl6
   go_wp2_with fail
   refine hK.out _ _ ⟨fun _ => hHeld, ?_⟩
   clear hK
   try simp only [Act.put, List.setIfInBounds_toArray, List.set_cons_zero, List.set_cons_succ]
   refine AnyE.one (i := 17) rfl (by kernel_rfl) (by kernel_rfl) (fun KK hK => ?_)
   go_simp
   go_at_call 11
   refine (rFiles_any ((W1.out.later HBY2.out).pr HI.out).1.rd).mono ?_
   rintro e3 Y3 ⟨a7, n7, k7, l7, he3, f7, hl7, bq⟩
   subst he3
   simp only at hl7
   rw [HF.out.1] at hl7
   have SM := Lib.hid (files_same HF.out.2 (F6.out.1.later bq) F6.out.2 f7 hl7)
   have hHeld1 := hHeld
   have hHeld : Below X.heap.size X Y3 := hHeld1.trans (bq.mono hHeld1.size)
   have HBY3 := Lib.hid hHeld
   clear hHeld1
   clear bq f7 hl7
   go_wp2_with fail
   refine hK.out _ _ ⟨fun _ => hHeld, ?_⟩
   clear hK
   try simp only [Act.put, List.setIfInBounds_toArray, List.set_cons_zero, List.set_cons_succ]
   refine AnyE.one (i := 18) rfl (by kernel_rfl) (by kernel_rfl) (fun KK hK => ?_)
   go_simp
   go_at_call 9
   refine (SM.out).mono ?_
   rintro e4 Y4 ⟨he4, bq⟩
   subst he4
   have hHeld1 := hHeld
   have hHeld : Below X.heap.size X Y4 := hHeld1.trans (bq.mono hHeld1.size)
   have HBY4 := Lib.hid hHeld
   clear hHeld1
   clear bq SM
   go_wp2_with fail
   refine hK.out _ _ ⟨fun _ => hHeld, ?_⟩
   clear hK
   try simp only [Act.put, List.setIfInBounds_toArray, List.set_cons_zero, List.set_cons_succ]
   refine AnyE.take (i := 19) (.bool true) rfl (by kernel_rfl) (by kernel_rfl) (by kernel_rfl) (by kernel_rfl) (fun _ _ _ h => h) (.inl ⟨by kernel_rfl, fun wy hy => by (go_simp; done)⟩) hHeld ?_
   try simp only [Act.put, List.setIfInBounds_toArray, List.set_cons_zero, List.set_cons_succ]
   refine AnyE.take (i := 20) (.bool true) rfl (by kernel_rfl) (by kernel_rfl) (by kernel_rfl) (by kernel_rfl) (fun _ _ _ h => h) (.inl ⟨by kernel_rfl, fun wy hy => by (go_simp; done)⟩) hHeld ?_
   try simp only [Act.put, List.setIfInBounds_toArray, List.set_cons_zero, List.set_cons_succ]
   refine AnyE.take (i := 21) (.pointer (some ⟨wB, 0, none⟩)) rfl (by kernel_rfl) (by kernel_rfl) (by kernel_rfl) (by kernel_rfl) (fun _ _ _ h => h) (.inl ⟨by kernel_rfl, fun wy hy => by (go_simp; done)⟩) hHeld ?_
   try simp only [Act.put, List.setIfInBounds_toArray, List.set_cons_zero, List.set_cons_succ]
   refine AnyE.take (i := 22) (.pointer (some ⟨wB, 0, none⟩)) rfl (by kernel_rfl) (by kernel_rfl) (by kernel_rfl) (by kernel_rfl) (fun _ _ _ h => h) (.inl ⟨by kernel_rfl, fun wy hy => by (go_simp; done)⟩) hHeld ?_
   try simp only [Act.put, List.setIfInBounds_toArray, List.set_cons_zero, List.set_cons_succ]
   refine AnyE.take (i := 23) (.pointer (some ⟨wB, 0, none⟩)) rfl (by kernel_rfl) (by kernel_rfl) (by kernel_rfl) (by kernel_rfl) (fun _ _ _ h => h) (.inl ⟨by kernel_rfl, fun wy hy => by (go_simp; done)⟩) hHeld ?_
   try simp only [Act.put, List.setIfInBounds_toArray, List.set_cons_zero, List.set_cons_succ]
   refine AnyE.take (i := 24) (.slice (some ⟨gD, 0, none⟩) qn cD) rfl (by kernel_rfl) (by kernel_rfl) (by kernel_rfl) (by kernel_rfl) (fun _ _ _ h => h) (.inl ⟨by kernel_rfl, fun wy hy => by (have q0 := (CELLS.out hy).1; go_simp; done)⟩) hHeld ?_
   try simp only [Act.put, List.setIfInBounds_toArray, List.set_cons_zero, List.set_cons_succ]
   refine AnyE.take (i := 25) (.int .i64 (t : Int)) rfl (by kernel_rfl) (by kernel_rfl) (by kernel_rfl) (by kernel_rfl) (fun _ _ _ h => h) (.inl ⟨by kernel_rfl, fun wy hy => by (go_simp; done)⟩) hHeld ?_
   try simp only [Act.put, List.setIfInBounds_toArray, List.set_cons_zero, List.set_cons_succ]
   refine AnyE.take (i := 26) (.pointer (some ⟨gD, t, none⟩)) rfl (by kernel_rfl) (by kernel_rfl) (by kernel_rfl) (by kernel_rfl) (fun _ _ _ h => h) (.inl ⟨by kernel_rfl, fun wy hy => by (go_simp; done)⟩) hHeld ?_
   try simp only [Act.put, List.setIfInBounds_toArray, List.set_cons_zero, List.set_cons_succ]
   refine AnyE.take (i := 27) (.pointer (some ⟨dB, 0, none⟩)) rfl (by kernel_rfl) (by kernel_rfl) (by kernel_rfl) (by kernel_rfl) (fun _ _ _ h => h) (.inl ⟨by kernel_rfl, fun wy hy => by (have q0 := (CELLS.out hy).2.2.1; go_simp; done)⟩) hHeld ?_
   try simp only [Act.put, List.setIfInBounds_toArray, List.set_cons_zero, List.set_cons_succ]
   refine AnyE.take (i := 29) (.pointer (some ⟨wB, 0, none⟩)) rfl (by kernel_rfl) (by kernel_rfl) (by kernel_rfl) (by kernel_rfl) (fun _ _ _ h => h) (.inl ⟨by kernel_rfl, fun wy hy => by (go_simp; done)⟩) hHeld ?_
   try simp only [Act.put, List.setIfInBounds_toArray, List.set_cons_zero, List.set_cons_succ]
   refine AnyE.take (i := 30) (.pointer (some ⟨wB, 0, none⟩)) rfl (by kernel_rfl) (by kernel_rfl) (by kernel_rfl) (by kernel_rfl) (fun _ _ _ h => h) (.inl ⟨by kernel_rfl, fun wy hy => by (go_simp; done)⟩) hHeld ?_
   try simp only [Act.put, List.setIfInBounds_toArray, List.set_cons_zero, List.set_cons_succ]
   refine AnyE.take (i := 31) (.pointer (some ⟨wB, 1, none⟩)) rfl (by kernel_rfl) (by kernel_rfl) (by kernel_rfl) (by kernel_rfl) (fun _ _ _ h => h) (.inl ⟨by kernel_rfl, fun wy hy => by (go_simp; done)⟩) hHeld ?_
   try simp only [Act.put, List.setIfInBounds_toArray, List.set_cons_zero, List.set_cons_succ]
   refine AnyE.take (i := 32) (.slice (some ⟨gR, 0, none⟩) qn cR) rfl (by kernel_rfl) (by kernel_rfl) (by kernel_rfl) (by kernel_rfl) (fun _ _ _ h => h) (.inl ⟨by kernel_rfl, fun wy hy => by (have q0 := (CELLS.out hy).2.1; go_simp; done)⟩) hHeld ?_
   try simp only [Act.put, List.setIfInBounds_toArray, List.set_cons_zero, List.set_cons_succ]
   refine AnyE.take (i := 33) (.int .i64 (t : Int)) rfl (by kernel_rfl) (by kernel_rfl) (by kernel_rfl) (by kernel_rfl) (fun _ _ _ h => h) (.inl ⟨by kernel_rfl, fun wy hy => by (go_simp; done)⟩) hHeld ?_
   try simp only [Act.put, List.setIfInBounds_toArray, List.set_cons_zero, List.set_cons_succ]
   refine AnyE.take (i := 34) (.pointer (some ⟨gR, t, none⟩)) rfl (by kernel_rfl) (by kernel_rfl) (by kernel_rfl) (by kernel_rfl) (fun _ _ _ h => h) (.inl ⟨by kernel_rfl, fun wy hy => by (go_simp; done)⟩) hHeld ?_
   try simp only [Act.put, List.setIfInBounds_toArray, List.set_cons_zero, List.set_cons_succ]
   refine AnyE.take (i := 35) (.pointer (some ⟨rB, 0, none⟩)) rfl (by kernel_rfl) (by kernel_rfl) (by kernel_rfl) (by kernel_rfl) (fun _ _ _ h => h) (.inl ⟨by kernel_rfl, fun wy hy => by (have q0 := (CELLS.out hy).2.2.2; go_simp; done)⟩) hHeld ?_
   try simp only [Act.put, List.setIfInBounds_toArray, List.set_cons_zero, List.set_cons_succ]
   refine AnyE.one (i := 28) rfl (by kernel_rfl) (by kernel_rfl) (fun KK hK => ?_)
   go_simp
   go_at_call 12
   have HC := free_dsk ((W1.out.later HBY4.out).pr HI.out).1.dsk
   simp only at HC
   rw [← HQ.out.1] at HC
   refine (HC).mono ?_
   rintro e5 Y5 ⟨he5, bq⟩
   subst he5
   have hHeld1 := hHeld
   have hHeld : Below X.heap.size X Y5 := hHeld1.trans (bq.mono hHeld1.size)
   have HBY5 := Lib.hid hHeld
   clear hHeld1
   clear bq HC
   go_wp2_with fail
   refine hK.out _ _ ⟨fun _ => hHeld, ?_⟩
   clear hK
   try simp only [Act.put, List.setIfInBounds_toArray, List.set_cons_zero, List.set_cons_succ]
   refine AnyE.one (i := 36) rfl (by kernel_rfl) (by kernel_rfl) (fun KK hK => ?_)
   go_simp
   go_at_call 13
   have HC := rFree_any ((W1.out.later HBY5.out).pr HI.out).1.rd
   simp only at HC
   rw [← HQ.out.2] at HC
   refine (HC).mono ?_
   rintro e6 Y6 ⟨he6, bq⟩
   subst he6
   have hHeld1 := hHeld
   have hHeld : Below X.heap.size X Y6 := hHeld1.trans (bq.mono hHeld1.size)
   have HBY6 := Lib.hid hHeld
   clear hHeld1
   clear bq HC
   go_wp2_with fail
   refine hK.out _ _ ⟨fun _ => hHeld, ?_⟩
   clear hK
   try simp only [Act.put, List.setIfInBounds_toArray, List.set_cons_zero, List.set_cons_succ]
   refine AnyE.one (i := 37) rfl (by kernel_rfl) (by kernel_rfl) (fun KK hK => ?_)
   go_simp
   refine hK.out _ _ ⟨fun _ => hHeld, ?_⟩
   clear hK
   try simp only [Act.put, List.setIfInBounds_toArray, List.set_cons_zero, List.set_cons_succ]
   refine AnyE.take (i := 38) (.bool true) rfl (by kernel_rfl) (by kernel_rfl) (by kernel_rfl) (by kernel_rfl) (fun _ _ _ h => h) (.inl ⟨by kernel_rfl, fun wy hy => by (go_simp; done)⟩) hHeld ?_
   try simp only [Act.put, List.setIfInBounds_toArray, List.set_cons_zero, List.set_cons_succ]
   refine AnyE.take (i := 39) (.bool true) rfl (by kernel_rfl) (by kernel_rfl) (by kernel_rfl) (by kernel_rfl) (fun _ _ _ h => h) (.inl ⟨by kernel_rfl, fun wy hy => by (go_simp; done)⟩) hHeld ?_
   try simp only [Act.put, List.setIfInBounds_toArray, List.set_cons_zero, List.set_cons_succ]
   refine AnyE.take (i := 40) (.pointer (some ⟨wB, 0, none⟩)) rfl (by kernel_rfl) (by kernel_rfl) (by kernel_rfl) (by kernel_rfl) (fun _ _ _ h => h) (.inl ⟨by kernel_rfl, fun wy hy => by (go_simp; done)⟩) hHeld ?_
   try simp only [Act.put, List.setIfInBounds_toArray, List.set_cons_zero, List.set_cons_succ]
   refine AnyE.take (i := 41) (.pointer (some ⟨wB, 0, none⟩)) rfl (by kernel_rfl) (by kernel_rfl) (by kernel_rfl) (by kernel_rfl) (fun _ _ _ h => h) (.inl ⟨by kernel_rfl, fun wy hy => by (go_simp; done)⟩) hHeld ?_
   try simp only [Act.put, List.setIfInBounds_toArray, List.set_cons_zero, List.set_cons_succ]
   refine AnyE.take (i := 42) (.pointer (some ⟨wB, 0, none⟩)) rfl (by kernel_rfl) (by kernel_rfl) (by kernel_rfl) (by kernel_rfl) (fun _ _ _ h => h) (.inl ⟨by kernel_rfl, fun wy hy => by (go_simp; done)⟩) hHeld ?_
   try simp only [Act.put, List.setIfInBounds_toArray, List.set_cons_zero, List.set_cons_succ]
   refine AnyE.take (i := 43) (.slice (some ⟨gD, 0, none⟩) qn cD) rfl (by kernel_rfl) (by kernel_rfl) (by kernel_rfl) (by kernel_rfl) (fun _ _ _ h => h) (.inl ⟨by kernel_rfl, fun wy hy => by (have q0 := (CELLS.out hy).1; go_simp; done)⟩) hHeld ?_
   try simp only [Act.put, List.setIfInBounds_toArray, List.set_cons_zero, List.set_cons_succ]
   refine AnyE.take (i := 44) (.int .i64 (t : Int)) rfl (by kernel_rfl) (by kernel_rfl) (by kernel_rfl) (by kernel_rfl) (fun _ _ _ h => h) (.inl ⟨by kernel_rfl, fun wy hy => by (go_simp; done)⟩) hHeld ?_
   try simp only [Act.put, List.setIfInBounds_toArray, List.set_cons_zero, List.set_cons_succ]
   refine AnyE.take (i := 45) (.pointer (some ⟨gD, t, none⟩)) rfl (by kernel_rfl) (by kernel_rfl) (by kernel_rfl) (by kernel_rfl) (fun _ _ _ h => h) (.inl ⟨by kernel_rfl, fun wy hy => by (go_simp; done)⟩) hHeld ?_
   try simp only [Act.put, List.setIfInBounds_toArray, List.set_cons_zero, List.set_cons_succ]
   refine AnyE.take (i := 46) (.pointer (some ⟨dB, 0, none⟩)) rfl (by kernel_rfl) (by kernel_rfl) (by kernel_rfl) (by kernel_rfl) (fun _ _ _ h => h) (.inl ⟨by kernel_rfl, fun wy hy => by (have q0 := (CELLS.out hy).2.2.1; go_simp; done)⟩) hHeld ?_
   try simp only [Act.put, List.setIfInBounds_toArray, List.set_cons_zero, List.set_cons_succ]
   refine AnyE.one (i := 47) rfl (by kernel_rfl) (by kernel_rfl) (fun KK hK => ?_)
   go_simp
   go_at_call 14
   have HC := down_any ((W1.out.later HBY6.out).pr HI.out).1.dsk
   simp only at HC
   rw [HDN.out] at HC
   refine (HC).mono ?_
   rintro e7 Y7 ⟨he7, hy7⟩
   subst he7
   rw [hy7]
   clear hy7 HC
   go_wp2_with fail
   refine hK.out _ _ ⟨fun _ => hHeld, ?_⟩
   clear hK
   try simp only [Act.put, List.setIfInBounds_toArray, List.set_cons_zero, List.set_cons_succ]
   refine AnyE.one (i := 48) rfl (by kernel_rfl) (by kernel_rfl) (fun KK hK => ?_)
   go_simp
   refine hK.out _ _ ⟨fun _ => hHeld, ?_⟩
   clear hK
   try simp only [Act.put, List.setIfInBounds_toArray, List.set_cons_zero, List.set_cons_succ]
   refine AnyE.one (i := 49) rfl (by kernel_rfl) (by kernel_rfl) (fun KK hK => ?_)
   go_simp
   refine hK.out _ _ ⟨fun _ => hHeld, ?_⟩
   clear hK
   try simp only [Act.put, List.setIfInBounds_toArray, List.set_cons_zero, List.set_cons_succ]
   refine AnyE.one (i := 50) rfl (by kernel_rfl) (by kernel_rfl) (fun KK hK => ?_)
   go_simp
   refine hK.out _ _ ⟨fun _ => hHeld, ?_⟩
   clear hK
   try simp only [Act.put, List.setIfInBounds_toArray, List.set_cons_zero, List.set_cons_succ]
   refine AnyE.done (by kernel_rfl) (NoPanic.normal ?_) _
   have HBF := Lib.hid hHeld
   clear hHeld
   go_simp
   go_step
   go_wp2
   go_roundw
   case rel => exact ⟨t + 1, by omega, rfl, by go_num, HBF.out⟩
   case measure => simp [intOf]; omega
  ·have j1 : (qn : Int) ≤ (t : Int) := by omega
   clear hlt
   go_wp2
   go_ret
   exact ⟨rfl, BW.out.trans (HS.out.mono BW.out.size)⟩
end Go.Proofs.Ytlkhphhmhffdjaa

namespace Go.Proofs.Ytlkhphhmhffdjaa
open Go.ChangeShapes Go.WideShapes Go.ChangeAt Go.RowKit

theorem own_knob : ownKnob Try.prog.godebug = none := by kernel_rfl
theorem laid_out : laidOutB Try.prog = true := by kernel_rfl
theorem und_int : Try.prog.underlying 3 = some (.int .i64) := by kernel_rfl
theorem und_bool : Try.prog.underlying 4 = some .bool := by kernel_rfl
theorem cells_byte : Try.prog.cellsOf 5 = 1 := by kernel_rfl
theorem cells_bytes : Try.prog.cellsOf 27 = 1 := by kernel_rfl

theorem bulk_pos {H : Type} (d : DataW H) : 1 ≤ Rows.uptoBulk d := by
 cases d with
 | lit l => cases l <;> simp [Rows.uptoBulk]
 | nil => simp [Rows.uptoBulk]
 | ptr d => simp [Rows.uptoBulk]
 | slice elems spare => simp [Rows.uptoBulk]
 | agg parts => simp [Rows.uptoBulk]
 | iface t d => simp [Rows.uptoBulk]
 | map entries => simp [Rows.uptoBulk]
 | held h => simp [Rows.uptoBulk]
theorem bulk_len {H : Type} (l : List (DataW H)) : l.length ≤ Rows.uptoBulkAll l := by
 induction l with
 | nil => simp [Rows.uptoBulkAll]
 | cons x r ih => have := bulk_pos x; simp only [Rows.uptoBulkAll, List.length_cons]; omega

theorem open_bytes {H : Type} {enc : TypeId × Value → H} {W : World} {v : Value} {d : DataW H} {p : List MemPlace} {base : Nat} {held : Bool} (h : DataW.Trod enc Try.prog W base (fun _ => true) held 27 v d p) (hs : ∃ a n c, v = .slice a n c) :
  ∃ bs : List Nat, (bs.length ≤ 281474976710656 → Rd W v bs) ∧ bs.length + 1 ≤ Rows.uptoBulk d ∧ (bs = [] ∨ ∃ elems spare, d = .slice elems spare ∧ elems.length = bs.length) := by
 obtain ⟨a, n, c, rfl⟩ := hs
 obtain ⟨fuel, hf⟩ := h
 rcases open_ints und_bytes und_byte cells_byte hf with ⟨hcs, hx⟩ | ⟨x, l, c', zs, hcs, _, hl, hm, hz, hx, hcell, hwz⟩
 ·simp [Value.cells] at hcs
  obtain ⟨rfl, rfl, rfl⟩ := hcs
  refine ⟨[], fun _ => Rd.nil W, ?_, .inl rfl⟩
  have := bulk_pos d
  simpa using this
 ·simp [Value.cells] at hcs
  obtain ⟨rfl, rfl, rfl⟩ := hcs
  simp only [if_true] at hz
  simp only [Prod.mk.injEq] at hx
  obtain ⟨rfl, _⟩ := hx
  have hby : ∀ i, i < zs.length → 0 ≤ zs.getD i 0 ∧ zs.getD i 0 < 256 := by
   intro i hi
   have hmem : zs.getD i 0 ∈ zs := by simp [List.getD, List.getElem?_eq_getElem hi]
   have := bounds_u8 (hwz _ hmem)
   omega
  refine ⟨(zs.take n).map Int.toNat, fun hlen => ⟨?_, some x, c, ?_, ?_, hm, hlen, ?_, ?_⟩, ?_, .inr ⟨_, _, rfl, by simp [lits]⟩⟩
  ·intro y hy
   simp only [List.mem_map] at hy
   obtain ⟨z, hz1, rfl⟩ := hy
   have := bounds_u8 (hwz z (List.mem_of_mem_take hz1))
   omega
  ·simp; omega
  ·simp; omega
  ·by_cases hc0 : c = 0
   ·exact .inl hc0
   ·right
    obtain ⟨b, off, spot⟩ := x
    have hc := hcell 0 (by omega)
    have hspot : spot = none := by simpa [Addr.add] using World.cell?_spot hc
    subst hspot
    exact ⟨b, off, rfl⟩
  ·by_cases hn0 : n = 0
   ·left; simp [hn0]
   ·right
    obtain ⟨b, off, spot⟩ := x
    have hc := hcell 0 (by omega)
    have hspot : spot = none := by simpa [Addr.add] using World.cell?_spot hc
    subst hspot
    refine ⟨b, off, rfl, fun i hi => ?_⟩
    have hin : i < n := by simp at hi; omega
    have hc := hcell i (by omega)
    have e : (⟨b, off, none⟩ : Addr).add i = ⟨b, off + i, none⟩ := by unfold Addr.add; split <;> simp_all
    rw [e] at hc
    rw [hc]
    have hb := hby i (by omega)
    have e2 : ((zs.take n).map Int.toNat).getD i 0 = (zs.getD i 0).toNat := by
     simp [List.getElem?_take_of_lt hin, List.getElem?_eq_getElem (show i < zs.length by omega)]
    rw [e2, Int.toNat_of_nonneg hb.1]
  ·have h1 := bulk_len (H := H) (lits .u8 (zs.take n))
   simp only [Rows.uptoBulk]
   simp [lits] at h1 ⊢
   omega

end Go.Proofs.Ytlkhphhmhffdjaa

namespace Go.Proofs.Ytlkhphhmhffdjaa
open Go.RowKit Go.MapKept Go.Sort
variable {w w' W X : World} {O O' : Nat → Prop} {dB : Nat} {d : Dk4}
def UpD (d : Dk4) : Prop := d.arm = 0 ∧ d.down = false
def wrongS (bad : ByteArray) (t : Nat) : Bool := decide (bad.size = 0 ∨ 64 < bad.size ∨ ∃ j, j < t ∧ (byt4 bad j ≤ 32 ∨ 126 < byt4 bad j))
end Go.Proofs.Ytlkhphhmhffdjaa

namespace Go.Proofs.Ytlkhphhmhffdjaa
open Go.ChangeShapes Go.WideShapes Go.ChangeAt Go.RowKit

theorem cells_strN : Try.prog.cellsOf 9 = 1 := by kernel_rfl
end Go.Proofs.Ytlkhphhmhffdjaa

namespace Go.Proofs.Ytlkhphhmhffdjaa
open Go.ChangeShapes Go.WideShapes Go.ChangeAt Go.RowKit
theorem cells_int4 : Try.prog.cellsOf 3 = 1 := by kernel_rfl
theorem und_int4 : Try.prog.underlying 3 = some (.int .i64) := by kernel_rfl
theorem slice_one4 {H : Type} {enc : TypeId × Value → H} {W : World} {base fuel : Nat} {held : Bool} {t e : TypeId} {c : Value} {x : DataW H × List MemPlace} (hu : Try.prog.underlying t = some (.slice e)) (h : DataW.trod enc Try.prog W base (fun _ => true) held fuel t [c] = some x) : (∃ a n k, c = .slice a n k) ∧ DataW.Trod enc Try.prog W base (fun _ => true) held t c x.1 x.2 := by
 have hsl : ∃ a n k, c = .slice a n k := by
  rcases DataW.trod_slice hu h with ⟨h0, _⟩ | ⟨a, len, cap, _, _, _, _, h0, _⟩
  ·simp at h0; exact ⟨_, _, _, h0⟩
  ·simp at h0; exact ⟨_, _, _, h0⟩
 refine ⟨hsl, fuel, ?_⟩
 obtain ⟨a, n, k, rfl⟩ := hsl
 simpa [Value.cells] using h
end Go.Proofs.Ytlkhphhmhffdjaa

namespace Go.Proofs.Ytlkhphhmhffdjaa
open Go.ChangeShapes Go.WideShapes Go.ChangeAt Go.RowKit

theorem und_string5 : Try.prog.underlying 9 = some .string := by kernel_rfl
set_option maxRecDepth 100000 in
theorem und_file5 : Try.prog.underlying 60 = some (.struct #[{ name := "Name", type := 9, offset := 0, embedded := false, tag := "", pkgPath := "", byteOffset := 0 }, { name := "Data", type := 27, offset := 1, embedded := false, tag := "", pkgPath := "", byteOffset := 16 }, { name := "Synced", type := 3, offset := 2, embedded := false, tag := "", pkgPath := "", byteOffset := 40 }]) := by kernel_rfl
theorem cells_file5 : Try.prog.cellsOf 60 = 3 := by kernel_rfl
theorem bulk_memL {H : Type} : ∀ {l : List (DataW H)} {d : DataW H}, d ∈ l → Rows.uptoBulk d ≤ Rows.uptoBulkAll l
 | x :: xs, d, h => by
  simp only [Rows.uptoBulkAll]
  rcases List.mem_cons.1 h with rfl | h
  ·omega
  ·have := bulk_memL h; omega
theorem bulk_least {H : Type} {k : Nat} : ∀ {l : List (DataW H)}, (∀ d ∈ l, k ≤ Rows.uptoBulk d) → l.length * k ≤ Rows.uptoBulkAll l
 | [], _ => by simp [Rows.uptoBulkAll]
 | x :: xs, h => by
  have h1 := h x (List.mem_cons_self ..)
  have h2 := bulk_least (fun d hd => h d (List.mem_cons_of_mem _ hd))
  simp only [Rows.uptoBulkAll, List.length_cons]
  rw [Nat.succ_mul]
  omega
set_option maxRecDepth 100000 in
theorem open_file5 {H : Type} {enc : TypeId × Value → H} {W : World} {base fuel : Nat} {held : Bool} {cs : List Value} {x : DataW H × List MemPlace} (h : DataW.trod enc Try.prog W base (fun _ => true) held fuel 60 cs = some x) :
  ∃ f : GF × Value, cs = [.string f.1.1, f.2, .int .i64 f.1.2.2] ∧ (f.1.2.1.length ≤ 281474976710656 → ∃ ap cp, f.2 = .slice ap f.1.2.1.length cp ∧ Rd W f.2 f.1.2.1) ∧ f.1.2.1.length + 4 ≤ Rows.uptoBulk x.1 := by
 obtain ⟨d, p⟩ := x
 obtain ⟨xs, n, hx, hdp, hcl, hxl, hf⟩ := DataW.trod_struct und_file5 h
 simp only [Prod.mk.injEq] at hdp
 obtain ⟨rfl, rfl⟩ := hdp
 rw [cells_file5] at hcl
 obtain ⟨c0, c1, c2, rfl⟩ : ∃ c0 c1 c2, cs = [c0, c1, c2] := by
  match cs, hcl with
  | [c0, c1, c2], _ => exact ⟨_, _, _, rfl⟩
 obtain ⟨x0, x1, x2, rfl⟩ : ∃ x0 x1 x2, xs = [x0, x1, x2] := by
  match xs, hxl with
  | [c0, c1, c2], _ => exact ⟨_, _, _, rfl⟩
 have f0 := hf 0 _ rfl
 have f1 := hf 1 _ rfl
 have f2 := hf 2 _ rfl
 simp [cells_int4, cells_bytes, cells_strN] at f0 f1 f2
 obtain ⟨s0, e0, b0, w0⟩ := DataW.trod_string und_string5 f0
 obtain ⟨n2, e2, b2, w2⟩ := DataW.trod_int und_int4 f2
 simp at e0 e2
 subst e0 e2
 obtain ⟨s1, t1⟩ := slice_one4 und_bytes f1
 obtain ⟨bs, hr, hrl, hrd⟩ := open_bytes t1 s1
 refine ⟨((s0, bs, n2), c1), rfl, fun hb => ?_, ?_⟩
 ·have hr2 := hr hb
  obtain ⟨_, a1, k1, e1, _⟩ := id hr2
  exact ⟨a1, k1, e1, hr2⟩
 ·simp only [List.map, Rows.uptoBulk, Rows.uptoBulkAll]
  have h0 := bulk_pos x0.1
  have h2 := bulk_pos x2.1
  omega
set_option maxRecDepth 100000 in
theorem open_files5 {H : Type} {enc : TypeId × Value → H} {W : World} {base : Nat} {held : Bool} {v : Value} {d : DataW H} {p : List MemPlace} (h0 : DataW.Trod enc Try.prog W base (fun _ => true) held 22 v d p) (hv : ∃ a n c, v = .slice a n c) (hu : Rows.uptoBulk d ≤ 1048576) :
  ∃ (fs : List (GF × Value)) (a : Option Addr) (c : Nat), v = .slice a fs.length c ∧ RdGA W (fun i => W.heap.size ≤ i) a c fs ∧ fs.length ≤ 300000 ∧ ∀ x ∈ fs, x.1.2.1.length ≤ 1048576 := by
 obtain ⟨a, n, c, rfl⟩ := hv
 obtain ⟨fuel2, hf2⟩ := h0
 rcases Deep.open_slice und_files4 hf2 with ⟨hcs, hx⟩ | ⟨x, l, c', m, k, D, Pl, hcs, _, hl, hm, hmm, hx, hel⟩
 ·simp [Value.cells] at hcs
  obtain ⟨rfl, rfl, rfl⟩ := hcs
  exact ⟨[], none, 0, rfl, ⟨⟨⟨by simp, by decide⟩, fun i x h => by simp at h, fun x h => by cases h⟩, fun g off e ne => absurd rfl ne, fun x h => by cases h⟩, by simp, fun x h => by cases h⟩
 ·simp [Value.cells] at hcs
  obtain ⟨rfl, rfl, rfl⟩ := hcs
  simp only [if_true] at hmm
  simp only [Prod.mk.injEq] at hx
  obtain ⟨hx1, _⟩ := hx
  rw [hx1] at hu
  simp only [Rows.uptoBulk] at hu
  rw [cells_file5] at hel
  have hop : ∀ i, i < n → ∃ f : GF × Value, (W.cell? ((x.add (i * 3)).add 0) = some (.string f.1.1) ∧ W.cell? ((x.add (i * 3)).add 1) = some f.2 ∧ W.cell? ((x.add (i * 3)).add 2) = some (.int .i64 f.1.2.2)) ∧ (f.1.2.1.length ≤ 281474976710656 → ∃ ap cp, f.2 = .slice ap f.1.2.1.length cp ∧ Rd W f.2 f.1.2.1) ∧ f.1.2.1.length + 4 ≤ Rows.uptoBulk (D i) := by
   intro i hi
   obtain ⟨cs', hc1, hc2⟩ := hel i (by omega)
   obtain ⟨f, rfl, hr⟩ := open_file5 hc2
   obtain ⟨_, hlen, hget⟩ := World.cells?_some hc1
   exact ⟨f, ⟨by rw [hget 0 (by omega)]; rfl, by rw [hget 1 (by omega)]; rfl, by rw [hget 2 (by omega)]; rfl⟩, hr⟩
  have hmem : ∀ i, i < n → D i ∈ (List.range n).map D := fun i hi => List.mem_map.2 ⟨i, List.mem_range.2 hi, rfl⟩
  have hcnt : n * 4 ≤ Rows.uptoBulkAll ((List.range n).map D) := by
   have := bulk_least (k := 4) (l := (List.range n).map D) (fun d hd => by
    obtain ⟨i, hi, rfl⟩ := List.mem_map.1 hd
    obtain ⟨f, _, _, h4⟩ := hop i (List.mem_range.1 hi)
    omega)
   simpa using this
  have build : ∀ q, q ≤ n → ∃ fs : List (GF × Value), fs.length = q ∧ ∀ i f, fs[i]? = some f → (W.cell? ((x.add (i * 3)).add 0) = some (.string f.1.1) ∧ W.cell? ((x.add (i * 3)).add 1) = some f.2 ∧ W.cell? ((x.add (i * 3)).add 2) = some (.int .i64 f.1.2.2)) ∧ (f.1.2.1.length ≤ 281474976710656 → ∃ ap cp, f.2 = .slice ap f.1.2.1.length cp ∧ Rd W f.2 f.1.2.1) ∧ f.1.2.1.length + 4 ≤ Rows.uptoBulk (D i) := by
   intro q
   induction q with
   | zero => intro _; exact ⟨[], rfl, fun i o h => by simp at h⟩
   | succ q ih =>
    intro hq
    obtain ⟨os, hol, hos⟩ := ih (by omega)
    obtain ⟨o, ho⟩ := hop q (by omega)
    refine ⟨os ++ [o], by simp [hol], fun i o' h => ?_⟩
    by_cases hi : i < os.length
    ·rw [List.getElem?_append_left hi] at h
     exact hos i o' h
    ·rw [List.getElem?_append_right (by omega)] at h
     have hi2 : i = q := by
      by_cases h9 : i - os.length = 0
      ·omega
      ·rw [List.getElem?_eq_none (by simp; omega)] at h; cases h
     subst hi2
     rw [hol, Nat.sub_self] at h
     simp at h
     subst h
     exact ho
  obtain ⟨fs, hol, hos⟩ := build n (Nat.le_refl _)
  have hlen : ∀ (i : Nat) (f : GF × Value), fs[i]? = some f → f.1.2.1.length ≤ 1048576 := fun i f hi => by
   have h1 := (hos i f hi).2.2
   have hin : i < n := by have := (List.getElem?_eq_some_iff.1 hi).1; omega
   have h2 := bulk_memL (hmem i hin)
   omega
  have spot0 : ∀ (i : Nat) (f : GF × Value), fs[i]? = some f → ∃ b off, x = ⟨b, off, none⟩ := fun i f hi => by
   obtain ⟨b, off, spot⟩ := x
   obtain ⟨o, ⟨hc0, _⟩, _⟩ := hop 0 (by have := (List.getElem?_eq_some_iff.1 hi).1; omega)
   have hspot : spot = none := by simpa [Addr.add] using World.cell?_spot hc0
   exact ⟨b, off, by rw [hspot]⟩
  have e : ∀ b q r : Nat, ((⟨b, q, none⟩ : Addr).add r) = ⟨b, q + r, none⟩ := fun b q r => by unfold Addr.add; split <;> simp_all
  refine ⟨fs, some x, c, by rw [hol], ⟨⟨⟨by omega, hm⟩, fun i f hi => ?_, fun f hf => ?_⟩, fun g off ea ne hg => ?_, fun f hf b off n2 c2 ef hn hb => ?_⟩, by omega, fun f hf => ?_⟩
  ·obtain ⟨b, off, rfl⟩ := spot0 i f hi
   have h1 := (hos i f hi).1
   simp only [e] at h1
   exact ⟨b, off, rfl, by simpa using h1.1, h1.2.1, h1.2.2⟩
  ·obtain ⟨i, hi⟩ := List.getElem?_of_mem hf
   have h5 := hlen i f hi
   exact (hos i f hi).2.1 (by omega)
  ·cases hfs : fs with
   | nil => exact ne hfs
   | cons y ys =>
    have h1 := (hos 0 y (by rw [hfs]; rfl)).1.1
    have := World.block_lt_of_cell? _ _ h1
    cases ea
    simp only [e] at this
    omega
  ·obtain ⟨i, hi⟩ := List.getElem?_of_mem hf
   have h5 := hlen i f hi
   obtain ⟨ap, cp, _, hr⟩ := (hos i f hi).2.1 (by omega)
   rw [ef] at hr
   have := hr.blk_lt hn
   omega
  ·obtain ⟨i, hi⟩ := List.getElem?_of_mem hf
   exact hlen i f hi
theorem wf_min5 {n : Int} (h : (Lit.int .i64 n).wf = true) : -9223372036854775808 ≤ n ∧ n ≤ 9223372036854775807 := by
 have e1 : IntKind.i64.min = -9223372036854775808 := by decide
 have e2 : IntKind.i64.max = 9223372036854775807 := by decide
 simp only [Lit.wf, e1, e2, Bool.and_eq_true, decide_eq_true_eq] at h
 exact h
end Go.Proofs.Ytlkhphhmhffdjaa
