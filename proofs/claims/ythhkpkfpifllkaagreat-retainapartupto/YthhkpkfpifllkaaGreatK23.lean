import Derived.Test.YthhkpkfpifllkaaGreatK22
namespace Go.Proofs.YthhkpkfpifllkaaGreat
open Go.RowKit
set_option linter.unusedVariables false

def quad {α : Type} (a b c d : α) : Nat → α := fun s => if s = 0 then a else if s = 1 then b else if s = 2 then c else d
theorem dSort_ne (l : List EntD) : (dSort l).Pairwise fun a b => a.seq ≠ b.seq := by
  unfold dSort
  split
  · unfold ordOf
    split
    · rename_i h
      exact (Classical.choose_spec h).ne
    · exact List.Pairwise.nil
  · exact List.Pairwise.nil
theorem lt_quad {s : Nat} (h : s < 4) : s = 0 ∨ s = 1 ∨ s = 2 ∨ s = 3 := by omega
set_option maxRecDepth 100000 in
theorem mrn_start {V y1 y2 y3 y4 y5 X0 : World} {N g nB NL : Nat} {Ds : List (List En)} {P : Nat → Prop} {OF OR : List Vd → List En} {fs : List FamD} {clock : Int} {ins : List En} {ai : Option Addr} {ci : Nat} {zi : List EntD} {pf pg pr pq : Option Addr} {Jf Jg Jr Jq : Nat → Prop} (kp : Kpt V N g Ds nB P) (hN : N ≤ V.heap.size) (oi : OwL V y1 NL ins ai ci zi) (b1 : Below V.heap.size V y1)
    (Lf : Lane y2 N OF 70 fs clock ins pf 0 0 (.slice none 0 0) Jf) (jf : ∀ i, Jf i → y1.heap.size ≤ i) (b2 : Below y1.heap.size y1 y2)
    (Lg : Lane y3 N OF 70 fs clock ins pg 0 0 (.slice none 0 0) Jg) (jg : ∀ i, Jg i → y2.heap.size ≤ i) (b3 : Below y2.heap.size y2 y3)
    (Lr : Lane y4 N OR 71 fs clock ins pr 0 0 (.slice none 0 0) Jr) (jr : ∀ i, Jr i → y3.heap.size ≤ i) (b4 : Below y3.heap.size y3 y4)
    (Lq : Lane y5 N OR 71 fs clock ins pq 0 0 (.slice none 0 0) Jq) (jq : ∀ i, Jq i → y4.heap.size ≤ i) (b5 : Below y4.heap.size y4 y5)
    (bl : Below N X0 V) (hD : Ds.length = 25) (hnB : nB ≤ 78643200) :
    MrS (y5.alloc (.cells #[.slice none 0 0, .slice none 0 0, .slice none 0 0, .slice none 0 0] 79)) X0 N g y5.heap.size OF OR fs clock ins Ds ai ci zi (fun k => V.heap.size ≤ k ∧ k < y1.heap.size) (quad pf pg pr pq) 0 0 := by
  obtain ⟨X, hX⟩ : ∃ Y, Y = y5.alloc (.cells #[.slice none 0 0, .slice none 0 0, .slice none 0 0, .slice none 0 0] 79) := ⟨_, rfl⟩
  have A : Below y5.heap.size y5 X := by rw [hX]; exact (Below.refl _ _).alloc (Nat.le_refl _) _
  have sX : X.heap.size = y5.heap.size + 1 := by rw [hX]; exact World.size_alloc _ _
  have hbox : X.heap[y5.heap.size]? = some (.cells #[.slice none 0 0, .slice none 0 0, .slice none 0 0, .slice none 0 0] 79 (0, 0)) := by rw [hX]; exact heap_new y5 _
  have s1 := b1.size
  have s2 := b2.size
  have s3 := b3.size
  have s4 := b4.size
  have s5 := b5.size
  have u4 : Below y4.heap.size y4 X := b5.trans (A.mono b5.size)
  have u3 : Below y3.heap.size y3 X := b4.trans (u4.mono b4.size)
  have u2 : Below y2.heap.size y2 X := b3.trans (u3.mono b3.size)
  have u1 : Below y1.heap.size y1 X := b2.trans (u2.mono b2.size)
  have u0 : Below V.heap.size V X := b1.trans (u1.mono b1.size)
  have lf := Lf.keep u2.size (fun i hi => u2.block i (Lf.lt i hi).2)
  have lg := Lg.keep u3.size (fun i hi => u3.block i (Lg.lt i hi).2)
  have lr := Lr.keep u4.size (fun i hi => u4.block i (Lr.lt i hi).2)
  have lq := Lq.keep A.size (fun i hi => A.block i (Lq.lt i hi).2)
  have rng : ∀ s k, s < 4 → quad Jf Jg Jr Jq s k → y1.heap.size ≤ k ∧ k < y5.heap.size := fun s k hs hk => by
    rcases lt_quad hs with rfl | rfl | rfl | rfl
    · have x1 := jf k hk; have x2 := (Lf.lt k hk).2; omega
    · have x1 := jg k hk; have x2 := (Lg.lt k hk).2; omega
    · have x1 := jr k hk; have x2 := (Lr.lt k hk).2; omega
    · have x1 := jq k hk; have x2 := (Lq.lt k hk).2; omega
  rw [← hX]
  refine ⟨Ds, nB, P, (fun _ => 0), (fun _ => 0), (fun _ => .slice none 0 0), quad Jf Jg Jr Jq, (fun _ => 0), ⟨kp.later u0, (oi.rw_.keep (fun i hi => u1.block i hi.2)).low hN, oi.dat, oi.sm, hbox, fun s hs => ?_, fun s u k hs hu hne hk z => ?_, fun s k hs hk => ?_, fun k hk => ?_, fun z => ?_, ⟨by omega, by omega⟩, fun k hk => ?_⟩, fun s hs => ⟨by rw [if_neg (by omega)], by rw [if_neg (by omega)]⟩, bl.trans (u0.mono hN), by omega, ⟨[], by rw [List.append_nil]⟩, fun s hs => ⟨none, 0, rfl, Nat.zero_le _⟩, by omega⟩
  · rcases lt_quad hs with rfl | rfl | rfl | rfl
    · exact lf
    · exact lg
    · exact lr
    · exact lq
  · rcases lt_quad hs with rfl | rfl | rfl | rfl <;> rcases lt_quad hu with rfl | rfl | rfl | rfl
    · exact hne rfl
    · have x1 := (Lf.lt k hk).2; have x2 := jg k z; omega
    · have x1 := (Lf.lt k hk).2; have x2 := jr k z; omega
    · have x1 := (Lf.lt k hk).2; have x2 := jq k z; omega
    · have x1 := (Lf.lt k z).2; have x2 := jg k hk; omega
    · exact hne rfl
    · have x1 := (Lg.lt k hk).2; have x2 := jr k z; omega
    · have x1 := (Lg.lt k hk).2; have x2 := jq k z; omega
    · have x1 := (Lf.lt k z).2; have x2 := jr k hk; omega
    · have x1 := (Lg.lt k z).2; have x2 := jr k hk; omega
    · exact hne rfl
    · have x1 := (Lr.lt k hk).2; have x2 := jq k z; omega
    · have x1 := (Lf.lt k z).2; have x2 := jq k hk; omega
    · have x1 := (Lg.lt k z).2; have x2 := jq k hk; omega
    · have x1 := (Lr.lt k z).2; have x2 := jq k hk; omega
    · exact hne rfl
  · have x := rng s k hs hk
    exact ⟨fun z => by have := (kp.lt k z).2; omega, fun z => by have := z.2; omega, by omega⟩
  · have x := (kp.lt k hk).2
    exact ⟨fun z => by have := z.1; omega, by omega⟩
  · have := z.2
    omega
  · exact ⟨by have := hk.1; omega, by have := hk.2; omega⟩
theorem MrS.fin {w X0 : World} {N g go : Nat} {OF OR : List Vd → List En} {fs : List FamD} {clock : Int} {ins : List En} {Ds0 : List (List En)} {ai : Option Addr} {ci : Nat} {zi : List EntD} {Fi : Nat → Prop} {pf pg pr pq : Option Addr} (h : MrS w X0 N g go OF OR fs clock ins Ds0 ai ci zi Fi (quad pf pg pr pq) (ins.length + 1) 0) (hfg : pf = none ↔ pg = none) (hrq : pr = none ↔ pq = none) (hin : ins.length ≤ 1048576) : ∃ Ds nB P a0 n0 c0 a1 n1 c1 a2 n2 c2 a3 n3 c3 z0 z1 z2 z3, Kpt w N g Ds nB P ∧ N ≤ w.heap.size ∧ Below N X0 w ∧ (∃ Dx, Ds = Ds0 ++ Dx) ∧ Ds.length ≤ 5000000 ∧ nB ≤ 100000000 ∧ w.heap[go]? = some (.cells #[.slice a0 n0 c0, .slice a1 n1 c1, .slice a2 n2 c2, .slice a3 n3 c3] 79 (0, 0)) ∧ (n0 = z0.length ∧ n1 = z1.length ∧ n2 = z2.length ∧ n3 = z3.length) ∧ (RdL3 w a0 c0 z0 ∧ RdL3 w a1 c1 z1 ∧ RdL3 w a2 c2 z2 ∧ RdL3 w a3 c3 z3) ∧ z0.map EntD.dat = z1.map EntD.dat ∧ z2.map EntD.dat = z3.map EntD.dat ∧ z0.length ≤ 1048576 ∧ z2.length ≤ 1048576 := by
  obtain ⟨Ds, nB, P, ts, tq, vo, J, lo, mr, hts, bl, hdl, hdx, hlo, hnb⟩ := h
  have t0 := (hts 0 (by omega)).2
  have t1 := (hts 1 (by omega)).2
  have t2 := (hts 2 (by omega)).2
  have t3 := (hts 3 (by omega)).2
  rw [if_neg (by omega), Nat.add_zero] at t0 t1 t2 t3
  have l0 := mr.ln 0 (by omega)
  have l1 := mr.ln 1 (by omega)
  have l2 := mr.ln 2 (by omega)
  have l3 := mr.ln 3 (by omega)
  rw [t0] at l0
  rw [t1] at l1
  rw [t2] at l2
  rw [t3] at l3
  obtain ⟨a0, n0, c0, z0, e0, x0, r0, d0, m0⟩ := l0.form
  obtain ⟨a1, n1, c1, z1, e1, x1, r1, d1, m1⟩ := l1.form
  obtain ⟨a2, n2, c2, z2, e2, x2, r2, d2, m2⟩ := l2.form
  obtain ⟨a3, n3, c3, z3, e3, x3, r3, d3, m3⟩ := l3.form
  have hb := mr.box
  rw [e0, e1, e2, e3] at hb
  obtain ⟨_, _, _, q0⟩ := hlo 0 (by omega)
  obtain ⟨_, _, _, q1⟩ := hlo 1 (by omega)
  obtain ⟨_, _, _, q2⟩ := hlo 2 (by omega)
  obtain ⟨_, _, _, q3⟩ := hlo 3 (by omega)
  refine ⟨Ds, nB, P, a0, n0, c0, a1, n1, c1, a2, n2, c2, a3, n3, c3, z0, z1, z2, z3, mr.kpt, mr.nle, bl, hdx, by omega, by omega, hb, ⟨x0, x1, x2, x3⟩, ⟨r0, r1, r2, r3⟩, ?_, ?_, m0, m2⟩
  · rw [d0, d1]
    show (if pf = none then [] else _) = (if pg = none then [] else _)
    by_cases z : pf = none
    · rw [if_pos z, if_pos (hfg.1 z)]
    · rw [if_neg z, if_neg (fun y => z (hfg.2 y))]
      rfl
  · rw [d2, d3]
    show (if pr = none then [] else _) = (if pq = none then [] else _)
    by_cases z : pr = none
    · rw [if_pos z, if_pos (hrq.1 z)]
    · rw [if_neg z, if_neg (fun y => z (hrq.2 y))]
      rfl
end Go.Proofs.YthhkpkfpifllkaaGreat
