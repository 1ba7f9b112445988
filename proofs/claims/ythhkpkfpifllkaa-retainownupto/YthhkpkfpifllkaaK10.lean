import Derived.Test.YthhkpkfpifllkaaK09
namespace Go.Proofs.Ythhkpkfpifllkaa
open Go.RowKit Go.Maps
set_option linter.unusedVariables false

set_option maxRecDepth 100000 in
set_option maxHeartbeats 1000000 in
theorem copied3_any {v : Value} {bs : List Nat} {w : World} (hr : Rd w v bs) (hl : bs.length ≤ 140737488355328) :
    Calls Try.prog 32 #[v] w fun e w' => ∃ a m c, e = .returned (.slice a m c) ∧ Own w' w.heap.size (.slice a m c) m bs ∧ Below w.heap.size w w' := by
  obtain ⟨a, n, cap, rfl⟩ := rd_slice hr
  obtain ⟨hn, hle, hm, hl48⟩ := rd_lens hr
  rw [← hn] at hl
  clear hn
  go_enter Try.func32, Try.ntmps32
  go_wp2_with (at_builtin; refine wpList_append_at rfl _ _ rfl w.heap.size none 0 0 [] rfl ⟨rfl, World.ownsRow_nil _ _ _ _⟩ a n cap bs rfl hr (by omega) (Nat.le_refl _) ?_; intro a5 m5 c5 w5 own5 hb5)
  go_ret
  exact ⟨a5, m5, c5, rfl, by simpa using own5, hb5⟩
def Shrt (e : EntD) : Prop := e.row.length ≤ 140737488355328 ∧ e.qual.length ≤ 140737488355328 ∧ e.val.length ≤ 140737488355328
set_option maxRecDepth 100000 in
set_option maxHeartbeats 8000000 in
theorem cloneR_own {w : World} {e : EntD} (hx : EntD.Ok w e) (hl : Shrt e) :
    Calls Try.prog 19 #[.agg e.cells] w fun z w' => ∃ x : EntD, z = .returned (.agg x.cells) ∧ EntD.Same x e ∧ EOk (fun i => w.heap.size ≤ i) w' x ∧ O3 w' w.heap.size x ∧ Below w.heap.size w w' := by
  have A1 := (Below.refl w.heap.size w).alloc (Nat.le_refl _) (.cells e.cells 45)
  have bx0 := EBox.new w e
  obtain ⟨zc, hz⟩ : ∃ zc : Array Value, zc = #[.slice none 0 0, .int .i64 0, .slice none 0 0, .int .i64 0, .int .i64 0, .int .i64 0, .slice none 0 0] := ⟨_, rfl⟩
  have A2 := A1.alloc A1.size (.cells zc 45)
  have bx := bx0.later ((Below.refl (w.alloc (.cells e.cells 45)).heap.size _).alloc (Nat.le_refl _) (.cells zc 45))
  have rz : ((w.alloc (.cells e.cells 45)).alloc (.cells zc 45)).heap[w.heap.size + 1]? = some (.cells zc 45 (0, 0)) := by
    show ((w.alloc (.cells e.cells 45)).heap.push _)[w.heap.size + 1]? = _
    have e1 : w.heap.size + 1 = (w.alloc (.cells e.cells 45)).heap.size := (World.size_alloc w _).symm
    rw [e1]
    exact Array.getElem?_push_size
  obtain ⟨W, hW⟩ : ∃ W, W = (w.alloc (.cells e.cells 45)).alloc (.cells zc 45) := ⟨_, rfl⟩
  rw [← hW] at A2 bx rz
  have HW : Hid (W = _) := hW
  have hwl : w.heap.size + 1 < W.heap.size := by rw [hW]; simp
  clear hW A1 bx0
  have HK : Hid (∀ wx, Below w.heap.size w wx → EntD.Ok wx e) := fun wx b => hx.later b
  have HRZ := Lib.hid rz
  have HBX := Lib.hid bx
  have HA : Hid (Below w.heap.size w W) := A2
  have HY : Hid (Bys e.row ∧ Bys e.qual ∧ Bys e.val) := ⟨hx.1.1, hx.2.1.1, hx.2.2.1⟩
  have HL : Hid (Shrt e) := hl
  obtain ⟨vr, fam, vq, ts, seq, kind, vv, row, qual, val⟩ := e
  subst hz
  simp only [EntD.cells] at *
  have C1 : Hid (∀ wx, Below w.heap.size w wx → Calls Try.prog 32 #[vr] wx _) := fun wx b => copied3_any (HK.out _ b).1 HL.out.1
  have C2 : Hid (∀ wx, Below w.heap.size w wx → Calls Try.prog 32 #[vq] wx _) := fun wx b => copied3_any (HK.out _ b).2.1 HL.out.2.1
  have C3 : Hid (∀ wx, Below w.heap.size w wx → Calls Try.prog 32 #[vv] wx _) := fun wx b => copied3_any (HK.out _ b).2.2 HL.out.2.2
  have y0 : W.cell? ⟨w.heap.size, 0, none⟩ = some vr := bx.vr
  clear A2 bx rz hl hx
  go_enter Try.func19, Try.ntmps19
  go_wp2_with fail
  rw [← HW.out]
  clear HW
  go_wp2_with fail
  refine Calls.mono (C1.out _ HA.out) ?_
  rintro e1 w1 ⟨a1, m1, c1, rfl, o1, b1⟩
  have B1 := Lib.hid (HA.out.trans (b1.mono HA.out.size))
  have bx1 := HBX.out.later b1
  have g0 := bx1.fzA 0
  have v0 := bx1.vr
  have HO1 := Lib.hid (And.intro o1 (And.intro b1 bx1))
  clear o1 b1 bx1 y0
  go_upto_region 2 with fail
  have bx1 := HO1.out.2.2.put0 (.slice a1 m1 c1)
  have B1' := B1.out.setCell (p := ⟨w.heap.size, 0, none⟩) (Nat.le_refl _) (.slice a1 m1 c1)
  have K1 : KpG (fun i => W.heap.size ≤ i) w1 (w1.setCell ⟨w.heap.size, 0, none⟩ (.slice a1 m1 c1)) := (KpG.refl _ w1).setCell (by omega) _ _
  have R1 := (Below.heap_setCell w1 ⟨w.heap.size, 0, none⟩ (.slice a1 m1 c1) (w.heap.size + 1) (by show w.heap.size + 1 ≠ w.heap.size; omega)).trans ((HO1.out.2.1.block _ hwl).trans HRZ.out)
  have S1 : (w1.setCell ⟨w.heap.size, 0, none⟩ (.slice a1 m1 c1)).heap.size = w1.heap.size := World.size_setCell _ _ _
  generalize w1.setCell ⟨w.heap.size, 0, none⟩ (.slice a1 m1 c1) = X1 at *
  have y2 := bx1.vq
  have H1 := Lib.hid (And.intro bx1 (And.intro B1' (And.intro K1 (And.intro R1 S1))))
  clear bx1 B1' K1 R1 S1 v0 g0
  go_wp2_with fail
  refine Calls.mono (C2.out _ H1.out.2.1) ?_
  rintro e2 w2 ⟨a2, m2, c2, rfl, o2, b2⟩
  have bx2 := H1.out.1.later b2
  have g2 := bx2.fzA 2
  have v2 := bx2.vq
  have B2 := Lib.hid (H1.out.2.1.trans (b2.mono H1.out.2.1.size))
  have HO2 := Lib.hid (And.intro o2 (And.intro b2 bx2))
  clear o2 b2 bx2 y2
  go_upto_region 3 with fail
  have bx2 := HO2.out.2.2.put2 (.slice a2 m2 c2)
  have B2' := B2.out.setCell (p := ⟨w.heap.size, 2, none⟩) (Nat.le_refl _) (.slice a2 m2 c2)
  have K2 : KpG (fun i => W.heap.size ≤ i) w2 (w2.setCell ⟨w.heap.size, 2, none⟩ (.slice a2 m2 c2)) := (KpG.refl _ w2).setCell (by omega) _ _
  have sW1 : W.heap.size ≤ X1.heap.size := by rw [H1.out.2.2.2.2]; exact HO1.out.2.1.size
  have R2 := (Below.heap_setCell w2 ⟨w.heap.size, 2, none⟩ (.slice a2 m2 c2) (w.heap.size + 1) (by show w.heap.size + 1 ≠ w.heap.size; omega)).trans ((HO2.out.2.1.block (w.heap.size + 1) (by omega)).trans H1.out.2.2.2.1)
  have S2 : (w2.setCell ⟨w.heap.size, 2, none⟩ (.slice a2 m2 c2)).heap.size = w2.heap.size := World.size_setCell _ _ _
  generalize w2.setCell ⟨w.heap.size, 2, none⟩ (.slice a2 m2 c2) = X2 at *
  have y6 := bx2.vv
  have H2 := Lib.hid (And.intro bx2 (And.intro B2' (And.intro K2 (And.intro R2 S2))))
  clear bx2 B2' K2 R2 S2 v2 g2
  go_wp2_with fail
  refine Calls.mono (C3.out _ H2.out.2.1) ?_
  rintro e3 w3 ⟨a3, m3, c3, rfl, o3, b3⟩
  have bx3 := H2.out.1.later b3
  have g6 := bx3.fzA 6
  have v6 := bx3.vv
  have B3 := Lib.hid (H2.out.2.1.trans (b3.mono H2.out.2.1.size))
  have HO3 := Lib.hid (And.intro o3 (And.intro b3 bx3))
  clear o3 b3 bx3 y6
  go_upto_region 4 with fail
  have sW2 : W.heap.size ≤ X2.heap.size := by rw [H2.out.2.2.2.2]; exact Nat.le_trans sW1 HO2.out.2.1.size
  have BF := HO3.out.2.2.put6 (.slice a3 m3 c3)
  have BW := B3.out.setCell (p := ⟨w.heap.size, 6, none⟩) (Nat.le_refl _) (.slice a3 m3 c3)
  have K3 : KpG (fun i => W.heap.size ≤ i) w3 (w3.setCell ⟨w.heap.size, 6, none⟩ (.slice a3 m3 c3)) := (KpG.refl _ w3).setCell (by omega) _ _
  have RZ := (Below.heap_setCell w3 ⟨w.heap.size, 6, none⟩ (.slice a3 m3 c3) (w.heap.size + 1) (by show w.heap.size + 1 ≠ w.heap.size; omega)).trans ((HO3.out.2.1.block (w.heap.size + 1) (by omega)).trans H2.out.2.2.2.1)
  generalize w3.setCell ⟨w.heap.size, 6, none⟩ (.slice a3 m3 c3) = WF at *
  obtain ⟨o1, b1, -⟩ := HO1.out
  obtain ⟨o2, b2, -⟩ := HO2.out
  obtain ⟨o3, b3, -⟩ := HO3.out
  have q1 := H1.out.2.2.2.2
  have q2 := H2.out.2.2.2.2
  have l1 : ∀ g, (Value.slice a1 m1 c1).ownBlock = some g → W.heap.size ≤ g ∧ g < w1.heap.size := fun g hg => o1.2.lt g hg
  have l2 : ∀ g, (Value.slice a2 m2 c2).ownBlock = some g → w1.heap.size ≤ g ∧ g < w2.heap.size := fun g hg => by have := o2.2.lt g hg; omega
  have l3 : ∀ g, (Value.slice a3 m3 c3).ownBlock = some g → w2.heap.size ≤ g ∧ g < w3.heap.size := fun g hg => by have := o3.2.lt g hg; omega
  have s1 : W.heap.size ≤ w1.heap.size := b1.size
  have s2 : X1.heap.size ≤ w2.heap.size := b2.size
  have s3 : X2.heap.size ≤ w3.heap.size := b3.size
  have k3 : ∀ g, W.heap.size ≤ g → g < w3.heap.size → WF.heap[g]? = w3.heap[g]? := fun g h h' => K3.block g h' h
  have k2 : ∀ g, W.heap.size ≤ g → g < w2.heap.size → WF.heap[g]? = w2.heap[g]? := fun g h h' => (k3 g h (by omega)).trans ((b3.block g (by omega)).trans (H2.out.2.2.1.block g h' h))
  have k1 : ∀ g, W.heap.size ≤ g → g < w1.heap.size → WF.heap[g]? = w1.heap[g]? := fun g h h' => (k2 g h (by omega)).trans ((b2.block g (by omega)).trans (H1.out.2.2.1.block g h' h))
  have p1 := (own_same o1 (fun g hg => k1 g (l1 g hg).1 (l1 g hg).2)).base (fun g hg => (l1 g hg).1) o1.len
  have p2 := (own_same o2 (fun g hg => k2 g (by have := l2 g hg; omega) (l2 g hg).2)).base (fun g hg => Nat.le_trans s1 (l2 g hg).1) o2.len
  have p3 := (own_same o3 (fun g hg => k3 g (by have := l3 g hg; omega) (l3 g hg).2)).base (fun g hg => Nat.le_trans s1 (Nat.le_trans (by omega) (l3 g hg).1)) o3.len
  have HE : Hid (EOk (fun i => W.heap.size ≤ i) WF ⟨.slice a1 m1 c1, fam, .slice a2 m2 c2, ts, seq, kind, .slice a3 m3 c3, row, qual, val⟩) := ⟨RdG.of_own p1 HY.out.1 (by have := HL.out.1; rw [p1.len]; simp only at this; omega) (fun i hi => hi), RdG.of_own p2 HY.out.2.1 (by have := HL.out.2.1; rw [p2.len]; simp only at this; omega) (fun i hi => hi), RdG.of_own p3 HY.out.2.2 (by have := HL.out.2.2; rw [p3.len]; simp only at this; omega) (fun i hi => hi)⟩
  have HO : Hid (O3 WF W.heap.size ⟨.slice a1 m1 c1, fam, .slice a2 m2 c2, ts, seq, kind, .slice a3 m3 c3, row, qual, val⟩) := by
    refine ⟨p1, p2, p3, fun g h k => ?_, fun g h k => ?_, fun g h k => ?_⟩
    · have := l1 g h; have := l2 g k; omega
    · have := l1 g h; have := l3 g k; omega
    · have := l2 g h; have := l3 g k; omega
  have HBW : Hid (Below w.heap.size w WF) := BW
  obtain ⟨y0', y1', y2', y3', y4', y5', y6'⟩ := (⟨BF.vr, BF.fam, BF.vq, BF.ts, BF.seq, BF.kind, BF.vv⟩ : _ ∧ _ ∧ _ ∧ _ ∧ _ ∧ _ ∧ _)
  simp only at y0' y1' y2' y3' y4' y5' y6'
  have z0 : WF.cell? ⟨w.heap.size + 1, 0, none⟩ = some (.slice none 0 0) := by simp [World.cell?, RZ]
  have f0 : WF.frozen? ⟨w.heap.size + 1, 0, none⟩ = false := by simp [World.frozen?, RZ]
  have z1 : WF.cell? ⟨w.heap.size + 1, 1, none⟩ = some (.int .i64 0) := by simp [World.cell?, RZ]
  have f1 : WF.frozen? ⟨w.heap.size + 1, 1, none⟩ = false := by simp [World.frozen?, RZ]
  have z2 : WF.cell? ⟨w.heap.size + 1, 2, none⟩ = some (.slice none 0 0) := by simp [World.cell?, RZ]
  have f2 : WF.frozen? ⟨w.heap.size + 1, 2, none⟩ = false := by simp [World.frozen?, RZ]
  have z3 : WF.cell? ⟨w.heap.size + 1, 3, none⟩ = some (.int .i64 0) := by simp [World.cell?, RZ]
  have f3 : WF.frozen? ⟨w.heap.size + 1, 3, none⟩ = false := by simp [World.frozen?, RZ]
  have z4 : WF.cell? ⟨w.heap.size + 1, 4, none⟩ = some (.int .i64 0) := by simp [World.cell?, RZ]
  have f4 : WF.frozen? ⟨w.heap.size + 1, 4, none⟩ = false := by simp [World.frozen?, RZ]
  have z5 : WF.cell? ⟨w.heap.size + 1, 5, none⟩ = some (.int .i64 0) := by simp [World.cell?, RZ]
  have f5 : WF.frozen? ⟨w.heap.size + 1, 5, none⟩ = false := by simp [World.frozen?, RZ]
  have z6 : WF.cell? ⟨w.heap.size + 1, 6, none⟩ = some (.slice none 0 0) := by simp [World.cell?, RZ]
  have f6 : WF.frozen? ⟨w.heap.size + 1, 6, none⟩ = false := by simp [World.frozen?, RZ]
  clear RZ BF K3 BW o1 o2 o3 b1 b2 b3 v6 g6 l1 l2 l3 k1 k2 k3 p1 p2 p3 q1 q2 s1 s2 s3 H1 H2 HO1 HO2 HO3 B1 B2 B3 C1 C2 C3 sW1 sW2 HK
  go_wp2
  refine bodyPost_ret (v := .agg #[.slice a1 m1 c1, .int .i64 fam, .slice a2 m2 c2, .int .i64 ts, .int .i64 seq, .int .i64 kind, .slice a3 m3 c3]) (by simp [results, Try.results19, go_sem, z0, z1, z2, z3, z4, z5, z6]) rfl ?_
  refine ⟨⟨.slice a1 m1 c1, fam, .slice a2 m2 c2, ts, seq, kind, .slice a3 m3 c3, row, qual, val⟩, rfl, ⟨rfl, rfl, rfl, rfl, rfl, rfl, rfl⟩, ?_, ?_, ?_⟩
  · refine (HE.out.kept ?_).mono (fun i hi => Nat.le_trans HA.out.size hi)
    exact (((((((KpG.refl _ WF).setCell (by omega) _ _).setCell (by omega) _ _).setCell (by omega) _ _).setCell (by omega) _ _).setCell (by omega) _ _).setCell (by omega) _ _).setCell (by omega) _ _
  · refine (HO.out.kept ?_).mono HA.out.size
    exact (((((((KpG.refl _ WF).setCell (by omega) _ _).setCell (by omega) _ _).setCell (by omega) _ _).setCell (by omega) _ _).setCell (by omega) _ _).setCell (by omega) _ _).setCell (by omega) _ _
  · exact ((((((HBW.out.setCell (Nat.le_succ _) _).setCell (Nat.le_succ _) _).setCell (Nat.le_succ _) _).setCell (Nat.le_succ _) _).setCell (Nat.le_succ _) _).setCell (Nat.le_succ _) _).setCell (Nat.le_succ _) _
end Go.Proofs.Ythhkpkfpifllkaa

namespace Go.Proofs.Ythhkpkfpifllkaa
open Go.RowKit Go.Maps
set_option linter.unusedVariables false

structure Cl (W wr : World) (zs : List EntD) (v : Value) : Prop where
  row : wr.ownsRow W.heap.size 45 7 v zs.length (evals zs)
  ents : ∀ x ∈ zs, O3 wr W.heap.size x
  ap : zs.Pairwise Dsj
  below : Below W.heap.size W wr
theorem Cl.rw {W wr : World} {zs : List EntD} {v : Value} (h : Cl W wr zs v) : Rw wr W.heap.size v zs (fun i => W.heap.size ≤ i ∧ i < wr.heap.size) :=
  ⟨h.row, h.ents, h.ap, fun k hk => h.row.lt k hk, fun x hx k hk => (h.ents x hx).lt k hk⟩
theorem row_ku {W w w' : World} {zs : List EntD} {v : Value} {B : Nat} (h : w.ownsRow B 45 7 v zs.length (evals zs)) (g : w.grownBy w' v.ownBlock) : KU w w' :=
  KU.grown g fun r hr => by
    rcases h.2 with ⟨h1, _⟩ | ⟨g', cap, cur, h3, h4, h5, _⟩
    · rw [h1] at hr; cases hr
    · rw [h3] at hr; cases hr; exact ⟨cur, _, _, h5, by decide⟩
theorem Cl.add {W wr w1 w3 : World} {zs : List EntD} {v u : Value} {x : EntD} (h : Cl W wr zs v) (b : Below wr.heap.size wr w1) (o : O3 w1 wr.heap.size x) {ob : Obj} (g : (w1.alloc ob).grownBy w3 v.ownBlock) (r : w3.ownsRow W.heap.size 45 7 u (zs ++ [x]).length (evals (zs ++ [x]))) : Cl W w3 (zs ++ [x]) u := by
  have A := (Below.refl w1.heap.size w1).alloc (Nat.le_refl _) ob
  have r1 : (w1.alloc ob).ownsRow W.heap.size 45 7 v zs.length (evals zs) := row_same h.row (fun g hg => (A.block g (Nat.lt_of_lt_of_le (h.row.lt g hg).2 b.size)).trans (b.block g (h.row.lt g hg).2))
  have ku := (KU.of A).trans (row_ku (W := W) r1 g)
  have bb := h.below.trans (b.mono h.below.size)
  refine ⟨r, fun y hy => ?_, ?_, ?_⟩
  · rcases List.mem_append.1 hy with q | q
    · exact ((h.ents y q).later b).ku ku
    · rw [List.mem_singleton] at q
      subst q
      exact (o.mono h.below.size).ku ku
  · rw [List.pairwise_append]
    refine ⟨h.ap, List.pairwise_singleton _ _, fun a ha c hc g hg hk => ?_⟩
    rw [List.mem_singleton] at hc
    subst hc
    have := (h.ents a ha).lt g hg
    have := o.lt g hk
    omega
  · have bA := bb.trans (A.mono bb.size)
    exact bA.grown g bA.size (fun k hk => (h.row.lt k hk).1)
set_option maxRecDepth 100000 in
set_option maxHeartbeats 4000000 in
theorem cloneAll_any {W : World} {a : Option Addr} {cap : Nat} {l : List EntD} (h0 : RdL3 W a cap l) (hs : ∀ x ∈ l, Shrt x) (hl : l.length ≤ 1353245080300) :
    Calls Try.prog 5 #[.slice a l.length cap] W fun r W' => ∃ v zs, r = .returned v ∧ Cl W W' zs v ∧ zs.map EntD.dat = l.map EntD.dat := by
  obtain ⟨N, hN⟩ : ∃ N, N = l.length := ⟨_, rfl⟩
  rw [← hN] at hl ⊢
  have HN := Lib.hid hN
  have HR := Lib.hid h0
  have HS := Lib.hid hs
  clear hN h0 hs
  go_enter Try.func5, Try.ntmps5
  go_wp2
  go_loopw [3, 4] (fun o i wr => ∃ (k : Nat) (zs : List EntD) (a' : Option Addr) (c' : Nat), k ≤ N ∧ i = .int .i64 (k : Int) ∧ o = .slice a' zs.length c' ∧ Hid (Cl W wr zs (.slice a' zs.length c') ∧ zs.map EntD.dat = (l.take k).map EntD.dat)) (fun _ i _ => N - (intOf i).toNat)
  case atStart => exact ⟨0, [], none, 0, Nat.zero_le _, rfl, rfl, ⟨(Rw.nil W W.heap.size (fun _ => True)).row, by simp, List.Pairwise.nil, Below.refl _ _⟩, by simp⟩
  case round =>
    obtain ⟨k, zs, a', c', hk, rfl, rfl, HO⟩ := hrel
    have k0 : (0 : Int) ≤ (k : Int) := by omega
    by_cases hlt : k < N
    · have hlt2 : (k : Int) < (N : Int) := by omega
      obtain ⟨e, he⟩ : ∃ e, l[k]? = some e := ⟨l[k]'(by rw [← HN.out]; exact hlt), List.getElem?_eq_getElem _⟩
      have hrd := HR.out.later HO.out.1.below
      have hok := hrd.ok e (List.mem_of_getElem? he)
      rcases hrd.at_ with h0 | ⟨b, off, rfl, hc⟩
      · rw [h0] at he; simp at he
      have d0 := hc k e he 0 e.vr rfl
      have d1 := hc k e he 1 (.int .i64 e.fam) rfl
      have d2 := hc k e he 2 e.vq rfl
      have d3 := hc k e he 3 (.int .i64 e.ts) rfl
      have d4 := hc k e he 4 (.int .i64 e.seq) rfl
      have d5 := hc k e he 5 (.int .i64 e.kind) rfl
      have d6 := hc k e he 6 e.vv rfl
      simp only [Nat.add_zero] at d0
      have HE := Lib.hid he
      have HCl := Lib.hid (cloneR_own hok (HS.out e (List.mem_of_getElem? he)))
      have hzl : zs.length = k := by
        have := congrArg List.length HO.out.2
        rw [List.length_map, List.length_map, List.length_take] at this
        rw [HN.out] at hlt
        omega
      have HZl := Lib.hid hzl
      unfold EntD.cells at HCl
      clear hrd hok hc he hzl
      go_wp2_with fail
      refine Calls.mono HCl.out ?_
      rintro z1 w1 ⟨x, rfl, sx, ok1, o31, b1⟩
      have HSx := Lib.hid (EntD.dat_same.2 sx)
      have O31 := Lib.hid o31
      have B1 := Lib.hid b1
      obtain ⟨xr, xf, xq, xt, xs2, xk, xv, xrow, xqual, xval⟩ := x
      obtain ⟨ar, cr, er⟩ := own_form' o31.row
      obtain ⟨aq, cq, eq⟩ := own_form' o31.qual
      obtain ⟨aw, cw, ew⟩ := own_form' o31.val
      simp only at er eq ew
      subst er eq ew
      dsimp only
      clear sx ok1 o31 b1 HCl d0 d1 d2 d3 d4 d5 d6
      have A := Lib.hid ((Below.refl w1.heap.size w1).alloc (Nat.le_refl _) (.cells #[.slice ar xrow.length cr, .int .i64 xf, .slice aq xqual.length cq, .int .i64 xt, .int .i64 xs2, .int .i64 xk, .slice aw xval.length cw] 45))
      have HRow : Hid ((w1.alloc (.cells #[.slice ar xrow.length cr, .int .i64 xf, .slice aq xqual.length cq, .int .i64 xt, .int .i64 xs2, .int .i64 xk, .slice aw xval.length cw] 45)).ownsRow W.heap.size 45 7 (.slice a' zs.length c') zs.length (evals zs)) := row_same HO.out.1.row (fun g hg => (A.out.block g (Nat.lt_of_lt_of_le (HO.out.1.row.lt g hg).2 B1.out.size)).trans (B1.out.block g (HO.out.1.row.lt g hg).2))
      have HSz : Hid (W.heap.size ≤ (w1.alloc (.cells #[.slice ar xrow.length cr, .int .i64 xf, .slice aq xqual.length cq, .int .i64 xt, .int .i64 xs2, .int .i64 xk, .slice aw xval.length cw] 45)).heap.size) := Nat.le_trans HO.out.1.below.size (Nat.le_trans B1.out.size A.out.size)
      go_wp2_with (at_builtin; refine wpl_append_ent (x := (⟨.slice ar xrow.length cr, xf, .slice aq xqual.length cq, xt, xs2, xk, .slice aw xval.length cw, xrow, xqual, xval⟩ : EntD)) (xs := zs) rfl _ _ rfl rfl HRow.out ⟨w1.heap.size, 0, none⟩ rfl (ent_new w1 (⟨.slice ar xrow.length cr, xf, .slice aq xqual.length cq, xt, xs2, xk, .slice aw xval.length cw, xrow, xqual, xval⟩ : EntD)) (O3.cells_one O31.out) (by have := HZl.out; omega) HSz.out ?_)
      intro a4 c4 X4 row4 gr4
      have H4 := Lib.hid (HO.out.1.add B1.out O31.out gr4 (u := .slice a4 (zs.length + 1) c4) (by rw [List.length_append]; exact row4))
      have HD : Hid ((zs ++ [(⟨.slice ar xrow.length cr, xf, .slice aq xqual.length cq, xt, xs2, xk, .slice aw xval.length cw, xrow, xqual, xval⟩ : EntD)]).map EntD.dat = (l.take (k + 1)).map EntD.dat) := by
        unfold Hid
        rw [List.take_add_one, HE.out, List.map_append, List.map_append, HO.out.2]
        simp only [List.map_cons, List.map_nil, Option.toList_some]
        rw [HSx.out]
      clear row4 gr4 HRow HSz A
      go_wp2
      go_roundw
      case rel => exact ⟨k + 1, _, a4, c4, by omega, by go_num, by rw [List.length_append]; rfl, by rw [List.length_append]; exact H4.out, HD.out⟩
      case measure => simp only [intOf]; omega
    · have hg : ¬ (k : Int) < (N : Int) := by omega
      have HF : Hid (zs.map EntD.dat = l.map EntD.dat) := by
        unfold Hid
        rw [HO.out.2, List.take_of_length_le (by rw [← HN.out]; omega)]
      go_wp2
      go_ret
      exact ⟨_, rfl, zs, HO.out.1, HF.out⟩
theorem evals_app3 (a b : List EntD) : evals (a ++ b) = evals a ++ evals b := by simp [evals]
theorem evals_get3 : ∀ {xs : List EntD} {j : Nat} {u : Value}, (evals xs)[j]? = some u → ∃ x, xs[j / 7]? = some x ∧ x.cells.toList[j % 7]? = some u
  | [], j, u, h => by simp [evals] at h
  | x :: xs, j, u, h => by
    rw [evals_cons] at h
    by_cases hj : j < 7
    · rw [List.getElem?_append_left (show j < x.cells.toList.length from hj)] at h
      rw [Nat.div_eq_of_lt hj, Nat.mod_eq_of_lt hj]
      exact ⟨x, by simp, h⟩
    · rw [List.getElem?_append_right (show x.cells.toList.length ≤ j from by show 7 ≤ j; omega)] at h
      have h' : (evals xs)[j - 7]? = some u := h
      obtain ⟨y, h1, h2⟩ := evals_get3 h'
      have e1 : j / 7 = (j - 7) / 7 + 1 := by omega
      have e2 : j % 7 = (j - 7) % 7 := by omega
      rw [e1, e2]
      exact ⟨y, by simpa using h1, h2⟩
set_option maxRecDepth 100000 in
theorem wpl_append_own2 {w : World} {ops : Array Oper} {rest : List Oper} {o : Oper} {a : Act} {Q : Exit → Act → World → Prop} (hgd : o.guard = none) (s x : Operand)
    (ho : o.op = .call { callee := .builtin .append, args := #[s, x], argTypes := #[25, 25] })
    (B C : Nat) (v : Value) (xs : List EntD) (hs : a.eval s = v) (hown : w.ownsRow B 45 7 v xs.length (evals xs))
    (u : Value) (ys : List EntD) (hx : a.eval x = u) (hu : w.ownsRow C 45 7 u ys.length (evals ys)) (ho3 : ∀ y ∈ ys, O3 w C y) (hn : (xs.length + ys.length) * 104 ≤ 140737488355328) (hB : B ≤ w.heap.size)
    (h : ∀ a' n' c' w', n' = (xs ++ ys).length → w'.ownsRow B 45 7 (.slice a' n' c') (xs ++ ys).length (evals (xs ++ ys)) → w.grownBy w' v.ownBlock → wpList Try.prog ops Q rest (a.put o.dst (.slice a' n' c')) w') : wpList Try.prog ops Q (o :: rest) a w := by
  obtain ⟨i0, hi, hz0, hz1, hz2⟩ := info_parts info_ent3
  rcases hu.2 with ⟨h1, h2⟩ | ⟨g, cap, cur, h1, h2, h3, h4, h5, h6, h7⟩
  · have hz := List.eq_nil_of_length_eq_zero h2
    subst hz
    obtain ⟨a', c', rfl⟩ := rows_form3 hown
    refine wpList_append_own_none hgd s x 25 ho B 45 i0 7 und_ents3 hi _ _ _ hs hown (by rw [hx, h1]) ?_
    exact h _ _ _ _ (by simp) (by simpa using hown) ⟨rfl, rfl, rfl, Nat.le_refl _, fun _ _ _ => rfl⟩
  · refine wpList_append_own _ hgd s x 25 ho B 45 i0 _ 7 104 und_ents3 hi hz0 hz1 hz2 rfl (by decide) _ _ _ hs hown ⟨g, 0, none⟩ ys.length cap (evals ys) (by rw [hx, h1]) (evals_len ys) (fun j u hj => ?_) (fun u hu => ?_) (by unfold maxLen; omega) (by omega) hB ?_
    · obtain ⟨y, e1, e2⟩ := evals_get3 hj
      have e : (⟨g, 0, none⟩ : Addr).add j = ⟨g, j, none⟩ := by unfold Addr.add; split <;> simp_all
      rw [e]
      have hu' := hu
      rw [h1] at hu'
      obtain ⟨g2, e3, _, _, hc⟩ := row_cells3 hu' e1
      cases e3
      have := hc _ _ e2
      rwa [show j / 7 * 7 + j % 7 = j from by omega] at this
    · obtain ⟨j, hj⟩ := List.getElem?_of_mem hu
      obtain ⟨y, e1, e2⟩ := evals_get3 hj
      exact (ho3 y (List.mem_of_getElem? e1)).cells_one u (List.mem_of_getElem? e2)
    · intro v' w' k1 k2 k3
      rw [← evals_app3, ← List.length_append] at k1
      obtain ⟨a', c', rfl⟩ := rows_form3 k1
      exact h _ _ _ _ rfl k1 k2
end Go.Proofs.Ythhkpkfpifllkaa

namespace Go.Proofs.Ythhkpkfpifllkaa
open Go.RowKit
set_option linter.unusedVariables false

structure BelowD (B : Nat) (w w' : World) : Prop where
  b : Below B w w'
  d : w.drawn ≤ w'.drawn
theorem BelowD.refl (B : Nat) (w : World) : BelowD B w w := ⟨Below.refl _ _, Nat.le_refl _⟩
theorem BelowD.trans {B : Nat} {a b c : World} (h : BelowD B a b) (k : BelowD B b c) : BelowD B a c := ⟨h.b.trans k.b, Nat.le_trans h.d k.d⟩
theorem BelowD.mono {B B' : Nat} {w w' : World} (h : BelowD B w w') (hB : B' ≤ B) : BelowD B' w w' := ⟨h.b.mono hB, h.d⟩
theorem BelowD.drew {B : Nat} {a w : World} (h : BelowD B a w) : BelowD B a w.drew := ⟨h.b.drew, Nat.le_trans h.d (Nat.le_succ _)⟩
theorem BelowD.alloc {B : Nat} {a w : World} (h : BelowD B a w) (hB : B ≤ w.heap.size) (o : Obj) : BelowD B a (w.alloc o) := ⟨h.b.alloc hB o, h.d⟩
theorem BelowD.size {B : Nat} {w w' : World} (h : BelowD B w w') : w.heap.size ≤ w'.heap.size := h.b.size

set_option maxRecDepth 100000 in
set_option maxHeartbeats 2000000 in
theorem aheadIf_d {a b : EntD} (k : Int) {w : World} :
    Calls Try.prog 76 #[.agg a.cells, .agg b.cells, .int .i64 k] w fun r w' => r = .returned (.int .i64 (aheadS a b k)) ∧ BelowD w.heap.size w w' := by
  obtain ⟨S, hS⟩ : ∃ S, S = aheadS a b k := ⟨_, rfl⟩
  rw [← hS]
  have HS : Hid (cmpI ((mark a.kind k : Nat) : Int) ((mark b.kind k : Nat) : Int) = S) := by unfold Hid; rw [hS]; rfl
  clear hS
  obtain ⟨M1, hM1⟩ : ∃ M, M = mark a.kind k := ⟨_, rfl⟩
  obtain ⟨M2, hM2⟩ : ∃ M, M = mark b.kind k := ⟨_, rfl⟩
  have q1 := fun w => markOf_m a.kind k w
  have q2 := fun w => markOf_m b.kind k w
  have q3 := fun w => cmpByte_any (M1 : Int) (M2 : Int) w
  rw [← hM1] at q1
  rw [← hM2] at q2
  have HS2 : cmpI (M1 : Int) (M2 : Int) = S := by rw [hM1, hM2]; exact HS.out
  rw [HS2] at q3
  have HQ1 : Hid (∀ w, Calls Try.prog 91 #[.int .i64 a.kind, .int .i64 k] w fun e w' => e = .returned (.int .u8 ((M1 : Nat) : Int)) ∧ w' = w) := q1
  have HQ2 : Hid (∀ w, Calls Try.prog 91 #[.int .i64 b.kind, .int .i64 k] w fun e w' => e = .returned (.int .u8 ((M2 : Nat) : Int)) ∧ w' = w) := q2
  have HQ3 : Hid (∀ w, Calls Try.prog 90 #[.int .u8 (M1 : Int), .int .u8 (M2 : Int)] w fun e w' => e = .returned (.int .i64 S) ∧ w' = w) := q3
  clear q1 q2 q3 hM1 hM2 HS HS2
  have A1 := (BelowD.refl w.heap.size w).alloc (Nat.le_refl _) (.cells a.cells 45)
  have A2 := A1.alloc A1.size (.cells b.cells 45)
  have bxa : Hid (EBox ((w.alloc (.cells a.cells 45)).alloc (.cells b.cells 45)) w.heap.size a) := (EBox.new w a).later ((Below.refl _ _).alloc (Nat.le_refl _) _)
  have bxb : Hid (EBox ((w.alloc (.cells a.cells 45)).alloc (.cells b.cells 45)) (w.heap.size + 1) b) := by
    have := EBox.new (w.alloc (.cells a.cells 45)) b
    rwa [World.size_alloc] at this
  have A2D : BelowD w.heap.size w ((w.alloc (.cells a.cells 45)).alloc (.cells b.cells 45)).drew := A2.drew
  have ya : ((w.alloc (.cells a.cells 45)).alloc (.cells b.cells 45)).drew.cell? ⟨w.heap.size, 5, none⟩ = some (.int .i64 a.kind) := bxa.out.kind
  have yb : ((w.alloc (.cells a.cells 45)).alloc (.cells b.cells 45)).drew.cell? ⟨w.heap.size + 1, 5, none⟩ = some (.int .i64 b.kind) := bxb.out.kind
  clear A1 bxa bxb
  obtain ⟨vr, fam, vq, ts, seq, ka, vv, row, qual, val⟩ := a
  obtain ⟨vr2, fam2, vq2, ts2, seq2, kb, vv2, row2, qual2, val2⟩ := b
  simp only [EntD.cells] at *
  go_enter Try.func76, Try.ntmps76
  go_wp2_with fail
  go_region_held3 (fun wx => wx.cell? ⟨w.heap.size, 5, none⟩ = some (.int .i64 ka) ∧ wx.cell? ⟨w.heap.size + 1, 5, none⟩ = some (.int .i64 kb) ∧ BelowD w.heap.size w wx) (first | exact ⟨ya, yb, A2D⟩) (first | (go_at_call 91; refine (HQ1.out _).mono ?_; rintro e1 wm ⟨rfl, rfl⟩) | (go_at_call 91; refine (HQ2.out _).mono ?_; rintro e1 wm ⟨rfl, rfl⟩) | (go_at_call 90; refine (HQ3.out _).mono ?_; rintro e1 wm ⟨rfl, rfl⟩))
  all_goals (go_wp2; go_ret; exact ⟨rfl, A2D⟩)

set_option maxRecDepth 100000 in
set_option maxHeartbeats 1000000 in
theorem ord1_d {a b : EntD} {w : World} (ha : EntD.Ok w a) (hb : EntD.Ok w b) :
    Calls Try.prog 71 #[.agg a.cells, .agg b.cells] w fun r w' => r = .returned (.int .i64 (ordC a.row b.row)) ∧ BelowD w.heap.size w w' := by
  have A1 := (BelowD.refl w.heap.size w).alloc (Nat.le_refl _) (.cells a.cells 45)
  have A2 := A1.alloc A1.size (.cells b.cells 45)
  have oa := ha.later A2.b
  have ob := hb.later A2.b
  clear A1 ha hb
  obtain ⟨vr, fam, vq, ts, seq, ka, vv, row, qual, val⟩ := a
  obtain ⟨vr2, fam2, vq2, ts2, seq2, kb, vv2, row2, qual2, val2⟩ := b
  obtain ⟨r1, q1, v1⟩ := oa
  obtain ⟨r2, q2, v2⟩ := ob
  simp only [EntD.cells] at *
  go_enter Try.func71, Try.ntmps71
  go_wp2_with fail
  refine (bytesCompare_any r1 r2).mono ?_
  rintro e1 w1 ⟨rfl, rfl⟩
  go_wp2
  go_ret
  exact ⟨rfl, A2⟩

set_option maxRecDepth 100000 in
set_option maxHeartbeats 1000000 in
theorem ord2_d {a b : EntD} {w : World} (ha : EntD.Ok w a) (hb : EntD.Ok w b) :
    Calls Try.prog 73 #[.agg a.cells, .agg b.cells] w fun r w' => r = .returned (.int .i64 (cmpI a.fam b.fam)) ∧ BelowD w.heap.size w w' := by
  have A1 := (BelowD.refl w.heap.size w).alloc (Nat.le_refl _) (.cells a.cells 45)
  have A2 := A1.alloc A1.size (.cells b.cells 45)
  have oa := ha.later A2.b
  have ob := hb.later A2.b
  clear A1 ha hb
  obtain ⟨vr, fam, vq, ts, seq, ka, vv, row, qual, val⟩ := a
  obtain ⟨vr2, fam2, vq2, ts2, seq2, kb, vv2, row2, qual2, val2⟩ := b
  obtain ⟨r1, q1, v1⟩ := oa
  obtain ⟨r2, q2, v2⟩ := ob
  simp only [EntD.cells] at *
  go_enter Try.func73, Try.ntmps73
  go_wp2_with fail
  refine (cmpInt_any _ _ _).mono ?_
  rintro e1 w1 ⟨rfl, rfl⟩
  go_wp2
  go_ret
  exact ⟨rfl, A2⟩

set_option maxRecDepth 100000 in
set_option maxHeartbeats 1000000 in
theorem ord3_d {a b : EntD} {w : World} (ha : EntD.Ok w a) (hb : EntD.Ok w b) :
    Calls Try.prog 75 #[.agg a.cells, .agg b.cells] w fun r w' => r = .returned (.int .i64 (aheadS a b 5)) ∧ BelowD w.heap.size w w' := by
  have A1 := (BelowD.refl w.heap.size w).alloc (Nat.le_refl _) (.cells a.cells 45)
  have A2 := A1.alloc A1.size (.cells b.cells 45)
  have oa := ha.later A2.b
  have ob := hb.later A2.b
  clear A1 ha hb
  have c1 := aheadIf_d (a := a) (b := b) 5 (w := (w.alloc (.cells a.cells 45)).alloc (.cells b.cells 45))
  obtain ⟨S, hS⟩ : ∃ S, S = aheadS a b 5 := ⟨_, rfl⟩
  rw [← hS] at c1 ⊢
  have HC : Hid (Calls Try.prog 76 #[.agg a.cells, .agg b.cells, .int .i64 5] ((w.alloc (.cells a.cells 45)).alloc (.cells b.cells 45)) fun r w' => r = .returned (.int .i64 S) ∧ BelowD ((w.alloc (.cells a.cells 45)).alloc (.cells b.cells 45)).heap.size ((w.alloc (.cells a.cells 45)).alloc (.cells b.cells 45)) w') := c1
  clear c1 hS
  obtain ⟨vr, fam, vq, ts, seq, ka, vv, row, qual, val⟩ := a
  obtain ⟨vr2, fam2, vq2, ts2, seq2, kb, vv2, row2, qual2, val2⟩ := b
  obtain ⟨r1, q1, v1⟩ := oa
  obtain ⟨r2, q2, v2⟩ := ob
  simp only [EntD.cells] at *
  go_enter Try.func75, Try.ntmps75
  go_wp2_with fail
  refine HC.out.mono ?_
  rintro e1 w1 ⟨rfl, hb1⟩
  have B1 := A2.trans (hb1.mono A2.size)
  go_wp2
  go_ret
  exact ⟨rfl, B1⟩

set_option maxRecDepth 100000 in
set_option maxHeartbeats 1000000 in
theorem ord4_d {a b : EntD} {w : World} (ha : EntD.Ok w a) (hb : EntD.Ok w b) :
    Calls Try.prog 77 #[.agg a.cells, .agg b.cells] w fun r w' => r = .returned (.int .i64 (ordC a.qual b.qual)) ∧ BelowD w.heap.size w w' := by
  have A1 := (BelowD.refl w.heap.size w).alloc (Nat.le_refl _) (.cells a.cells 45)
  have A2 := A1.alloc A1.size (.cells b.cells 45)
  have oa := ha.later A2.b
  have ob := hb.later A2.b
  clear A1 ha hb
  obtain ⟨vr, fam, vq, ts, seq, ka, vv, row, qual, val⟩ := a
  obtain ⟨vr2, fam2, vq2, ts2, seq2, kb, vv2, row2, qual2, val2⟩ := b
  obtain ⟨r1, q1, v1⟩ := oa
  obtain ⟨r2, q2, v2⟩ := ob
  simp only [EntD.cells] at *
  go_enter Try.func77, Try.ntmps77
  go_wp2_with fail
  refine (bytesCompare_any q1 q2).mono ?_
  rintro e1 w1 ⟨rfl, rfl⟩
  go_wp2
  go_ret
  exact ⟨rfl, A2⟩

set_option maxRecDepth 100000 in
set_option maxHeartbeats 1000000 in
theorem ord5_d {a b : EntD} {w : World} (ha : EntD.Ok w a) (hb : EntD.Ok w b) :
    Calls Try.prog 78 #[.agg a.cells, .agg b.cells] w fun r w' => r = .returned (.int .i64 (aheadS a b 4)) ∧ BelowD w.heap.size w w' := by
  have A1 := (BelowD.refl w.heap.size w).alloc (Nat.le_refl _) (.cells a.cells 45)
  have A2 := A1.alloc A1.size (.cells b.cells 45)
  have oa := ha.later A2.b
  have ob := hb.later A2.b
  clear A1 ha hb
  have c1 := aheadIf_d (a := a) (b := b) 4 (w := (w.alloc (.cells a.cells 45)).alloc (.cells b.cells 45))
  obtain ⟨S, hS⟩ : ∃ S, S = aheadS a b 4 := ⟨_, rfl⟩
  rw [← hS] at c1 ⊢
  have HC : Hid (Calls Try.prog 76 #[.agg a.cells, .agg b.cells, .int .i64 4] ((w.alloc (.cells a.cells 45)).alloc (.cells b.cells 45)) fun r w' => r = .returned (.int .i64 S) ∧ BelowD ((w.alloc (.cells a.cells 45)).alloc (.cells b.cells 45)).heap.size ((w.alloc (.cells a.cells 45)).alloc (.cells b.cells 45)) w') := c1
  clear c1 hS
  obtain ⟨vr, fam, vq, ts, seq, ka, vv, row, qual, val⟩ := a
  obtain ⟨vr2, fam2, vq2, ts2, seq2, kb, vv2, row2, qual2, val2⟩ := b
  obtain ⟨r1, q1, v1⟩ := oa
  obtain ⟨r2, q2, v2⟩ := ob
  simp only [EntD.cells] at *
  go_enter Try.func78, Try.ntmps78
  go_wp2_with fail
  refine HC.out.mono ?_
  rintro e1 w1 ⟨rfl, hb1⟩
  have B1 := A2.trans (hb1.mono A2.size)
  go_wp2
  go_ret
  exact ⟨rfl, B1⟩

set_option maxRecDepth 100000 in
set_option maxHeartbeats 1000000 in
theorem ord6_d {a b : EntD} {w : World} (ha : EntD.Ok w a) (hb : EntD.Ok w b) :
    Calls Try.prog 79 #[.agg a.cells, .agg b.cells] w fun r w' => r = .returned (.int .i64 (cmpI b.ts a.ts)) ∧ BelowD w.heap.size w w' := by
  have A1 := (BelowD.refl w.heap.size w).alloc (Nat.le_refl _) (.cells a.cells 45)
  have A2 := A1.alloc A1.size (.cells b.cells 45)
  have oa := ha.later A2.b
  have ob := hb.later A2.b
  clear A1 ha hb
  obtain ⟨vr, fam, vq, ts, seq, ka, vv, row, qual, val⟩ := a
  obtain ⟨vr2, fam2, vq2, ts2, seq2, kb, vv2, row2, qual2, val2⟩ := b
  obtain ⟨r1, q1, v1⟩ := oa
  obtain ⟨r2, q2, v2⟩ := ob
  simp only [EntD.cells] at *
  go_enter Try.func79, Try.ntmps79
  go_wp2_with fail
  refine (cmpInt_any _ _ _).mono ?_
  rintro e1 w1 ⟨rfl, rfl⟩
  go_wp2
  go_ret
  exact ⟨rfl, A2⟩

set_option maxRecDepth 100000 in
set_option maxHeartbeats 1000000 in
theorem ord7_d {a b : EntD} {w : World} (ha : EntD.Ok w a) (hb : EntD.Ok w b) :
    Calls Try.prog 80 #[.agg a.cells, .agg b.cells] w fun r w' => r = .returned (.int .i64 (cmpI b.seq a.seq)) ∧ BelowD w.heap.size w w' := by
  have A1 := (BelowD.refl w.heap.size w).alloc (Nat.le_refl _) (.cells a.cells 45)
  have A2 := A1.alloc A1.size (.cells b.cells 45)
  have oa := ha.later A2.b
  have ob := hb.later A2.b
  clear A1 ha hb
  obtain ⟨vr, fam, vq, ts, seq, ka, vv, row, qual, val⟩ := a
  obtain ⟨vr2, fam2, vq2, ts2, seq2, kb, vv2, row2, qual2, val2⟩ := b
  obtain ⟨r1, q1, v1⟩ := oa
  obtain ⟨r2, q2, v2⟩ := ob
  simp only [EntD.cells] at *
  go_enter Try.func80, Try.ntmps80
  go_wp2_with fail
  refine (cmpInt_any _ _ _).mono ?_
  rintro e1 w1 ⟨rfl, rfl⟩
  go_wp2
  go_ret
  exact ⟨rfl, A2⟩

set_option maxRecDepth 100000 in
set_option maxHeartbeats 1000000 in
theorem ord8_d {a b : EntD} {w : World} (ha : EntD.Ok w a) (hb : EntD.Ok w b) :
    Calls Try.prog 81 #[.agg a.cells, .agg b.cells] w fun r w' => r = .returned (.int .i64 (cmpI a.kind b.kind)) ∧ BelowD w.heap.size w w' := by
  have A1 := (BelowD.refl w.heap.size w).alloc (Nat.le_refl _) (.cells a.cells 45)
  have A2 := A1.alloc A1.size (.cells b.cells 45)
  have oa := ha.later A2.b
  have ob := hb.later A2.b
  clear A1 ha hb
  obtain ⟨vr, fam, vq, ts, seq, ka, vv, row, qual, val⟩ := a
  obtain ⟨vr2, fam2, vq2, ts2, seq2, kb, vv2, row2, qual2, val2⟩ := b
  obtain ⟨r1, q1, v1⟩ := oa
  obtain ⟨r2, q2, v2⟩ := ob
  simp only [EntD.cells] at *
  go_enter Try.func81, Try.ntmps81
  go_wp2_with fail
  refine (cmpInt_any _ _ _).mono ?_
  rintro e1 w1 ⟨rfl, rfl⟩
  go_wp2
  go_ret
  exact ⟨rfl, A2⟩

end Go.Proofs.Ythhkpkfpifllkaa


namespace Go.Proofs.Ythhkpkfpifllkaa
open Go.RowKit
set_option linter.unusedVariables false

set_option maxRecDepth 100000 in
set_option maxHeartbeats 1000000 in
theorem order_fns_d (w : World) : Calls Try.prog 49 #[] w fun r w' => r = .returned (.agg #[.func (.func 71) #[] #[], .func (.func 73) #[] #[], .func (.func 75) #[] #[], .func (.func 77) #[] #[], .func (.func 78) #[] #[], .func (.func 79) #[] #[], .func (.func 80) #[] #[], .func (.func 81) #[] #[]]) ∧ BelowD w.heap.size w w' := by
  have A1 := (BelowD.refl w.heap.size w).alloc (Nat.le_refl _) (.cells #[.func (.func 71) #[] #[], .func (.func 73) #[] #[], .func (.func 75) #[] #[], .func (.func 77) #[] #[], .func (.func 78) #[] #[], .func (.func 79) #[] #[], .func (.func 80) #[] #[], .func (.func 81) #[] #[]] 104)
  go_enter Try.func49, Try.ntmps49
  go_wp2
  go_returns
  exact ⟨rfl, A1⟩

set_option maxRecDepth 100000 in
set_option maxHeartbeats 8000000 in
theorem compare_d {a b : EntD} {w : World} (ha : EntD.Ok w a) (hb : EntD.Ok w b) :
    Calls Try.prog 35 #[.agg a.cells, .agg b.cells] w fun r w' => r = .returned (.int .i64 (compareS a b)) ∧ BelowD w.heap.size w w' := by
  have A1 := (BelowD.refl w.heap.size w).alloc (Nat.le_refl _) (.cells a.cells 45)
  have A2 := A1.alloc A1.size (.cells b.cells 45)
  have bxa0 := (EBox.new w a).later ((Below.refl (w.alloc (.cells a.cells 45)).heap.size (w.alloc (.cells a.cells 45))).alloc (Nat.le_refl _) (.cells b.cells 45))
  have bxb0 := EBox.new (w.alloc (.cells a.cells 45)) b
  rw [World.size_alloc] at bxb0
  have BXA0 : Hid (EBox _ w.heap.size a) := bxa0
  have BXB0 : Hid (EBox _ (w.heap.size + 1) b) := bxb0
  have HA : Hid (EntD.Ok w a) := ha
  have HB : Hid (EntD.Ok w b) := hb
  obtain ⟨va, hva⟩ : ∃ v, v = a.cells := ⟨_, rfl⟩
  clear A1 bxa0 bxb0 ha hb hva va
  go_enter Try.func35, Try.ntmps35
  go_wp2_with fail
  refine (order_fns_d _).mono ?_
  rintro e1 w1 ⟨rfl, hb1⟩
  have B1 := A2.trans (hb1.mono A2.size)
  have BXA1 := BXA0.out.later hb1.b
  have BXB1 := BXB0.out.later hb1.b
  clear A2 BXA0 BXB0 hb1
  go_wp2
  go_loopw [6, 7, 9] (fun f n i wr => ∃ t : Nat, t ≤ 8 ∧ i = .int .i64 (t : Int) ∧ (∀ j, j < t → (cmpsS a b).getD j 0 = 0) ∧ EBox wr w.heap.size a ∧ EBox wr (w.heap.size + 1) b ∧ BelowD w.heap.size w wr) (fun _ _ i _ => 8 - (intOf i).toNat)
  case atStart => exact ⟨0, by omega, rfl, fun j hj => by omega, BXA1, BXB1, B1⟩
  case round =>
    obtain ⟨t, ht8, rfl, hz, bxa, bxb, hb1⟩ := hrel
    have HZ : Hid (∀ j, j < t → (cmpsS a b).getD j 0 = 0) := hz
    have BXA : Hid (EBox wr w.heap.size a) := bxa
    have BXB : Hid (EBox wr (w.heap.size + 1) b) := bxb
    clear hz
    by_cases hlt : t < 8
    · obtain ⟨S, hS⟩ : ∃ S, S = (cmpsS a b).getD t 0 := ⟨_, rfl⟩
      have HS : Hid (S = (cmpsS a b).getD t 0) := hS
      clear hS
      have ca0 := bxa.vr
      have ca1 := bxa.fam
      have ca2 := bxa.vq
      have ca3 := bxa.ts
      have ca4 := bxa.seq
      have ca5 := bxa.kind
      have ca6 := bxa.vv
      have cb0 := bxb.vr
      have cb1 := bxb.fam
      have cb2 := bxb.vq
      have cb3 := bxb.ts
      have cb4 := bxb.seq
      have cb5 := bxb.kind
      have cb6 := bxb.vv
      rcases (show t = 0 ∨ t = 1 ∨ t = 2 ∨ t = 3 ∨ t = 4 ∨ t = 5 ∨ t = 6 ∨ t = 7 by omega) with rfl | rfl | rfl | rfl | rfl | rfl | rfl | rfl
      · have HC : Hid (∀ w2, BelowD w.heap.size w w2 → Calls Try.prog 71 #[.agg a.cells, .agg b.cells] w2 fun r w' => r = .returned (.int .i64 S) ∧ BelowD w2.heap.size w2 w') := fun w2 h2 => by rw [HS.out]; exact ord1_d (HA.out.later h2.b) (HB.out.later h2.b)
        have hidx : ∀ w, (Instr.index 104 (.agg #[.func (.func 71) #[] #[], .func (.func 73) #[] #[], .func (.func 75) #[] #[], .func (.func 77) #[] #[], .func (.func 78) #[] #[], .func (.func 79) #[] #[], .func (.func 80) #[] #[], .func (.func 81) #[] #[]]) (.int .i64 0)).run Try.prog w = .ok (.func (.func 71) #[] #[]) w := fun _ => by kernel_rfl
        by_cases hz : S = 0
        · have HZ2 : Hid (∀ j, j < 1 → (cmpsS a b).getD j 0 = 0) := fun j hj => by
            by_cases h : j < 0
            · exact HZ.out j h
            · obtain rfl : j = 0 := by omega
              rw [← HS.out]; exact hz
          subst hz
          have HC2 := HC.out wr hb1
          have HC3 : Hid (Calls Try.prog 71 #[.agg a.cells, .agg b.cells] wr fun r w' => r = .returned (.int .i64 0) ∧ BelowD wr.heap.size wr w') := HC2
          clear HC HC2 HS
          simp only [EntD.cells] at bxa bxb HC3
          go_wp2_with fail
          refine HC3.out.mono ?_
          rintro e2 w2 ⟨rfl, hb2⟩
          have B2 := hb1.trans (hb2.mono hb1.size)
          have bxa2 := BXA.out.later hb2.b
          have bxb2 := BXB.out.later hb2.b
          go_wp2
          go_roundw
          case rel => exact ⟨1, by omega, by go_num, HZ2.out, bxa2, bxb2, B2⟩
          case measure => simp [intOf]
        · have HR : Hid (compareS a b = S) := by unfold Hid compareS; rw [firstNZ_at _ 0 HZ.out (by rw [← HS.out]; exact hz), HS.out]
          have hz1 : (S != 0) = true := by simp; exact hz
          have HC2 := HC.out wr hb1
          have HC3 : Hid (Calls Try.prog 71 #[.agg a.cells, .agg b.cells] wr fun r w' => r = .returned (.int .i64 S) ∧ BelowD wr.heap.size wr w') := HC2
          clear HC HC2 HS
          simp only [EntD.cells] at bxa bxb HC3
          go_wp2_with fail
          refine HC3.out.mono ?_
          rintro e2 w2 ⟨rfl, hb2⟩
          have B2 := hb1.trans (hb2.mono hb1.size)
          go_wp2
          go_ret
          exact ⟨by rw [HR.out]; rfl, B2⟩
      · have HC : Hid (∀ w2, BelowD w.heap.size w w2 → Calls Try.prog 73 #[.agg a.cells, .agg b.cells] w2 fun r w' => r = .returned (.int .i64 S) ∧ BelowD w2.heap.size w2 w') := fun w2 h2 => by rw [HS.out]; exact ord2_d (HA.out.later h2.b) (HB.out.later h2.b)
        have hidx : ∀ w, (Instr.index 104 (.agg #[.func (.func 71) #[] #[], .func (.func 73) #[] #[], .func (.func 75) #[] #[], .func (.func 77) #[] #[], .func (.func 78) #[] #[], .func (.func 79) #[] #[], .func (.func 80) #[] #[], .func (.func 81) #[] #[]]) (.int .i64 1)).run Try.prog w = .ok (.func (.func 73) #[] #[]) w := fun _ => by kernel_rfl
        by_cases hz : S = 0
        · have HZ2 : Hid (∀ j, j < 2 → (cmpsS a b).getD j 0 = 0) := fun j hj => by
            by_cases h : j < 1
            · exact HZ.out j h
            · obtain rfl : j = 1 := by omega
              rw [← HS.out]; exact hz
          subst hz
          have HC2 := HC.out wr hb1
          have HC3 : Hid (Calls Try.prog 73 #[.agg a.cells, .agg b.cells] wr fun r w' => r = .returned (.int .i64 0) ∧ BelowD wr.heap.size wr w') := HC2
          clear HC HC2 HS
          simp only [EntD.cells] at bxa bxb HC3
          go_wp2_with fail
          refine HC3.out.mono ?_
          rintro e2 w2 ⟨rfl, hb2⟩
          have B2 := hb1.trans (hb2.mono hb1.size)
          have bxa2 := BXA.out.later hb2.b
          have bxb2 := BXB.out.later hb2.b
          go_wp2
          go_roundw
          case rel => exact ⟨2, by omega, by go_num, HZ2.out, bxa2, bxb2, B2⟩
          case measure => simp [intOf]
        · have HR : Hid (compareS a b = S) := by unfold Hid compareS; rw [firstNZ_at _ 1 HZ.out (by rw [← HS.out]; exact hz), HS.out]
          have hz1 : (S != 0) = true := by simp; exact hz
          have HC2 := HC.out wr hb1
          have HC3 : Hid (Calls Try.prog 73 #[.agg a.cells, .agg b.cells] wr fun r w' => r = .returned (.int .i64 S) ∧ BelowD wr.heap.size wr w') := HC2
          clear HC HC2 HS
          simp only [EntD.cells] at bxa bxb HC3
          go_wp2_with fail
          refine HC3.out.mono ?_
          rintro e2 w2 ⟨rfl, hb2⟩
          have B2 := hb1.trans (hb2.mono hb1.size)
          go_wp2
          go_ret
          exact ⟨by rw [HR.out]; rfl, B2⟩
      · have HC : Hid (∀ w2, BelowD w.heap.size w w2 → Calls Try.prog 75 #[.agg a.cells, .agg b.cells] w2 fun r w' => r = .returned (.int .i64 S) ∧ BelowD w2.heap.size w2 w') := fun w2 h2 => by rw [HS.out]; exact ord3_d (HA.out.later h2.b) (HB.out.later h2.b)
        have hidx : ∀ w, (Instr.index 104 (.agg #[.func (.func 71) #[] #[], .func (.func 73) #[] #[], .func (.func 75) #[] #[], .func (.func 77) #[] #[], .func (.func 78) #[] #[], .func (.func 79) #[] #[], .func (.func 80) #[] #[], .func (.func 81) #[] #[]]) (.int .i64 2)).run Try.prog w = .ok (.func (.func 75) #[] #[]) w := fun _ => by kernel_rfl
        by_cases hz : S = 0
        · have HZ2 : Hid (∀ j, j < 3 → (cmpsS a b).getD j 0 = 0) := fun j hj => by
            by_cases h : j < 2
            · exact HZ.out j h
            · obtain rfl : j = 2 := by omega
              rw [← HS.out]; exact hz
          subst hz
          have HC2 := HC.out wr hb1
          have HC3 : Hid (Calls Try.prog 75 #[.agg a.cells, .agg b.cells] wr fun r w' => r = .returned (.int .i64 0) ∧ BelowD wr.heap.size wr w') := HC2
          clear HC HC2 HS
          simp only [EntD.cells] at bxa bxb HC3
          go_wp2_with fail
          refine HC3.out.mono ?_
          rintro e2 w2 ⟨rfl, hb2⟩
          have B2 := hb1.trans (hb2.mono hb1.size)
          have bxa2 := BXA.out.later hb2.b
          have bxb2 := BXB.out.later hb2.b
          go_wp2
          go_roundw
          case rel => exact ⟨3, by omega, by go_num, HZ2.out, bxa2, bxb2, B2⟩
          case measure => simp [intOf]
        · have HR : Hid (compareS a b = S) := by unfold Hid compareS; rw [firstNZ_at _ 2 HZ.out (by rw [← HS.out]; exact hz), HS.out]
          have hz1 : (S != 0) = true := by simp; exact hz
          have HC2 := HC.out wr hb1
          have HC3 : Hid (Calls Try.prog 75 #[.agg a.cells, .agg b.cells] wr fun r w' => r = .returned (.int .i64 S) ∧ BelowD wr.heap.size wr w') := HC2
          clear HC HC2 HS
          simp only [EntD.cells] at bxa bxb HC3
          go_wp2_with fail
          refine HC3.out.mono ?_
          rintro e2 w2 ⟨rfl, hb2⟩
          have B2 := hb1.trans (hb2.mono hb1.size)
          go_wp2
          go_ret
          exact ⟨by rw [HR.out]; rfl, B2⟩
      · have HC : Hid (∀ w2, BelowD w.heap.size w w2 → Calls Try.prog 77 #[.agg a.cells, .agg b.cells] w2 fun r w' => r = .returned (.int .i64 S) ∧ BelowD w2.heap.size w2 w') := fun w2 h2 => by rw [HS.out]; exact ord4_d (HA.out.later h2.b) (HB.out.later h2.b)
        have hidx : ∀ w, (Instr.index 104 (.agg #[.func (.func 71) #[] #[], .func (.func 73) #[] #[], .func (.func 75) #[] #[], .func (.func 77) #[] #[], .func (.func 78) #[] #[], .func (.func 79) #[] #[], .func (.func 80) #[] #[], .func (.func 81) #[] #[]]) (.int .i64 3)).run Try.prog w = .ok (.func (.func 77) #[] #[]) w := fun _ => by kernel_rfl
        by_cases hz : S = 0
        · have HZ2 : Hid (∀ j, j < 4 → (cmpsS a b).getD j 0 = 0) := fun j hj => by
            by_cases h : j < 3
            · exact HZ.out j h
            · obtain rfl : j = 3 := by omega
              rw [← HS.out]; exact hz
          subst hz
          have HC2 := HC.out wr hb1
          have HC3 : Hid (Calls Try.prog 77 #[.agg a.cells, .agg b.cells] wr fun r w' => r = .returned (.int .i64 0) ∧ BelowD wr.heap.size wr w') := HC2
          clear HC HC2 HS
          simp only [EntD.cells] at bxa bxb HC3
          go_wp2_with fail
          refine HC3.out.mono ?_
          rintro e2 w2 ⟨rfl, hb2⟩
          have B2 := hb1.trans (hb2.mono hb1.size)
          have bxa2 := BXA.out.later hb2.b
          have bxb2 := BXB.out.later hb2.b
          go_wp2
          go_roundw
          case rel => exact ⟨4, by omega, by go_num, HZ2.out, bxa2, bxb2, B2⟩
          case measure => simp [intOf]
        · have HR : Hid (compareS a b = S) := by unfold Hid compareS; rw [firstNZ_at _ 3 HZ.out (by rw [← HS.out]; exact hz), HS.out]
          have hz1 : (S != 0) = true := by simp; exact hz
          have HC2 := HC.out wr hb1
          have HC3 : Hid (Calls Try.prog 77 #[.agg a.cells, .agg b.cells] wr fun r w' => r = .returned (.int .i64 S) ∧ BelowD wr.heap.size wr w') := HC2
          clear HC HC2 HS
          simp only [EntD.cells] at bxa bxb HC3
          go_wp2_with fail
          refine HC3.out.mono ?_
          rintro e2 w2 ⟨rfl, hb2⟩
          have B2 := hb1.trans (hb2.mono hb1.size)
          go_wp2
          go_ret
          exact ⟨by rw [HR.out]; rfl, B2⟩
      · have HC : Hid (∀ w2, BelowD w.heap.size w w2 → Calls Try.prog 78 #[.agg a.cells, .agg b.cells] w2 fun r w' => r = .returned (.int .i64 S) ∧ BelowD w2.heap.size w2 w') := fun w2 h2 => by rw [HS.out]; exact ord5_d (HA.out.later h2.b) (HB.out.later h2.b)
        have hidx : ∀ w, (Instr.index 104 (.agg #[.func (.func 71) #[] #[], .func (.func 73) #[] #[], .func (.func 75) #[] #[], .func (.func 77) #[] #[], .func (.func 78) #[] #[], .func (.func 79) #[] #[], .func (.func 80) #[] #[], .func (.func 81) #[] #[]]) (.int .i64 4)).run Try.prog w = .ok (.func (.func 78) #[] #[]) w := fun _ => by kernel_rfl
        by_cases hz : S = 0
        · have HZ2 : Hid (∀ j, j < 5 → (cmpsS a b).getD j 0 = 0) := fun j hj => by
            by_cases h : j < 4
            · exact HZ.out j h
            · obtain rfl : j = 4 := by omega
              rw [← HS.out]; exact hz
          subst hz
          have HC2 := HC.out wr hb1
          have HC3 : Hid (Calls Try.prog 78 #[.agg a.cells, .agg b.cells] wr fun r w' => r = .returned (.int .i64 0) ∧ BelowD wr.heap.size wr w') := HC2
          clear HC HC2 HS
          simp only [EntD.cells] at bxa bxb HC3
          go_wp2_with fail
          refine HC3.out.mono ?_
          rintro e2 w2 ⟨rfl, hb2⟩
          have B2 := hb1.trans (hb2.mono hb1.size)
          have bxa2 := BXA.out.later hb2.b
          have bxb2 := BXB.out.later hb2.b
          go_wp2
          go_roundw
          case rel => exact ⟨5, by omega, by go_num, HZ2.out, bxa2, bxb2, B2⟩
          case measure => simp [intOf]
        · have HR : Hid (compareS a b = S) := by unfold Hid compareS; rw [firstNZ_at _ 4 HZ.out (by rw [← HS.out]; exact hz), HS.out]
          have hz1 : (S != 0) = true := by simp; exact hz
          have HC2 := HC.out wr hb1
          have HC3 : Hid (Calls Try.prog 78 #[.agg a.cells, .agg b.cells] wr fun r w' => r = .returned (.int .i64 S) ∧ BelowD wr.heap.size wr w') := HC2
          clear HC HC2 HS
          simp only [EntD.cells] at bxa bxb HC3
          go_wp2_with fail
          refine HC3.out.mono ?_
          rintro e2 w2 ⟨rfl, hb2⟩
          have B2 := hb1.trans (hb2.mono hb1.size)
          go_wp2
          go_ret
          exact ⟨by rw [HR.out]; rfl, B2⟩
      · have HC : Hid (∀ w2, BelowD w.heap.size w w2 → Calls Try.prog 79 #[.agg a.cells, .agg b.cells] w2 fun r w' => r = .returned (.int .i64 S) ∧ BelowD w2.heap.size w2 w') := fun w2 h2 => by rw [HS.out]; exact ord6_d (HA.out.later h2.b) (HB.out.later h2.b)
        have hidx : ∀ w, (Instr.index 104 (.agg #[.func (.func 71) #[] #[], .func (.func 73) #[] #[], .func (.func 75) #[] #[], .func (.func 77) #[] #[], .func (.func 78) #[] #[], .func (.func 79) #[] #[], .func (.func 80) #[] #[], .func (.func 81) #[] #[]]) (.int .i64 5)).run Try.prog w = .ok (.func (.func 79) #[] #[]) w := fun _ => by kernel_rfl
        by_cases hz : S = 0
        · have HZ2 : Hid (∀ j, j < 6 → (cmpsS a b).getD j 0 = 0) := fun j hj => by
            by_cases h : j < 5
            · exact HZ.out j h
            · obtain rfl : j = 5 := by omega
              rw [← HS.out]; exact hz
          subst hz
          have HC2 := HC.out wr hb1
          have HC3 : Hid (Calls Try.prog 79 #[.agg a.cells, .agg b.cells] wr fun r w' => r = .returned (.int .i64 0) ∧ BelowD wr.heap.size wr w') := HC2
          clear HC HC2 HS
          simp only [EntD.cells] at bxa bxb HC3
          go_wp2_with fail
          refine HC3.out.mono ?_
          rintro e2 w2 ⟨rfl, hb2⟩
          have B2 := hb1.trans (hb2.mono hb1.size)
          have bxa2 := BXA.out.later hb2.b
          have bxb2 := BXB.out.later hb2.b
          go_wp2
          go_roundw
          case rel => exact ⟨6, by omega, by go_num, HZ2.out, bxa2, bxb2, B2⟩
          case measure => simp [intOf]
        · have HR : Hid (compareS a b = S) := by unfold Hid compareS; rw [firstNZ_at _ 5 HZ.out (by rw [← HS.out]; exact hz), HS.out]
          have hz1 : (S != 0) = true := by simp; exact hz
          have HC2 := HC.out wr hb1
          have HC3 : Hid (Calls Try.prog 79 #[.agg a.cells, .agg b.cells] wr fun r w' => r = .returned (.int .i64 S) ∧ BelowD wr.heap.size wr w') := HC2
          clear HC HC2 HS
          simp only [EntD.cells] at bxa bxb HC3
          go_wp2_with fail
          refine HC3.out.mono ?_
          rintro e2 w2 ⟨rfl, hb2⟩
          have B2 := hb1.trans (hb2.mono hb1.size)
          go_wp2
          go_ret
          exact ⟨by rw [HR.out]; rfl, B2⟩
      · have HC : Hid (∀ w2, BelowD w.heap.size w w2 → Calls Try.prog 80 #[.agg a.cells, .agg b.cells] w2 fun r w' => r = .returned (.int .i64 S) ∧ BelowD w2.heap.size w2 w') := fun w2 h2 => by rw [HS.out]; exact ord7_d (HA.out.later h2.b) (HB.out.later h2.b)
        have hidx : ∀ w, (Instr.index 104 (.agg #[.func (.func 71) #[] #[], .func (.func 73) #[] #[], .func (.func 75) #[] #[], .func (.func 77) #[] #[], .func (.func 78) #[] #[], .func (.func 79) #[] #[], .func (.func 80) #[] #[], .func (.func 81) #[] #[]]) (.int .i64 6)).run Try.prog w = .ok (.func (.func 80) #[] #[]) w := fun _ => by kernel_rfl
        by_cases hz : S = 0
        · have HZ2 : Hid (∀ j, j < 7 → (cmpsS a b).getD j 0 = 0) := fun j hj => by
            by_cases h : j < 6
            · exact HZ.out j h
            · obtain rfl : j = 6 := by omega
              rw [← HS.out]; exact hz
          subst hz
          have HC2 := HC.out wr hb1
          have HC3 : Hid (Calls Try.prog 80 #[.agg a.cells, .agg b.cells] wr fun r w' => r = .returned (.int .i64 0) ∧ BelowD wr.heap.size wr w') := HC2
          clear HC HC2 HS
          simp only [EntD.cells] at bxa bxb HC3
          go_wp2_with fail
          refine HC3.out.mono ?_
          rintro e2 w2 ⟨rfl, hb2⟩
          have B2 := hb1.trans (hb2.mono hb1.size)
          have bxa2 := BXA.out.later hb2.b
          have bxb2 := BXB.out.later hb2.b
          go_wp2
          go_roundw
          case rel => exact ⟨7, by omega, by go_num, HZ2.out, bxa2, bxb2, B2⟩
          case measure => simp [intOf]
        · have HR : Hid (compareS a b = S) := by unfold Hid compareS; rw [firstNZ_at _ 6 HZ.out (by rw [← HS.out]; exact hz), HS.out]
          have hz1 : (S != 0) = true := by simp; exact hz
          have HC2 := HC.out wr hb1
          have HC3 : Hid (Calls Try.prog 80 #[.agg a.cells, .agg b.cells] wr fun r w' => r = .returned (.int .i64 S) ∧ BelowD wr.heap.size wr w') := HC2
          clear HC HC2 HS
          simp only [EntD.cells] at bxa bxb HC3
          go_wp2_with fail
          refine HC3.out.mono ?_
          rintro e2 w2 ⟨rfl, hb2⟩
          have B2 := hb1.trans (hb2.mono hb1.size)
          go_wp2
          go_ret
          exact ⟨by rw [HR.out]; rfl, B2⟩
      · have HC : Hid (∀ w2, BelowD w.heap.size w w2 → Calls Try.prog 81 #[.agg a.cells, .agg b.cells] w2 fun r w' => r = .returned (.int .i64 S) ∧ BelowD w2.heap.size w2 w') := fun w2 h2 => by rw [HS.out]; exact ord8_d (HA.out.later h2.b) (HB.out.later h2.b)
        have hidx : ∀ w, (Instr.index 104 (.agg #[.func (.func 71) #[] #[], .func (.func 73) #[] #[], .func (.func 75) #[] #[], .func (.func 77) #[] #[], .func (.func 78) #[] #[], .func (.func 79) #[] #[], .func (.func 80) #[] #[], .func (.func 81) #[] #[]]) (.int .i64 7)).run Try.prog w = .ok (.func (.func 81) #[] #[]) w := fun _ => by kernel_rfl
        by_cases hz : S = 0
        · have HZ2 : Hid (∀ j, j < 8 → (cmpsS a b).getD j 0 = 0) := fun j hj => by
            by_cases h : j < 7
            · exact HZ.out j h
            · obtain rfl : j = 7 := by omega
              rw [← HS.out]; exact hz
          subst hz
          have HC2 := HC.out wr hb1
          have HC3 : Hid (Calls Try.prog 81 #[.agg a.cells, .agg b.cells] wr fun r w' => r = .returned (.int .i64 0) ∧ BelowD wr.heap.size wr w') := HC2
          clear HC HC2 HS
          simp only [EntD.cells] at bxa bxb HC3
          go_wp2_with fail
          refine HC3.out.mono ?_
          rintro e2 w2 ⟨rfl, hb2⟩
          have B2 := hb1.trans (hb2.mono hb1.size)
          have bxa2 := BXA.out.later hb2.b
          have bxb2 := BXB.out.later hb2.b
          go_wp2
          go_roundw
          case rel => exact ⟨8, by omega, by go_num, HZ2.out, bxa2, bxb2, B2⟩
          case measure => simp [intOf]
        · have HR : Hid (compareS a b = S) := by unfold Hid compareS; rw [firstNZ_at _ 7 HZ.out (by rw [← HS.out]; exact hz), HS.out]
          have hz1 : (S != 0) = true := by simp; exact hz
          have HC2 := HC.out wr hb1
          have HC3 : Hid (Calls Try.prog 81 #[.agg a.cells, .agg b.cells] wr fun r w' => r = .returned (.int .i64 S) ∧ BelowD wr.heap.size wr w') := HC2
          clear HC HC2 HS
          simp only [EntD.cells] at bxa bxb HC3
          go_wp2_with fail
          refine HC3.out.mono ?_
          rintro e2 w2 ⟨rfl, hb2⟩
          have B2 := hb1.trans (hb2.mono hb1.size)
          go_wp2
          go_ret
          exact ⟨by rw [HR.out]; rfl, B2⟩
    · have hge : (8 : Int) ≤ (t : Int) := by omega
      have HR : Hid (compareS a b = 0) := by unfold Hid compareS; exact firstNZ_none _ (fun j hj => HZ.out j (by have : (cmpsS a b).length = 8 := rfl; omega))
      clear hlt
      go_wp2
      go_ret
      exact ⟨by rw [HR.out]; rfl, hb1⟩

end Go.Proofs.Ythhkpkfpifllkaa

