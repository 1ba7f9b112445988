import Derived.Test.YthhkpkfpifllkaaGreatK11
import Derived.Shelf.SlSortCmp.WholeK
namespace Go.Proofs.YthhkpkfpifllkaaGreat
open Go.RowKit Go.Maps
set_option linter.unusedVariables false

set_option maxRecDepth 100000 in
set_option maxHeartbeats 1000000 in
theorem copied3_any {v : Value} {bs : List Nat} {w : World} (hr : Rd w v bs) (hl : bs.length ≤ 140737488355328) :
    Calls Tryz.prog 74 #[v] w fun e w' => ∃ a m c, e = .returned (.slice a m c) ∧ Own w' w.heap.size (.slice a m c) m bs ∧ Below w.heap.size w w' := by
  obtain ⟨a, n, cap, rfl⟩ := rd_slice hr
  obtain ⟨hn, hle, hm, hl48⟩ := rd_lens hr
  rw [← hn] at hl
  clear hn
  go_enter Tryz.func74, Tryz.ntmps74
  go_wp2_with (at_builtin; refine wpList_append_at rfl _ _ rfl w.heap.size none 0 0 [] rfl ⟨rfl, World.ownsRow_nil _ _ _ _⟩ a n cap bs rfl hr (by omega) (Nat.le_refl _) ?_; intro a5 m5 c5 w5 own5 hb5)
  go_ret
  exact ⟨a5, m5, c5, rfl, by simpa using own5, hb5⟩
def Shrt (e : EntD) : Prop := e.row.length ≤ 140737488355328 ∧ e.qual.length ≤ 140737488355328 ∧ e.val.length ≤ 140737488355328
set_option maxRecDepth 100000 in
set_option maxHeartbeats 8000000 in
theorem cloneR_own {w : World} {e : EntD} (hx : EntD.Ok w e) (hl : Shrt e) :
    Calls Tryz.prog 35 #[.agg e.cells] w fun z w' => ∃ x : EntD, z = .returned (.agg x.cells) ∧ EntD.Same x e ∧ EOk (fun i => w.heap.size ≤ i) w' x ∧ O3 w' w.heap.size x ∧ Below w.heap.size w w' := by
  have A1 := (Below.refl w.heap.size w).alloc (Nat.le_refl _) (.cells e.cells 84)
  have bx0 := EBox.new w e
  obtain ⟨zc, hz⟩ : ∃ zc : Array Value, zc = #[.slice none 0 0, .int .i64 0, .slice none 0 0, .int .i64 0, .int .i64 0, .int .i64 0, .slice none 0 0] := ⟨_, rfl⟩
  have A2 := A1.alloc A1.size (.cells zc 84)
  have bx := bx0.later ((Below.refl (w.alloc (.cells e.cells 84)).heap.size _).alloc (Nat.le_refl _) (.cells zc 84))
  have rz : ((w.alloc (.cells e.cells 84)).alloc (.cells zc 84)).heap[w.heap.size + 1]? = some (.cells zc 84 (0, 0)) := by
    show ((w.alloc (.cells e.cells 84)).heap.push _)[w.heap.size + 1]? = _
    have e1 : w.heap.size + 1 = (w.alloc (.cells e.cells 84)).heap.size := (World.size_alloc w _).symm
    rw [e1]
    exact Array.getElem?_push_size
  obtain ⟨W, hW⟩ : ∃ W, W = (w.alloc (.cells e.cells 84)).alloc (.cells zc 84) := ⟨_, rfl⟩
  rw [← hW] at A2 bx rz
  have HW : Hid (W = _) := hW
  have hwl : w.heap.size + 1 < W.heap.size := by rw [hW]; simp
  clear hW A1 bx0
  have HK : Hid (∀ wx, Below w.heap.size w wx → EntD.Ok wx e) := fun wx b => hx.later b
  have HRZ := Lib.hid rz
  have HBX := Lib.hid bx
  have HA : Hid (Below w.heap.size w W) := A2
  have HY : Hid (Bys e.row ∧ Bys e.qual ∧ Bys e.val) := ⟨hx.1.1, hx.2.1.1, hx.2.2.1⟩
  have HL : Hid (Shrt e) := hl
  obtain ⟨vr, fam, vq, ts, seq, kind, vv, row, qual, val⟩ := e
  subst hz
  simp only [EntD.cells] at *
  have C1 : Hid (∀ wx, Below w.heap.size w wx → Calls Tryz.prog 74 #[vr] wx _) := fun wx b => copied3_any (HK.out _ b).1 HL.out.1
  have C2 : Hid (∀ wx, Below w.heap.size w wx → Calls Tryz.prog 74 #[vq] wx _) := fun wx b => copied3_any (HK.out _ b).2.1 HL.out.2.1
  have C3 : Hid (∀ wx, Below w.heap.size w wx → Calls Tryz.prog 74 #[vv] wx _) := fun wx b => copied3_any (HK.out _ b).2.2 HL.out.2.2
  have y0 : W.cell? ⟨w.heap.size, 0, none⟩ = some vr := bx.vr
  clear A2 bx rz hl hx
  go_enter Tryz.func35, Tryz.ntmps35
  go_wp2_with fail
  rw [← HW.out]
  clear HW
  go_wp2_with fail
  refine Calls.mono (C1.out _ HA.out) ?_
  rintro e1 w1 ⟨a1, m1, c1, rfl, o1, b1⟩
  have B1 := Lib.hid (HA.out.trans (b1.mono HA.out.size))
  have bx1 := HBX.out.later b1
  have g0 := bx1.fzA 0
  have v0 := bx1.vr
  have HO1 := Lib.hid (And.intro o1 (And.intro b1 bx1))
  clear o1 b1 bx1 y0
  go_upto_region 2 with fail
  have bx1 := HO1.out.2.2.put0 (.slice a1 m1 c1)
  have B1' := B1.out.setCell (p := ⟨w.heap.size, 0, none⟩) (Nat.le_refl _) (.slice a1 m1 c1)
  have K1 : KpG (fun i => W.heap.size ≤ i) w1 (w1.setCell ⟨w.heap.size, 0, none⟩ (.slice a1 m1 c1)) := (KpG.refl _ w1).setCell (by omega) _ _
  have R1 := (Below.heap_setCell w1 ⟨w.heap.size, 0, none⟩ (.slice a1 m1 c1) (w.heap.size + 1) (by show w.heap.size + 1 ≠ w.heap.size; omega)).trans ((HO1.out.2.1.block _ hwl).trans HRZ.out)
  have S1 : (w1.setCell ⟨w.heap.size, 0, none⟩ (.slice a1 m1 c1)).heap.size = w1.heap.size := World.size_setCell _ _ _
  generalize w1.setCell ⟨w.heap.size, 0, none⟩ (.slice a1 m1 c1) = X1 at *
  have y2 := bx1.vq
  have H1 := Lib.hid (And.intro bx1 (And.intro B1' (And.intro K1 (And.intro R1 S1))))
  clear bx1 B1' K1 R1 S1 v0 g0
  go_wp2_with fail
  refine Calls.mono (C2.out _ H1.out.2.1) ?_
  rintro e2 w2 ⟨a2, m2, c2, rfl, o2, b2⟩
  have bx2 := H1.out.1.later b2
  have g2 := bx2.fzA 2
  have v2 := bx2.vq
  have B2 := Lib.hid (H1.out.2.1.trans (b2.mono H1.out.2.1.size))
  have HO2 := Lib.hid (And.intro o2 (And.intro b2 bx2))
  clear o2 b2 bx2 y2
  go_upto_region 3 with fail
  have bx2 := HO2.out.2.2.put2 (.slice a2 m2 c2)
  have B2' := B2.out.setCell (p := ⟨w.heap.size, 2, none⟩) (Nat.le_refl _) (.slice a2 m2 c2)
  have K2 : KpG (fun i => W.heap.size ≤ i) w2 (w2.setCell ⟨w.heap.size, 2, none⟩ (.slice a2 m2 c2)) := (KpG.refl _ w2).setCell (by omega) _ _
  have sW1 : W.heap.size ≤ X1.heap.size := by rw [H1.out.2.2.2.2]; exact HO1.out.2.1.size
  have R2 := (Below.heap_setCell w2 ⟨w.heap.size, 2, none⟩ (.slice a2 m2 c2) (w.heap.size + 1) (by show w.heap.size + 1 ≠ w.heap.size; omega)).trans ((HO2.out.2.1.block (w.heap.size + 1) (by omega)).trans H1.out.2.2.2.1)
  have S2 : (w2.setCell ⟨w.heap.size, 2, none⟩ (.slice a2 m2 c2)).heap.size = w2.heap.size := World.size_setCell _ _ _
  generalize w2.setCell ⟨w.heap.size, 2, none⟩ (.slice a2 m2 c2) = X2 at *
  have y6 := bx2.vv
  have H2 := Lib.hid (And.intro bx2 (And.intro B2' (And.intro K2 (And.intro R2 S2))))
  clear bx2 B2' K2 R2 S2 v2 g2
  go_wp2_with fail
  refine Calls.mono (C3.out _ H2.out.2.1) ?_
  rintro e3 w3 ⟨a3, m3, c3, rfl, o3, b3⟩
  have bx3 := H2.out.1.later b3
  have g6 := bx3.fzA 6
  have v6 := bx3.vv
  have B3 := Lib.hid (H2.out.2.1.trans (b3.mono H2.out.2.1.size))
  have HO3 := Lib.hid (And.intro o3 (And.intro b3 bx3))
  clear o3 b3 bx3 y6
  go_upto_region 4 with fail
  have sW2 : W.heap.size ≤ X2.heap.size := by rw [H2.out.2.2.2.2]; exact Nat.le_trans sW1 HO2.out.2.1.size
  have BF := HO3.out.2.2.put6 (.slice a3 m3 c3)
  have BW := B3.out.setCell (p := ⟨w.heap.size, 6, none⟩) (Nat.le_refl _) (.slice a3 m3 c3)
  have K3 : KpG (fun i => W.heap.size ≤ i) w3 (w3.setCell ⟨w.heap.size, 6, none⟩ (.slice a3 m3 c3)) := (KpG.refl _ w3).setCell (by omega) _ _
  have RZ := (Below.heap_setCell w3 ⟨w.heap.size, 6, none⟩ (.slice a3 m3 c3) (w.heap.size + 1) (by show w.heap.size + 1 ≠ w.heap.size; omega)).trans ((HO3.out.2.1.block (w.heap.size + 1) (by omega)).trans H2.out.2.2.2.1)
  generalize w3.setCell ⟨w.heap.size, 6, none⟩ (.slice a3 m3 c3) = WF at *
  obtain ⟨o1, b1, -⟩ := HO1.out
  obtain ⟨o2, b2, -⟩ := HO2.out
  obtain ⟨o3, b3, -⟩ := HO3.out
  have q1 := H1.out.2.2.2.2
  have q2 := H2.out.2.2.2.2
  have l1 : ∀ g, (Value.slice a1 m1 c1).ownBlock = some g → W.heap.size ≤ g ∧ g < w1.heap.size := fun g hg => o1.2.lt g hg
  have l2 : ∀ g, (Value.slice a2 m2 c2).ownBlock = some g → w1.heap.size ≤ g ∧ g < w2.heap.size := fun g hg => by have := o2.2.lt g hg; omega
  have l3 : ∀ g, (Value.slice a3 m3 c3).ownBlock = some g → w2.heap.size ≤ g ∧ g < w3.heap.size := fun g hg => by have := o3.2.lt g hg; omega
  have s1 : W.heap.size ≤ w1.heap.size := b1.size
  have s2 : X1.heap.size ≤ w2.heap.size := b2.size
  have s3 : X2.heap.size ≤ w3.heap.size := b3.size
  have k3 : ∀ g, W.heap.size ≤ g → g < w3.heap.size → WF.heap[g]? = w3.heap[g]? := fun g h h' => K3.block g h' h
  have k2 : ∀ g, W.heap.size ≤ g → g < w2.heap.size → WF.heap[g]? = w2.heap[g]? := fun g h h' => (k3 g h (by omega)).trans ((b3.block g (by omega)).trans (H2.out.2.2.1.block g h' h))
  have k1 : ∀ g, W.heap.size ≤ g → g < w1.heap.size → WF.heap[g]? = w1.heap[g]? := fun g h h' => (k2 g h (by omega)).trans ((b2.block g (by omega)).trans (H1.out.2.2.1.block g h' h))
  have p1 := (own_same o1 (fun g hg => k1 g (l1 g hg).1 (l1 g hg).2)).base (fun g hg => (l1 g hg).1) o1.len
  have p2 := (own_same o2 (fun g hg => k2 g (by have := l2 g hg; omega) (l2 g hg).2)).base (fun g hg => Nat.le_trans s1 (l2 g hg).1) o2.len
  have p3 := (own_same o3 (fun g hg => k3 g (by have := l3 g hg; omega) (l3 g hg).2)).base (fun g hg => Nat.le_trans s1 (Nat.le_trans (by omega) (l3 g hg).1)) o3.len
  have HE : Hid (EOk (fun i => W.heap.size ≤ i) WF ⟨.slice a1 m1 c1, fam, .slice a2 m2 c2, ts, seq, kind, .slice a3 m3 c3, row, qual, val⟩) := ⟨RdG.of_own p1 HY.out.1 (by have := HL.out.1; rw [p1.len]; simp only at this; omega) (fun i hi => hi), RdG.of_own p2 HY.out.2.1 (by have := HL.out.2.1; rw [p2.len]; simp only at this; omega) (fun i hi => hi), RdG.of_own p3 HY.out.2.2 (by have := HL.out.2.2; rw [p3.len]; simp only at this; omega) (fun i hi => hi)⟩
  have HO : Hid (O3 WF W.heap.size ⟨.slice a1 m1 c1, fam, .slice a2 m2 c2, ts, seq, kind, .slice a3 m3 c3, row, qual, val⟩) := by
    refine ⟨p1, p2, p3, fun g h k => ?_, fun g h k => ?_, fun g h k => ?_⟩
    · have := l1 g h; have := l2 g k; omega
    · have := l1 g h; have := l3 g k; omega
    · have := l2 g h; have := l3 g k; omega
  have HBW : Hid (Below w.heap.size w WF) := BW
  obtain ⟨y0', y1', y2', y3', y4', y5', y6'⟩ := (⟨BF.vr, BF.fam, BF.vq, BF.ts, BF.seq, BF.kind, BF.vv⟩ : _ ∧ _ ∧ _ ∧ _ ∧ _ ∧ _ ∧ _)
  simp only at y0' y1' y2' y3' y4' y5' y6'
  have z0 : WF.cell? ⟨w.heap.size + 1, 0, none⟩ = some (.slice none 0 0) := by simp [World.cell?, RZ]
  have f0 : WF.frozen? ⟨w.heap.size + 1, 0, none⟩ = false := by simp [World.frozen?, RZ]
  have z1 : WF.cell? ⟨w.heap.size + 1, 1, none⟩ = some (.int .i64 0) := by simp [World.cell?, RZ]
  have f1 : WF.frozen? ⟨w.heap.size + 1, 1, none⟩ = false := by simp [World.frozen?, RZ]
  have z2 : WF.cell? ⟨w.heap.size + 1, 2, none⟩ = some (.slice none 0 0) := by simp [World.cell?, RZ]
  have f2 : WF.frozen? ⟨w.heap.size + 1, 2, none⟩ = false := by simp [World.frozen?, RZ]
  have z3 : WF.cell? ⟨w.heap.size + 1, 3, none⟩ = some (.int .i64 0) := by simp [World.cell?, RZ]
  have f3 : WF.frozen? ⟨w.heap.size + 1, 3, none⟩ = false := by simp [World.frozen?, RZ]
  have z4 : WF.cell? ⟨w.heap.size + 1, 4, none⟩ = some (.int .i64 0) := by simp [World.cell?, RZ]
  have f4 : WF.frozen? ⟨w.heap.size + 1, 4, none⟩ = false := by simp [World.frozen?, RZ]
  have z5 : WF.cell? ⟨w.heap.size + 1, 5, none⟩ = some (.int .i64 0) := by simp [World.cell?, RZ]
  have f5 : WF.frozen? ⟨w.heap.size + 1, 5, none⟩ = false := by simp [World.frozen?, RZ]
  have z6 : WF.cell? ⟨w.heap.size + 1, 6, none⟩ = some (.slice none 0 0) := by simp [World.cell?, RZ]
  have f6 : WF.frozen? ⟨w.heap.size + 1, 6, none⟩ = false := by simp [World.frozen?, RZ]
  clear RZ BF K3 BW o1 o2 o3 b1 b2 b3 v6 g6 l1 l2 l3 k1 k2 k3 p1 p2 p3 q1 q2 s1 s2 s3 H1 H2 HO1 HO2 HO3 B1 B2 B3 C1 C2 C3 sW1 sW2 HK
  go_wp2
  refine bodyPost_ret (v := .agg #[.slice a1 m1 c1, .int .i64 fam, .slice a2 m2 c2, .int .i64 ts, .int .i64 seq, .int .i64 kind, .slice a3 m3 c3]) (by simp [results, Tryz.results35, go_sem, z0, z1, z2, z3, z4, z5, z6]) rfl ?_
  refine ⟨⟨.slice a1 m1 c1, fam, .slice a2 m2 c2, ts, seq, kind, .slice a3 m3 c3, row, qual, val⟩, rfl, ⟨rfl, rfl, rfl, rfl, rfl, rfl, rfl⟩, ?_, ?_, ?_⟩
  · refine (HE.out.kept ?_).mono (fun i hi => Nat.le_trans HA.out.size hi)
    exact (((((((KpG.refl _ WF).setCell (by omega) _ _).setCell (by omega) _ _).setCell (by omega) _ _).setCell (by omega) _ _).setCell (by omega) _ _).setCell (by omega) _ _).setCell (by omega) _ _
  · refine (HO.out.kept ?_).mono HA.out.size
    exact (((((((KpG.refl _ WF).setCell (by omega) _ _).setCell (by omega) _ _).setCell (by omega) _ _).setCell (by omega) _ _).setCell (by omega) _ _).setCell (by omega) _ _).setCell (by omega) _ _
  · exact ((((((HBW.out.setCell (Nat.le_succ _) _).setCell (Nat.le_succ _) _).setCell (Nat.le_succ _) _).setCell (Nat.le_succ _) _).setCell (Nat.le_succ _) _).setCell (Nat.le_succ _) _).setCell (Nat.le_succ _) _
end Go.Proofs.YthhkpkfpifllkaaGreat

namespace Go.Proofs.YthhkpkfpifllkaaGreat
open Go.RowKit Go.Maps
set_option linter.unusedVariables false

structure Cl (W wr : World) (zs : List EntD) (v : Value) : Prop where
  row : wr.ownsRow W.heap.size 84 7 v zs.length (evals zs)
  ents : ∀ x ∈ zs, O3 wr W.heap.size x
  ap : zs.Pairwise Dsj
  below : Below W.heap.size W wr
theorem Cl.rw {W wr : World} {zs : List EntD} {v : Value} (h : Cl W wr zs v) : Rw wr W.heap.size v zs (fun i => W.heap.size ≤ i ∧ i < wr.heap.size) :=
  ⟨h.row, h.ents, h.ap, fun k hk => h.row.lt k hk, fun x hx k hk => (h.ents x hx).lt k hk⟩
theorem row_ku {W w w' : World} {zs : List EntD} {v : Value} {B : Nat} (h : w.ownsRow B 84 7 v zs.length (evals zs)) (g : w.grownBy w' v.ownBlock) : KU w w' :=
  KU.grown g fun r hr => by
    rcases h.2 with ⟨h1, _⟩ | ⟨g', cap, cur, h3, h4, h5, _⟩
    · rw [h1] at hr; cases hr
    · rw [h3] at hr; cases hr; exact ⟨cur, _, _, h5, by decide⟩
theorem Cl.add {W wr w1 w3 : World} {zs : List EntD} {v u : Value} {x : EntD} (h : Cl W wr zs v) (b : Below wr.heap.size wr w1) (o : O3 w1 wr.heap.size x) {ob : Obj} (g : (w1.alloc ob).grownBy w3 v.ownBlock) (r : w3.ownsRow W.heap.size 84 7 u (zs ++ [x]).length (evals (zs ++ [x]))) : Cl W w3 (zs ++ [x]) u := by
  have A := (Below.refl w1.heap.size w1).alloc (Nat.le_refl _) ob
  have r1 : (w1.alloc ob).ownsRow W.heap.size 84 7 v zs.length (evals zs) := row_same h.row (fun g hg => (A.block g (Nat.lt_of_lt_of_le (h.row.lt g hg).2 b.size)).trans (b.block g (h.row.lt g hg).2))
  have ku := (KU.of A).trans (row_ku (W := W) r1 g)
  have bb := h.below.trans (b.mono h.below.size)
  refine ⟨r, fun y hy => ?_, ?_, ?_⟩
  · rcases List.mem_append.1 hy with q | q
    · exact ((h.ents y q).later b).ku ku
    · rw [List.mem_singleton] at q
      subst q
      exact (o.mono h.below.size).ku ku
  · rw [List.pairwise_append]
    refine ⟨h.ap, List.pairwise_singleton _ _, fun a ha c hc g hg hk => ?_⟩
    rw [List.mem_singleton] at hc
    subst hc
    have := (h.ents a ha).lt g hg
    have := o.lt g hk
    omega
  · have bA := bb.trans (A.mono bb.size)
    exact bA.grown g bA.size (fun k hk => (h.row.lt k hk).1)
set_option maxRecDepth 100000 in
set_option maxHeartbeats 4000000 in
theorem cloneAll_any {W : World} {a : Option Addr} {cap : Nat} {l : List EntD} (h0 : RdL3 W a cap l) (hs : ∀ x ∈ l, Shrt x) (hl : l.length ≤ 1353245080300) :
    Calls Tryz.prog 14 #[.slice a l.length cap] W fun r W' => ∃ v zs, r = .returned v ∧ Cl W W' zs v ∧ zs.map EntD.dat = l.map EntD.dat := by
  obtain ⟨N, hN⟩ : ∃ N, N = l.length := ⟨_, rfl⟩
  rw [← hN] at hl ⊢
  have HN := Lib.hid hN
  have HR := Lib.hid h0
  have HS := Lib.hid hs
  clear hN h0 hs
  go_enter Tryz.func14, Tryz.ntmps14
  go_wp2
  go_loopw [3, 4] (fun o i wr => ∃ (k : Nat) (zs : List EntD) (a' : Option Addr) (c' : Nat), k ≤ N ∧ i = .int .i64 (k : Int) ∧ o = .slice a' zs.length c' ∧ Hid (Cl W wr zs (.slice a' zs.length c') ∧ zs.map EntD.dat = (l.take k).map EntD.dat)) (fun _ i _ => N - (intOf i).toNat)
  case atStart => exact ⟨0, [], none, 0, Nat.zero_le _, rfl, rfl, ⟨(Rw.nil W W.heap.size (fun _ => True)).row, by simp, List.Pairwise.nil, Below.refl _ _⟩, by simp⟩
  case round =>
    obtain ⟨k, zs, a', c', hk, rfl, rfl, HO⟩ := hrel
    have k0 : (0 : Int) ≤ (k : Int) := by omega
    by_cases hlt : k < N
    · have hlt2 : (k : Int) < (N : Int) := by omega
      obtain ⟨e, he⟩ : ∃ e, l[k]? = some e := ⟨l[k]'(by rw [← HN.out]; exact hlt), List.getElem?_eq_getElem _⟩
      have hrd := HR.out.later HO.out.1.below
      have hok := hrd.ok e (List.mem_of_getElem? he)
      rcases hrd.at_ with h0 | ⟨b, off, rfl, hc⟩
      · rw [h0] at he; simp at he
      have d0 := hc k e he 0 e.vr rfl
      have d1 := hc k e he 1 (.int .i64 e.fam) rfl
      have d2 := hc k e he 2 e.vq rfl
      have d3 := hc k e he 3 (.int .i64 e.ts) rfl
      have d4 := hc k e he 4 (.int .i64 e.seq) rfl
      have d5 := hc k e he 5 (.int .i64 e.kind) rfl
      have d6 := hc k e he 6 e.vv rfl
      simp only [Nat.add_zero] at d0
      have HE := Lib.hid he
      have HCl := Lib.hid (cloneR_own hok (HS.out e (List.mem_of_getElem? he)))
      have hzl : zs.length = k := by
        have := congrArg List.length HO.out.2
        rw [List.length_map, List.length_map, List.length_take] at this
        rw [HN.out] at hlt
        omega
      have HZl := Lib.hid hzl
      unfold EntD.cells at HCl
      clear hrd hok hc he hzl
      go_wp2_with fail
      refine Calls.mono HCl.out ?_
      rintro z1 w1 ⟨x, rfl, sx, ok1, o31, b1⟩
      have HSx := Lib.hid (EntD.dat_same.2 sx)
      have O31 := Lib.hid o31
      have B1 := Lib.hid b1
      obtain ⟨xr, xf, xq, xt, xs2, xk, xv, xrow, xqual, xval⟩ := x
      obtain ⟨ar, cr, er⟩ := own_form' o31.row
      obtain ⟨aq, cq, eq⟩ := own_form' o31.qual
      obtain ⟨aw, cw, ew⟩ := own_form' o31.val
      simp only at er eq ew
      subst er eq ew
      dsimp only
      clear sx ok1 o31 b1 HCl d0 d1 d2 d3 d4 d5 d6
      have A := Lib.hid ((Below.refl w1.heap.size w1).alloc (Nat.le_refl _) (.cells #[.slice ar xrow.length cr, .int .i64 xf, .slice aq xqual.length cq, .int .i64 xt, .int .i64 xs2, .int .i64 xk, .slice aw xval.length cw] 84))
      have HRow : Hid ((w1.alloc (.cells #[.slice ar xrow.length cr, .int .i64 xf, .slice aq xqual.length cq, .int .i64 xt, .int .i64 xs2, .int .i64 xk, .slice aw xval.length cw] 84)).ownsRow W.heap.size 84 7 (.slice a' zs.length c') zs.length (evals zs)) := row_same HO.out.1.row (fun g hg => (A.out.block g (Nat.lt_of_lt_of_le (HO.out.1.row.lt g hg).2 B1.out.size)).trans (B1.out.block g (HO.out.1.row.lt g hg).2))
      have HSz : Hid (W.heap.size ≤ (w1.alloc (.cells #[.slice ar xrow.length cr, .int .i64 xf, .slice aq xqual.length cq, .int .i64 xt, .int .i64 xs2, .int .i64 xk, .slice aw xval.length cw] 84)).heap.size) := Nat.le_trans HO.out.1.below.size (Nat.le_trans B1.out.size A.out.size)
      go_wp2_with (at_builtin; refine wpl_append_ent (x := (⟨.slice ar xrow.length cr, xf, .slice aq xqual.length cq, xt, xs2, xk, .slice aw xval.length cw, xrow, xqual, xval⟩ : EntD)) (xs := zs) rfl _ _ rfl rfl HRow.out ⟨w1.heap.size, 0, none⟩ rfl (ent_new w1 (⟨.slice ar xrow.length cr, xf, .slice aq xqual.length cq, xt, xs2, xk, .slice aw xval.length cw, xrow, xqual, xval⟩ : EntD)) (O3.cells_one O31.out) (by have := HZl.out; omega) HSz.out ?_)
      intro a4 c4 X4 row4 gr4
      have H4 := Lib.hid (HO.out.1.add B1.out O31.out gr4 (u := .slice a4 (zs.length + 1) c4) (by rw [List.length_append]; exact row4))
      have HD : Hid ((zs ++ [(⟨.slice ar xrow.length cr, xf, .slice aq xqual.length cq, xt, xs2, xk, .slice aw xval.length cw, xrow, xqual, xval⟩ : EntD)]).map EntD.dat = (l.take (k + 1)).map EntD.dat) := by
        unfold Hid
        rw [List.take_add_one, HE.out, List.map_append, List.map_append, HO.out.2]
        simp only [List.map_cons, List.map_nil, Option.toList_some]
        rw [HSx.out]
      clear row4 gr4 HRow HSz A
      go_wp2
      go_roundw
      case rel => exact ⟨k + 1, _, a4, c4, by omega, by go_num, by rw [List.length_append]; rfl, by rw [List.length_append]; exact H4.out, HD.out⟩
      case measure => simp only [intOf]; omega
    · have hg : ¬ (k : Int) < (N : Int) := by omega
      have HF : Hid (zs.map EntD.dat = l.map EntD.dat) := by
        unfold Hid
        rw [HO.out.2, List.take_of_length_le (by rw [← HN.out]; omega)]
      go_wp2
      go_ret
      exact ⟨_, rfl, zs, HO.out.1, HF.out⟩
theorem evals_app3 (a b : List EntD) : evals (a ++ b) = evals a ++ evals b := by simp [evals]
theorem evals_get3 : ∀ {xs : List EntD} {j : Nat} {u : Value}, (evals xs)[j]? = some u → ∃ x, xs[j / 7]? = some x ∧ x.cells.toList[j % 7]? = some u
  | [], j, u, h => by simp [evals] at h
  | x :: xs, j, u, h => by
    rw [evals_cons] at h
    by_cases hj : j < 7
    · rw [List.getElem?_append_left (show j < x.cells.toList.length from hj)] at h
      rw [Nat.div_eq_of_lt hj, Nat.mod_eq_of_lt hj]
      exact ⟨x, by simp, h⟩
    · rw [List.getElem?_append_right (show x.cells.toList.length ≤ j from by show 7 ≤ j; omega)] at h
      have h' : (evals xs)[j - 7]? = some u := h
      obtain ⟨y, h1, h2⟩ := evals_get3 h'
      have e1 : j / 7 = (j - 7) / 7 + 1 := by omega
      have e2 : j % 7 = (j - 7) % 7 := by omega
      rw [e1, e2]
      exact ⟨y, by simpa using h1, h2⟩
end Go.Proofs.YthhkpkfpifllkaaGreat

namespace Go.Proofs.YthhkpkfpifllkaaGreat
open Go.RowKit
set_option linter.unusedVariables false

structure BelowD (B : Nat) (w w' : World) : Prop where
  b : Below B w w'
  d : w.drawn ≤ w'.drawn
theorem BelowD.refl (B : Nat) (w : World) : BelowD B w w := ⟨Below.refl _ _, Nat.le_refl _⟩
theorem BelowD.trans {B : Nat} {a b c : World} (h : BelowD B a b) (k : BelowD B b c) : BelowD B a c := ⟨h.b.trans k.b, Nat.le_trans h.d k.d⟩
theorem BelowD.mono {B B' : Nat} {w w' : World} (h : BelowD B w w') (hB : B' ≤ B) : BelowD B' w w' := ⟨h.b.mono hB, h.d⟩
theorem BelowD.drew {B : Nat} {a w : World} (h : BelowD B a w) : BelowD B a w.drew := ⟨h.b.drew, Nat.le_trans h.d (Nat.le_succ _)⟩
theorem BelowD.alloc {B : Nat} {a w : World} (h : BelowD B a w) (hB : B ≤ w.heap.size) (o : Obj) : BelowD B a (w.alloc o) := ⟨h.b.alloc hB o, h.d⟩
theorem BelowD.size {B : Nat} {w w' : World} (h : BelowD B w w') : w.heap.size ≤ w'.heap.size := h.b.size

set_option maxRecDepth 100000 in
set_option maxHeartbeats 2000000 in
theorem aheadIf_d {a b : EntD} (k : Int) {w : World} :
    Calls Tryz.prog 142 #[.agg a.cells, .agg b.cells, .int .i64 k] w fun r w' => r = .returned (.int .i64 (aheadS a b k)) ∧ BelowD w.heap.size w w' := by
  obtain ⟨S, hS⟩ : ∃ S, S = aheadS a b k := ⟨_, rfl⟩
  rw [← hS]
  have HS : Hid (cmpI ((mark a.kind k : Nat) : Int) ((mark b.kind k : Nat) : Int) = S) := by unfold Hid; rw [hS]; rfl
  clear hS
  obtain ⟨M1, hM1⟩ : ∃ M, M = mark a.kind k := ⟨_, rfl⟩
  obtain ⟨M2, hM2⟩ : ∃ M, M = mark b.kind k := ⟨_, rfl⟩
  have q1 := fun w => markOf_m a.kind k w
  have q2 := fun w => markOf_m b.kind k w
  have q3 := fun w => cmpByte_any (M1 : Int) (M2 : Int) w
  rw [← hM1] at q1
  rw [← hM2] at q2
  have HS2 : cmpI (M1 : Int) (M2 : Int) = S := by rw [hM1, hM2]; exact HS.out
  rw [HS2] at q3
  have HQ1 : Hid (∀ w, Calls Tryz.prog 157 #[.int .i64 a.kind, .int .i64 k] w fun e w' => e = .returned (.int .u8 ((M1 : Nat) : Int)) ∧ w' = w) := q1
  have HQ2 : Hid (∀ w, Calls Tryz.prog 157 #[.int .i64 b.kind, .int .i64 k] w fun e w' => e = .returned (.int .u8 ((M2 : Nat) : Int)) ∧ w' = w) := q2
  have HQ3 : Hid (∀ w, Calls Tryz.prog 156 #[.int .u8 (M1 : Int), .int .u8 (M2 : Int)] w fun e w' => e = .returned (.int .i64 S) ∧ w' = w) := q3
  clear q1 q2 q3 hM1 hM2 HS HS2
  have A1 := (BelowD.refl w.heap.size w).alloc (Nat.le_refl _) (.cells a.cells 84)
  have A2 := A1.alloc A1.size (.cells b.cells 84)
  have bxa : Hid (EBox ((w.alloc (.cells a.cells 84)).alloc (.cells b.cells 84)) w.heap.size a) := (EBox.new w a).later ((Below.refl _ _).alloc (Nat.le_refl _) _)
  have bxb : Hid (EBox ((w.alloc (.cells a.cells 84)).alloc (.cells b.cells 84)) (w.heap.size + 1) b) := by
    have := EBox.new (w.alloc (.cells a.cells 84)) b
    rwa [World.size_alloc] at this
  have A2D : BelowD w.heap.size w ((w.alloc (.cells a.cells 84)).alloc (.cells b.cells 84)).drew := A2.drew
  have ya : ((w.alloc (.cells a.cells 84)).alloc (.cells b.cells 84)).drew.cell? ⟨w.heap.size, 5, none⟩ = some (.int .i64 a.kind) := bxa.out.kind
  have yb : ((w.alloc (.cells a.cells 84)).alloc (.cells b.cells 84)).drew.cell? ⟨w.heap.size + 1, 5, none⟩ = some (.int .i64 b.kind) := bxb.out.kind
  clear A1 bxa bxb
  obtain ⟨vr, fam, vq, ts, seq, ka, vv, row, qual, val⟩ := a
  obtain ⟨vr2, fam2, vq2, ts2, seq2, kb, vv2, row2, qual2, val2⟩ := b
  simp only [EntD.cells] at *
  go_enter Tryz.func142, Tryz.ntmps142
  go_wp2_with fail
  go_region_held3 (fun wx => wx.cell? ⟨w.heap.size, 5, none⟩ = some (.int .i64 ka) ∧ wx.cell? ⟨w.heap.size + 1, 5, none⟩ = some (.int .i64 kb) ∧ BelowD w.heap.size w wx) (first | exact ⟨ya, yb, A2D⟩) (first | (go_at_call 157; refine (HQ1.out _).mono ?_; rintro e1 wm ⟨rfl, rfl⟩) | (go_at_call 157; refine (HQ2.out _).mono ?_; rintro e1 wm ⟨rfl, rfl⟩) | (go_at_call 156; refine (HQ3.out _).mono ?_; rintro e1 wm ⟨rfl, rfl⟩))
  all_goals (go_wp2; go_ret; exact ⟨rfl, A2D⟩)

set_option maxRecDepth 100000 in
set_option maxHeartbeats 1000000 in
theorem ord1_d {a b : EntD} {w : World} (ha : EntD.Ok w a) (hb : EntD.Ok w b) :
    Calls Tryz.prog 137 #[.agg a.cells, .agg b.cells] w fun r w' => r = .returned (.int .i64 (ordC a.row b.row)) ∧ BelowD w.heap.size w w' := by
  have A1 := (BelowD.refl w.heap.size w).alloc (Nat.le_refl _) (.cells a.cells 84)
  have A2 := A1.alloc A1.size (.cells b.cells 84)
  have oa := ha.later A2.b
  have ob := hb.later A2.b
  clear A1 ha hb
  obtain ⟨vr, fam, vq, ts, seq, ka, vv, row, qual, val⟩ := a
  obtain ⟨vr2, fam2, vq2, ts2, seq2, kb, vv2, row2, qual2, val2⟩ := b
  obtain ⟨r1, q1, v1⟩ := oa
  obtain ⟨r2, q2, v2⟩ := ob
  simp only [EntD.cells] at *
  go_enter Tryz.func137, Tryz.ntmps137
  go_wp2_with fail
  refine (bytesCompare_any r1 r2).mono ?_
  rintro e1 w1 ⟨rfl, rfl⟩
  go_wp2
  go_ret
  exact ⟨rfl, A2⟩

set_option maxRecDepth 100000 in
set_option maxHeartbeats 1000000 in
theorem ord2_d {a b : EntD} {w : World} (ha : EntD.Ok w a) (hb : EntD.Ok w b) :
    Calls Tryz.prog 139 #[.agg a.cells, .agg b.cells] w fun r w' => r = .returned (.int .i64 (cmpI a.fam b.fam)) ∧ BelowD w.heap.size w w' := by
  have A1 := (BelowD.refl w.heap.size w).alloc (Nat.le_refl _) (.cells a.cells 84)
  have A2 := A1.alloc A1.size (.cells b.cells 84)
  have oa := ha.later A2.b
  have ob := hb.later A2.b
  clear A1 ha hb
  obtain ⟨vr, fam, vq, ts, seq, ka, vv, row, qual, val⟩ := a
  obtain ⟨vr2, fam2, vq2, ts2, seq2, kb, vv2, row2, qual2, val2⟩ := b
  obtain ⟨r1, q1, v1⟩ := oa
  obtain ⟨r2, q2, v2⟩ := ob
  simp only [EntD.cells] at *
  go_enter Tryz.func139, Tryz.ntmps139
  go_wp2_with fail
  refine (cmpInt_any _ _ _).mono ?_
  rintro e1 w1 ⟨rfl, rfl⟩
  go_wp2
  go_ret
  exact ⟨rfl, A2⟩

set_option maxRecDepth 100000 in
set_option maxHeartbeats 1000000 in
theorem ord3_d {a b : EntD} {w : World} (ha : EntD.Ok w a) (hb : EntD.Ok w b) :
    Calls Tryz.prog 141 #[.agg a.cells, .agg b.cells] w fun r w' => r = .returned (.int .i64 (aheadS a b 5)) ∧ BelowD w.heap.size w w' := by
  have A1 := (BelowD.refl w.heap.size w).alloc (Nat.le_refl _) (.cells a.cells 84)
  have A2 := A1.alloc A1.size (.cells b.cells 84)
  have oa := ha.later A2.b
  have ob := hb.later A2.b
  clear A1 ha hb
  have c1 := aheadIf_d (a := a) (b := b) 5 (w := (w.alloc (.cells a.cells 84)).alloc (.cells b.cells 84))
  obtain ⟨S, hS⟩ : ∃ S, S = aheadS a b 5 := ⟨_, rfl⟩
  rw [← hS] at c1 ⊢
  have HC : Hid (Calls Tryz.prog 142 #[.agg a.cells, .agg b.cells, .int .i64 5] ((w.alloc (.cells a.cells 84)).alloc (.cells b.cells 84)) fun r w' => r = .returned (.int .i64 S) ∧ BelowD ((w.alloc (.cells a.cells 84)).alloc (.cells b.cells 84)).heap.size ((w.alloc (.cells a.cells 84)).alloc (.cells b.cells 84)) w') := c1
  clear c1 hS
  obtain ⟨vr, fam, vq, ts, seq, ka, vv, row, qual, val⟩ := a
  obtain ⟨vr2, fam2, vq2, ts2, seq2, kb, vv2, row2, qual2, val2⟩ := b
  obtain ⟨r1, q1, v1⟩ := oa
  obtain ⟨r2, q2, v2⟩ := ob
  simp only [EntD.cells] at *
  go_enter Tryz.func141, Tryz.ntmps141
  go_wp2_with fail
  refine HC.out.mono ?_
  rintro e1 w1 ⟨rfl, hb1⟩
  have B1 := A2.trans (hb1.mono A2.size)
  go_wp2
  go_ret
  exact ⟨rfl, B1⟩

set_option maxRecDepth 100000 in
set_option maxHeartbeats 1000000 in
theorem ord4_d {a b : EntD} {w : World} (ha : EntD.Ok w a) (hb : EntD.Ok w b) :
    Calls Tryz.prog 143 #[.agg a.cells, .agg b.cells] w fun r w' => r = .returned (.int .i64 (ordC a.qual b.qual)) ∧ BelowD w.heap.size w w' := by
  have A1 := (BelowD.refl w.heap.size w).alloc (Nat.le_refl _) (.cells a.cells 84)
  have A2 := A1.alloc A1.size (.cells b.cells 84)
  have oa := ha.later A2.b
  have ob := hb.later A2.b
  clear A1 ha hb
  obtain ⟨vr, fam, vq, ts, seq, ka, vv, row, qual, val⟩ := a
  obtain ⟨vr2, fam2, vq2, ts2, seq2, kb, vv2, row2, qual2, val2⟩ := b
  obtain ⟨r1, q1, v1⟩ := oa
  obtain ⟨r2, q2, v2⟩ := ob
  simp only [EntD.cells] at *
  go_enter Tryz.func143, Tryz.ntmps143
  go_wp2_with fail
  refine (bytesCompare_any q1 q2).mono ?_
  rintro e1 w1 ⟨rfl, rfl⟩
  go_wp2
  go_ret
  exact ⟨rfl, A2⟩

set_option maxRecDepth 100000 in
set_option maxHeartbeats 1000000 in
theorem ord5_d {a b : EntD} {w : World} (ha : EntD.Ok w a) (hb : EntD.Ok w b) :
    Calls Tryz.prog 144 #[.agg a.cells, .agg b.cells] w fun r w' => r = .returned (.int .i64 (aheadS a b 4)) ∧ BelowD w.heap.size w w' := by
  have A1 := (BelowD.refl w.heap.size w).alloc (Nat.le_refl _) (.cells a.cells 84)
  have A2 := A1.alloc A1.size (.cells b.cells 84)
  have oa := ha.later A2.b
  have ob := hb.later A2.b
  clear A1 ha hb
  have c1 := aheadIf_d (a := a) (b := b) 4 (w := (w.alloc (.cells a.cells 84)).alloc (.cells b.cells 84))
  obtain ⟨S, hS⟩ : ∃ S, S = aheadS a b 4 := ⟨_, rfl⟩
  rw [← hS] at c1 ⊢
  have HC : Hid (Calls Tryz.prog 142 #[.agg a.cells, .agg b.cells, .int .i64 4] ((w.alloc (.cells a.cells 84)).alloc (.cells b.cells 84)) fun r w' => r = .returned (.int .i64 S) ∧ BelowD ((w.alloc (.cells a.cells 84)).alloc (.cells b.cells 84)).heap.size ((w.alloc (.cells a.cells 84)).alloc (.cells b.cells 84)) w') := c1
  clear c1 hS
  obtain ⟨vr, fam, vq, ts, seq, ka, vv, row, qual, val⟩ := a
  obtain ⟨vr2, fam2, vq2, ts2, seq2, kb, vv2, row2, qual2, val2⟩ := b
  obtain ⟨r1, q1, v1⟩ := oa
  obtain ⟨r2, q2, v2⟩ := ob
  simp only [EntD.cells] at *
  go_enter Tryz.func144, Tryz.ntmps144
  go_wp2_with fail
  refine HC.out.mono ?_
  rintro e1 w1 ⟨rfl, hb1⟩
  have B1 := A2.trans (hb1.mono A2.size)
  go_wp2
  go_ret
  exact ⟨rfl, B1⟩

set_option maxRecDepth 100000 in
set_option maxHeartbeats 1000000 in
theorem ord6_d {a b : EntD} {w : World} (ha : EntD.Ok w a) (hb : EntD.Ok w b) :
    Calls Tryz.prog 145 #[.agg a.cells, .agg b.cells] w fun r w' => r = .returned (.int .i64 (cmpI b.ts a.ts)) ∧ BelowD w.heap.size w w' := by
  have A1 := (BelowD.refl w.heap.size w).alloc (Nat.le_refl _) (.cells a.cells 84)
  have A2 := A1.alloc A1.size (.cells b.cells 84)
  have oa := ha.later A2.b
  have ob := hb.later A2.b
  clear A1 ha hb
  obtain ⟨vr, fam, vq, ts, seq, ka, vv, row, qual, val⟩ := a
  obtain ⟨vr2, fam2, vq2, ts2, seq2, kb, vv2, row2, qual2, val2⟩ := b
  obtain ⟨r1, q1, v1⟩ := oa
  obtain ⟨r2, q2, v2⟩ := ob
  simp only [EntD.cells] at *
  go_enter Tryz.func145, Tryz.ntmps145
  go_wp2_with fail
  refine (cmpInt_any _ _ _).mono ?_
  rintro e1 w1 ⟨rfl, rfl⟩
  go_wp2
  go_ret
  exact ⟨rfl, A2⟩

set_option maxRecDepth 100000 in
set_option maxHeartbeats 1000000 in
theorem ord7_d {a b : EntD} {w : World} (ha : EntD.Ok w a) (hb : EntD.Ok w b) :
    Calls Tryz.prog 146 #[.agg a.cells, .agg b.cells] w fun r w' => r = .returned (.int .i64 (cmpI b.seq a.seq)) ∧ BelowD w.heap.size w w' := by
  have A1 := (BelowD.refl w.heap.size w).alloc (Nat.le_refl _) (.cells a.cells 84)
  have A2 := A1.alloc A1.size (.cells b.cells 84)
  have oa := ha.later A2.b
  have ob := hb.later A2.b
  clear A1 ha hb
  obtain ⟨vr, fam, vq, ts, seq, ka, vv, row, qual, val⟩ := a
  obtain ⟨vr2, fam2, vq2, ts2, seq2, kb, vv2, row2, qual2, val2⟩ := b
  obtain ⟨r1, q1, v1⟩ := oa
  obtain ⟨r2, q2, v2⟩ := ob
  simp only [EntD.cells] at *
  go_enter Tryz.func146, Tryz.ntmps146
  go_wp2_with fail
  refine (cmpInt_any _ _ _).mono ?_
  rintro e1 w1 ⟨rfl, rfl⟩
  go_wp2
  go_ret
  exact ⟨rfl, A2⟩

set_option maxRecDepth 100000 in
set_option maxHeartbeats 1000000 in
theorem ord8_d {a b : EntD} {w : World} (ha : EntD.Ok w a) (hb : EntD.Ok w b) :
    Calls Tryz.prog 147 #[.agg a.cells, .agg b.cells] w fun r w' => r = .returned (.int .i64 (cmpI a.kind b.kind)) ∧ BelowD w.heap.size w w' := by
  have A1 := (BelowD.refl w.heap.size w).alloc (Nat.le_refl _) (.cells a.cells 84)
  have A2 := A1.alloc A1.size (.cells b.cells 84)
  have oa := ha.later A2.b
  have ob := hb.later A2.b
  clear A1 ha hb
  obtain ⟨vr, fam, vq, ts, seq, ka, vv, row, qual, val⟩ := a
  obtain ⟨vr2, fam2, vq2, ts2, seq2, kb, vv2, row2, qual2, val2⟩ := b
  obtain ⟨r1, q1, v1⟩ := oa
  obtain ⟨r2, q2, v2⟩ := ob
  simp only [EntD.cells] at *
  go_enter Tryz.func147, Tryz.ntmps147
  go_wp2_with fail
  refine (cmpInt_any _ _ _).mono ?_
  rintro e1 w1 ⟨rfl, rfl⟩
  go_wp2
  go_ret
  exact ⟨rfl, A2⟩

end Go.Proofs.YthhkpkfpifllkaaGreat


namespace Go.Proofs.YthhkpkfpifllkaaGreat
open Go.RowKit
set_option linter.unusedVariables false

set_option maxRecDepth 100000 in
set_option maxHeartbeats 1000000 in
theorem order_fns_d (w : World) : Calls Tryz.prog 111 #[] w fun r w' => r = .returned (.agg #[.func (.func 137) #[] #[], .func (.func 139) #[] #[], .func (.func 141) #[] #[], .func (.func 143) #[] #[], .func (.func 144) #[] #[], .func (.func 145) #[] #[], .func (.func 146) #[] #[], .func (.func 147) #[] #[]]) ∧ BelowD w.heap.size w w' := by
  have A1 := (BelowD.refl w.heap.size w).alloc (Nat.le_refl _) (.cells #[.func (.func 137) #[] #[], .func (.func 139) #[] #[], .func (.func 141) #[] #[], .func (.func 143) #[] #[], .func (.func 144) #[] #[], .func (.func 145) #[] #[], .func (.func 146) #[] #[], .func (.func 147) #[] #[]] 167)
  go_enter Tryz.func111, Tryz.ntmps111
  go_wp2
  go_returns
  exact ⟨rfl, A1⟩

set_option maxRecDepth 100000 in
set_option maxHeartbeats 8000000 in
theorem compare_d {a b : EntD} {w : World} (ha : EntD.Ok w a) (hb : EntD.Ok w b) :
    Calls Tryz.prog 81 #[.agg a.cells, .agg b.cells] w fun r w' => r = .returned (.int .i64 (compareS a b)) ∧ BelowD w.heap.size w w' := by
  have A1 := (BelowD.refl w.heap.size w).alloc (Nat.le_refl _) (.cells a.cells 84)
  have A2 := A1.alloc A1.size (.cells b.cells 84)
  have bxa0 := (EBox.new w a).later ((Below.refl (w.alloc (.cells a.cells 84)).heap.size (w.alloc (.cells a.cells 84))).alloc (Nat.le_refl _) (.cells b.cells 84))
  have bxb0 := EBox.new (w.alloc (.cells a.cells 84)) b
  rw [World.size_alloc] at bxb0
  have BXA0 : Hid (EBox _ w.heap.size a) := bxa0
  have BXB0 : Hid (EBox _ (w.heap.size + 1) b) := bxb0
  have HA : Hid (EntD.Ok w a) := ha
  have HB : Hid (EntD.Ok w b) := hb
  obtain ⟨va, hva⟩ : ∃ v, v = a.cells := ⟨_, rfl⟩
  clear A1 bxa0 bxb0 ha hb hva va
  go_enter Tryz.func81, Tryz.ntmps81
  go_wp2_with fail
  refine (order_fns_d _).mono ?_
  rintro e1 w1 ⟨rfl, hb1⟩
  have B1 := A2.trans (hb1.mono A2.size)
  have BXA1 := BXA0.out.later hb1.b
  have BXB1 := BXB0.out.later hb1.b
  clear A2 BXA0 BXB0 hb1
  go_wp2
  go_loopw [6, 7, 9] (fun f n i wr => ∃ t : Nat, t ≤ 8 ∧ i = .int .i64 (t : Int) ∧ (∀ j, j < t → (cmpsS a b).getD j 0 = 0) ∧ EBox wr w.heap.size a ∧ EBox wr (w.heap.size + 1) b ∧ BelowD w.heap.size w wr) (fun _ _ i _ => 8 - (intOf i).toNat)
  case atStart => exact ⟨0, by omega, rfl, fun j hj => by omega, BXA1, BXB1, B1⟩
  case round =>
    obtain ⟨t, ht8, rfl, hz, bxa, bxb, hb1⟩ := hrel
    have HZ : Hid (∀ j, j < t → (cmpsS a b).getD j 0 = 0) := hz
    have BXA : Hid (EBox wr w.heap.size a) := bxa
    have BXB : Hid (EBox wr (w.heap.size + 1) b) := bxb
    clear hz
    by_cases hlt : t < 8
    · obtain ⟨S, hS⟩ : ∃ S, S = (cmpsS a b).getD t 0 := ⟨_, rfl⟩
      have HS : Hid (S = (cmpsS a b).getD t 0) := hS
      clear hS
      have ca0 := bxa.vr
      have ca1 := bxa.fam
      have ca2 := bxa.vq
      have ca3 := bxa.ts
      have ca4 := bxa.seq
      have ca5 := bxa.kind
      have ca6 := bxa.vv
      have cb0 := bxb.vr
      have cb1 := bxb.fam
      have cb2 := bxb.vq
      have cb3 := bxb.ts
      have cb4 := bxb.seq
      have cb5 := bxb.kind
      have cb6 := bxb.vv
      rcases (show t = 0 ∨ t = 1 ∨ t = 2 ∨ t = 3 ∨ t = 4 ∨ t = 5 ∨ t = 6 ∨ t = 7 by omega) with rfl | rfl | rfl | rfl | rfl | rfl | rfl | rfl
      · have HC : Hid (∀ w2, BelowD w.heap.size w w2 → Calls Tryz.prog 137 #[.agg a.cells, .agg b.cells] w2 fun r w' => r = .returned (.int .i64 S) ∧ BelowD w2.heap.size w2 w') := fun w2 h2 => by rw [HS.out]; exact ord1_d (HA.out.later h2.b) (HB.out.later h2.b)
        have hidx : ∀ w, (Instr.index 167 (.agg #[.func (.func 137) #[] #[], .func (.func 139) #[] #[], .func (.func 141) #[] #[], .func (.func 143) #[] #[], .func (.func 144) #[] #[], .func (.func 145) #[] #[], .func (.func 146) #[] #[], .func (.func 147) #[] #[]]) (.int .i64 0)).run Tryz.prog w = .ok (.func (.func 137) #[] #[]) w := fun _ => by kernel_rfl
        by_cases hz : S = 0
        · have HZ2 : Hid (∀ j, j < 1 → (cmpsS a b).getD j 0 = 0) := fun j hj => by
            by_cases h : j < 0
            · exact HZ.out j h
            · obtain rfl : j = 0 := by omega
              rw [← HS.out]; exact hz
          subst hz
          have HC2 := HC.out wr hb1
          have HC3 : Hid (Calls Tryz.prog 137 #[.agg a.cells, .agg b.cells] wr fun r w' => r = .returned (.int .i64 0) ∧ BelowD wr.heap.size wr w') := HC2
          clear HC HC2 HS
          simp only [EntD.cells] at bxa bxb HC3
          go_wp2_with fail
          refine HC3.out.mono ?_
          rintro e2 w2 ⟨rfl, hb2⟩
          have B2 := hb1.trans (hb2.mono hb1.size)
          have bxa2 := BXA.out.later hb2.b
          have bxb2 := BXB.out.later hb2.b
          go_wp2
          go_roundw
          case rel => exact ⟨1, by omega, by go_num, HZ2.out, bxa2, bxb2, B2⟩
          case measure => simp [intOf]
        · have HR : Hid (compareS a b = S) := by unfold Hid compareS; rw [firstNZ_at _ 0 HZ.out (by rw [← HS.out]; exact hz), HS.out]
          have hz1 : (S != 0) = true := by simp; exact hz
          have HC2 := HC.out wr hb1
          have HC3 : Hid (Calls Tryz.prog 137 #[.agg a.cells, .agg b.cells] wr fun r w' => r = .returned (.int .i64 S) ∧ BelowD wr.heap.size wr w') := HC2
          clear HC HC2 HS
          simp only [EntD.cells] at bxa bxb HC3
          go_wp2_with fail
          refine HC3.out.mono ?_
          rintro e2 w2 ⟨rfl, hb2⟩
          have B2 := hb1.trans (hb2.mono hb1.size)
          go_wp2
          go_ret
          exact ⟨by rw [HR.out]; rfl, B2⟩
      · have HC : Hid (∀ w2, BelowD w.heap.size w w2 → Calls Tryz.prog 139 #[.agg a.cells, .agg b.cells] w2 fun r w' => r = .returned (.int .i64 S) ∧ BelowD w2.heap.size w2 w') := fun w2 h2 => by rw [HS.out]; exact ord2_d (HA.out.later h2.b) (HB.out.later h2.b)
        have hidx : ∀ w, (Instr.index 167 (.agg #[.func (.func 137) #[] #[], .func (.func 139) #[] #[], .func (.func 141) #[] #[], .func (.func 143) #[] #[], .func (.func 144) #[] #[], .func (.func 145) #[] #[], .func (.func 146) #[] #[], .func (.func 147) #[] #[]]) (.int .i64 1)).run Tryz.prog w = .ok (.func (.func 139) #[] #[]) w := fun _ => by kernel_rfl
        by_cases hz : S = 0
        · have HZ2 : Hid (∀ j, j < 2 → (cmpsS a b).getD j 0 = 0) := fun j hj => by
            by_cases h : j < 1
            · exact HZ.out j h
            · obtain rfl : j = 1 := by omega
              rw [← HS.out]; exact hz
          subst hz
          have HC2 := HC.out wr hb1
          have HC3 : Hid (Calls Tryz.prog 139 #[.agg a.cells, .agg b.cells] wr fun r w' => r = .returned (.int .i64 0) ∧ BelowD wr.heap.size wr w') := HC2
          clear HC HC2 HS
          simp only [EntD.cells] at bxa bxb HC3
          go_wp2_with fail
          refine HC3.out.mono ?_
          rintro e2 w2 ⟨rfl, hb2⟩
          have B2 := hb1.trans (hb2.mono hb1.size)
          have bxa2 := BXA.out.later hb2.b
          have bxb2 := BXB.out.later hb2.b
          go_wp2
          go_roundw
          case rel => exact ⟨2, by omega, by go_num, HZ2.out, bxa2, bxb2, B2⟩
          case measure => simp [intOf]
        · have HR : Hid (compareS a b = S) := by unfold Hid compareS; rw [firstNZ_at _ 1 HZ.out (by rw [← HS.out]; exact hz), HS.out]
          have hz1 : (S != 0) = true := by simp; exact hz
          have HC2 := HC.out wr hb1
          have HC3 : Hid (Calls Tryz.prog 139 #[.agg a.cells, .agg b.cells] wr fun r w' => r = .returned (.int .i64 S) ∧ BelowD wr.heap.size wr w') := HC2
          clear HC HC2 HS
          simp only [EntD.cells] at bxa bxb HC3
          go_wp2_with fail
          refine HC3.out.mono ?_
          rintro e2 w2 ⟨rfl, hb2⟩
          have B2 := hb1.trans (hb2.mono hb1.size)
          go_wp2
          go_ret
          exact ⟨by rw [HR.out]; rfl, B2⟩
      · have HC : Hid (∀ w2, BelowD w.heap.size w w2 → Calls Tryz.prog 141 #[.agg a.cells, .agg b.cells] w2 fun r w' => r = .returned (.int .i64 S) ∧ BelowD w2.heap.size w2 w') := fun w2 h2 => by rw [HS.out]; exact ord3_d (HA.out.later h2.b) (HB.out.later h2.b)
        have hidx : ∀ w, (Instr.index 167 (.agg #[.func (.func 137) #[] #[], .func (.func 139) #[] #[], .func (.func 141) #[] #[], .func (.func 143) #[] #[], .func (.func 144) #[] #[], .func (.func 145) #[] #[], .func (.func 146) #[] #[], .func (.func 147) #[] #[]]) (.int .i64 2)).run Tryz.prog w = .ok (.func (.func 141) #[] #[]) w := fun _ => by kernel_rfl
        by_cases hz : S = 0
        · have HZ2 : Hid (∀ j, j < 3 → (cmpsS a b).getD j 0 = 0) := fun j hj => by
            by_cases h : j < 2
            · exact HZ.out j h
            · obtain rfl : j = 2 := by omega
              rw [← HS.out]; exact hz
          subst hz
          have HC2 := HC.out wr hb1
          have HC3 : Hid (Calls Tryz.prog 141 #[.agg a.cells, .agg b.cells] wr fun r w' => r = .returned (.int .i64 0) ∧ BelowD wr.heap.size wr w') := HC2
          clear HC HC2 HS
          simp only [EntD.cells] at bxa bxb HC3
          go_wp2_with fail
          refine HC3.out.mono ?_
          rintro e2 w2 ⟨rfl, hb2⟩
          have B2 := hb1.trans (hb2.mono hb1.size)
          have bxa2 := BXA.out.later hb2.b
          have bxb2 := BXB.out.later hb2.b
          go_wp2
          go_roundw
          case rel => exact ⟨3, by omega, by go_num, HZ2.out, bxa2, bxb2, B2⟩
          case measure => simp [intOf]
        · have HR : Hid (compareS a b = S) := by unfold Hid compareS; rw [firstNZ_at _ 2 HZ.out (by rw [← HS.out]; exact hz), HS.out]
          have hz1 : (S != 0) = true := by simp; exact hz
          have HC2 := HC.out wr hb1
          have HC3 : Hid (Calls Tryz.prog 141 #[.agg a.cells, .agg b.cells] wr fun r w' => r = .returned (.int .i64 S) ∧ BelowD wr.heap.size wr w') := HC2
          clear HC HC2 HS
          simp only [EntD.cells] at bxa bxb HC3
          go_wp2_with fail
          refine HC3.out.mono ?_
          rintro e2 w2 ⟨rfl, hb2⟩
          have B2 := hb1.trans (hb2.mono hb1.size)
          go_wp2
          go_ret
          exact ⟨by rw [HR.out]; rfl, B2⟩
      · have HC : Hid (∀ w2, BelowD w.heap.size w w2 → Calls Tryz.prog 143 #[.agg a.cells, .agg b.cells] w2 fun r w' => r = .returned (.int .i64 S) ∧ BelowD w2.heap.size w2 w') := fun w2 h2 => by rw [HS.out]; exact ord4_d (HA.out.later h2.b) (HB.out.later h2.b)
        have hidx : ∀ w, (Instr.index 167 (.agg #[.func (.func 137) #[] #[], .func (.func 139) #[] #[], .func (.func 141) #[] #[], .func (.func 143) #[] #[], .func (.func 144) #[] #[], .func (.func 145) #[] #[], .func (.func 146) #[] #[], .func (.func 147) #[] #[]]) (.int .i64 3)).run Tryz.prog w = .ok (.func (.func 143) #[] #[]) w := fun _ => by kernel_rfl
        by_cases hz : S = 0
        · have HZ2 : Hid (∀ j, j < 4 → (cmpsS a b).getD j 0 = 0) := fun j hj => by
            by_cases h : j < 3
            · exact HZ.out j h
            · obtain rfl : j = 3 := by omega
              rw [← HS.out]; exact hz
          subst hz
          have HC2 := HC.out wr hb1
          have HC3 : Hid (Calls Tryz.prog 143 #[.agg a.cells, .agg b.cells] wr fun r w' => r = .returned (.int .i64 0) ∧ BelowD wr.heap.size wr w') := HC2
          clear HC HC2 HS
          simp only [EntD.cells] at bxa bxb HC3
          go_wp2_with fail
          refine HC3.out.mono ?_
          rintro e2 w2 ⟨rfl, hb2⟩
          have B2 := hb1.trans (hb2.mono hb1.size)
          have bxa2 := BXA.out.later hb2.b
          have bxb2 := BXB.out.later hb2.b
          go_wp2
          go_roundw
          case rel => exact ⟨4, by omega, by go_num, HZ2.out, bxa2, bxb2, B2⟩
          case measure => simp [intOf]
        · have HR : Hid (compareS a b = S) := by unfold Hid compareS; rw [firstNZ_at _ 3 HZ.out (by rw [← HS.out]; exact hz), HS.out]
          have hz1 : (S != 0) = true := by simp; exact hz
          have HC2 := HC.out wr hb1
          have HC3 : Hid (Calls Tryz.prog 143 #[.agg a.cells, .agg b.cells] wr fun r w' => r = .returned (.int .i64 S) ∧ BelowD wr.heap.size wr w') := HC2
          clear HC HC2 HS
          simp only [EntD.cells] at bxa bxb HC3
          go_wp2_with fail
          refine HC3.out.mono ?_
          rintro e2 w2 ⟨rfl, hb2⟩
          have B2 := hb1.trans (hb2.mono hb1.size)
          go_wp2
          go_ret
          exact ⟨by rw [HR.out]; rfl, B2⟩
      · have HC : Hid (∀ w2, BelowD w.heap.size w w2 → Calls Tryz.prog 144 #[.agg a.cells, .agg b.cells] w2 fun r w' => r = .returned (.int .i64 S) ∧ BelowD w2.heap.size w2 w') := fun w2 h2 => by rw [HS.out]; exact ord5_d (HA.out.later h2.b) (HB.out.later h2.b)
        have hidx : ∀ w, (Instr.index 167 (.agg #[.func (.func 137) #[] #[], .func (.func 139) #[] #[], .func (.func 141) #[] #[], .func (.func 143) #[] #[], .func (.func 144) #[] #[], .func (.func 145) #[] #[], .func (.func 146) #[] #[], .func (.func 147) #[] #[]]) (.int .i64 4)).run Tryz.prog w = .ok (.func (.func 144) #[] #[]) w := fun _ => by kernel_rfl
        by_cases hz : S = 0
        · have HZ2 : Hid (∀ j, j < 5 → (cmpsS a b).getD j 0 = 0) := fun j hj => by
            by_cases h : j < 4
            · exact HZ.out j h
            · obtain rfl : j = 4 := by omega
              rw [← HS.out]; exact hz
          subst hz
          have HC2 := HC.out wr hb1
          have HC3 : Hid (Calls Tryz.prog 144 #[.agg a.cells, .agg b.cells] wr fun r w' => r = .returned (.int .i64 0) ∧ BelowD wr.heap.size wr w') := HC2
          clear HC HC2 HS
          simp only [EntD.cells] at bxa bxb HC3
          go_wp2_with fail
          refine HC3.out.mono ?_
          rintro e2 w2 ⟨rfl, hb2⟩
          have B2 := hb1.trans (hb2.mono hb1.size)
          have bxa2 := BXA.out.later hb2.b
          have bxb2 := BXB.out.later hb2.b
          go_wp2
          go_roundw
          case rel => exact ⟨5, by omega, by go_num, HZ2.out, bxa2, bxb2, B2⟩
          case measure => simp [intOf]
        · have HR : Hid (compareS a b = S) := by unfold Hid compareS; rw [firstNZ_at _ 4 HZ.out (by rw [← HS.out]; exact hz), HS.out]
          have hz1 : (S != 0) = true := by simp; exact hz
          have HC2 := HC.out wr hb1
          have HC3 : Hid (Calls Tryz.prog 144 #[.agg a.cells, .agg b.cells] wr fun r w' => r = .returned (.int .i64 S) ∧ BelowD wr.heap.size wr w') := HC2
          clear HC HC2 HS
          simp only [EntD.cells] at bxa bxb HC3
          go_wp2_with fail
          refine HC3.out.mono ?_
          rintro e2 w2 ⟨rfl, hb2⟩
          have B2 := hb1.trans (hb2.mono hb1.size)
          go_wp2
          go_ret
          exact ⟨by rw [HR.out]; rfl, B2⟩
      · have HC : Hid (∀ w2, BelowD w.heap.size w w2 → Calls Tryz.prog 145 #[.agg a.cells, .agg b.cells] w2 fun r w' => r = .returned (.int .i64 S) ∧ BelowD w2.heap.size w2 w') := fun w2 h2 => by rw [HS.out]; exact ord6_d (HA.out.later h2.b) (HB.out.later h2.b)
        have hidx : ∀ w, (Instr.index 167 (.agg #[.func (.func 137) #[] #[], .func (.func 139) #[] #[], .func (.func 141) #[] #[], .func (.func 143) #[] #[], .func (.func 144) #[] #[], .func (.func 145) #[] #[], .func (.func 146) #[] #[], .func (.func 147) #[] #[]]) (.int .i64 5)).run Tryz.prog w = .ok (.func (.func 145) #[] #[]) w := fun _ => by kernel_rfl
        by_cases hz : S = 0
        · have HZ2 : Hid (∀ j, j < 6 → (cmpsS a b).getD j 0 = 0) := fun j hj => by
            by_cases h : j < 5
            · exact HZ.out j h
            · obtain rfl : j = 5 := by omega
              rw [← HS.out]; exact hz
          subst hz
          have HC2 := HC.out wr hb1
          have HC3 : Hid (Calls Tryz.prog 145 #[.agg a.cells, .agg b.cells] wr fun r w' => r = .returned (.int .i64 0) ∧ BelowD wr.heap.size wr w') := HC2
          clear HC HC2 HS
          simp only [EntD.cells] at bxa bxb HC3
          go_wp2_with fail
          refine HC3.out.mono ?_
          rintro e2 w2 ⟨rfl, hb2⟩
          have B2 := hb1.trans (hb2.mono hb1.size)
          have bxa2 := BXA.out.later hb2.b
          have bxb2 := BXB.out.later hb2.b
          go_wp2
          go_roundw
          case rel => exact ⟨6, by omega, by go_num, HZ2.out, bxa2, bxb2, B2⟩
          case measure => simp [intOf]
        · have HR : Hid (compareS a b = S) := by unfold Hid compareS; rw [firstNZ_at _ 5 HZ.out (by rw [← HS.out]; exact hz), HS.out]
          have hz1 : (S != 0) = true := by simp; exact hz
          have HC2 := HC.out wr hb1
          have HC3 : Hid (Calls Tryz.prog 145 #[.agg a.cells, .agg b.cells] wr fun r w' => r = .returned (.int .i64 S) ∧ BelowD wr.heap.size wr w') := HC2
          clear HC HC2 HS
          simp only [EntD.cells] at bxa bxb HC3
          go_wp2_with fail
          refine HC3.out.mono ?_
          rintro e2 w2 ⟨rfl, hb2⟩
          have B2 := hb1.trans (hb2.mono hb1.size)
          go_wp2
          go_ret
          exact ⟨by rw [HR.out]; rfl, B2⟩
      · have HC : Hid (∀ w2, BelowD w.heap.size w w2 → Calls Tryz.prog 146 #[.agg a.cells, .agg b.cells] w2 fun r w' => r = .returned (.int .i64 S) ∧ BelowD w2.heap.size w2 w') := fun w2 h2 => by rw [HS.out]; exact ord7_d (HA.out.later h2.b) (HB.out.later h2.b)
        have hidx : ∀ w, (Instr.index 167 (.agg #[.func (.func 137) #[] #[], .func (.func 139) #[] #[], .func (.func 141) #[] #[], .func (.func 143) #[] #[], .func (.func 144) #[] #[], .func (.func 145) #[] #[], .func (.func 146) #[] #[], .func (.func 147) #[] #[]]) (.int .i64 6)).run Tryz.prog w = .ok (.func (.func 146) #[] #[]) w := fun _ => by kernel_rfl
        by_cases hz : S = 0
        · have HZ2 : Hid (∀ j, j < 7 → (cmpsS a b).getD j 0 = 0) := fun j hj => by
            by_cases h : j < 6
            · exact HZ.out j h
            · obtain rfl : j = 6 := by omega
              rw [← HS.out]; exact hz
          subst hz
          have HC2 := HC.out wr hb1
          have HC3 : Hid (Calls Tryz.prog 146 #[.agg a.cells, .agg b.cells] wr fun r w' => r = .returned (.int .i64 0) ∧ BelowD wr.heap.size wr w') := HC2
          clear HC HC2 HS
          simp only [EntD.cells] at bxa bxb HC3
          go_wp2_with fail
          refine HC3.out.mono ?_
          rintro e2 w2 ⟨rfl, hb2⟩
          have B2 := hb1.trans (hb2.mono hb1.size)
          have bxa2 := BXA.out.later hb2.b
          have bxb2 := BXB.out.later hb2.b
          go_wp2
          go_roundw
          case rel => exact ⟨7, by omega, by go_num, HZ2.out, bxa2, bxb2, B2⟩
          case measure => simp [intOf]
        · have HR : Hid (compareS a b = S) := by unfold Hid compareS; rw [firstNZ_at _ 6 HZ.out (by rw [← HS.out]; exact hz), HS.out]
          have hz1 : (S != 0) = true := by simp; exact hz
          have HC2 := HC.out wr hb1
          have HC3 : Hid (Calls Tryz.prog 146 #[.agg a.cells, .agg b.cells] wr fun r w' => r = .returned (.int .i64 S) ∧ BelowD wr.heap.size wr w') := HC2
          clear HC HC2 HS
          simp only [EntD.cells] at bxa bxb HC3
          go_wp2_with fail
          refine HC3.out.mono ?_
          rintro e2 w2 ⟨rfl, hb2⟩
          have B2 := hb1.trans (hb2.mono hb1.size)
          go_wp2
          go_ret
          exact ⟨by rw [HR.out]; rfl, B2⟩
      · have HC : Hid (∀ w2, BelowD w.heap.size w w2 → Calls Tryz.prog 147 #[.agg a.cells, .agg b.cells] w2 fun r w' => r = .returned (.int .i64 S) ∧ BelowD w2.heap.size w2 w') := fun w2 h2 => by rw [HS.out]; exact ord8_d (HA.out.later h2.b) (HB.out.later h2.b)
        have hidx : ∀ w, (Instr.index 167 (.agg #[.func (.func 137) #[] #[], .func (.func 139) #[] #[], .func (.func 141) #[] #[], .func (.func 143) #[] #[], .func (.func 144) #[] #[], .func (.func 145) #[] #[], .func (.func 146) #[] #[], .func (.func 147) #[] #[]]) (.int .i64 7)).run Tryz.prog w = .ok (.func (.func 147) #[] #[]) w := fun _ => by kernel_rfl
        by_cases hz : S = 0
        · have HZ2 : Hid (∀ j, j < 8 → (cmpsS a b).getD j 0 = 0) := fun j hj => by
            by_cases h : j < 7
            · exact HZ.out j h
            · obtain rfl : j = 7 := by omega
              rw [← HS.out]; exact hz
          subst hz
          have HC2 := HC.out wr hb1
          have HC3 : Hid (Calls Tryz.prog 147 #[.agg a.cells, .agg b.cells] wr fun r w' => r = .returned (.int .i64 0) ∧ BelowD wr.heap.size wr w') := HC2
          clear HC HC2 HS
          simp only [EntD.cells] at bxa bxb HC3
          go_wp2_with fail
          refine HC3.out.mono ?_
          rintro e2 w2 ⟨rfl, hb2⟩
          have B2 := hb1.trans (hb2.mono hb1.size)
          have bxa2 := BXA.out.later hb2.b
          have bxb2 := BXB.out.later hb2.b
          go_wp2
          go_roundw
          case rel => exact ⟨8, by omega, by go_num, HZ2.out, bxa2, bxb2, B2⟩
          case measure => simp [intOf]
        · have HR : Hid (compareS a b = S) := by unfold Hid compareS; rw [firstNZ_at _ 7 HZ.out (by rw [← HS.out]; exact hz), HS.out]
          have hz1 : (S != 0) = true := by simp; exact hz
          have HC2 := HC.out wr hb1
          have HC3 : Hid (Calls Tryz.prog 147 #[.agg a.cells, .agg b.cells] wr fun r w' => r = .returned (.int .i64 S) ∧ BelowD wr.heap.size wr w') := HC2
          clear HC HC2 HS
          simp only [EntD.cells] at bxa bxb HC3
          go_wp2_with fail
          refine HC3.out.mono ?_
          rintro e2 w2 ⟨rfl, hb2⟩
          have B2 := hb1.trans (hb2.mono hb1.size)
          go_wp2
          go_ret
          exact ⟨by rw [HR.out]; rfl, B2⟩
    · have hge : (8 : Int) ≤ (t : Int) := by omega
      have HR : Hid (compareS a b = 0) := by unfold Hid compareS; exact firstNZ_none _ (fun j hj => HZ.out j (by have : (cmpsS a b).length = 8 := rfl; omega))
      clear hlt
      go_wp2
      go_ret
      exact ⟨by rw [HR.out]; rfl, hb1⟩

end Go.Proofs.YthhkpkfpifllkaaGreat


namespace Go.Proofs.YthhkpkfpifllkaaGreat
open Go.RowKit
set_option linter.unusedVariables false

def laidSort : Go.Shelf.Ren := ⟨fun | 6 => 80 | 14 => 109 | 15 => 110 | 20 => 127 | 21 => 128 | 22 => 129 | 23 => 130 | 24 => 131 | 25 => 132 | 26 => 133 | 27 => 134 | 28 => 135 | 29 => 136 | 46 => 149 | 47 => 150 | 48 => 151 | 49 => 152 | 50 => 153 | 57 => 160 | n => n, fun | 0 => 0 | 3 => 3 | 4 => 4 | 5 => 5 | 9 => 9 | 22 => 28 | 24 => 84 | 25 => 134 | 39 => 165 | 45 => 177 | 46 => 178 | 50 => 117 | 53 => 184 | 55 => 186 | 66 => 188 | 70 => 192 | 76 => 197 | 77 => 54 | n => n, fun n => n⟩
set_option maxRecDepth 100000 in
theorem laysSort : SlLaysF0.n6 Tryz.prog laidSort := {
  mixed := by kernel_rfl,
  f6 := ⟨ "slices.SortFunc[[]strata/api.Entry,strata/api.Entry]", by decide, Tryz.func80.trans (congrArg some (by kernel_rfl))⟩,
  f14 := ⟨ "slices.pdqsortCmpFunc[strata/api.Entry]", by decide, Tryz.func109.trans (congrArg some (by kernel_rfl))⟩,
  f15 := Tryz.func110.trans (congrArg some (by kernel_rfl)),
  f20 := ⟨ "slices.insertionSortCmpFunc[strata/api.Entry]", by decide, Tryz.func127.trans (congrArg some (by kernel_rfl))⟩,
  f21 := ⟨ "slices.heapSortCmpFunc[strata/api.Entry]", by decide, Tryz.func128.trans (congrArg some (by kernel_rfl))⟩,
  f22 := ⟨ "slices.breakPatternsCmpFunc[strata/api.Entry]", by decide, Tryz.func129.trans (congrArg some (by kernel_rfl))⟩,
  f23 := ⟨ "slices.choosePivotCmpFunc[strata/api.Entry]", by decide, Tryz.func130.trans (congrArg some (by kernel_rfl))⟩,
  f24 := ⟨ "slices.reverseRangeCmpFunc[strata/api.Entry]", by decide, Tryz.func131.trans (congrArg some (by kernel_rfl))⟩,
  f25 := ⟨ "slices.partialInsertionSortCmpFunc[strata/api.Entry]", by decide, Tryz.func132.trans (congrArg some (by kernel_rfl))⟩,
  f26 := ⟨ "slices.partitionEqualCmpFunc[strata/api.Entry]", by decide, Tryz.func133.trans (congrArg some (by kernel_rfl))⟩,
  f27 := ⟨ "slices.partitionCmpFunc[strata/api.Entry]", by decide, Tryz.func134.trans (congrArg some (by kernel_rfl))⟩,
  f28 := Tryz.func135.trans (congrArg some (by kernel_rfl)),
  f29 := Tryz.func136.trans (congrArg some (by kernel_rfl)),
  f46 := ⟨ "slices.siftDownCmpFunc[strata/api.Entry]", by decide, Tryz.func149.trans (congrArg some (by kernel_rfl))⟩,
  f47 := Tryz.func150.trans (congrArg some (by kernel_rfl)),
  f48 := Tryz.func151.trans (congrArg some (by kernel_rfl)),
  f49 := ⟨ "slices.medianAdjacentCmpFunc[strata/api.Entry]", by decide, Tryz.func152.trans (congrArg some (by kernel_rfl))⟩,
  f50 := ⟨ "slices.medianCmpFunc[strata/api.Entry]", by decide, Tryz.func153.trans (congrArg some (by kernel_rfl))⟩,
  f57 := ⟨ "slices.order2CmpFunc[strata/api.Entry]", by decide, Tryz.func160.trans (congrArg some (by kernel_rfl))⟩,
  t0 := Tryz.underlying0,
  a0 := Tryz.isAgg0,
  z0 := Tryz.sizeOf0,
  v0 := Tryz.zeroValue0,
  t3 := Tryz.underlying3,
  a3 := Tryz.isAgg3,
  z3 := Tryz.sizeOf3,
  v3 := Tryz.zeroValue3,
  t4 := Tryz.underlying4,
  a4 := Tryz.isAgg4,
  z4 := Tryz.sizeOf4,
  v4 := Tryz.zeroValue4,
  t5 := Tryz.underlying5,
  a5 := Tryz.isAgg5,
  z5 := Tryz.sizeOf5,
  v5 := Tryz.zeroValue5,
  t9 := Tryz.underlying9,
  a9 := Tryz.isAgg9,
  z9 := Tryz.sizeOf9,
  v9 := Tryz.zeroValue9,
  t22 := Tryz.underlying28,
  a22 := Tryz.isAgg28,
  z22 := Tryz.sizeOf28,
  v22 := Tryz.zeroValue28,
  t25 := Tryz.underlying134,
  a25 := Tryz.isAgg134,
  z25 := Tryz.sizeOf134,
  v25 := Tryz.zeroValue134,
  t39 := Tryz.underlying165,
  a39 := Tryz.isAgg165,
  z39 := Tryz.sizeOf165,
  v39 := Tryz.zeroValue165,
  t45 := Tryz.underlying177,
  a45 := Tryz.isAgg177,
  z45 := Tryz.sizeOf177,
  v45 := Tryz.zeroValue177,
  t46 := Tryz.underlying178,
  a46 := Tryz.isAgg178,
  z46 := Tryz.sizeOf178,
  v46 := Tryz.zeroValue178,
  t50 := Tryz.underlying117,
  a50 := Tryz.isAgg117,
  z50 := Tryz.sizeOf117,
  v50 := Tryz.zeroValue117,
  t53 := Tryz.underlying184,
  a53 := Tryz.isAgg184,
  z53 := Tryz.sizeOf184,
  v53 := Tryz.zeroValue184,
  t55 := Tryz.underlying186,
  a55 := Tryz.isAgg186,
  z55 := Tryz.sizeOf186,
  v55 := Tryz.zeroValue186,
  t66 := Tryz.underlying188,
  a66 := Tryz.isAgg188,
  z66 := Tryz.sizeOf188,
  v66 := Tryz.zeroValue188,
  t70 := Tryz.underlying192,
  a70 := Tryz.isAgg192,
  z70 := Tryz.sizeOf192,
  v70 := Tryz.zeroValue192,
  t76 := Tryz.underlying197,
  a76 := Tryz.isAgg197,
  z76 := Tryz.sizeOf197,
  v76 := Tryz.zeroValue197,
  t77 := Tryz.underlying54,
  a77 := Tryz.isAgg54,
  z77 := Tryz.sizeOf54,
  v77 := Tryz.zeroValue54 }
end Go.Proofs.YthhkpkfpifllkaaGreat
