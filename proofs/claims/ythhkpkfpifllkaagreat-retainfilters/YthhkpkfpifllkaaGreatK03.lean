import Derived.Test.YthhkpkfpifllkaaGreatK02
namespace Go.Proofs.YthhkpkfpifllkaaGreat
open Go.RowKit
set_option linter.unusedVariables false

theorem EBox.fzA {w : World} {g : Nat} {e : EntD} (h : EBox w g e) (i : Nat) : w.frozen? ⟨g, i, none⟩ = false := by unfold EBox at h; simp [World.frozen?, h]
theorem EBox.put0 {w : World} {g : Nat} {e : EntD} (h : EBox w g e) (v : Value) : EBox (w.setCell ⟨g, 0, none⟩ v) g { e with vr := v } := by unfold EBox EntD.cells at *; simp [World.setCell, Array.getElem?_modify, h]
theorem EBox.put2 {w : World} {g : Nat} {e : EntD} (h : EBox w g e) (v : Value) : EBox (w.setCell ⟨g, 2, none⟩ v) g { e with vq := v } := by unfold EBox EntD.cells at *; simp [World.setCell, Array.getElem?_modify, h]
theorem EBox.put6 {w : World} {g : Nat} {e : EntD} (h : EBox w g e) (v : Value) : EBox (w.setCell ⟨g, 6, none⟩ v) g { e with vv := v } := by unfold EBox EntD.cells at *; simp [World.setCell, Array.getElem?_modify, h]
theorem own_same {w w' : World} {B m : Nat} {v : Value} {xs : List Nat} (h : Own w B v m xs) (k : ∀ g, v.ownBlock = some g → w'.heap[g]? = w.heap[g]?) : Own w' B v m xs := by
  refine ⟨h.1, h.2.1, ?_⟩
  rcases h.2.2 with h2 | ⟨g, cap, cur, h3, h4, h5, h6⟩
  · exact .inl h2
  · exact .inr ⟨g, cap, cur, h3, h4, by rw [k g (by rw [h3]; rfl)]; exact h5, h6⟩
theorem _root_.Go.Proofs.YthhkpkfpifllkaaGreat.Own.base {w : World} {B B' m : Nat} {v : Value} {xs : List Nat} (h : Own w B v m xs) (k : ∀ g, v.ownBlock = some g → B' ≤ g) (e : m = xs.length) : Own w B' v xs.length xs := by
  subst e
  refine ⟨h.1, h.2.1, ?_⟩
  rcases h.2.2 with h2 | ⟨g, cap, cur, h3, h4, h5, h6⟩
  · exact .inl h2
  · exact .inr ⟨g, cap, cur, h3, k g (by rw [h3]; rfl), h5, h6⟩
structure O3 (w : World) (b : Nat) (D : EntD) : Prop where
  row : Own w b D.vr D.row.length D.row
  qual : Own w b D.vq D.qual.length D.qual
  val : Own w b D.vv D.val.length D.val
  arq : ∀ k, D.vr.ownBlock = some k → D.vq.ownBlock ≠ some k
  arv : ∀ k, D.vr.ownBlock = some k → D.vv.ownBlock ≠ some k
  aqv : ∀ k, D.vq.ownBlock = some k → D.vv.ownBlock ≠ some k
theorem O3.lt {w : World} {b : Nat} {D : EntD} (h : O3 w b D) : ∀ g, D.vr.ownBlock = some g ∨ D.vq.ownBlock = some g ∨ D.vv.ownBlock = some g → b ≤ g ∧ g < w.heap.size := fun g hg => by
  rcases hg with hg | hg | hg
  · exact h.row.2.lt g hg
  · exact h.qual.2.lt g hg
  · exact h.val.2.lt g hg
theorem O3.mono {w : World} {b b' : Nat} {D : EntD} (h : O3 w b D) (hb : b' ≤ b) : O3 w b' D := ⟨h.row.mono hb, h.qual.mono hb, h.val.mono hb, h.arq, h.arv, h.aqv⟩
theorem O3.same {w w' : World} {b : Nat} {D : EntD} (h : O3 w b D) (k : ∀ g, b ≤ g → g < w.heap.size → (∃ cur fr, w.heap[g]? = some (.cells cur 5 fr)) → w'.heap[g]? = w.heap[g]?) : O3 w' b D := by
  have q : ∀ {v : Value} {m : Nat} {xs : List Nat}, Own w b v m xs → Own w' b v m xs := fun o => own_same o (fun g hg => by
    refine k g (o.2.lt g hg).1 (o.2.lt g hg).2 ?_
    rcases o.2.2 with ⟨h1, _⟩ | ⟨g', cap, cur, h3, h4, h5, _⟩
    · rw [h1] at hg; cases hg
    · rw [h3] at hg; cases hg; exact ⟨cur, _, h5⟩)
  exact ⟨q h.row, q h.qual, q h.val, h.arq, h.arv, h.aqv⟩
theorem O3.kept {w w' : World} {b : Nat} {D : EntD} (h : O3 w b D) (k : KpG (fun i => b ≤ i) w w') : O3 w' b D := h.same (fun g hg hl _ => k.block g hl hg)
theorem O3.later {w w' : World} {b : Nat} {D : EntD} (h : O3 w b D) (k : Below w.heap.size w w') : O3 w' b D := h.same (fun g _ hl _ => k.block g hl)
theorem O3.ku {w w' : World} {b : Nat} {D : EntD} (h : O3 w b D) (k : KU w w') : O3 w' b D := h.same (fun g _ _ ⟨cur, fr, e⟩ => (k g cur fr e).trans e.symm)
theorem KpG.setCell {G : Nat → Prop} {w w' : World} (h : KpG G w w') {g : Nat} (hg : ¬ G g) (i : Nat) (v : Value) : KpG G w (w'.setCell ⟨g, i, none⟩ v) :=
  ⟨by rw [World.size_setCell]; exact h.size, fun k hk hG => (Below.heap_setCell w' ⟨g, i, none⟩ v k (fun e => hg (by cases e; exact hG))).trans (h.block k hk hG)⟩
set_option maxRecDepth 100000 in
set_option maxHeartbeats 8000000 in
theorem clone3_own {w : World} {e : EntD} (hx : EntD.Ok w e) (hl : e.row.length ≤ 140737488355328 ∧ e.qual.length ≤ 140737488355328 ∧ e.val.length ≤ 140737488355328) :
    Calls Tryz.prog 49 #[.agg e.cells] w fun z w' => ∃ x : EntD, z = .returned (.agg x.cells) ∧ EntD.Same x e ∧ EOk (fun i => w.heap.size ≤ i) w' x ∧ O3 w' w.heap.size x ∧ Below w.heap.size w w' := by
  have A1 := (Below.refl w.heap.size w).alloc (Nat.le_refl _) (.cells e.cells 84)
  have bx0 := EBox.new w e
  obtain ⟨zc, hz⟩ : ∃ zc : Array Value, zc = #[.slice none 0 0, .int .i64 0, .slice none 0 0, .int .i64 0, .int .i64 0, .int .i64 0, .slice none 0 0] := ⟨_, rfl⟩
  have A2 := A1.alloc A1.size (.cells zc 84)
  have bx := bx0.later ((Below.refl (w.alloc (.cells e.cells 84)).heap.size _).alloc (Nat.le_refl _) (.cells zc 84))
  have rz : ((w.alloc (.cells e.cells 84)).alloc (.cells zc 84)).heap[w.heap.size + 1]? = some (.cells zc 84 (0, 0)) := by
    show ((w.alloc (.cells e.cells 84)).heap.push _)[w.heap.size + 1]? = _
    have e1 : w.heap.size + 1 = (w.alloc (.cells e.cells 84)).heap.size := (World.size_alloc w _).symm
    rw [e1]
    exact Array.getElem?_push_size
  obtain ⟨W, hW⟩ : ∃ W, W = (w.alloc (.cells e.cells 84)).alloc (.cells zc 84) := ⟨_, rfl⟩
  rw [← hW] at A2 bx rz
  have HW : Hid (W = _) := hW
  have hwl : w.heap.size + 1 < W.heap.size := by rw [hW]; simp
  clear hW A1 bx0
  have HX : Hid (∀ wx, Below W.heap.size W wx → EBox wx w.heap.size e ∧ EntD.Ok wx e) := fun wx b => ⟨bx.later b, (hx.later A2).later b⟩
  have HR : Hid (∀ wx, Below W.heap.size W wx → wx.heap[w.heap.size + 1]? = some (.cells zc 84 (0, 0))) := fun wx b => (b.block _ hwl).trans rz
  have HA : Hid (Below w.heap.size w W) := A2
  have HY : Hid (Bys e.row ∧ Bys e.qual ∧ Bys e.val) := ⟨hx.1.1, hx.2.1.1, hx.2.2.1⟩
  have HL : Hid (e.row.length ≤ 140737488355328 ∧ e.qual.length ≤ 140737488355328 ∧ e.val.length ≤ 140737488355328) := hl
  obtain ⟨vr, fam, vq, ts, seq, kind, vv, row, qual, val⟩ := e
  subst hz
  simp only [EntD.cells] at *
  have D0 : Below W.heap.size W W.drew := (Below.refl _ _).drew
  have C1 : Hid (∀ wx, Below W.heap.size W wx → Calls Tryz.prog 83 #[vr] wx _) := fun wx b => handed (clone_any (HX.out _ b).2.1 HL.out.1)
  have C2 : Hid (∀ wx, Below W.heap.size W wx → Calls Tryz.prog 83 #[vq] wx _) := fun wx b => handed (clone_any (HX.out _ b).2.2.1 HL.out.2.1)
  have C3 : Hid (∀ wx, Below W.heap.size W wx → Calls Tryz.prog 83 #[vv] wx _) := fun wx b => handed (clone_any (HX.out _ b).2.2.2 HL.out.2.2)
  have y0 : W.drew.cell? ⟨w.heap.size, 0, none⟩ = some vr := (HX.out _ D0).1.vr
  have y2 : W.drew.cell? ⟨w.heap.size, 2, none⟩ = some vq := (HX.out _ D0).1.vq
  have y6 : W.drew.cell? ⟨w.heap.size, 6, none⟩ = some vv := (HX.out _ D0).1.vv
  clear A2 bx rz hl hx
  go_enter Tryz.func49, Tryz.ntmps49
  go_wp2_with fail
  rw [← HW.out]
  refine wp_region_noPanic ?_
  refine wp_region_anyE (S := fun wx => wx.cell? ⟨w.heap.size, 0, none⟩ = some vr ∧ wx.cell? ⟨w.heap.size, 2, none⟩ = some vq ∧ wx.cell? ⟨w.heap.size, 6, none⟩ = some vv) (E := fun j => decide (j < 9)) (by kernel_rfl) ?_
  have hS : W.drew.cell? ⟨w.heap.size, 0, none⟩ = some vr ∧ W.drew.cell? ⟨w.heap.size, 2, none⟩ = some vq ∧ W.drew.cell? ⟨w.heap.size, 6, none⟩ = some vv := ⟨y0, y2, y6⟩
  refine AnyE.take (i := 0) (.pointer (some ⟨w.heap.size, 0, none⟩)) rfl (by kernel_rfl) (by kernel_rfl) (by kernel_rfl) (by kernel_rfl) (fun _ _ _ h => h) (.inl ⟨by rfl, fun wq hq => by go_simp⟩) hS ?_
  show AnyE _ _ _ _ _ _ 14 #[true, false, false, false, false, false, false, false, false, false, false, false, false, false, false] ⟨#[.agg #[vr, .int .i64 fam, vq, .int .i64 ts, .int .i64 seq, .int .i64 kind, vv], .pointer (some ⟨w.heap.size, 0, none⟩), .pointer (some ⟨w.heap.size + 1, 0, none⟩), .pointer (some ⟨w.heap.size, 0, none⟩), undef, undef, undef, undef, undef, undef, undef, undef, undef, undef, undef, undef], []⟩ _
  refine AnyE.take (i := 1) (vr) rfl (by kernel_rfl) (by kernel_rfl) (by kernel_rfl) (by kernel_rfl) (fun _ _ _ h => h) (.inl ⟨by rfl, fun wq hq => by obtain ⟨q0, q2, q6⟩ := hq; go_simp⟩) hS ?_
  show AnyE _ _ _ _ _ _ 13 #[true, true, false, false, false, false, false, false, false, false, false, false, false, false, false] ⟨#[.agg #[vr, .int .i64 fam, vq, .int .i64 ts, .int .i64 seq, .int .i64 kind, vv], .pointer (some ⟨w.heap.size, 0, none⟩), .pointer (some ⟨w.heap.size + 1, 0, none⟩), .pointer (some ⟨w.heap.size, 0, none⟩), vr, undef, undef, undef, undef, undef, undef, undef, undef, undef, undef, undef], []⟩ _
  refine AnyE.take (i := 3) (.pointer (some ⟨w.heap.size, 2, none⟩)) rfl (by kernel_rfl) (by kernel_rfl) (by kernel_rfl) (by kernel_rfl) (fun _ _ _ h => h) (.inl ⟨by rfl, fun wq hq => by go_simp⟩) hS ?_
  show AnyE _ _ _ _ _ _ 12 #[true, true, false, true, false, false, false, false, false, false, false, false, false, false, false] ⟨#[.agg #[vr, .int .i64 fam, vq, .int .i64 ts, .int .i64 seq, .int .i64 kind, vv], .pointer (some ⟨w.heap.size, 0, none⟩), .pointer (some ⟨w.heap.size + 1, 0, none⟩), .pointer (some ⟨w.heap.size, 0, none⟩), vr, undef, .pointer (some ⟨w.heap.size, 2, none⟩), undef, undef, undef, undef, undef, undef, undef, undef, undef], []⟩ _
  refine AnyE.take (i := 4) (vq) rfl (by kernel_rfl) (by kernel_rfl) (by kernel_rfl) (by kernel_rfl) (fun _ _ _ h => h) (.inl ⟨by rfl, fun wq hq => by obtain ⟨q0, q2, q6⟩ := hq; go_simp⟩) hS ?_
  show AnyE _ _ _ _ _ _ 11 #[true, true, false, true, true, false, false, false, false, false, false, false, false, false, false] ⟨#[.agg #[vr, .int .i64 fam, vq, .int .i64 ts, .int .i64 seq, .int .i64 kind, vv], .pointer (some ⟨w.heap.size, 0, none⟩), .pointer (some ⟨w.heap.size + 1, 0, none⟩), .pointer (some ⟨w.heap.size, 0, none⟩), vr, undef, .pointer (some ⟨w.heap.size, 2, none⟩), vq, undef, undef, undef, undef, undef, undef, undef, undef], []⟩ _
  refine AnyE.take (i := 6) (.pointer (some ⟨w.heap.size, 6, none⟩)) rfl (by kernel_rfl) (by kernel_rfl) (by kernel_rfl) (by kernel_rfl) (fun _ _ _ h => h) (.inl ⟨by rfl, fun wq hq => by go_simp⟩) hS ?_
  show AnyE _ _ _ _ _ _ 10 #[true, true, false, true, true, false, true, false, false, false, false, false, false, false, false] ⟨#[.agg #[vr, .int .i64 fam, vq, .int .i64 ts, .int .i64 seq, .int .i64 kind, vv], .pointer (some ⟨w.heap.size, 0, none⟩), .pointer (some ⟨w.heap.size + 1, 0, none⟩), .pointer (some ⟨w.heap.size, 0, none⟩), vr, undef, .pointer (some ⟨w.heap.size, 2, none⟩), vq, undef, .pointer (some ⟨w.heap.size, 6, none⟩), undef, undef, undef, undef, undef, undef], []⟩ _
  refine AnyE.take (i := 7) (vv) rfl (by kernel_rfl) (by kernel_rfl) (by kernel_rfl) (by kernel_rfl) (fun _ _ _ h => h) (.inl ⟨by rfl, fun wq hq => by obtain ⟨q0, q2, q6⟩ := hq; go_simp⟩) hS ?_
  show AnyE _ _ _ _ _ _ 9 #[true, true, false, true, true, false, true, true, false, false, false, false, false, false, false] ⟨#[.agg #[vr, .int .i64 fam, vq, .int .i64 ts, .int .i64 seq, .int .i64 kind, vv], .pointer (some ⟨w.heap.size, 0, none⟩), .pointer (some ⟨w.heap.size + 1, 0, none⟩), .pointer (some ⟨w.heap.size, 0, none⟩), vr, undef, .pointer (some ⟨w.heap.size, 2, none⟩), vq, undef, .pointer (some ⟨w.heap.size, 6, none⟩), vv, undef, undef, undef, undef, undef], []⟩ _
  refine AnyE.one (i := 2) rfl (by kernel_rfl) (by rfl) (fun K1 hK1 => ?_)
  go_simp
  refine Calls.mono (C1.out _ D0) ?_
  rintro e1 w1 ⟨a1, m1, c1, rfl, o1, b1⟩
  have D1 := D0.trans (b1.mono D0.size)
  have hS1 : w1.cell? ⟨w.heap.size, 0, none⟩ = some vr ∧ w1.cell? ⟨w.heap.size, 2, none⟩ = some vq ∧ w1.cell? ⟨w.heap.size, 6, none⟩ = some vv := ⟨(HX.out _ D1).1.vr, (HX.out _ D1).1.vq, (HX.out _ D1).1.vv⟩
  refine hK1.out _ _ ⟨fun _ => hS1, ?_⟩
  clear hK1
  show AnyE _ _ _ _ _ _ 8 #[true, true, true, true, true, false, true, true, false, false, false, false, false, false, false] ⟨#[.agg #[vr, .int .i64 fam, vq, .int .i64 ts, .int .i64 seq, .int .i64 kind, vv], .pointer (some ⟨w.heap.size, 0, none⟩), .pointer (some ⟨w.heap.size + 1, 0, none⟩), .pointer (some ⟨w.heap.size, 0, none⟩), vr, (.slice a1 m1 c1), .pointer (some ⟨w.heap.size, 2, none⟩), vq, undef, .pointer (some ⟨w.heap.size, 6, none⟩), vv, undef, undef, undef, undef, undef], []⟩ _
  refine AnyE.take (i := 9) (.pointer (some ⟨w.heap.size, 0, none⟩)) rfl (by kernel_rfl) (by kernel_rfl) (by kernel_rfl) (by kernel_rfl) (fun _ _ _ h => h) (.inl ⟨by rfl, fun wq hq => by go_simp⟩) hS1 ?_
  show AnyE _ _ _ _ _ _ 7 #[true, true, true, true, true, false, true, true, false, true, false, false, false, false, false] ⟨#[.agg #[vr, .int .i64 fam, vq, .int .i64 ts, .int .i64 seq, .int .i64 kind, vv], .pointer (some ⟨w.heap.size, 0, none⟩), .pointer (some ⟨w.heap.size + 1, 0, none⟩), .pointer (some ⟨w.heap.size, 0, none⟩), vr, (.slice a1 m1 c1), .pointer (some ⟨w.heap.size, 2, none⟩), vq, undef, .pointer (some ⟨w.heap.size, 6, none⟩), vv, undef, .pointer (some ⟨w.heap.size, 0, none⟩), undef, undef, undef], []⟩ _
  refine AnyE.one (i := 5) rfl (by kernel_rfl) (by rfl) (fun K2 hK2 => ?_)
  go_simp
  refine Calls.mono (C2.out _ D1) ?_
  rintro e2 w2 ⟨a2, m2, c2, rfl, o2, b2⟩
  have D2 := D1.trans (b2.mono D1.size)
  have hS2 : w2.cell? ⟨w.heap.size, 0, none⟩ = some vr ∧ w2.cell? ⟨w.heap.size, 2, none⟩ = some vq ∧ w2.cell? ⟨w.heap.size, 6, none⟩ = some vv := ⟨(HX.out _ D2).1.vr, (HX.out _ D2).1.vq, (HX.out _ D2).1.vv⟩
  refine hK2.out _ _ ⟨fun _ => hS2, ?_⟩
  clear hK2
  show AnyE _ _ _ _ _ _ 6 #[true, true, true, true, true, true, true, true, false, true, false, false, false, false, false] ⟨#[.agg #[vr, .int .i64 fam, vq, .int .i64 ts, .int .i64 seq, .int .i64 kind, vv], .pointer (some ⟨w.heap.size, 0, none⟩), .pointer (some ⟨w.heap.size + 1, 0, none⟩), .pointer (some ⟨w.heap.size, 0, none⟩), vr, (.slice a1 m1 c1), .pointer (some ⟨w.heap.size, 2, none⟩), vq, (.slice a2 m2 c2), .pointer (some ⟨w.heap.size, 6, none⟩), vv, undef, .pointer (some ⟨w.heap.size, 0, none⟩), undef, undef, undef], []⟩ _
  refine AnyE.one (i := 8) rfl (by kernel_rfl) (by rfl) (fun K3 hK3 => ?_)
  go_simp
  refine Calls.mono (C3.out _ D2) ?_
  rintro e3 w3 ⟨a3, m3, c3, rfl, o3, b3⟩
  have D3 := D2.trans (b3.mono D2.size)
  have hS3 : w3.cell? ⟨w.heap.size, 0, none⟩ = some vr ∧ w3.cell? ⟨w.heap.size, 2, none⟩ = some vq ∧ w3.cell? ⟨w.heap.size, 6, none⟩ = some vv := ⟨(HX.out _ D3).1.vr, (HX.out _ D3).1.vq, (HX.out _ D3).1.vv⟩
  refine hK3.out _ _ ⟨fun _ => hS3, ?_⟩
  clear hK3
  show AnyE _ _ _ _ _ _ 5 #[true, true, true, true, true, true, true, true, true, true, false, false, false, false, false] ⟨#[.agg #[vr, .int .i64 fam, vq, .int .i64 ts, .int .i64 seq, .int .i64 kind, vv], .pointer (some ⟨w.heap.size, 0, none⟩), .pointer (some ⟨w.heap.size + 1, 0, none⟩), .pointer (some ⟨w.heap.size, 0, none⟩), vr, (.slice a1 m1 c1), .pointer (some ⟨w.heap.size, 2, none⟩), vq, (.slice a2 m2 c2), .pointer (some ⟨w.heap.size, 6, none⟩), vv, (.slice a3 m3 c3), .pointer (some ⟨w.heap.size, 0, none⟩), undef, undef, undef], []⟩ _
  obtain ⟨v0, v2, v6⟩ := hS3
  have g0 := (HX.out _ D3).1.fzA 0
  have g2 := (HX.out _ D3).1.fzA 2
  have g6 := (HX.out _ D3).1.fzA 6
  refine AnyE.one (i := 10) rfl (by kernel_rfl) (by rfl) (fun K hK => ?_)
  go_simp
  refine hK.out _ _ ⟨fun h => (by cases h), ?_⟩
  clear hK
  show AnyE _ _ _ _ _ _ 4 #[true, true, true, true, true, true, true, true, true, true, true, false, false, false, false] ⟨#[.agg #[vr, .int .i64 fam, vq, .int .i64 ts, .int .i64 seq, .int .i64 kind, vv], .pointer (some ⟨w.heap.size, 0, none⟩), .pointer (some ⟨w.heap.size + 1, 0, none⟩), .pointer (some ⟨w.heap.size, 0, none⟩), vr, (.slice a1 m1 c1), .pointer (some ⟨w.heap.size, 2, none⟩), vq, (.slice a2 m2 c2), .pointer (some ⟨w.heap.size, 6, none⟩), vv, (.slice a3 m3 c3), .pointer (some ⟨w.heap.size, 0, none⟩), undef, undef, undef], []⟩ (w3.setCell ⟨w.heap.size, 0, none⟩ (.slice a1 m1 c1))
  refine AnyE.one (i := 11) rfl (by kernel_rfl) (by rfl) (fun K hK => ?_)
  go_simp
  refine hK.out _ _ ⟨fun h => (by cases h), ?_⟩
  clear hK
  show AnyE _ _ _ _ _ _ 3 #[true, true, true, true, true, true, true, true, true, true, true, true, false, false, false] ⟨#[.agg #[vr, .int .i64 fam, vq, .int .i64 ts, .int .i64 seq, .int .i64 kind, vv], .pointer (some ⟨w.heap.size, 0, none⟩), .pointer (some ⟨w.heap.size + 1, 0, none⟩), .pointer (some ⟨w.heap.size, 0, none⟩), vr, (.slice a1 m1 c1), .pointer (some ⟨w.heap.size, 2, none⟩), vq, (.slice a2 m2 c2), .pointer (some ⟨w.heap.size, 6, none⟩), vv, (.slice a3 m3 c3), .pointer (some ⟨w.heap.size, 0, none⟩), .pointer (some ⟨w.heap.size, 2, none⟩), undef, undef], []⟩ (w3.setCell ⟨w.heap.size, 0, none⟩ (.slice a1 m1 c1))
  refine AnyE.one (i := 12) rfl (by kernel_rfl) (by rfl) (fun K hK => ?_)
  go_simp
  refine hK.out _ _ ⟨fun h => (by cases h), ?_⟩
  clear hK
  show AnyE _ _ _ _ _ _ 2 #[true, true, true, true, true, true, true, true, true, true, true, true, true, false, false] ⟨#[.agg #[vr, .int .i64 fam, vq, .int .i64 ts, .int .i64 seq, .int .i64 kind, vv], .pointer (some ⟨w.heap.size, 0, none⟩), .pointer (some ⟨w.heap.size + 1, 0, none⟩), .pointer (some ⟨w.heap.size, 0, none⟩), vr, (.slice a1 m1 c1), .pointer (some ⟨w.heap.size, 2, none⟩), vq, (.slice a2 m2 c2), .pointer (some ⟨w.heap.size, 6, none⟩), vv, (.slice a3 m3 c3), .pointer (some ⟨w.heap.size, 0, none⟩), .pointer (some ⟨w.heap.size, 2, none⟩), undef, undef], []⟩ ((w3.setCell ⟨w.heap.size, 0, none⟩ (.slice a1 m1 c1)).setCell ⟨w.heap.size, 2, none⟩ (.slice a2 m2 c2))
  refine AnyE.one (i := 13) rfl (by kernel_rfl) (by rfl) (fun K hK => ?_)
  go_simp
  refine hK.out _ _ ⟨fun h => (by cases h), ?_⟩
  clear hK
  show AnyE _ _ _ _ _ _ 1 #[true, true, true, true, true, true, true, true, true, true, true, true, true, true, false] ⟨#[.agg #[vr, .int .i64 fam, vq, .int .i64 ts, .int .i64 seq, .int .i64 kind, vv], .pointer (some ⟨w.heap.size, 0, none⟩), .pointer (some ⟨w.heap.size + 1, 0, none⟩), .pointer (some ⟨w.heap.size, 0, none⟩), vr, (.slice a1 m1 c1), .pointer (some ⟨w.heap.size, 2, none⟩), vq, (.slice a2 m2 c2), .pointer (some ⟨w.heap.size, 6, none⟩), vv, (.slice a3 m3 c3), .pointer (some ⟨w.heap.size, 0, none⟩), .pointer (some ⟨w.heap.size, 2, none⟩), .pointer (some ⟨w.heap.size, 6, none⟩), undef], []⟩ ((w3.setCell ⟨w.heap.size, 0, none⟩ (.slice a1 m1 c1)).setCell ⟨w.heap.size, 2, none⟩ (.slice a2 m2 c2))
  refine AnyE.one (i := 14) rfl (by kernel_rfl) (by rfl) (fun K hK => ?_)
  go_simp
  refine hK.out _ _ ⟨fun h => (by cases h), ?_⟩
  clear hK
  show AnyE _ _ _ _ _ _ 0 #[true, true, true, true, true, true, true, true, true, true, true, true, true, true, true] ⟨#[.agg #[vr, .int .i64 fam, vq, .int .i64 ts, .int .i64 seq, .int .i64 kind, vv], .pointer (some ⟨w.heap.size, 0, none⟩), .pointer (some ⟨w.heap.size + 1, 0, none⟩), .pointer (some ⟨w.heap.size, 0, none⟩), vr, (.slice a1 m1 c1), .pointer (some ⟨w.heap.size, 2, none⟩), vq, (.slice a2 m2 c2), .pointer (some ⟨w.heap.size, 6, none⟩), vv, (.slice a3 m3 c3), .pointer (some ⟨w.heap.size, 0, none⟩), .pointer (some ⟨w.heap.size, 2, none⟩), .pointer (some ⟨w.heap.size, 6, none⟩), undef], []⟩ (((w3.setCell ⟨w.heap.size, 0, none⟩ (.slice a1 m1 c1)).setCell ⟨w.heap.size, 2, none⟩ (.slice a2 m2 c2)).setCell ⟨w.heap.size, 6, none⟩ (.slice a3 m3 c3))
  refine AnyE.done (by kernel_rfl) (NoPanic.normal ?_) _
  have BF := ((((HX.out _ D3).1.put0 (.slice a1 m1 c1)).put2 (.slice a2 m2 c2)).put6 (.slice a3 m3 c3))
  have hne : w.heap.size + 1 ≠ w.heap.size := by omega
  have RZ := (Below.heap_setCell _ ⟨w.heap.size, 6, none⟩ (.slice a3 m3 c3) (w.heap.size + 1) hne).trans ((Below.heap_setCell _ ⟨w.heap.size, 2, none⟩ (.slice a2 m2 c2) (w.heap.size + 1) hne).trans ((Below.heap_setCell w3 ⟨w.heap.size, 0, none⟩ (.slice a1 m1 c1) (w.heap.size + 1) hne).trans (HR.out _ D3)))
  have KF : KpG (fun i => W.heap.size ≤ i) w3 (((w3.setCell ⟨w.heap.size, 0, none⟩ (.slice a1 m1 c1)).setCell ⟨w.heap.size, 2, none⟩ (.slice a2 m2 c2)).setCell ⟨w.heap.size, 6, none⟩ (.slice a3 m3 c3)) := (((KpG.refl _ w3).setCell (by omega) _ _).setCell (by omega) _ _).setCell (by omega) _ _
  have BW := (((HA.out.trans (D3.mono HA.out.size)).setCell (p := ⟨w.heap.size, 0, none⟩) (Nat.le_refl _) (.slice a1 m1 c1)).setCell (p := ⟨w.heap.size, 2, none⟩) (Nat.le_refl _) (.slice a2 m2 c2)).setCell (p := ⟨w.heap.size, 6, none⟩) (Nat.le_refl _) (.slice a3 m3 c3)
  generalize (((w3.setCell ⟨w.heap.size, 0, none⟩ (.slice a1 m1 c1)).setCell ⟨w.heap.size, 2, none⟩ (.slice a2 m2 c2)).setCell ⟨w.heap.size, 6, none⟩ (.slice a3 m3 c3)) = WF at *
  have E3 : EOk (fun i => W.heap.size ≤ i) w3 ⟨.slice a1 m1 c1, fam, .slice a2 m2 c2, ts, seq, kind, .slice a3 m3 c3, row, qual, val⟩ := by
    have s1 : W.heap.size ≤ w1.heap.size := D1.size
    have s2 : W.heap.size ≤ w2.heap.size := D2.size
    refine ⟨RdG.of_own ((o1.later b2).later b3) HY.out.1 (by have := HL.out.1; rw [o1.len]; omega) (fun i hi => Nat.le_trans D0.size hi), RdG.of_own (o2.later b3) HY.out.2.1 (by have := HL.out.2.1; rw [o2.len]; omega) (fun i hi => by omega), RdG.of_own o3 HY.out.2.2 (by have := HL.out.2.2; rw [o3.len]; omega) (fun i hi => by omega)⟩
  have HE : Hid (EOk (fun i => W.heap.size ≤ i) WF _) := E3.kept KF
  have HO : Hid (O3 WF W.heap.size ⟨.slice a1 m1 c1, fam, .slice a2 m2 c2, ts, seq, kind, .slice a3 m3 c3, row, qual, val⟩) := by
    have e1 := o1.len; have e2 := o2.len; have e3 := o3.len
    have l1 : ∀ g, (Value.slice a1 m1 c1).ownBlock = some g → W.heap.size ≤ g ∧ g < w1.heap.size := fun g hg => ⟨Nat.le_trans D0.size (o1.2.lt g hg).1, (o1.2.lt g hg).2⟩
    have l2 : ∀ g, (Value.slice a2 m2 c2).ownBlock = some g → w1.heap.size ≤ g ∧ g < w2.heap.size := fun g hg => o2.2.lt g hg
    have l3 : ∀ g, (Value.slice a3 m3 c3).ownBlock = some g → w2.heap.size ≤ g ∧ g < w3.heap.size := fun g hg => o3.2.lt g hg
    have s1 : W.heap.size ≤ w1.heap.size := D1.size
    have s2 : w1.heap.size ≤ w2.heap.size := b2.size
    have s3 : w2.heap.size ≤ w3.heap.size := b3.size
    refine ⟨(own_same ((o1.later b2).later b3) (fun g hg => KF.block g (by have := l1 g hg; omega) (l1 g hg).1)).base (fun g hg => (l1 g hg).1) e1, (own_same (o2.later b3) (fun g hg => KF.block g (by have := l2 g hg; omega) (by have := l2 g hg; omega))).base (fun g hg => by have := l2 g hg; omega) e2, (own_same o3 (fun g hg => KF.block g (l3 g hg).2 (by have := l3 g hg; omega))).base (fun g hg => by have := l3 g hg; omega) e3, fun g h k => ?_, fun g h k => ?_, fun g h k => ?_⟩
    · have := l1 g h; have := l2 g k; omega
    · have := l1 g h; have := l3 g k; omega
    · have := l2 g h; have := l3 g k; omega
  have HBW : Hid (Below w.heap.size w WF) := BW
  obtain ⟨y0', y1', y2', y3', y4', y5', y6'⟩ := (⟨BF.vr, BF.fam, BF.vq, BF.ts, BF.seq, BF.kind, BF.vv⟩ : _ ∧ _ ∧ _ ∧ _ ∧ _ ∧ _ ∧ _)
  simp only at y0' y1' y2' y3' y4' y5' y6'
  have z0 : WF.cell? ⟨w.heap.size + 1, 0, none⟩ = some (.slice none 0 0) := by simp [World.cell?, RZ]
  have f0 : WF.frozen? ⟨w.heap.size + 1, 0, none⟩ = false := by simp [World.frozen?, RZ]
  have z1 : WF.cell? ⟨w.heap.size + 1, 1, none⟩ = some (.int .i64 0) := by simp [World.cell?, RZ]
  have f1 : WF.frozen? ⟨w.heap.size + 1, 1, none⟩ = false := by simp [World.frozen?, RZ]
  have z2 : WF.cell? ⟨w.heap.size + 1, 2, none⟩ = some (.slice none 0 0) := by simp [World.cell?, RZ]
  have f2 : WF.frozen? ⟨w.heap.size + 1, 2, none⟩ = false := by simp [World.frozen?, RZ]
  have z3 : WF.cell? ⟨w.heap.size + 1, 3, none⟩ = some (.int .i64 0) := by simp [World.cell?, RZ]
  have f3 : WF.frozen? ⟨w.heap.size + 1, 3, none⟩ = false := by simp [World.frozen?, RZ]
  have z4 : WF.cell? ⟨w.heap.size + 1, 4, none⟩ = some (.int .i64 0) := by simp [World.cell?, RZ]
  have f4 : WF.frozen? ⟨w.heap.size + 1, 4, none⟩ = false := by simp [World.frozen?, RZ]
  have z5 : WF.cell? ⟨w.heap.size + 1, 5, none⟩ = some (.int .i64 0) := by simp [World.cell?, RZ]
  have f5 : WF.frozen? ⟨w.heap.size + 1, 5, none⟩ = false := by simp [World.frozen?, RZ]
  have z6 : WF.cell? ⟨w.heap.size + 1, 6, none⟩ = some (.slice none 0 0) := by simp [World.cell?, RZ]
  have f6 : WF.frozen? ⟨w.heap.size + 1, 6, none⟩ = false := by simp [World.frozen?, RZ]
  clear RZ BF KF BW E3 o1 o2 o3 b1 b2 b3 D1 D2 D3 v0 v2 v6 g0 g2 g6 hS hS1 hS2 y0 y2 y6 D0 HR HX C1 C2 C3
  go_wp2
  refine bodyPost_ret (v := .agg #[.slice a1 m1 c1, .int .i64 fam, .slice a2 m2 c2, .int .i64 ts, .int .i64 seq, .int .i64 kind, .slice a3 m3 c3]) (by simp [results, Tryz.results49, go_sem, z0, z1, z2, z3, z4, z5, z6]) rfl ?_
  refine ⟨⟨.slice a1 m1 c1, fam, .slice a2 m2 c2, ts, seq, kind, .slice a3 m3 c3, row, qual, val⟩, rfl, ⟨rfl, rfl, rfl, rfl, rfl, rfl, rfl⟩, ?_, ?_, ?_⟩
  · refine (HE.out.kept ?_).mono (fun i hi => Nat.le_trans HA.out.size hi)
    exact (((((((KpG.refl _ WF).setCell (by omega) _ _).setCell (by omega) _ _).setCell (by omega) _ _).setCell (by omega) _ _).setCell (by omega) _ _).setCell (by omega) _ _).setCell (by omega) _ _
  · refine (HO.out.kept ?_).mono HA.out.size
    exact (((((((KpG.refl _ WF).setCell (by omega) _ _).setCell (by omega) _ _).setCell (by omega) _ _).setCell (by omega) _ _).setCell (by omega) _ _).setCell (by omega) _ _).setCell (by omega) _ _
  · exact ((((((HBW.out.setCell (Nat.le_succ _) _).setCell (Nat.le_succ _) _).setCell (Nat.le_succ _) _).setCell (Nat.le_succ _) _).setCell (Nat.le_succ _) _).setCell (Nat.le_succ _) _).setCell (Nat.le_succ _) _

set_option maxRecDepth 100000 in
theorem equal_any {a b : Value} {xs ys : List Nat} {w : World} (ha : Rd w a xs) (hb : Rd w b ys) :
    Calls Tryz.prog 126 #[a, b] w fun e w' => e = .returned (.bool (decide (xs = ys))) ∧ w' = w := by
  have h1 := conv_str ha
  have h2 := conv_str hb
  go_enter Tryz.func126, Tryz.ntmps126
  go_wp2
  go_ret
  exact ⟨by rw [← beq_str ha.1 hb.1]; rfl, rfl⟩
def sameS (a b : EntD) : Bool := decide (compareS a b = 0) && decide (a.val = b.val)
set_option maxRecDepth 100000 in
set_option maxHeartbeats 2000000 in
theorem same3_any {a b : EntD} {w : World} (ha : EntD.Ok w a) (hb : EntD.Ok w b) :
    Calls Tryz.prog 108 #[.agg a.cells, .agg b.cells] w fun r w' => r = .returned (.bool (sameS a b)) ∧ Below w.heap.size w w' := by
  have A1 := (Below.refl w.heap.size w).alloc (Nat.le_refl _) (.cells a.cells 84)
  have A2 := A1.alloc A1.size (.cells b.cells 84)
  have bxa : Hid (∀ Z, Below ((w.alloc (.cells a.cells 84)).alloc (.cells b.cells 84)).heap.size ((w.alloc (.cells a.cells 84)).alloc (.cells b.cells 84)) Z → EBox Z w.heap.size a) := fun Z k => ((EBox.new w a).later ((Below.refl _ _).alloc (Nat.le_refl _) _)).later k
  have bxb : Hid (∀ Z, Below ((w.alloc (.cells a.cells 84)).alloc (.cells b.cells 84)).heap.size ((w.alloc (.cells a.cells 84)).alloc (.cells b.cells 84)) Z → EBox Z (w.heap.size + 1) b) := fun Z k => by
    have := EBox.new (w.alloc (.cells a.cells 84)) b
    rw [World.size_alloc] at this
    exact this.later k
  obtain ⟨W, hW⟩ : ∃ W, W = (w.alloc (.cells a.cells 84)).alloc (.cells b.cells 84) := ⟨_, rfl⟩
  have HC : Hid (Calls Tryz.prog 81 #[.agg a.cells, .agg b.cells] W fun r w' => r = .returned (.int .i64 (compareS a b)) ∧ Below W.heap.size W w') := by
    rw [hW]; exact compare_any (ha.later A2) (hb.later A2)
  have HE : Hid (∀ Z, Below W.heap.size W Z → Calls Tryz.prog 126 #[a.vv, b.vv] Z fun r w' => r = .returned (.bool (decide (a.val = b.val))) ∧ w' = Z) := fun Z k => equal_any (((ha.later A2).later (by rw [← hW]; exact k)).2.2) (((hb.later A2).later (by rw [← hW]; exact k)).2.2)
  rw [← hW] at bxa bxb A2
  have HW := Lib.hid hW
  have HA := Lib.hid A2
  have B0 := Below.refl W.heap.size W
  have x0 := (bxa.out W B0).cells7
  have y0 := (bxb.out W B0).cells7
  obtain ⟨x00, x01, x02, x03, x04, x05, x06⟩ := x0
  obtain ⟨y00, y01, y02, y03, y04, y05, y06⟩ := y0
  have e0 : ∃ r, r = compareS a b := ⟨_, rfl⟩
  obtain ⟨r, hr⟩ := e0
  have HS : Hid (sameS a b = (decide (r = 0) && decide (a.val = b.val))) := by unfold Hid; rw [hr]; rfl
  rw [← hr] at HC
  obtain ⟨s, hs⟩ : ∃ s, s = sameS a b := ⟨_, rfl⟩
  rw [← hs] at HS ⊢
  clear hr hs A1 A2 B0 ha hb hW
  unfold EntD.cells at HC HW ⊢
  rw [HW.out] at x00 x01 x02 x03 x04 x05 x06 y00 y01 y02 y03 y04 y05 y06
  go_enter Tryz.func108, Tryz.ntmps108
  by_cases h0 : r = 0
  · have h0b : (r == 0) = true := by simp [h0]
    go_wp2_with fail
    rw [← HW.out]
    refine Calls.mono HC.out ?_
    rintro z w1 ⟨rfl, b1⟩
    have q6 := (bxa.out w1 b1).vv
    have p6 := (bxb.out w1 b1).vv
    have HF := Lib.hid (HA.out.trans (b1.mono HA.out.size))
    have HE1 := Lib.hid (HE.out w1 b1)
    clear x00 x01 x02 x03 x04 x05 x06 y00 y01 y02 y03 y04 y05 y06 b1
    go_wp2_with fail
    refine Calls.mono HE1.out ?_
    rintro z w2 ⟨rfl, rfl⟩
    go_wp2
    go_ret
    refine ⟨?_, HF.out⟩
    rw [HS.out]
    simp [h0]
  · have h0b : (r == 0) = false := by simp [h0]
    go_wp2_with fail
    rw [← HW.out]
    refine Calls.mono HC.out ?_
    rintro z w1 ⟨rfl, b1⟩
    have HF := Lib.hid (HA.out.trans (b1.mono HA.out.size))
    clear x00 x01 x02 x03 x04 x05 x06 y00 y01 y02 y03 y04 y05 y06 b1
    go_wp2
    go_ret
    refine ⟨?_, HF.out⟩
    rw [HS.out]
    simp [h0]
end Go.Proofs.YthhkpkfpifllkaaGreat


namespace Go.Proofs.YthhkpkfpifllkaaGreat
open Go.RowKit
set_option linter.unusedVariables false

def marks5 : List Nat := [201, 202, 203, 204, 205]
def Laid (w : World) (B : Nat) (u : Value) (bs : List Nat) : Prop := ∃ g c, u = .slice (some ⟨g, 0, none⟩) bs.length c ∧ bs.length + 75 ≤ c ∧ c ≤ maxLen ∧ Own w B (.slice (some ⟨g, 0, none⟩) (bs.length + 75) c) (bs.length + 75) ((bs ++ marks5) ++ List.replicate 70 206)
end Go.Proofs.YthhkpkfpifllkaaGreat

namespace Go.Proofs.YthhkpkfpifllkaaGreat
open Go.RowKit
set_option linter.unusedVariables false

def RowOk (bs : List Nat) : Prop := 1 ≤ bs.length ∧ bs.length ≤ 256
set_option maxRecDepth 100000 in
theorem refOut_out (n lo hi : Int) (w : World) (h : n < lo ∨ hi < n) : Calls Tryz.prog 112 #[.int .i64 n, .int .i64 lo, .int .i64 hi] w fun e w' => e = .returned (.bool true) ∧ w' = w := by
  by_cases h1 : n < lo
  · have d1 : decide (n < lo) = true := by simpa using h1
    clear h
    go_enter Tryz.func112, Tryz.ntmps112
    go_wp2
    go_ret
    exact ⟨by first | rfl | simp [d1], rfl⟩
  · have d1 : decide (n < lo) = false := by simpa using h1
    have h2 : hi < n := by omega
    have d2 : decide (hi < n) = true := by simpa using h2
    clear h
    go_enter Tryz.func112, Tryz.ntmps112
    go_wp2
    go_ret
    exact ⟨by first | rfl | simp [d1, d2], rfl⟩
set_option maxRecDepth 100000 in
theorem refNumber_any (a b : Int) (w : World) : Calls Tryz.prog 114 #[.int .i64 a, .int .i64 b] w fun e w' => e = .returned (.int .i64 (cmpI a b)) ∧ w' = w := by
  by_cases h1 : a < b
  · go_enter Tryz.func114, Tryz.ntmps114
    go_wp2
    go_ret
    exact ⟨by unfold cmpI; rw [if_pos (by omega)]; rfl, rfl⟩
  · have h1' : b ≤ a := by omega
    by_cases h2 : b < a
    · go_enter Tryz.func114, Tryz.ntmps114
      go_wp2
      go_ret
      exact ⟨by unfold cmpI; rw [if_neg (by omega), if_pos (by omega)]; rfl, rfl⟩
    · have h2' : a ≤ b := by omega
      go_enter Tryz.func114, Tryz.ntmps114
      go_wp2
      go_ret
      exact ⟨by unfold cmpI; rw [if_neg (by omega), if_neg (by omega)]; rfl, rfl⟩
set_option maxRecDepth 100000 in
set_option maxHeartbeats 1000000 in
theorem refBytesOrd_any {va vb : Value} {xs ys : List Nat} {w : World} (ha : Rd w va xs) (hb : Rd w vb ys) :
    Calls Tryz.prog 113 #[va, vb] w fun e w' => e = .returned (.int .i64 (ordC xs ys)) ∧ Below w.heap.size w w' := by
  obtain ⟨a, n, cap, rfl⟩ := rd_slice ha
  obtain ⟨b, m, capb, rfl⟩ := rd_slice hb
  obtain ⟨hn, _, _, hn48⟩ := rd_lens ha
  obtain ⟨hm, _, _, hm48⟩ := rd_lens hb
  have HN : Hid (n = xs.length) := hn
  have HM : Hid (m = ys.length) := hm
  clear hn hm
  go_enter Tryz.func113, Tryz.ntmps113
  go_wp2
  go_loopw [5] (fun i wr => ∃ t : Nat, t ≤ n ∧ t ≤ m ∧ i = .int .i64 (t : Int) ∧ ordC xs ys = ordC (xs.drop t) (ys.drop t) ∧ Below w.heap.size w wr) (fun i _ => n - (intOf i).toNat)
  case atStart => exact ⟨0, by omega, by omega, rfl, rfl, Below.refl _ _⟩
  case round =>
    obtain ⟨t, htn, htm, rfl, hord, hbk⟩ := hrel
    have HO : Hid (ordC xs ys = ordC (xs.drop t) (ys.drop t)) := hord
    clear hord
    by_cases hin : t < n ∧ t < m
    · obtain ⟨h1, h2⟩ := hin
      have h1' : (t : Int) < (n : Int) := by omega
      have h2' : (t : Int) < (m : Int) := by omega
      rcases rd_some ha with ⟨_, h0, _⟩ | ⟨ba, oa, rfl⟩
      · omega
      rcases rd_some hb with ⟨_, h0, _⟩ | ⟨bb, ob, rfl⟩
      · omega
      obtain ⟨ca0, cal⟩ := rd_cell ha t h1
      obtain ⟨cb0, cbl⟩ := rd_cell hb t h2
      have ca : wr.cell? ⟨ba, oa + t, none⟩ = some (.int .u8 ((xs.getD t 0 : Nat) : Int)) := by
        rw [hbk.cell (p := ⟨ba, oa + t, none⟩) (World.block_lt_of_cell? w _ ca0)]; exact ca0
      have cb : wr.cell? ⟨bb, ob + t, none⟩ = some (.int .u8 ((ys.getD t 0 : Nat) : Int)) := by
        rw [hbk.cell (p := ⟨bb, ob + t, none⟩) (World.block_lt_of_cell? w _ cb0)]; exact cb0
      have da := drop_cons xs t (by rw [← HN.out]; exact h1)
      have db := drop_cons ys t (by rw [← HM.out]; exact h2)
      obtain ⟨x, hx⟩ : ∃ x, x = xs.getD t 0 := ⟨_, rfl⟩
      obtain ⟨y, hy⟩ : ∃ y, y = ys.getD t 0 := ⟨_, rfl⟩
      rw [← hx] at ca cal da
      rw [← hy] at cb cbl db
      have HOO : Hid (ordC xs ys = if x < y then -1 else if y < x then 1 else ordC (xs.drop (t + 1)) (ys.drop (t + 1))) := by
        unfold Hid; rw [HO.out, da, db]; rfl
      clear hx hy da db ca0 cb0
      have ht0 : (0 : Int) ≤ (t : Int) := by omega
      by_cases hxy : x < y
      · have hxy' : (x : Int) < (y : Int) := by omega
        have HR : Hid (ordC xs ys = -1) := by unfold Hid; rw [HOO.out, if_pos hxy]
        go_wp2
        go_quiet (fail)
        go_wp2
        go_ret
        rw [HR.out]
        exact ⟨rfl, below_drewN hbk _⟩
      · have hxy' : (y : Int) ≤ (x : Int) := by omega
        by_cases hyx : y < x
        · have hyx' : (y : Int) < (x : Int) := by omega
          have HR : Hid (ordC xs ys = 1) := by unfold Hid; rw [HOO.out, if_neg hxy, if_pos hyx]
          go_wp2
          go_quiet (fail)
          go_wp2
          go_quiet (fail)
          go_wp2
          go_ret
          rw [HR.out]
          exact ⟨rfl, below_drewN (below_drewN hbk _) _⟩
        · have hyx' : (x : Int) ≤ (y : Int) := by omega
          have HR : Hid (ordC xs ys = ordC (xs.drop (t + 1)) (ys.drop (t + 1))) := by unfold Hid; rw [HOO.out, if_neg hxy, if_neg hyx]
          go_wp2
          go_quiet (fail)
          go_wp2
          go_quiet (fail)
          go_wp2
          go_roundw
          case rel => exact ⟨t + 1, by omega, by omega, by go_num, HR.out, below_drewN hbk _⟩
          case measure => simp [intOf]; omega
    · have HR : Hid (ordC xs ys = if n < m then -1 else if m < n then 1 else 0) := by
        unfold Hid
        rw [HO.out]
        by_cases h1 : t < n
        · have h2 : m = t := by
            by_cases h : t < m
            · exact absurd ⟨h1, h⟩ hin
            · omega
          have e1 : ys.drop t = [] := by rw [← h2, HM.out]; simp
          rw [e1, drop_cons xs t (by rw [← HN.out]; exact h1), if_neg (by omega), if_pos (by omega)]
          rfl
        · have h1' : n = t := by omega
          have e1 : xs.drop t = [] := by rw [← h1', HN.out]; simp
          rw [e1]
          by_cases h2 : t < m
          · rw [drop_cons ys t (by rw [← HM.out]; exact h2), if_pos (by omega)]
            rfl
          · have e2 : ys.drop t = [] := by rw [show t = m by omega, HM.out]; simp
            rw [e2, if_neg (by omega), if_neg (by omega)]
            rfl
      by_cases h1 : t < n
      · have h1' : (t : Int) < (n : Int) := by omega
        have h2' : (m : Int) ≤ (t : Int) := by
          by_cases h : t < m
          · exact absurd ⟨h1, h⟩ hin
          · omega
        have hR := HR.out
        rw [if_neg (by omega), if_pos (by omega)] at hR
        have HR2 : Hid (ordC xs ys = 1) := hR
        clear hR hin
        have hd2 : decide ((t : Int) < (m : Int)) = false := by simp; omega
        go_wp2_with fail
        refine (refNumber_any _ _ _).mono ?_
        rintro e w9 ⟨rfl, rfl⟩
        rw [show cmpI (n : Int) (m : Int) = 1 by unfold cmpI; rw [if_neg (by omega), if_pos (by omega)]]
        go_wp2
        go_ret
        rw [HR2.out]
        exact ⟨rfl, hbk⟩
      · have h1' : (n : Int) ≤ (t : Int) := by omega
        have hd : decide ((t : Int) < (n : Int)) = false := by simp; omega
        clear hin
        by_cases hnm : n < m
        · have hnm' : (n : Int) < (m : Int) := by omega
          have hR := HR.out
          rw [if_pos hnm] at hR
          have HR2 : Hid (ordC xs ys = -1) := hR
          clear hR
          go_wp2_with fail
          refine (refNumber_any _ _ _).mono ?_
          rintro e w9 ⟨rfl, rfl⟩
          rw [show cmpI (n : Int) (m : Int) = -1 by unfold cmpI; rw [if_pos (by omega)]]
          go_wp2
          go_ret
          rw [HR2.out]
          exact ⟨rfl, hbk⟩
        · have hnm' : (m : Int) ≤ (n : Int) := by omega
          have hmn' : (n : Int) ≤ (m : Int) := by omega
          have hR := HR.out
          rw [if_neg hnm, if_neg (by omega)] at hR
          have HR2 : Hid (ordC xs ys = 0) := hR
          clear hR
          go_wp2_with fail
          refine (refNumber_any _ _ _).mono ?_
          rintro e w9 ⟨rfl, rfl⟩
          rw [show cmpI (n : Int) (m : Int) = 0 by unfold cmpI; rw [if_neg (by omega), if_neg (by omega)]]
          go_wp2
          go_ret
          rw [HR2.out]
          exact ⟨rfl, hbk⟩


end Go.Proofs.YthhkpkfpifllkaaGreat

namespace Go.Proofs.YthhkpkfpifllkaaGreat
open Go.RowKit
set_option linter.unusedVariables false

def byt (s : ByteArray) (i : Nat) : Nat := if h : i < s.size then (s[i]'h).toNat else 0
theorem byt_in {s : ByteArray} {i : Nat} (h : i < s.size) : byt s i = (s[i]'h).toNat := by unfold byt; rw [dif_pos h]
def Letter (c : Nat) : Prop := 97 ≤ c ∧ c ≤ 122
def Digit (c : Nat) : Prop := 48 ≤ c ∧ c ≤ 57
instance (c : Nat) : Decidable (Letter c) := by unfold Letter; infer_instance
instance (c : Nat) : Decidable (Digit c) := by unfold Digit; infer_instance
def ByteOk (i c : Nat) : Prop := Letter c ∨ (i ≠ 0 ∧ (c = 95 ∨ Digit c))
def NameOk (s : ByteArray) : Prop := 1 ≤ s.size ∧ s.size ≤ 32 ∧ ∀ i, i < s.size → ByteOk i (byt s i)

set_option maxRecDepth 100000 in
theorem isLetter_any (c : Nat) (w : World) : Calls Tryz.prog 158 #[.int .u8 (c : Int)] w fun e w' => e = .returned (.bool (decide (Letter c))) ∧ w' = w := by
  by_cases h1 : 97 ≤ c
  · have d1 : decide ((97 : Int) ≤ (c : Int)) = true := decide_eq_true (by omega)
    by_cases h2 : c ≤ 122
    · have d2 : decide ((c : Int) ≤ 122) = true := decide_eq_true (by omega)
      have e : decide (Letter c) = true := decide_eq_true ⟨h1, h2⟩
      rw [e]
      clear e
      go_enter Tryz.func158, Tryz.ntmps158
      go_wp2
      go_ret
      exact ⟨by first | rfl | simp [d1, d2], rfl⟩
    · have d2 : decide ((c : Int) ≤ 122) = false := decide_eq_false (by omega)
      have e : decide (Letter c) = false := decide_eq_false (fun h => h2 h.2)
      rw [e]
      clear e
      go_enter Tryz.func158, Tryz.ntmps158
      go_wp2
      go_ret
      exact ⟨by first | rfl | simp [d1, d2], rfl⟩
  · have d1 : decide ((97 : Int) ≤ (c : Int)) = false := decide_eq_false (by omega)
    have e : decide (Letter c) = false := decide_eq_false (fun h => h1 h.1)
    rw [e]
    clear e
    go_enter Tryz.func158, Tryz.ntmps158
    go_wp2
    go_ret
    exact ⟨by first | rfl | simp [d1], rfl⟩
set_option maxRecDepth 100000 in
theorem isDigit_any (c : Nat) (w : World) : Calls Tryz.prog 159 #[.int .u8 (c : Int)] w fun e w' => e = .returned (.bool (decide (Digit c))) ∧ w' = w := by
  by_cases h1 : 48 ≤ c
  · have d1 : decide ((48 : Int) ≤ (c : Int)) = true := decide_eq_true (by omega)
    by_cases h2 : c ≤ 57
    · have d2 : decide ((c : Int) ≤ 57) = true := decide_eq_true (by omega)
      have e : decide (Digit c) = true := decide_eq_true ⟨h1, h2⟩
      rw [e]
      clear e
      go_enter Tryz.func159, Tryz.ntmps159
      go_wp2
      go_ret
      exact ⟨by first | rfl | simp [d1, d2], rfl⟩
    · have d2 : decide ((c : Int) ≤ 57) = false := decide_eq_false (by omega)
      have e : decide (Digit c) = false := decide_eq_false (fun h => h2 h.2)
      rw [e]
      clear e
      go_enter Tryz.func159, Tryz.ntmps159
      go_wp2
      go_ret
      exact ⟨by first | rfl | simp [d1, d2], rfl⟩
  · have d1 : decide ((48 : Int) ≤ (c : Int)) = false := decide_eq_false (by omega)
    have e : decide (Digit c) = false := decide_eq_false (fun h => h1 h.1)
    rw [e]
    clear e
    go_enter Tryz.func159, Tryz.ntmps159
    go_wp2
    go_ret
    exact ⟨by first | rfl | simp [d1], rfl⟩
theorem letter_y {c : Nat} (h : Letter c) (w : World) : Calls Tryz.prog 158 #[.int .u8 (c : Int)] w fun e w' => e = .returned (.bool true) ∧ w' = w := by have k := isLetter_any c w; rw [decide_eq_true h] at k; exact k
theorem letter_n {c : Nat} (h : ¬ Letter c) (w : World) : Calls Tryz.prog 158 #[.int .u8 (c : Int)] w fun e w' => e = .returned (.bool false) ∧ w' = w := by have k := isLetter_any c w; rw [decide_eq_false h] at k; exact k
theorem digit_y {c : Nat} (h : Digit c) (w : World) : Calls Tryz.prog 159 #[.int .u8 (c : Int)] w fun e w' => e = .returned (.bool true) ∧ w' = w := by have k := isDigit_any c w; rw [decide_eq_true h] at k; exact k
theorem digit_n {c : Nat} (h : ¬ Digit c) (w : World) : Calls Tryz.prog 159 #[.int .u8 (c : Int)] w fun e w' => e = .returned (.bool false) ∧ w' = w := by have k := isDigit_any c w; rw [decide_eq_false h] at k; exact k


theorem letter_95 (w : World) : Calls Tryz.prog 158 #[.int .u8 95] w fun e w' => e = .returned (.bool false) ∧ w' = w := letter_n (c := 95) (by decide) w
theorem digit_95 (w : World) : Calls Tryz.prog 159 #[.int .u8 95] w fun e w' => e = .returned (.bool false) ∧ w' = w := digit_n (c := 95) (by decide) w
set_option maxRecDepth 100000 in
theorem famName_len {s : ByteArray} (h : s.size < 1 ∨ 32 < s.size) (w : World) : Calls Tryz.prog 148 #[.string s] w fun e w' => e = .returned (.bool false) ∧ w' = w := by
  by_cases h1 : s.size < 1
  · have d1 : decide ((s.size : Int) < 1) = true := decide_eq_true (by omega)
    have i1 : (s.size : Int) < 1 := by omega
    clear h
    go_enter Tryz.func148, Tryz.ntmps148
    go_wp2
    go_ret
    exact ⟨rfl, rfl⟩
  · have d1 : decide ((s.size : Int) < 1) = false := decide_eq_false (by omega)
    have d2 : decide ((32 : Int) < (s.size : Int)) = true := decide_eq_true (by omega)
    have i1 : (1 : Int) ≤ (s.size : Int) := by omega
    have i2 : (32 : Int) < (s.size : Int) := by omega
    clear h
    go_enter Tryz.func148, Tryz.ntmps148
    go_wp2
    go_ret
    exact ⟨rfl, rfl⟩

set_option maxRecDepth 100000 in
set_option maxHeartbeats 4000000 in
theorem famName_in {s : ByteArray} (h1 : 1 ≤ s.size) (h2 : s.size ≤ 32) (w : World) (R : Bool) (hR : R = true ↔ ∀ i, i < s.size → ByteOk i (byt s i)) : Calls Tryz.prog 148 #[.string s] w fun e w' => e = .returned (.bool R) ∧ w' = w := by
  have HR : Hid (R = true ↔ ∀ i, i < s.size → ByteOk i (byt s i)) := hR
  have i1 : (1 : Int) ≤ (s.size : Int) := by omega
  have i2 : (s.size : Int) ≤ 32 := by omega
  have d1 : decide ((s.size : Int) < 1) = false := decide_eq_false (by omega)
  have d2 : decide ((32 : Int) < (s.size : Int)) = false := decide_eq_false (by omega)
  have i3 : 0 < s.size := by omega
  clear hR
  by_cases hl : Letter (s[0]'i3).toNat
  · have HL : Hid (Letter (s[0]'i3).toNat) := hl
    have HB0 : Hid (Letter (byt s 0)) := by unfold Hid; rw [byt_in i3]; exact hl
    clear hl
    go_enter Tryz.func148, Tryz.ntmps148
    go_wp2_with fail
    refine (letter_y HL.out _).mono ?_
    rintro e w1 ⟨rfl, rfl⟩
    go_wp2
    go_loopw [3, 4, 21] (fun _ _ i wr => ∃ t : Nat, t ≤ s.size ∧ i = .int .i64 (t : Int) ∧ wr = w1 ∧ ∀ j, j < t → ByteOk j (byt s j)) (fun _ _ i _ => s.size - (intOf i).toNat)
    case atStart => exact ⟨0, by omega, rfl, rfl, fun j hj => absurd hj (by omega)⟩
    case round =>
      obtain ⟨t, ht, rfl, rfl, hj⟩ := hrel
      have HJ : Hid (∀ j, j < t → ByteOk j (byt s j)) := hj
      clear hj
      by_cases hlt : t < s.size
      · have j1 : (t : Int) < (s.size : Int) := by omega
        have j2 : (0 : Int) ≤ (t : Int) := by omega
        have HBY : Hid (byt s t = (s[t]'hlt).toNat) := byt_in hlt
        have step : ∀ (h : ByteOk t (byt s t)), ∀ j, j < t + 1 → ByteOk j (byt s j) := fun h j hj => by
          by_cases e : j = t
          · rw [e]; exact h
          · exact HJ.out j (by omega)
        have HST := Lib.hid step
        clear step
        by_cases hle : Letter (s[t]'hlt).toNat
        · have HLE : Hid (Letter (s[t]'hlt).toNat) := hle
          clear hle
          go_wp2_with fail
          refine (letter_y HLE.out _).mono ?_
          rintro e w2 ⟨rfl, rfl⟩
          go_wp2
          go_roundw
          case rel => exact ⟨t + 1, by omega, by go_num, trivial, HST.out (.inl (by rw [HBY.out]; exact HLE.out))⟩
          case measure => simp [intOf]; omega
        · have HLE : Hid (¬ Letter (s[t]'hlt).toNat) := hle
          have ht1 : t ≠ 0 := by
            rintro rfl
            exact hle HL.out
          have HT0 : Hid (t ≠ 0) := ht1
          clear hle ht1
          by_cases hdi : Digit (s[t]'hlt).toNat
          · have HDI : Hid (Digit (s[t]'hlt).toNat) := hdi
            clear hdi
            go_wp2_with fail
            refine (letter_n HLE.out _).mono ?_
            rintro e w2 ⟨rfl, rfl⟩
            go_wp2_with fail
            refine (digit_y HDI.out _).mono ?_
            rintro e w2 ⟨rfl, rfl⟩
            go_wp2
            go_roundw
            case rel => exact ⟨t + 1, by omega, by go_num, trivial, HST.out (.inr ⟨HT0.out, .inr (by rw [HBY.out]; exact HDI.out)⟩)⟩
            case measure => simp [intOf]; omega
          · have HDI : Hid (¬ Digit (s[t]'hlt).toNat) := hdi
            clear hdi
            obtain ⟨c, hc⟩ : ∃ c, c = (s[t]'hlt).toNat := ⟨_, rfl⟩
            by_cases h95 : c = 95
            · subst h95
              have k95 : (((s[t]'hlt).toNat : Nat) : Int) = 95 := by rw [← hc]; rfl
              have HC : Hid (byt s t = 95) := by unfold Hid; rw [HBY.out, ← hc]
              clear hc
              go_wp2_with fail
              refine (letter_95 _).mono ?_
              rintro e w2 ⟨rfl, rfl⟩
              go_wp2_with fail
              refine (digit_95 _).mono ?_
              rintro e w2 ⟨rfl, rfl⟩
              go_wp2
              go_roundw
              case rel => exact ⟨t + 1, by omega, by go_num, trivial, HST.out (.inr ⟨HT0.out, .inl HC.out⟩)⟩
              case measure => simp [intOf]; omega
            · have k95 : ¬ ((((s[t]'hlt).toNat : Nat) : Int) = 95) := by rw [← hc]; omega
              have hRf : R = false := by
                cases hr : R with
                | false => rfl
                | true =>
                  exfalso
                  rcases (HR.out.1 hr) t hlt with k | ⟨_, k | k⟩
                  · rw [HBY.out] at k; exact HLE.out k
                  · rw [HBY.out, ← hc] at k; exact h95 k
                  · rw [HBY.out] at k; exact HDI.out k
              subst hRf
              clear hc
              go_wp2_with fail
              refine (letter_n HLE.out _).mono ?_
              rintro e w2 ⟨rfl, rfl⟩
              go_wp2_with fail
              refine (digit_n HDI.out _).mono ?_
              rintro e w2 ⟨rfl, rfl⟩
              go_wp2
              go_ret
              exact ⟨rfl, rfl⟩
      · have j1 : (s.size : Int) ≤ (t : Int) := by omega
        have hRt : R = true := HR.out.2 (fun i hi => HJ.out i (by omega))
        subst hRt
        go_wp2
        go_ret
        exact ⟨rfl, rfl⟩
  · have HL : Hid (¬ Letter (s[0]'i3).toNat) := hl
    have hRf : R = false := by
      cases hr : R with
      | false => rfl
      | true =>
        exfalso
        rcases (HR.out.1 hr) 0 i3 with k | ⟨k, _⟩
        · rw [byt_in i3] at k; exact hl k
        · exact k rfl
    subst hRf
    clear hl
    go_enter Tryz.func148, Tryz.ntmps148
    go_wp2_with fail
    refine (letter_n HL.out _).mono ?_
    rintro e w1 ⟨rfl, rfl⟩
    go_wp2
    go_ret
    exact ⟨rfl, rfl⟩
open Classical in
theorem famName_any (s : ByteArray) (w : World) : Calls Tryz.prog 148 #[.string s] w fun e w' => e = .returned (.bool (decide (NameOk s))) ∧ w' = w := by
  by_cases h : s.size < 1 ∨ 32 < s.size
  · rw [decide_eq_false (fun k : NameOk s => by have := k.1; have := k.2.1; omega)]
    exact famName_len h w
  · refine famName_in (by omega) (by omega) w _ ?_
    rw [decide_eq_true_iff]
    exact ⟨fun k => k.2.2, fun k => ⟨by omega, by omega, k⟩⟩
end Go.Proofs.YthhkpkfpifllkaaGreat
