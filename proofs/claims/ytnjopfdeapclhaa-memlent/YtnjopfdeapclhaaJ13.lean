import Derived.Test.YtnjopfdeapclhaaJ12
namespace Go.Proofs.Ytnjopfdeapclhaa
open Go.RowKit
set_option linter.unusedVariables false

theorem own_same {w w' : World} {B m : Nat} {v : Value} {xs : List Nat} (h : Own w B v m xs) (k : ∀ g, v.ownBlock = some g → w'.heap[g]? = w.heap[g]?) : Own w' B v m xs := by
  refine ⟨h.1, h.2.1, ?_⟩
  rcases h.2.2 with h2 | ⟨g, cap, cur, h3, h4, h5, h6⟩
  · exact .inl h2
  · exact .inr ⟨g, cap, cur, h3, h4, by rw [k g (by rw [h3]; rfl)]; exact h5, h6⟩
theorem _root_.Go.Proofs.Ytnjopfdeapclhaa.Own.base {w : World} {B B' m : Nat} {v : Value} {xs : List Nat} (h : Own w B v m xs) (k : ∀ g, v.ownBlock = some g → B' ≤ g) (e : m = xs.length) : Own w B' v xs.length xs := by
  subst e
  refine ⟨h.1, h.2.1, ?_⟩
  rcases h.2.2 with h2 | ⟨g, cap, cur, h3, h4, h5, h6⟩
  · exact .inl h2
  · exact .inr ⟨g, cap, cur, h3, k g (by rw [h3]; rfl), h5, h6⟩
/-- An entry that owns its three byte strings, apart from one another. -/
structure O3 (w : World) (b : Nat) (D : EntD) : Prop where
  row : Own w b D.vr D.row.length D.row
  qual : Own w b D.vq D.qual.length D.qual
  val : Own w b D.vv D.val.length D.val
  arq : ∀ k, D.vr.ownBlock = some k → D.vq.ownBlock ≠ some k
  arv : ∀ k, D.vr.ownBlock = some k → D.vv.ownBlock ≠ some k
  aqv : ∀ k, D.vq.ownBlock = some k → D.vv.ownBlock ≠ some k
theorem O3.lt {w : World} {b : Nat} {D : EntD} (h : O3 w b D) : ∀ g, D.vr.ownBlock = some g ∨ D.vq.ownBlock = some g ∨ D.vv.ownBlock = some g → b ≤ g ∧ g < w.heap.size := fun g hg => by
  rcases hg with hg | hg | hg
  · exact h.row.2.lt g hg
  · exact h.qual.2.lt g hg
  · exact h.val.2.lt g hg
theorem O3.mono {w : World} {b b' : Nat} {D : EntD} (h : O3 w b D) (hb : b' ≤ b) : O3 w b' D := ⟨h.row.mono hb, h.qual.mono hb, h.val.mono hb, h.arq, h.arv, h.aqv⟩
theorem O3.same {w w' : World} {b : Nat} {D : EntD} (h : O3 w b D) (k : ∀ g, b ≤ g → g < w.heap.size → (∃ cur fr, w.heap[g]? = some (.cells cur 5 fr)) → w'.heap[g]? = w.heap[g]?) : O3 w' b D := by
  have q : ∀ {v : Value} {m : Nat} {xs : List Nat}, Own w b v m xs → Own w' b v m xs := fun o => own_same o (fun g hg => by
    refine k g (o.2.lt g hg).1 (o.2.lt g hg).2 ?_
    rcases o.2.2 with ⟨h1, _⟩ | ⟨g', cap, cur, h3, h4, h5, _⟩
    · rw [h1] at hg; cases hg
    · rw [h3] at hg; cases hg; exact ⟨cur, _, h5⟩)
  exact ⟨q h.row, q h.qual, q h.val, h.arq, h.arv, h.aqv⟩
theorem O3.kept {w w' : World} {b : Nat} {D : EntD} (h : O3 w b D) (k : KpG (fun i => b ≤ i) w w') : O3 w' b D := h.same (fun g hg hl _ => k.block g hl hg)
theorem O3.later {w w' : World} {b : Nat} {D : EntD} (h : O3 w b D) (k : Below w.heap.size w w') : O3 w' b D := h.same (fun g _ hl _ => k.block g hl)
theorem O3.ku {w w' : World} {b : Nat} {D : EntD} (h : O3 w b D) (k : KU w w') : O3 w' b D := h.same (fun g _ _ ⟨cur, fr, e⟩ => (k g cur fr e).trans e.symm)
theorem O3.turn {w w' : World} {b B : Nat} {D : EntD} (h : O3 w b D) (k : Turn B w w') : O3 w' b D := h.same (fun g _ _ ⟨cur, fr, e⟩ => (k.cells g _ e rfl).trans e.symm)

set_option maxRecDepth 100000 in
set_option maxHeartbeats 8000000 in
theorem copyOf_own {w : World} {e : EntD} (hx : EntD.Ok w e) (hl : e.row.length ≤ 140737488355328 ∧ e.qual.length ≤ 140737488355328 ∧ e.val.length ≤ 140737488355328) :
    Calls Try.prog 34 #[.agg e.cells] w fun z w' => ∃ x : EntD, z = .returned (.agg x.cells) ∧ EntD.Same x e ∧ EOk (fun i => w.heap.size ≤ i) w' x ∧ O3 w' w.heap.size x ∧ Below w.heap.size w w' := by
  have A1 := (Below.refl w.heap.size w).alloc (Nat.le_refl _) (.cells e.cells 30)
  have bx0 := EBox.new w e
  obtain ⟨zc, hz⟩ : ∃ zc : Array Value, zc = #[.slice none 0 0, .int .i64 0, .slice none 0 0, .int .i64 0, .int .i64 0, .int .i64 0, .slice none 0 0] := ⟨_, rfl⟩
  have A2 := A1.alloc A1.size (.cells zc 30)
  have bx := bx0.later ((Below.refl (w.alloc (.cells e.cells 30)).heap.size _).alloc (Nat.le_refl _) (.cells zc 30))
  have rz : ((w.alloc (.cells e.cells 30)).alloc (.cells zc 30)).heap[w.heap.size + 1]? = some (.cells zc 30 (0, 0)) := by
    show ((w.alloc (.cells e.cells 30)).heap.push _)[w.heap.size + 1]? = _
    have e1 : w.heap.size + 1 = (w.alloc (.cells e.cells 30)).heap.size := (World.size_alloc w _).symm
    rw [e1]
    exact Array.getElem?_push_size
  obtain ⟨W, hW⟩ : ∃ W, W = (w.alloc (.cells e.cells 30)).alloc (.cells zc 30) := ⟨_, rfl⟩
  rw [← hW] at A2 bx rz
  have HW : Hid (W = _) := hW
  have hwl : w.heap.size + 1 < W.heap.size := by rw [hW]; simp
  clear hW A1 bx0
  have HX : Hid (∀ wx, Below W.heap.size W wx → EBox wx w.heap.size e ∧ EntD.Ok wx e) := fun wx b => ⟨bx.later b, (hx.later A2).later b⟩
  have HR : Hid (∀ wx, Below W.heap.size W wx → wx.heap[w.heap.size + 1]? = some (.cells zc 30 (0, 0))) := fun wx b => (b.block _ hwl).trans rz
  have HA : Hid (Below w.heap.size w W) := A2
  have HY : Hid (Bys e.row ∧ Bys e.qual ∧ Bys e.val) := ⟨hx.1.1, hx.2.1.1, hx.2.2.1⟩
  have HL : Hid (e.row.length ≤ 140737488355328 ∧ e.qual.length ≤ 140737488355328 ∧ e.val.length ≤ 140737488355328) := hl
  obtain ⟨vr, fam, vq, ts, seq, kind, vv, row, qual, val⟩ := e
  subst hz
  simp only [EntD.cells] at *
  have D0 : Below W.heap.size W W.drew := (Below.refl _ _).drew
  have C1 : Hid (∀ wx, Below W.heap.size W wx → Calls Try.prog 56 #[vr] wx _) := fun wx b => handed (clone_any (HX.out _ b).2.1 HL.out.1)
  have C2 : Hid (∀ wx, Below W.heap.size W wx → Calls Try.prog 56 #[vq] wx _) := fun wx b => handed (clone_any (HX.out _ b).2.2.1 HL.out.2.1)
  have C3 : Hid (∀ wx, Below W.heap.size W wx → Calls Try.prog 56 #[vv] wx _) := fun wx b => handed (clone_any (HX.out _ b).2.2.2 HL.out.2.2)
  have y0 : W.drew.cell? ⟨w.heap.size, 0, none⟩ = some vr := (HX.out _ D0).1.vr
  have y2 : W.drew.cell? ⟨w.heap.size, 2, none⟩ = some vq := (HX.out _ D0).1.vq
  have y6 : W.drew.cell? ⟨w.heap.size, 6, none⟩ = some vv := (HX.out _ D0).1.vv
  clear A2 bx rz hl hx
  go_enter Try.func34, Try.ntmps34
  go_wp2_with fail
  rw [← HW.out]
  refine wp_region_noPanic ?_
  refine wp_region_anyE (S := fun wx => wx.cell? ⟨w.heap.size, 0, none⟩ = some vr ∧ wx.cell? ⟨w.heap.size, 2, none⟩ = some vq ∧ wx.cell? ⟨w.heap.size, 6, none⟩ = some vv) (E := fun j => decide (j < 9)) (by kernel_rfl) ?_
  have hS : W.drew.cell? ⟨w.heap.size, 0, none⟩ = some vr ∧ W.drew.cell? ⟨w.heap.size, 2, none⟩ = some vq ∧ W.drew.cell? ⟨w.heap.size, 6, none⟩ = some vv := ⟨y0, y2, y6⟩
  refine AnyE.take (i := 0) (.pointer (some ⟨w.heap.size, 0, none⟩)) rfl (by kernel_rfl) (by kernel_rfl) (by kernel_rfl) (by kernel_rfl) (fun _ _ _ h => h) (.inl ⟨by rfl, fun wq hq => by go_simp⟩) hS ?_
  show AnyE _ _ _ _ _ _ 14 #[true, false, false, false, false, false, false, false, false, false, false, false, false, false, false] ⟨#[.agg #[vr, .int .i64 fam, vq, .int .i64 ts, .int .i64 seq, .int .i64 kind, vv], .pointer (some ⟨w.heap.size, 0, none⟩), .pointer (some ⟨w.heap.size + 1, 0, none⟩), .pointer (some ⟨w.heap.size, 0, none⟩), undef, undef, undef, undef, undef, undef, undef, undef, undef, undef, undef, undef], []⟩ _
  refine AnyE.take (i := 1) (vr) rfl (by kernel_rfl) (by kernel_rfl) (by kernel_rfl) (by kernel_rfl) (fun _ _ _ h => h) (.inl ⟨by rfl, fun wq hq => by obtain ⟨q0, q2, q6⟩ := hq; go_simp⟩) hS ?_
  show AnyE _ _ _ _ _ _ 13 #[true, true, false, false, false, false, false, false, false, false, false, false, false, false, false] ⟨#[.agg #[vr, .int .i64 fam, vq, .int .i64 ts, .int .i64 seq, .int .i64 kind, vv], .pointer (some ⟨w.heap.size, 0, none⟩), .pointer (some ⟨w.heap.size + 1, 0, none⟩), .pointer (some ⟨w.heap.size, 0, none⟩), vr, undef, undef, undef, undef, undef, undef, undef, undef, undef, undef, undef], []⟩ _
  refine AnyE.take (i := 3) (.pointer (some ⟨w.heap.size, 2, none⟩)) rfl (by kernel_rfl) (by kernel_rfl) (by kernel_rfl) (by kernel_rfl) (fun _ _ _ h => h) (.inl ⟨by rfl, fun wq hq => by go_simp⟩) hS ?_
  show AnyE _ _ _ _ _ _ 12 #[true, true, false, true, false, false, false, false, false, false, false, false, false, false, false] ⟨#[.agg #[vr, .int .i64 fam, vq, .int .i64 ts, .int .i64 seq, .int .i64 kind, vv], .pointer (some ⟨w.heap.size, 0, none⟩), .pointer (some ⟨w.heap.size + 1, 0, none⟩), .pointer (some ⟨w.heap.size, 0, none⟩), vr, undef, .pointer (some ⟨w.heap.size, 2, none⟩), undef, undef, undef, undef, undef, undef, undef, undef, undef], []⟩ _
  refine AnyE.take (i := 4) (vq) rfl (by kernel_rfl) (by kernel_rfl) (by kernel_rfl) (by kernel_rfl) (fun _ _ _ h => h) (.inl ⟨by rfl, fun wq hq => by obtain ⟨q0, q2, q6⟩ := hq; go_simp⟩) hS ?_
  show AnyE _ _ _ _ _ _ 11 #[true, true, false, true, true, false, false, false, false, false, false, false, false, false, false] ⟨#[.agg #[vr, .int .i64 fam, vq, .int .i64 ts, .int .i64 seq, .int .i64 kind, vv], .pointer (some ⟨w.heap.size, 0, none⟩), .pointer (some ⟨w.heap.size + 1, 0, none⟩), .pointer (some ⟨w.heap.size, 0, none⟩), vr, undef, .pointer (some ⟨w.heap.size, 2, none⟩), vq, undef, undef, undef, undef, undef, undef, undef, undef], []⟩ _
  refine AnyE.take (i := 6) (.pointer (some ⟨w.heap.size, 6, none⟩)) rfl (by kernel_rfl) (by kernel_rfl) (by kernel_rfl) (by kernel_rfl) (fun _ _ _ h => h) (.inl ⟨by rfl, fun wq hq => by go_simp⟩) hS ?_
  show AnyE _ _ _ _ _ _ 10 #[true, true, false, true, true, false, true, false, false, false, false, false, false, false, false] ⟨#[.agg #[vr, .int .i64 fam, vq, .int .i64 ts, .int .i64 seq, .int .i64 kind, vv], .pointer (some ⟨w.heap.size, 0, none⟩), .pointer (some ⟨w.heap.size + 1, 0, none⟩), .pointer (some ⟨w.heap.size, 0, none⟩), vr, undef, .pointer (some ⟨w.heap.size, 2, none⟩), vq, undef, .pointer (some ⟨w.heap.size, 6, none⟩), undef, undef, undef, undef, undef, undef], []⟩ _
  refine AnyE.take (i := 7) (vv) rfl (by kernel_rfl) (by kernel_rfl) (by kernel_rfl) (by kernel_rfl) (fun _ _ _ h => h) (.inl ⟨by rfl, fun wq hq => by obtain ⟨q0, q2, q6⟩ := hq; go_simp⟩) hS ?_
  show AnyE _ _ _ _ _ _ 9 #[true, true, false, true, true, false, true, true, false, false, false, false, false, false, false] ⟨#[.agg #[vr, .int .i64 fam, vq, .int .i64 ts, .int .i64 seq, .int .i64 kind, vv], .pointer (some ⟨w.heap.size, 0, none⟩), .pointer (some ⟨w.heap.size + 1, 0, none⟩), .pointer (some ⟨w.heap.size, 0, none⟩), vr, undef, .pointer (some ⟨w.heap.size, 2, none⟩), vq, undef, .pointer (some ⟨w.heap.size, 6, none⟩), vv, undef, undef, undef, undef, undef], []⟩ _
  refine AnyE.one (i := 2) rfl (by kernel_rfl) (by rfl) (fun K1 hK1 => ?_)
  go_simp
  refine Calls.mono (C1.out _ D0) ?_
  rintro e1 w1 ⟨a1, m1, c1, rfl, o1, b1⟩
  have D1 := D0.trans (b1.mono D0.size)
  have hS1 : w1.cell? ⟨w.heap.size, 0, none⟩ = some vr ∧ w1.cell? ⟨w.heap.size, 2, none⟩ = some vq ∧ w1.cell? ⟨w.heap.size, 6, none⟩ = some vv := ⟨(HX.out _ D1).1.vr, (HX.out _ D1).1.vq, (HX.out _ D1).1.vv⟩
  refine hK1.out _ _ ⟨fun _ => hS1, ?_⟩
  clear hK1
  show AnyE _ _ _ _ _ _ 8 #[true, true, true, true, true, false, true, true, false, false, false, false, false, false, false] ⟨#[.agg #[vr, .int .i64 fam, vq, .int .i64 ts, .int .i64 seq, .int .i64 kind, vv], .pointer (some ⟨w.heap.size, 0, none⟩), .pointer (some ⟨w.heap.size + 1, 0, none⟩), .pointer (some ⟨w.heap.size, 0, none⟩), vr, (.slice a1 m1 c1), .pointer (some ⟨w.heap.size, 2, none⟩), vq, undef, .pointer (some ⟨w.heap.size, 6, none⟩), vv, undef, undef, undef, undef, undef], []⟩ _
  refine AnyE.take (i := 9) (.pointer (some ⟨w.heap.size, 0, none⟩)) rfl (by kernel_rfl) (by kernel_rfl) (by kernel_rfl) (by kernel_rfl) (fun _ _ _ h => h) (.inl ⟨by rfl, fun wq hq => by go_simp⟩) hS1 ?_
  show AnyE _ _ _ _ _ _ 7 #[true, true, true, true, true, false, true, true, false, true, false, false, false, false, false] ⟨#[.agg #[vr, .int .i64 fam, vq, .int .i64 ts, .int .i64 seq, .int .i64 kind, vv], .pointer (some ⟨w.heap.size, 0, none⟩), .pointer (some ⟨w.heap.size + 1, 0, none⟩), .pointer (some ⟨w.heap.size, 0, none⟩), vr, (.slice a1 m1 c1), .pointer (some ⟨w.heap.size, 2, none⟩), vq, undef, .pointer (some ⟨w.heap.size, 6, none⟩), vv, undef, .pointer (some ⟨w.heap.size, 0, none⟩), undef, undef, undef], []⟩ _
  refine AnyE.one (i := 5) rfl (by kernel_rfl) (by rfl) (fun K2 hK2 => ?_)
  go_simp
  refine Calls.mono (C2.out _ D1) ?_
  rintro e2 w2 ⟨a2, m2, c2, rfl, o2, b2⟩
  have D2 := D1.trans (b2.mono D1.size)
  have hS2 : w2.cell? ⟨w.heap.size, 0, none⟩ = some vr ∧ w2.cell? ⟨w.heap.size, 2, none⟩ = some vq ∧ w2.cell? ⟨w.heap.size, 6, none⟩ = some vv := ⟨(HX.out _ D2).1.vr, (HX.out _ D2).1.vq, (HX.out _ D2).1.vv⟩
  refine hK2.out _ _ ⟨fun _ => hS2, ?_⟩
  clear hK2
  show AnyE _ _ _ _ _ _ 6 #[true, true, true, true, true, true, true, true, false, true, false, false, false, false, false] ⟨#[.agg #[vr, .int .i64 fam, vq, .int .i64 ts, .int .i64 seq, .int .i64 kind, vv], .pointer (some ⟨w.heap.size, 0, none⟩), .pointer (some ⟨w.heap.size + 1, 0, none⟩), .pointer (some ⟨w.heap.size, 0, none⟩), vr, (.slice a1 m1 c1), .pointer (some ⟨w.heap.size, 2, none⟩), vq, (.slice a2 m2 c2), .pointer (some ⟨w.heap.size, 6, none⟩), vv, undef, .pointer (some ⟨w.heap.size, 0, none⟩), undef, undef, undef], []⟩ _
  refine AnyE.one (i := 8) rfl (by kernel_rfl) (by rfl) (fun K3 hK3 => ?_)
  go_simp
  refine Calls.mono (C3.out _ D2) ?_
  rintro e3 w3 ⟨a3, m3, c3, rfl, o3, b3⟩
  have D3 := D2.trans (b3.mono D2.size)
  have hS3 : w3.cell? ⟨w.heap.size, 0, none⟩ = some vr ∧ w3.cell? ⟨w.heap.size, 2, none⟩ = some vq ∧ w3.cell? ⟨w.heap.size, 6, none⟩ = some vv := ⟨(HX.out _ D3).1.vr, (HX.out _ D3).1.vq, (HX.out _ D3).1.vv⟩
  refine hK3.out _ _ ⟨fun _ => hS3, ?_⟩
  clear hK3
  show AnyE _ _ _ _ _ _ 5 #[true, true, true, true, true, true, true, true, true, true, false, false, false, false, false] ⟨#[.agg #[vr, .int .i64 fam, vq, .int .i64 ts, .int .i64 seq, .int .i64 kind, vv], .pointer (some ⟨w.heap.size, 0, none⟩), .pointer (some ⟨w.heap.size + 1, 0, none⟩), .pointer (some ⟨w.heap.size, 0, none⟩), vr, (.slice a1 m1 c1), .pointer (some ⟨w.heap.size, 2, none⟩), vq, (.slice a2 m2 c2), .pointer (some ⟨w.heap.size, 6, none⟩), vv, (.slice a3 m3 c3), .pointer (some ⟨w.heap.size, 0, none⟩), undef, undef, undef], []⟩ _
  obtain ⟨v0, v2, v6⟩ := hS3
  have g0 := (HX.out _ D3).1.fzA 0
  have g2 := (HX.out _ D3).1.fzA 2
  have g6 := (HX.out _ D3).1.fzA 6
  refine AnyE.one (i := 10) rfl (by kernel_rfl) (by rfl) (fun K hK => ?_)
  go_simp
  refine hK.out _ _ ⟨fun h => (by cases h), ?_⟩
  clear hK
  show AnyE _ _ _ _ _ _ 4 #[true, true, true, true, true, true, true, true, true, true, true, false, false, false, false] ⟨#[.agg #[vr, .int .i64 fam, vq, .int .i64 ts, .int .i64 seq, .int .i64 kind, vv], .pointer (some ⟨w.heap.size, 0, none⟩), .pointer (some ⟨w.heap.size + 1, 0, none⟩), .pointer (some ⟨w.heap.size, 0, none⟩), vr, (.slice a1 m1 c1), .pointer (some ⟨w.heap.size, 2, none⟩), vq, (.slice a2 m2 c2), .pointer (some ⟨w.heap.size, 6, none⟩), vv, (.slice a3 m3 c3), .pointer (some ⟨w.heap.size, 0, none⟩), undef, undef, undef], []⟩ (w3.setCell ⟨w.heap.size, 0, none⟩ (.slice a1 m1 c1))
  refine AnyE.one (i := 11) rfl (by kernel_rfl) (by rfl) (fun K hK => ?_)
  go_simp
  refine hK.out _ _ ⟨fun h => (by cases h), ?_⟩
  clear hK
  show AnyE _ _ _ _ _ _ 3 #[true, true, true, true, true, true, true, true, true, true, true, true, false, false, false] ⟨#[.agg #[vr, .int .i64 fam, vq, .int .i64 ts, .int .i64 seq, .int .i64 kind, vv], .pointer (some ⟨w.heap.size, 0, none⟩), .pointer (some ⟨w.heap.size + 1, 0, none⟩), .pointer (some ⟨w.heap.size, 0, none⟩), vr, (.slice a1 m1 c1), .pointer (some ⟨w.heap.size, 2, none⟩), vq, (.slice a2 m2 c2), .pointer (some ⟨w.heap.size, 6, none⟩), vv, (.slice a3 m3 c3), .pointer (some ⟨w.heap.size, 0, none⟩), .pointer (some ⟨w.heap.size, 2, none⟩), undef, undef], []⟩ (w3.setCell ⟨w.heap.size, 0, none⟩ (.slice a1 m1 c1))
  refine AnyE.one (i := 12) rfl (by kernel_rfl) (by rfl) (fun K hK => ?_)
  go_simp
  refine hK.out _ _ ⟨fun h => (by cases h), ?_⟩
  clear hK
  show AnyE _ _ _ _ _ _ 2 #[true, true, true, true, true, true, true, true, true, true, true, true, true, false, false] ⟨#[.agg #[vr, .int .i64 fam, vq, .int .i64 ts, .int .i64 seq, .int .i64 kind, vv], .pointer (some ⟨w.heap.size, 0, none⟩), .pointer (some ⟨w.heap.size + 1, 0, none⟩), .pointer (some ⟨w.heap.size, 0, none⟩), vr, (.slice a1 m1 c1), .pointer (some ⟨w.heap.size, 2, none⟩), vq, (.slice a2 m2 c2), .pointer (some ⟨w.heap.size, 6, none⟩), vv, (.slice a3 m3 c3), .pointer (some ⟨w.heap.size, 0, none⟩), .pointer (some ⟨w.heap.size, 2, none⟩), undef, undef], []⟩ ((w3.setCell ⟨w.heap.size, 0, none⟩ (.slice a1 m1 c1)).setCell ⟨w.heap.size, 2, none⟩ (.slice a2 m2 c2))
  refine AnyE.one (i := 13) rfl (by kernel_rfl) (by rfl) (fun K hK => ?_)
  go_simp
  refine hK.out _ _ ⟨fun h => (by cases h), ?_⟩
  clear hK
  show AnyE _ _ _ _ _ _ 1 #[true, true, true, true, true, true, true, true, true, true, true, true, true, true, false] ⟨#[.agg #[vr, .int .i64 fam, vq, .int .i64 ts, .int .i64 seq, .int .i64 kind, vv], .pointer (some ⟨w.heap.size, 0, none⟩), .pointer (some ⟨w.heap.size + 1, 0, none⟩), .pointer (some ⟨w.heap.size, 0, none⟩), vr, (.slice a1 m1 c1), .pointer (some ⟨w.heap.size, 2, none⟩), vq, (.slice a2 m2 c2), .pointer (some ⟨w.heap.size, 6, none⟩), vv, (.slice a3 m3 c3), .pointer (some ⟨w.heap.size, 0, none⟩), .pointer (some ⟨w.heap.size, 2, none⟩), .pointer (some ⟨w.heap.size, 6, none⟩), undef], []⟩ ((w3.setCell ⟨w.heap.size, 0, none⟩ (.slice a1 m1 c1)).setCell ⟨w.heap.size, 2, none⟩ (.slice a2 m2 c2))
  refine AnyE.one (i := 14) rfl (by kernel_rfl) (by rfl) (fun K hK => ?_)
  go_simp
  refine hK.out _ _ ⟨fun h => (by cases h), ?_⟩
  clear hK
  show AnyE _ _ _ _ _ _ 0 #[true, true, true, true, true, true, true, true, true, true, true, true, true, true, true] ⟨#[.agg #[vr, .int .i64 fam, vq, .int .i64 ts, .int .i64 seq, .int .i64 kind, vv], .pointer (some ⟨w.heap.size, 0, none⟩), .pointer (some ⟨w.heap.size + 1, 0, none⟩), .pointer (some ⟨w.heap.size, 0, none⟩), vr, (.slice a1 m1 c1), .pointer (some ⟨w.heap.size, 2, none⟩), vq, (.slice a2 m2 c2), .pointer (some ⟨w.heap.size, 6, none⟩), vv, (.slice a3 m3 c3), .pointer (some ⟨w.heap.size, 0, none⟩), .pointer (some ⟨w.heap.size, 2, none⟩), .pointer (some ⟨w.heap.size, 6, none⟩), undef], []⟩ (((w3.setCell ⟨w.heap.size, 0, none⟩ (.slice a1 m1 c1)).setCell ⟨w.heap.size, 2, none⟩ (.slice a2 m2 c2)).setCell ⟨w.heap.size, 6, none⟩ (.slice a3 m3 c3))
  refine AnyE.done (by kernel_rfl) (NoPanic.normal ?_) _
  have BF := ((((HX.out _ D3).1.put0 (.slice a1 m1 c1)).put2 (.slice a2 m2 c2)).put6 (.slice a3 m3 c3))
  have hne : w.heap.size + 1 ≠ w.heap.size := by omega
  have RZ := (Below.heap_setCell _ ⟨w.heap.size, 6, none⟩ (.slice a3 m3 c3) (w.heap.size + 1) hne).trans ((Below.heap_setCell _ ⟨w.heap.size, 2, none⟩ (.slice a2 m2 c2) (w.heap.size + 1) hne).trans ((Below.heap_setCell w3 ⟨w.heap.size, 0, none⟩ (.slice a1 m1 c1) (w.heap.size + 1) hne).trans (HR.out _ D3)))
  have KF : KpG (fun i => W.heap.size ≤ i) w3 (((w3.setCell ⟨w.heap.size, 0, none⟩ (.slice a1 m1 c1)).setCell ⟨w.heap.size, 2, none⟩ (.slice a2 m2 c2)).setCell ⟨w.heap.size, 6, none⟩ (.slice a3 m3 c3)) := (((KpG.refl _ w3).setCell (by omega) _ _).setCell (by omega) _ _).setCell (by omega) _ _
  have BW := (((HA.out.trans (D3.mono HA.out.size)).setCell (p := ⟨w.heap.size, 0, none⟩) (Nat.le_refl _) (.slice a1 m1 c1)).setCell (p := ⟨w.heap.size, 2, none⟩) (Nat.le_refl _) (.slice a2 m2 c2)).setCell (p := ⟨w.heap.size, 6, none⟩) (Nat.le_refl _) (.slice a3 m3 c3)
  generalize (((w3.setCell ⟨w.heap.size, 0, none⟩ (.slice a1 m1 c1)).setCell ⟨w.heap.size, 2, none⟩ (.slice a2 m2 c2)).setCell ⟨w.heap.size, 6, none⟩ (.slice a3 m3 c3)) = WF at *
  have E3 : EOk (fun i => W.heap.size ≤ i) w3 ⟨.slice a1 m1 c1, fam, .slice a2 m2 c2, ts, seq, kind, .slice a3 m3 c3, row, qual, val⟩ := by
    have s1 : W.heap.size ≤ w1.heap.size := D1.size
    have s2 : W.heap.size ≤ w2.heap.size := D2.size
    refine ⟨RdG.of_own ((o1.later b2).later b3) HY.out.1 (by have := HL.out.1; rw [o1.len]; omega) (fun i hi => Nat.le_trans D0.size hi), RdG.of_own (o2.later b3) HY.out.2.1 (by have := HL.out.2.1; rw [o2.len]; omega) (fun i hi => by omega), RdG.of_own o3 HY.out.2.2 (by have := HL.out.2.2; rw [o3.len]; omega) (fun i hi => by omega)⟩
  have HE : Hid (EOk (fun i => W.heap.size ≤ i) WF _) := E3.kept KF
  have HO : Hid (O3 WF W.heap.size ⟨.slice a1 m1 c1, fam, .slice a2 m2 c2, ts, seq, kind, .slice a3 m3 c3, row, qual, val⟩) := by
    have e1 := o1.len; have e2 := o2.len; have e3 := o3.len
    have l1 : ∀ g, (Value.slice a1 m1 c1).ownBlock = some g → W.heap.size ≤ g ∧ g < w1.heap.size := fun g hg => ⟨Nat.le_trans D0.size (o1.2.lt g hg).1, (o1.2.lt g hg).2⟩
    have l2 : ∀ g, (Value.slice a2 m2 c2).ownBlock = some g → w1.heap.size ≤ g ∧ g < w2.heap.size := fun g hg => o2.2.lt g hg
    have l3 : ∀ g, (Value.slice a3 m3 c3).ownBlock = some g → w2.heap.size ≤ g ∧ g < w3.heap.size := fun g hg => o3.2.lt g hg
    have s1 : W.heap.size ≤ w1.heap.size := D1.size
    have s2 : w1.heap.size ≤ w2.heap.size := b2.size
    have s3 : w2.heap.size ≤ w3.heap.size := b3.size
    refine ⟨(own_same ((o1.later b2).later b3) (fun g hg => KF.block g (by have := l1 g hg; omega) (l1 g hg).1)).base (fun g hg => (l1 g hg).1) e1, (own_same (o2.later b3) (fun g hg => KF.block g (by have := l2 g hg; omega) (by have := l2 g hg; omega))).base (fun g hg => by have := l2 g hg; omega) e2, (own_same o3 (fun g hg => KF.block g (l3 g hg).2 (by have := l3 g hg; omega))).base (fun g hg => by have := l3 g hg; omega) e3, fun g h k => ?_, fun g h k => ?_, fun g h k => ?_⟩
    · have := l1 g h; have := l2 g k; omega
    · have := l1 g h; have := l3 g k; omega
    · have := l2 g h; have := l3 g k; omega
  have HBW : Hid (Below w.heap.size w WF) := BW
  obtain ⟨y0', y1', y2', y3', y4', y5', y6'⟩ := (⟨BF.vr, BF.fam, BF.vq, BF.ts, BF.seq, BF.kind, BF.vv⟩ : _ ∧ _ ∧ _ ∧ _ ∧ _ ∧ _ ∧ _)
  simp only at y0' y1' y2' y3' y4' y5' y6'
  have z0 : WF.cell? ⟨w.heap.size + 1, 0, none⟩ = some (.slice none 0 0) := by simp [World.cell?, RZ]
  have f0 : WF.frozen? ⟨w.heap.size + 1, 0, none⟩ = false := by simp [World.frozen?, RZ]
  have z1 : WF.cell? ⟨w.heap.size + 1, 1, none⟩ = some (.int .i64 0) := by simp [World.cell?, RZ]
  have f1 : WF.frozen? ⟨w.heap.size + 1, 1, none⟩ = false := by simp [World.frozen?, RZ]
  have z2 : WF.cell? ⟨w.heap.size + 1, 2, none⟩ = some (.slice none 0 0) := by simp [World.cell?, RZ]
  have f2 : WF.frozen? ⟨w.heap.size + 1, 2, none⟩ = false := by simp [World.frozen?, RZ]
  have z3 : WF.cell? ⟨w.heap.size + 1, 3, none⟩ = some (.int .i64 0) := by simp [World.cell?, RZ]
  have f3 : WF.frozen? ⟨w.heap.size + 1, 3, none⟩ = false := by simp [World.frozen?, RZ]
  have z4 : WF.cell? ⟨w.heap.size + 1, 4, none⟩ = some (.int .i64 0) := by simp [World.cell?, RZ]
  have f4 : WF.frozen? ⟨w.heap.size + 1, 4, none⟩ = false := by simp [World.frozen?, RZ]
  have z5 : WF.cell? ⟨w.heap.size + 1, 5, none⟩ = some (.int .i64 0) := by simp [World.cell?, RZ]
  have f5 : WF.frozen? ⟨w.heap.size + 1, 5, none⟩ = false := by simp [World.frozen?, RZ]
  have z6 : WF.cell? ⟨w.heap.size + 1, 6, none⟩ = some (.slice none 0 0) := by simp [World.cell?, RZ]
  have f6 : WF.frozen? ⟨w.heap.size + 1, 6, none⟩ = false := by simp [World.frozen?, RZ]
  clear RZ BF KF BW E3 o1 o2 o3 b1 b2 b3 D1 D2 D3 v0 v2 v6 g0 g2 g6 hS hS1 hS2 y0 y2 y6 D0 HR HX C1 C2 C3
  go_wp2
  refine bodyPost_ret (v := .agg #[.slice a1 m1 c1, .int .i64 fam, .slice a2 m2 c2, .int .i64 ts, .int .i64 seq, .int .i64 kind, .slice a3 m3 c3]) (by simp [results, Try.results34, go_sem, z0, z1, z2, z3, z4, z5, z6]) rfl ?_
  refine ⟨⟨.slice a1 m1 c1, fam, .slice a2 m2 c2, ts, seq, kind, .slice a3 m3 c3, row, qual, val⟩, rfl, ⟨rfl, rfl, rfl, rfl, rfl, rfl, rfl⟩, ?_, ?_, ?_⟩
  · refine (HE.out.kept ?_).mono (fun i hi => Nat.le_trans HA.out.size hi)
    exact (((((((KpG.refl _ WF).setCell (by omega) _ _).setCell (by omega) _ _).setCell (by omega) _ _).setCell (by omega) _ _).setCell (by omega) _ _).setCell (by omega) _ _).setCell (by omega) _ _
  · refine (HO.out.kept ?_).mono HA.out.size
    exact (((((((KpG.refl _ WF).setCell (by omega) _ _).setCell (by omega) _ _).setCell (by omega) _ _).setCell (by omega) _ _).setCell (by omega) _ _).setCell (by omega) _ _).setCell (by omega) _ _
  · exact ((((((HBW.out.setCell (Nat.le_succ _) _).setCell (Nat.le_succ _) _).setCell (Nat.le_succ _) _).setCell (Nat.le_succ _) _).setCell (Nat.le_succ _) _).setCell (Nat.le_succ _) _).setCell (Nat.le_succ _) _
end Go.Proofs.Ytnjopfdeapclhaa

namespace Go.Proofs.Ytnjopfdeapclhaa
open Go.RowKit Go.Shelf
set_option linter.unusedVariables false
attribute [local go_sem] Oper.semAt_some

/-- What a round is told: the entry is the next one of the list, and lies in blocks of G. -/
def Nx (G : Nat → Prop) (L : List EntD) (pre : List EntD) (x : EntD) (W : World) : Prop := (pre ++ [x]) <+: L ∧ EOk G W x

set_option maxRecDepth 100000 in
set_option maxHeartbeats 4000000 in
theorem give_in {l : Nat} {G : Nat → Prop} {L : List EntD} {J Jx : List EntD → World → Prop}
    (hY : ∀ m pre x W, J pre W → Nx G L pre x W → YieldAt Fence.wide m Try.prog l #[.agg x.cells] W fun e W' => (e = .returned (.bool true) ∧ J (pre ++ [x]) W' ∧ KpC G W W') ∨ (e = .returned (.bool false) ∧ Jx (pre ++ [x]) W')) (T : BT) :
    ∀ (n : Nat) (p : Option Addr) (A C : List EntD) (W : World), L = A ++ T.ord ++ C → IsT G W p T → J A W →
      CallsIn Fence.wide n Try.prog 58 #[.pointer p, .func (.yield l) #[] #[]] W fun e W' =>
        (e = .returned (.bool true) ∧ J (A ++ T.ord) W' ∧ KpC G W W') ∨ (e = .returned (.bool false) ∧ ∃ q, (A ++ q) <+: L ∧ Jx (A ++ q) W') := by
  induction T with
  | leaf =>
    intro n p A C W hL hT hJ
    obtain rfl : p = none := hT
    refine callsIn_of_wp Try.func58 rfl trivial ?_ rfl
    simp only [Try.ntmps58, List.size_toArray, List.length_cons, List.length_nil, Nat.reduceAdd, Nat.reduceSub, Array.replicate_succ, Array.replicate_zero, List.push_toArray, List.append_toArray, List.nil_append, List.cons_append]
    gi_wp2
    refine ⟨trivial, ?_⟩
    rename_i hK
    refine hK _ _ ?_
    gi_big_skip
    refine wpListIn_skip rfl rfl ?_
    simp [Act.put]
    gi_wp2
    · rename_i b h hq; exact absurd h (by simp [undef])
    · rename_i b h hq; exact absurd h (by simp [undef])
    refine ⟨trivial, ?_⟩
    gi_wp2
    go_ret
    exact .inl ⟨rfl, by simpa [BT.ord] using hJ, KpC.refl _ _⟩
  | node tl e tr ihl ihr =>
    intro n p A C W hL hT hJ
    obtain ⟨b, pl, pr, rfl, hb, hn, he, hl, hr⟩ := hT
    have hdd : ∀ k : Nat, (Fence.wide.depth.isSome = true → 1 ≤ k) := fun k h => by cases h
    have e1 : L = A ++ tl.ord ++ (e :: tr.ord ++ C) := by rw [hL]; simp [BT.ord]
    have e2 : L = (A ++ tl.ord ++ [e]) ++ tr.ord ++ C := by rw [hL]; simp [BT.ord]
    have hy2 : ∀ W1, J (A ++ tl.ord) W1 → KpC G W W1 → YieldAt Fence.wide (n - 1) Try.prog l #[.agg e.cells] W1 fun z W2 =>
        (z = .returned (.bool true) ∧ J (A ++ tl.ord ++ [e]) W2 ∧ KpC G W W2 ∧ W2.cell? ⟨b, 8, none⟩ = some (.pointer pr) ∧ IsT G W2 pr tr) ∨ (z = .returned (.bool false) ∧ Jx (A ++ tl.ord ++ [e]) W2) := fun W1 hJ1 k1 =>
      YieldAt.mono (hY (n - 1) _ e W1 hJ1 ⟨⟨tr.ord ++ C, by rw [e2]; simp⟩, he.keptC k1⟩) fun z W2 h => h.elim
        (fun ⟨hz, hj, k2⟩ => .inl ⟨hz, hj, k1.trans k2, (show NBox W2 _ _ _ _ _ from (k1.trans k2).cells b _ hn rfl hb).cells.2.2.2.2.2.2.2.2.1, hr.keptC (k1.trans k2)⟩) .inr
    have ih1 := (ihl (n - 1) pl A _ W e1 hl hJ).mono (R' := fun z W1 =>
        (z = .returned (.bool true) ∧ (W1.cell? ⟨b, 0, none⟩ = some e.vr ∧ W1.cell? ⟨b, 1, none⟩ = some (.int .i64 e.fam) ∧ W1.cell? ⟨b, 2, none⟩ = some e.vq ∧ W1.cell? ⟨b, 3, none⟩ = some (.int .i64 e.ts) ∧ W1.cell? ⟨b, 4, none⟩ = some (.int .i64 e.seq) ∧ W1.cell? ⟨b, 5, none⟩ = some (.int .i64 e.kind) ∧ W1.cell? ⟨b, 6, none⟩ = some e.vv) ∧ YieldAt Fence.wide (n - 1) Try.prog l #[.agg e.cells] W1 fun z W2 =>
          (z = .returned (.bool true) ∧ J (A ++ tl.ord ++ [e]) W2 ∧ KpC G W W2 ∧ W2.cell? ⟨b, 8, none⟩ = some (.pointer pr) ∧ IsT G W2 pr tr) ∨ (z = .returned (.bool false) ∧ Jx (A ++ tl.ord ++ [e]) W2)) ∨
        (z = .returned (.bool false) ∧ ∃ q, (A ++ q) <+: L ∧ Jx (A ++ q) W1))
      (fun z W1 h => h.elim (fun ⟨hz, hj, k1⟩ => .inl ⟨hz, (by
        have c := (show NBox W1 _ _ _ _ _ from k1.cells b _ hn rfl hb).cells
        exact ⟨c.1, c.2.1, c.2.2.1, c.2.2.2.1, c.2.2.2.2.1, c.2.2.2.2.2.1, c.2.2.2.2.2.2.1⟩), hy2 W1 hj k1⟩) .inr)
    have c7 := hn.cells.2.2.2.2.2.2.2.1
    clear hy2 ihl
    unfold EntD.cells at ih1
    refine callsIn_of_wp Try.func58 rfl trivial ?_ rfl
    simp only [Try.ntmps58, List.size_toArray, List.length_cons, List.length_nil, Nat.reduceAdd, Nat.reduceSub, Array.replicate_succ, Array.replicate_zero, List.push_toArray, List.append_toArray, List.nil_append, List.cons_append]
    gi_wp2_with (first
      | ((first | refine ⟨trivial, hdd _, ?_⟩ | refine ⟨hdd _, ?_⟩); gi_at_call 58; refine ih1.mono ?_; clear ih1; rintro z W1 (⟨rfl, ⟨d0, d1, d2, d3, d4, d5, d6⟩, fn, tmps, assign, body, hy, hR⟩ | ⟨rfl, q, hq, hx1⟩))
      | ((first | refine ⟨trivial, hdd _, ?_⟩ | refine ⟨hdd _, ?_⟩ | skip); refine hR.mono ?_; clear hR; rintro z W2 (⟨rfl, hJ2, hb2, c2', hr2⟩ | ⟨rfl, hx2⟩))
      | ((first | refine ⟨trivial, hdd _, ?_⟩ | refine ⟨hdd _, ?_⟩); gi_at_call 58; refine (ihr (n - 1) pr _ _ _ e2 hr2 hJ2).mono ?_; rintro z W3 (⟨rfl, hJ3, hb3⟩ | ⟨rfl, q, hq, hx3⟩)))
    · go_ret
      exact .inl ⟨rfl, by simpa [BT.ord, List.append_assoc] using hJ3, hb2.trans hb3⟩
    · go_ret
      exact .inr ⟨rfl, tl.ord ++ e :: q, by simpa [List.append_assoc] using hq, by simpa [List.append_assoc] using hx3⟩
    · refine ⟨trivial, ?_⟩
      gi_wp2
      go_ret
      exact .inr ⟨rfl, tl.ord ++ [e], ⟨tr.ord ++ C, by rw [e2]; simp⟩, by simpa [List.append_assoc] using hx2⟩
    · refine ⟨fun _ h => (by cases h), ?_⟩
      gi_wp2
      refine ⟨trivial, ?_⟩
      gi_wp2
      go_ret
      exact .inr ⟨rfl, q, hq, hx1⟩

set_option maxRecDepth 100000 in
set_option maxHeartbeats 2000000 in
theorem oall1_in {l Bo n : Nat} {G : Nat → Prop} {p : Option Addr} {T : BT} {J Jx : List EntD → World → Prop}
    (hY : ∀ m pre x W, J pre W → Nx G T.ord pre x W → YieldAt Fence.wide m Try.prog l #[.agg x.cells] W fun e W' => (e = .returned (.bool true) ∧ J (pre ++ [x]) W' ∧ KpC G W W') ∨ (e = .returned (.bool false) ∧ Jx (pre ++ [x]) W'))
    (W : World) (hB : OBox W Bo p) (hT : IsT G W p T) (h0 : J [] W) :
    CallsIn Fence.wide n Try.prog 57 #[.func (.yield l) #[] #[], .pointer (some ⟨Bo, 0, none⟩)] W fun e W' => (∃ v, e = .returned v) ∧ ((∃ xs, xs = T.ord ∧ J xs W') ∨ (∃ pre, pre <+: T.ord ∧ Jx pre W')) := by
  have hdd : ∀ k : Nat, (Fence.wide.depth.isSome = true → 1 ≤ k) := fun k h => by cases h
  have hp := give_in hY T (n - 1) p [] [] W (by simp) hT h0
  have c0 := hB.c0
  refine callsIn_of_wp Try.func57 rfl trivial ?_ rfl
  simp only [Try.ntmps57, List.size_toArray, List.length_cons, List.length_nil, Nat.reduceAdd, Nat.reduceSub, Array.replicate_succ, Array.replicate_zero, List.push_toArray, List.append_toArray, List.nil_append, List.cons_append]
  gi_wp2_with ((first | refine ⟨trivial, hdd _, ?_⟩ | refine ⟨hdd _, ?_⟩); gi_at_call 58; refine hp.mono ?_; clear hp; rintro e W1 (⟨rfl, hJ1, _⟩ | ⟨rfl, q, hq, hx⟩))
  · go_end0
    exact ⟨⟨_, rfl⟩, .inl ⟨_, rfl, by simpa using hJ1⟩⟩
  · go_end0
    exact ⟨⟨_, rfl⟩, .inr ⟨q, by simpa using hq, by simpa using hx⟩⟩
end Go.Proofs.Ytnjopfdeapclhaa
