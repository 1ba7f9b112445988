import Derived.Test.YthhkpkfpifllkaaGreatK01
namespace Go.Proofs.YthhkpkfpifllkaaGreat
open Go.RowKit
set_option linter.unusedVariables false

section
variable {P : Program} {ops : Array Oper} {Q : Exit → Act → World → Prop} {md : Region.Mode} {S : World → Prop} {E : Nat → Bool}

def AnyE (P : Program) (md : Region.Mode) (ops : Array Oper) (Q : Exit → Act → World → Prop) (S : World → Prop) (E : Nat → Bool) : Nat → Array Bool → Act → World → Prop
  | 0, listed, a, w => Region.ready md ops listed = [] ∧ Q .normal a w
  | fuel + 1, listed, a, w => (Region.ready md ops listed = [] → Q .normal a w) ∧
    ∀ i ∈ Region.ready md ops listed, wpOp P ops Q i (fun a' w' => (E i = true → S w') ∧ AnyE P md ops Q S E fuel (listed.setIfInBounds i true) a' w') a w
theorem AnyE.any : ∀ (fuel : Nat) (listed : Array Bool) (a : Act) (w : World), AnyE P md ops Q S E fuel listed a w → wpAny P md ops Q fuel listed a w
  | 0, _, _, _, h => h
  | fuel + 1, _, _, _, h => ⟨h.1, fun i hi => wpOp_mono (fun a' w' k => AnyE.any fuel _ a' w' k.2) (h.2 i hi)⟩
theorem wp_region_anyE {id : Nat} {a : Act} {w : World} (hm : P.follows .mixedOrders = true) (h : AnyE P .any ops Q S E ops.size (Array.replicate ops.size false) a w.drew) : (Code.region id ops true).wp P Q a w := wp_region_any hm (AnyE.any _ _ _ _ h)
def eFree (md : Region.Mode) (ops : Array Oper) (listed : Array Bool) (i : Nat) (E : Nat → Bool) : Bool :=
  (List.range ops.size).all fun j => j == i || listed.getD j true || E j || (match ops[j]? with
    | none => true
    | some oj => oj.after.any fun e => Region.binds md e && e.on == i)
theorem eFree_spec {i : Nat} {listed : Array Bool} (h : eFree md ops listed i E = true) (j : Nat) (oj : Oper) (hj : ops[j]? = some oj) (hne : j ≠ i) (hun : listed.getD j true = false) (hno : ∀ e ∈ oj.after, Region.binds md e = true → e.on ≠ i) : E j = true := by
  have hlt : j < ops.size := (Array.getElem?_eq_some_iff.1 hj).1
  have := List.all_eq_true.1 h j (List.mem_range.2 hlt)
  simp only [hj, Bool.or_eq_true, beq_iff_eq, hne, hun, false_or] at this
  rcases this with (h1 | h1) | h1
  · cases h1
  · exact h1
  · obtain ⟨k, hk, he⟩ := Array.any_eq_true.1 h1
    simp only [Bool.and_eq_true, beq_iff_eq] at he
    exact absurd he.2 (hno _ (Array.getElem_mem hk) he.1)
theorem AnyE.first {i : Nat} {oi : Oper} {v : Value} (hi : ops[i]? = some oi) (hs : Region.noSelect ops = true) (hQ : ∀ c a w, Q (.panic c) (a.put oi.dst v) w → Q (.panic c) a w) : ∀ (fuel : Nat) (listed : Array Bool) (a : Act) (w : World),
    (∀ j oj, ops[j]? = some oj → j ≠ i → listed.getD j true = false → (∀ e ∈ oj.after, Region.binds md e = true → e.on ≠ i) → oi.apart ops oj = true ∧ E j = true) →
    i ∈ Region.ready md ops listed → YieldsIf P ops S oi v a → S w → AnyE P md ops Q S E fuel (listed.setIfInBounds i true) (a.put oi.dst v) w → AnyE P md ops Q S E (fuel + 1) listed a w := by
  intro fuel
  have sel := Region.noSelect_spec hs
  induction fuel with
  | zero =>
    intro listed a w _ hr hy hS H
    refine ⟨fun h => (by rw [h] at hr; cases hr), fun j hj => ?_⟩
    rcases Decidable.em (j = i) with rfl | hne
    · exact hy.wpOp hi hS ⟨fun _ => hS, H⟩
    · have k := ready_mono hj hne
      rw [H.1] at k; cases k
  | succ fuel ih =>
    intro listed a w hf hr hy hS H
    refine ⟨fun h => (by rw [h] at hr; cases hr), fun j hj => ?_⟩
    rcases Decidable.em (j = i) with rfl | hne
    · exact hy.wpOp hi hS ⟨fun _ => hS, H⟩
    · obtain ⟨hun, oj, hoj, hall⟩ := mem_ready.1 hj
      have hno : ∀ e ∈ oj.after, Region.binds md e = true → e.on ≠ i := fun e he hb heq => by
        have k1 := hall e he hb
        have k0 := (mem_ready.1 hr).1
        rw [heq] at k1
        by_cases hlt : i < listed.size
        · simp [hlt] at k0 k1; rw [k0] at k1; cases k1
        · simp [Array.getElem?_eq_none (Nat.le_of_not_lt hlt)] at k1
      obtain ⟨hap, hEj⟩ := hf j oj hoj hne hun hno
      refine wpOp_mono (fun a' w' h3 => ⟨h3.2.1, ?_⟩) (wpOp_putIf hoj hap (fun cs b => sel i oi cs b hi) (fun cs b => sel j oj cs b hoj) hQ hy (H.2 j (ready_mono hj hne)))
      refine ih (listed.setIfInBounds j true) a' w' (fun k ok hk hki hun' hno' => hf k ok hk hki ?_ hno') (ready_mono hr (Ne.symm hne)) h3.1 (h3.2.1 hEj) ?_
      · rcases Decidable.em (j = k) with rfl | e
        · exact hun
        · rwa [getD_set_ne true e] at hun'
      · rw [Array.setIfInBounds_comm _ _ hne]; exact h3.2.2
theorem AnyE.take {i : Nat} {oi : Oper} {fuel : Nat} {listed : Array Bool} {a : Act} {w : World} (v : Value) (hi : ops[i]? = some oi) (hs : Region.noSelect ops = true) (hf : Region.free md ops listed i = true) (he : eFree md ops listed i E = true) (hr : (Region.ready md ops listed).contains i = true)
    (hQ : ∀ c a w, Q (.panic c) (a.put oi.dst v) w → Q (.panic c) a w) (hy : YieldsIf P ops S oi v a) (hS : S w) (h : AnyE P md ops Q S E fuel (listed.setIfInBounds i true) (a.put oi.dst v) w) : AnyE P md ops Q S E (fuel + 1) listed a w :=
  AnyE.first hi hs hQ fuel listed a w (fun j oj hj hne hun hno => ⟨Region.free_spec hi hf j oj hj hne hun hno, eFree_spec he j oj hj hne hun hno⟩) (by simpa using hr) hy hS h
theorem AnyE.one {i : Nat} {o : Oper} {fuel : Nat} {listed : Array Bool} {a : Act} {w : World} (ho : ops[i]? = some o) (hr : Region.ready md ops listed = [i]) (hw : Region.wanted o (yielded ops a.tmps) = true)
    (h : ∀ K : Act → World → Prop, Hid (∀ a' w', ((E i = true → S w') ∧ AnyE P md ops Q S E fuel (listed.setIfInBounds i true) a' w') → K a' w') → Oper.wp P o a w K Q) : AnyE P md ops Q S E (fuel + 1) listed a w :=
  ⟨fun k => (by rw [hr] at k; cases k), fun j hj => by
    rw [hr] at hj
    obtain rfl : j = i := by simpa using hj
    exact wpOp_step ho (fun K' hK => by rw [if_pos hw]; exact h K' hK)⟩
theorem AnyE.done {listed : Array Bool} {a : Act} {w : World} (hr : Region.ready md ops listed = []) (h : Q .normal a w) : ∀ fuel, AnyE P md ops Q S E fuel listed a w
  | 0 => ⟨hr, h⟩
  | _ + 1 => ⟨fun _ => h, by rw [hr]; simp⟩
end
end Go.Proofs.YthhkpkfpifllkaaGreat

namespace Go.Proofs.YthhkpkfpifllkaaGreat
open Go.RowKit
set_option linter.unusedVariables false

theorem EBox.fzA {w : World} {g : Nat} {e : EntD} (h : EBox w g e) (i : Nat) : w.frozen? ⟨g, i, none⟩ = false := by unfold EBox at h; simp [World.frozen?, h]
theorem EBox.put0 {w : World} {g : Nat} {e : EntD} (h : EBox w g e) (v : Value) : EBox (w.setCell ⟨g, 0, none⟩ v) g { e with vr := v } := by unfold EBox EntD.cells at *; simp [World.setCell, Array.getElem?_modify, h]
theorem EBox.put2 {w : World} {g : Nat} {e : EntD} (h : EBox w g e) (v : Value) : EBox (w.setCell ⟨g, 2, none⟩ v) g { e with vq := v } := by unfold EBox EntD.cells at *; simp [World.setCell, Array.getElem?_modify, h]
theorem EBox.put6 {w : World} {g : Nat} {e : EntD} (h : EBox w g e) (v : Value) : EBox (w.setCell ⟨g, 6, none⟩ v) g { e with vv := v } := by unfold EBox EntD.cells at *; simp [World.setCell, Array.getElem?_modify, h]
theorem own_same {w w' : World} {B m : Nat} {v : Value} {xs : List Nat} (h : Own w B v m xs) (k : ∀ g, v.ownBlock = some g → w'.heap[g]? = w.heap[g]?) : Own w' B v m xs := by
  refine ⟨h.1, h.2.1, ?_⟩
  rcases h.2.2 with h2 | ⟨g, cap, cur, h3, h4, h5, h6⟩
  · exact .inl h2
  · exact .inr ⟨g, cap, cur, h3, h4, by rw [k g (by rw [h3]; rfl)]; exact h5, h6⟩
theorem _root_.Go.Proofs.YthhkpkfpifllkaaGreat.Own.base {w : World} {B B' m : Nat} {v : Value} {xs : List Nat} (h : Own w B v m xs) (k : ∀ g, v.ownBlock = some g → B' ≤ g) (e : m = xs.length) : Own w B' v xs.length xs := by
  subst e
  refine ⟨h.1, h.2.1, ?_⟩
  rcases h.2.2 with h2 | ⟨g, cap, cur, h3, h4, h5, h6⟩
  · exact .inl h2
  · exact .inr ⟨g, cap, cur, h3, k g (by rw [h3]; rfl), h5, h6⟩
structure O3 (w : World) (b : Nat) (D : EntD) : Prop where
  row : Own w b D.vr D.row.length D.row
  qual : Own w b D.vq D.qual.length D.qual
  val : Own w b D.vv D.val.length D.val
  arq : ∀ k, D.vr.ownBlock = some k → D.vq.ownBlock ≠ some k
  arv : ∀ k, D.vr.ownBlock = some k → D.vv.ownBlock ≠ some k
  aqv : ∀ k, D.vq.ownBlock = some k → D.vv.ownBlock ≠ some k
theorem O3.lt {w : World} {b : Nat} {D : EntD} (h : O3 w b D) : ∀ g, D.vr.ownBlock = some g ∨ D.vq.ownBlock = some g ∨ D.vv.ownBlock = some g → b ≤ g ∧ g < w.heap.size := fun g hg => by
  rcases hg with hg | hg | hg
  · exact h.row.2.lt g hg
  · exact h.qual.2.lt g hg
  · exact h.val.2.lt g hg
theorem O3.mono {w : World} {b b' : Nat} {D : EntD} (h : O3 w b D) (hb : b' ≤ b) : O3 w b' D := ⟨h.row.mono hb, h.qual.mono hb, h.val.mono hb, h.arq, h.arv, h.aqv⟩
theorem O3.same {w w' : World} {b : Nat} {D : EntD} (h : O3 w b D) (k : ∀ g, b ≤ g → g < w.heap.size → (∃ cur fr, w.heap[g]? = some (.cells cur 5 fr)) → w'.heap[g]? = w.heap[g]?) : O3 w' b D := by
  have q : ∀ {v : Value} {m : Nat} {xs : List Nat}, Own w b v m xs → Own w' b v m xs := fun o => own_same o (fun g hg => by
    refine k g (o.2.lt g hg).1 (o.2.lt g hg).2 ?_
    rcases o.2.2 with ⟨h1, _⟩ | ⟨g', cap, cur, h3, h4, h5, _⟩
    · rw [h1] at hg; cases hg
    · rw [h3] at hg; cases hg; exact ⟨cur, _, h5⟩)
  exact ⟨q h.row, q h.qual, q h.val, h.arq, h.arv, h.aqv⟩
theorem O3.kept {w w' : World} {b : Nat} {D : EntD} (h : O3 w b D) (k : KpG (fun i => b ≤ i) w w') : O3 w' b D := h.same (fun g hg hl _ => k.block g hl hg)
theorem O3.later {w w' : World} {b : Nat} {D : EntD} (h : O3 w b D) (k : Below w.heap.size w w') : O3 w' b D := h.same (fun g _ hl _ => k.block g hl)
theorem O3.ku {w w' : World} {b : Nat} {D : EntD} (h : O3 w b D) (k : KU w w') : O3 w' b D := h.same (fun g _ _ ⟨cur, fr, e⟩ => (k g cur fr e).trans e.symm)
theorem KpG.setCell {G : Nat → Prop} {w w' : World} (h : KpG G w w') {g : Nat} (hg : ¬ G g) (i : Nat) (v : Value) : KpG G w (w'.setCell ⟨g, i, none⟩ v) :=
  ⟨by rw [World.size_setCell]; exact h.size, fun k hk hG => (Below.heap_setCell w' ⟨g, i, none⟩ v k (fun e => hg (by cases e; exact hG))).trans (h.block k hk hG)⟩
set_option maxRecDepth 100000 in
set_option maxHeartbeats 8000000 in
theorem clone3_own {w : World} {e : EntD} (hx : EntD.Ok w e) (hl : e.row.length ≤ 140737488355328 ∧ e.qual.length ≤ 140737488355328 ∧ e.val.length ≤ 140737488355328) :
    Calls Tryz.prog 49 #[.agg e.cells] w fun z w' => ∃ x : EntD, z = .returned (.agg x.cells) ∧ EntD.Same x e ∧ EOk (fun i => w.heap.size ≤ i) w' x ∧ O3 w' w.heap.size x ∧ Below w.heap.size w w' := by
  have A1 := (Below.refl w.heap.size w).alloc (Nat.le_refl _) (.cells e.cells 84)
  have bx0 := EBox.new w e
  obtain ⟨zc, hz⟩ : ∃ zc : Array Value, zc = #[.slice none 0 0, .int .i64 0, .slice none 0 0, .int .i64 0, .int .i64 0, .int .i64 0, .slice none 0 0] := ⟨_, rfl⟩
  have A2 := A1.alloc A1.size (.cells zc 84)
  have bx := bx0.later ((Below.refl (w.alloc (.cells e.cells 84)).heap.size _).alloc (Nat.le_refl _) (.cells zc 84))
  have rz : ((w.alloc (.cells e.cells 84)).alloc (.cells zc 84)).heap[w.heap.size + 1]? = some (.cells zc 84 (0, 0)) := by
    show ((w.alloc (.cells e.cells 84)).heap.push _)[w.heap.size + 1]? = _
    have e1 : w.heap.size + 1 = (w.alloc (.cells e.cells 84)).heap.size := (World.size_alloc w _).symm
    rw [e1]
    exact Array.getElem?_push_size
  obtain ⟨W, hW⟩ : ∃ W, W = (w.alloc (.cells e.cells 84)).alloc (.cells zc 84) := ⟨_, rfl⟩
  rw [← hW] at A2 bx rz
  have HW : Hid (W = _) := hW
  have hwl : w.heap.size + 1 < W.heap.size := by rw [hW]; simp
  clear hW A1 bx0
  have HX : Hid (∀ wx, Below W.heap.size W wx → EBox wx w.heap.size e ∧ EntD.Ok wx e) := fun wx b => ⟨bx.later b, (hx.later A2).later b⟩
  have HR : Hid (∀ wx, Below W.heap.size W wx → wx.heap[w.heap.size + 1]? = some (.cells zc 84 (0, 0))) := fun wx b => (b.block _ hwl).trans rz
  have HA : Hid (Below w.heap.size w W) := A2
  have HY : Hid (Bys e.row ∧ Bys e.qual ∧ Bys e.val) := ⟨hx.1.1, hx.2.1.1, hx.2.2.1⟩
  have HL : Hid (e.row.length ≤ 140737488355328 ∧ e.qual.length ≤ 140737488355328 ∧ e.val.length ≤ 140737488355328) := hl
  obtain ⟨vr, fam, vq, ts, seq, kind, vv, row, qual, val⟩ := e
  subst hz
  simp only [EntD.cells] at *
  have D0 : Below W.heap.size W W.drew := (Below.refl _ _).drew
  have C1 : Hid (∀ wx, Below W.heap.size W wx → Calls Tryz.prog 83 #[vr] wx _) := fun wx b => handed (clone_any (HX.out _ b).2.1 HL.out.1)
  have C2 : Hid (∀ wx, Below W.heap.size W wx → Calls Tryz.prog 83 #[vq] wx _) := fun wx b => handed (clone_any (HX.out _ b).2.2.1 HL.out.2.1)
  have C3 : Hid (∀ wx, Below W.heap.size W wx → Calls Tryz.prog 83 #[vv] wx _) := fun wx b => handed (clone_any (HX.out _ b).2.2.2 HL.out.2.2)
  have y0 : W.drew.cell? ⟨w.heap.size, 0, none⟩ = some vr := (HX.out _ D0).1.vr
  have y2 : W.drew.cell? ⟨w.heap.size, 2, none⟩ = some vq := (HX.out _ D0).1.vq
  have y6 : W.drew.cell? ⟨w.heap.size, 6, none⟩ = some vv := (HX.out _ D0).1.vv
  clear A2 bx rz hl hx
  go_enter Tryz.func49, Tryz.ntmps49
  go_wp2_with fail
  rw [← HW.out]
  refine wp_region_noPanic ?_
  refine wp_region_anyE (S := fun wx => wx.cell? ⟨w.heap.size, 0, none⟩ = some vr ∧ wx.cell? ⟨w.heap.size, 2, none⟩ = some vq ∧ wx.cell? ⟨w.heap.size, 6, none⟩ = some vv) (E := fun j => decide (j < 9)) (by kernel_rfl) ?_
  have hS : W.drew.cell? ⟨w.heap.size, 0, none⟩ = some vr ∧ W.drew.cell? ⟨w.heap.size, 2, none⟩ = some vq ∧ W.drew.cell? ⟨w.heap.size, 6, none⟩ = some vv := ⟨y0, y2, y6⟩
  refine AnyE.take (i := 0) (.pointer (some ⟨w.heap.size, 0, none⟩)) rfl (by kernel_rfl) (by kernel_rfl) (by kernel_rfl) (by kernel_rfl) (fun _ _ _ h => h) (.inl ⟨by rfl, fun wq hq => by go_simp⟩) hS ?_
  show AnyE _ _ _ _ _ _ 14 #[true, false, false, false, false, false, false, false, false, false, false, false, false, false, false] ⟨#[.agg #[vr, .int .i64 fam, vq, .int .i64 ts, .int .i64 seq, .int .i64 kind, vv], .pointer (some ⟨w.heap.size, 0, none⟩), .pointer (some ⟨w.heap.size + 1, 0, none⟩), .pointer (some ⟨w.heap.size, 0, none⟩), undef, undef, undef, undef, undef, undef, undef, undef, undef, undef, undef, undef], []⟩ _
  refine AnyE.take (i := 1) (vr) rfl (by kernel_rfl) (by kernel_rfl) (by kernel_rfl) (by kernel_rfl) (fun _ _ _ h => h) (.inl ⟨by rfl, fun wq hq => by obtain ⟨q0, q2, q6⟩ := hq; go_simp⟩) hS ?_
  show AnyE _ _ _ _ _ _ 13 #[true, true, false, false, false, false, false, false, false, false, false, false, false, false, false] ⟨#[.agg #[vr, .int .i64 fam, vq, .int .i64 ts, .int .i64 seq, .int .i64 kind, vv], .pointer (some ⟨w.heap.size, 0, none⟩), .pointer (some ⟨w.heap.size + 1, 0, none⟩), .pointer (some ⟨w.heap.size, 0, none⟩), vr, undef, undef, undef, undef, undef, undef, undef, undef, undef, undef, undef], []⟩ _
  refine AnyE.take (i := 3) (.pointer (some ⟨w.heap.size, 2, none⟩)) rfl (by kernel_rfl) (by kernel_rfl) (by kernel_rfl) (by kernel_rfl) (fun _ _ _ h => h) (.inl ⟨by rfl, fun wq hq => by go_simp⟩) hS ?_
  show AnyE _ _ _ _ _ _ 12 #[true, true, false, true, false, false, false, false, false, false, false, false, false, false, false] ⟨#[.agg #[vr, .int .i64 fam, vq, .int .i64 ts, .int .i64 seq, .int .i64 kind, vv], .pointer (some ⟨w.heap.size, 0, none⟩), .pointer (some ⟨w.heap.size + 1, 0, none⟩), .pointer (some ⟨w.heap.size, 0, none⟩), vr, undef, .pointer (some ⟨w.heap.size, 2, none⟩), undef, undef, undef, undef, undef, undef, undef, undef, undef], []⟩ _
  refine AnyE.take (i := 4) (vq) rfl (by kernel_rfl) (by kernel_rfl) (by kernel_rfl) (by kernel_rfl) (fun _ _ _ h => h) (.inl ⟨by rfl, fun wq hq => by obtain ⟨q0, q2, q6⟩ := hq; go_simp⟩) hS ?_
  show AnyE _ _ _ _ _ _ 11 #[true, true, false, true, true, false, false, false, false, false, false, false, false, false, false] ⟨#[.agg #[vr, .int .i64 fam, vq, .int .i64 ts, .int .i64 seq, .int .i64 kind, vv], .pointer (some ⟨w.heap.size, 0, none⟩), .pointer (some ⟨w.heap.size + 1, 0, none⟩), .pointer (some ⟨w.heap.size, 0, none⟩), vr, undef, .pointer (some ⟨w.heap.size, 2, none⟩), vq, undef, undef, undef, undef, undef, undef, undef, undef], []⟩ _
  refine AnyE.take (i := 6) (.pointer (some ⟨w.heap.size, 6, none⟩)) rfl (by kernel_rfl) (by kernel_rfl) (by kernel_rfl) (by kernel_rfl) (fun _ _ _ h => h) (.inl ⟨by rfl, fun wq hq => by go_simp⟩) hS ?_
  show AnyE _ _ _ _ _ _ 10 #[true, true, false, true, true, false, true, false, false, false, false, false, false, false, false] ⟨#[.agg #[vr, .int .i64 fam, vq, .int .i64 ts, .int .i64 seq, .int .i64 kind, vv], .pointer (some ⟨w.heap.size, 0, none⟩), .pointer (some ⟨w.heap.size + 1, 0, none⟩), .pointer (some ⟨w.heap.size, 0, none⟩), vr, undef, .pointer (some ⟨w.heap.size, 2, none⟩), vq, undef, .pointer (some ⟨w.heap.size, 6, none⟩), undef, undef, undef, undef, undef, undef], []⟩ _
  refine AnyE.take (i := 7) (vv) rfl (by kernel_rfl) (by kernel_rfl) (by kernel_rfl) (by kernel_rfl) (fun _ _ _ h => h) (.inl ⟨by rfl, fun wq hq => by obtain ⟨q0, q2, q6⟩ := hq; go_simp⟩) hS ?_
  show AnyE _ _ _ _ _ _ 9 #[true, true, false, true, true, false, true, true, false, false, false, false, false, false, false] ⟨#[.agg #[vr, .int .i64 fam, vq, .int .i64 ts, .int .i64 seq, .int .i64 kind, vv], .pointer (some ⟨w.heap.size, 0, none⟩), .pointer (some ⟨w.heap.size + 1, 0, none⟩), .pointer (some ⟨w.heap.size, 0, none⟩), vr, undef, .pointer (some ⟨w.heap.size, 2, none⟩), vq, undef, .pointer (some ⟨w.heap.size, 6, none⟩), vv, undef, undef, undef, undef, undef], []⟩ _
  refine AnyE.one (i := 2) rfl (by kernel_rfl) (by rfl) (fun K1 hK1 => ?_)
  go_simp
  refine Calls.mono (C1.out _ D0) ?_
  rintro e1 w1 ⟨a1, m1, c1, rfl, o1, b1⟩
  have D1 := D0.trans (b1.mono D0.size)
  have hS1 : w1.cell? ⟨w.heap.size, 0, none⟩ = some vr ∧ w1.cell? ⟨w.heap.size, 2, none⟩ = some vq ∧ w1.cell? ⟨w.heap.size, 6, none⟩ = some vv := ⟨(HX.out _ D1).1.vr, (HX.out _ D1).1.vq, (HX.out _ D1).1.vv⟩
  refine hK1.out _ _ ⟨fun _ => hS1, ?_⟩
  clear hK1
  show AnyE _ _ _ _ _ _ 8 #[true, true, true, true, true, false, true, true, false, false, false, false, false, false, false] ⟨#[.agg #[vr, .int .i64 fam, vq, .int .i64 ts, .int .i64 seq, .int .i64 kind, vv], .pointer (some ⟨w.heap.size, 0, none⟩), .pointer (some ⟨w.heap.size + 1, 0, none⟩), .pointer (some ⟨w.heap.size, 0, none⟩), vr, (.slice a1 m1 c1), .pointer (some ⟨w.heap.size, 2, none⟩), vq, undef, .pointer (some ⟨w.heap.size, 6, none⟩), vv, undef, undef, undef, undef, undef], []⟩ _
  refine AnyE.take (i := 9) (.pointer (some ⟨w.heap.size, 0, none⟩)) rfl (by kernel_rfl) (by kernel_rfl) (by kernel_rfl) (by kernel_rfl) (fun _ _ _ h => h) (.inl ⟨by rfl, fun wq hq => by go_simp⟩) hS1 ?_
  show AnyE _ _ _ _ _ _ 7 #[true, true, true, true, true, false, true, true, false, true, false, false, false, false, false] ⟨#[.agg #[vr, .int .i64 fam, vq, .int .i64 ts, .int .i64 seq, .int .i64 kind, vv], .pointer (some ⟨w.heap.size, 0, none⟩), .pointer (some ⟨w.heap.size + 1, 0, none⟩), .pointer (some ⟨w.heap.size, 0, none⟩), vr, (.slice a1 m1 c1), .pointer (some ⟨w.heap.size, 2, none⟩), vq, undef, .pointer (some ⟨w.heap.size, 6, none⟩), vv, undef, .pointer (some ⟨w.heap.size, 0, none⟩), undef, undef, undef], []⟩ _
  refine AnyE.one (i := 5) rfl (by kernel_rfl) (by rfl) (fun K2 hK2 => ?_)
  go_simp
  refine Calls.mono (C2.out _ D1) ?_
  rintro e2 w2 ⟨a2, m2, c2, rfl, o2, b2⟩
  have D2 := D1.trans (b2.mono D1.size)
  have hS2 : w2.cell? ⟨w.heap.size, 0, none⟩ = some vr ∧ w2.cell? ⟨w.heap.size, 2, none⟩ = some vq ∧ w2.cell? ⟨w.heap.size, 6, none⟩ = some vv := ⟨(HX.out _ D2).1.vr, (HX.out _ D2).1.vq, (HX.out _ D2).1.vv⟩
  refine hK2.out _ _ ⟨fun _ => hS2, ?_⟩
  clear hK2
  show AnyE _ _ _ _ _ _ 6 #[true, true, true, true, true, true, true, true, false, true, false, false, false, false, false] ⟨#[.agg #[vr, .int .i64 fam, vq, .int .i64 ts, .int .i64 seq, .int .i64 kind, vv], .pointer (some ⟨w.heap.size, 0, none⟩), .pointer (some ⟨w.heap.size + 1, 0, none⟩), .pointer (some ⟨w.heap.size, 0, none⟩), vr, (.slice a1 m1 c1), .pointer (some ⟨w.heap.size, 2, none⟩), vq, (.slice a2 m2 c2), .pointer (some ⟨w.heap.size, 6, none⟩), vv, undef, .pointer (some ⟨w.heap.size, 0, none⟩), undef, undef, undef], []⟩ _
  refine AnyE.one (i := 8) rfl (by kernel_rfl) (by rfl) (fun K3 hK3 => ?_)
  go_simp
  refine Calls.mono (C3.out _ D2) ?_
  rintro e3 w3 ⟨a3, m3, c3, rfl, o3, b3⟩
  have D3 := D2.trans (b3.mono D2.size)
  have hS3 : w3.cell? ⟨w.heap.size, 0, none⟩ = some vr ∧ w3.cell? ⟨w.heap.size, 2, none⟩ = some vq ∧ w3.cell? ⟨w.heap.size, 6, none⟩ = some vv := ⟨(HX.out _ D3).1.vr, (HX.out _ D3).1.vq, (HX.out _ D3).1.vv⟩
  refine hK3.out _ _ ⟨fun _ => hS3, ?_⟩
  clear hK3
  show AnyE _ _ _ _ _ _ 5 #[true, true, true, true, true, true, true, true, true, true, false, false, false, false, false] ⟨#[.agg #[vr, .int .i64 fam, vq, .int .i64 ts, .int .i64 seq, .int .i64 kind, vv], .pointer (some ⟨w.heap.size, 0, none⟩), .pointer (some ⟨w.heap.size + 1, 0, none⟩), .pointer (some ⟨w.heap.size, 0, none⟩), vr, (.slice a1 m1 c1), .pointer (some ⟨w.heap.size, 2, none⟩), vq, (.slice a2 m2 c2), .pointer (some ⟨w.heap.size, 6, none⟩), vv, (.slice a3 m3 c3), .pointer (some ⟨w.heap.size, 0, none⟩), undef, undef, undef], []⟩ _
  obtain ⟨v0, v2, v6⟩ := hS3
  have g0 := (HX.out _ D3).1.fzA 0
  have g2 := (HX.out _ D3).1.fzA 2
  have g6 := (HX.out _ D3).1.fzA 6
  refine AnyE.one (i := 10) rfl (by kernel_rfl) (by rfl) (fun K hK => ?_)
  go_simp
  refine hK.out _ _ ⟨fun h => (by cases h), ?_⟩
  clear hK
  show AnyE _ _ _ _ _ _ 4 #[true, true, true, true, true, true, true, true, true, true, true, false, false, false, false] ⟨#[.agg #[vr, .int .i64 fam, vq, .int .i64 ts, .int .i64 seq, .int .i64 kind, vv], .pointer (some ⟨w.heap.size, 0, none⟩), .pointer (some ⟨w.heap.size + 1, 0, none⟩), .pointer (some ⟨w.heap.size, 0, none⟩), vr, (.slice a1 m1 c1), .pointer (some ⟨w.heap.size, 2, none⟩), vq, (.slice a2 m2 c2), .pointer (some ⟨w.heap.size, 6, none⟩), vv, (.slice a3 m3 c3), .pointer (some ⟨w.heap.size, 0, none⟩), undef, undef, undef], []⟩ (w3.setCell ⟨w.heap.size, 0, none⟩ (.slice a1 m1 c1))
  refine AnyE.one (i := 11) rfl (by kernel_rfl) (by rfl) (fun K hK => ?_)
  go_simp
  refine hK.out _ _ ⟨fun h => (by cases h), ?_⟩
  clear hK
  show AnyE _ _ _ _ _ _ 3 #[true, true, true, true, true, true, true, true, true, true, true, true, false, false, false] ⟨#[.agg #[vr, .int .i64 fam, vq, .int .i64 ts, .int .i64 seq, .int .i64 kind, vv], .pointer (some ⟨w.heap.size, 0, none⟩), .pointer (some ⟨w.heap.size + 1, 0, none⟩), .pointer (some ⟨w.heap.size, 0, none⟩), vr, (.slice a1 m1 c1), .pointer (some ⟨w.heap.size, 2, none⟩), vq, (.slice a2 m2 c2), .pointer (some ⟨w.heap.size, 6, none⟩), vv, (.slice a3 m3 c3), .pointer (some ⟨w.heap.size, 0, none⟩), .pointer (some ⟨w.heap.size, 2, none⟩), undef, undef], []⟩ (w3.setCell ⟨w.heap.size, 0, none⟩ (.slice a1 m1 c1))
  refine AnyE.one (i := 12) rfl (by kernel_rfl) (by rfl) (fun K hK => ?_)
  go_simp
  refine hK.out _ _ ⟨fun h => (by cases h), ?_⟩
  clear hK
  show AnyE _ _ _ _ _ _ 2 #[true, true, true, true, true, true, true, true, true, true, true, true, true, false, false] ⟨#[.agg #[vr, .int .i64 fam, vq, .int .i64 ts, .int .i64 seq, .int .i64 kind, vv], .pointer (some ⟨w.heap.size, 0, none⟩), .pointer (some ⟨w.heap.size + 1, 0, none⟩), .pointer (some ⟨w.heap.size, 0, none⟩), vr, (.slice a1 m1 c1), .pointer (some ⟨w.heap.size, 2, none⟩), vq, (.slice a2 m2 c2), .pointer (some ⟨w.heap.size, 6, none⟩), vv, (.slice a3 m3 c3), .pointer (some ⟨w.heap.size, 0, none⟩), .pointer (some ⟨w.heap.size, 2, none⟩), undef, undef], []⟩ ((w3.setCell ⟨w.heap.size, 0, none⟩ (.slice a1 m1 c1)).setCell ⟨w.heap.size, 2, none⟩ (.slice a2 m2 c2))
  refine AnyE.one (i := 13) rfl (by kernel_rfl) (by rfl) (fun K hK => ?_)
  go_simp
  refine hK.out _ _ ⟨fun h => (by cases h), ?_⟩
  clear hK
  show AnyE _ _ _ _ _ _ 1 #[true, true, true, true, true, true, true, true, true, true, true, true, true, true, false] ⟨#[.agg #[vr, .int .i64 fam, vq, .int .i64 ts, .int .i64 seq, .int .i64 kind, vv], .pointer (some ⟨w.heap.size, 0, none⟩), .pointer (some ⟨w.heap.size + 1, 0, none⟩), .pointer (some ⟨w.heap.size, 0, none⟩), vr, (.slice a1 m1 c1), .pointer (some ⟨w.heap.size, 2, none⟩), vq, (.slice a2 m2 c2), .pointer (some ⟨w.heap.size, 6, none⟩), vv, (.slice a3 m3 c3), .pointer (some ⟨w.heap.size, 0, none⟩), .pointer (some ⟨w.heap.size, 2, none⟩), .pointer (some ⟨w.heap.size, 6, none⟩), undef], []⟩ ((w3.setCell ⟨w.heap.size, 0, none⟩ (.slice a1 m1 c1)).setCell ⟨w.heap.size, 2, none⟩ (.slice a2 m2 c2))
  refine AnyE.one (i := 14) rfl (by kernel_rfl) (by rfl) (fun K hK => ?_)
  go_simp
  refine hK.out _ _ ⟨fun h => (by cases h), ?_⟩
  clear hK
  show AnyE _ _ _ _ _ _ 0 #[true, true, true, true, true, true, true, true, true, true, true, true, true, true, true] ⟨#[.agg #[vr, .int .i64 fam, vq, .int .i64 ts, .int .i64 seq, .int .i64 kind, vv], .pointer (some ⟨w.heap.size, 0, none⟩), .pointer (some ⟨w.heap.size + 1, 0, none⟩), .pointer (some ⟨w.heap.size, 0, none⟩), vr, (.slice a1 m1 c1), .pointer (some ⟨w.heap.size, 2, none⟩), vq, (.slice a2 m2 c2), .pointer (some ⟨w.heap.size, 6, none⟩), vv, (.slice a3 m3 c3), .pointer (some ⟨w.heap.size, 0, none⟩), .pointer (some ⟨w.heap.size, 2, none⟩), .pointer (some ⟨w.heap.size, 6, none⟩), undef], []⟩ (((w3.setCell ⟨w.heap.size, 0, none⟩ (.slice a1 m1 c1)).setCell ⟨w.heap.size, 2, none⟩ (.slice a2 m2 c2)).setCell ⟨w.heap.size, 6, none⟩ (.slice a3 m3 c3))
  refine AnyE.done (by kernel_rfl) (NoPanic.normal ?_) _
  have BF := ((((HX.out _ D3).1.put0 (.slice a1 m1 c1)).put2 (.slice a2 m2 c2)).put6 (.slice a3 m3 c3))
  have hne : w.heap.size + 1 ≠ w.heap.size := by omega
  have RZ := (Below.heap_setCell _ ⟨w.heap.size, 6, none⟩ (.slice a3 m3 c3) (w.heap.size + 1) hne).trans ((Below.heap_setCell _ ⟨w.heap.size, 2, none⟩ (.slice a2 m2 c2) (w.heap.size + 1) hne).trans ((Below.heap_setCell w3 ⟨w.heap.size, 0, none⟩ (.slice a1 m1 c1) (w.heap.size + 1) hne).trans (HR.out _ D3)))
  have KF : KpG (fun i => W.heap.size ≤ i) w3 (((w3.setCell ⟨w.heap.size, 0, none⟩ (.slice a1 m1 c1)).setCell ⟨w.heap.size, 2, none⟩ (.slice a2 m2 c2)).setCell ⟨w.heap.size, 6, none⟩ (.slice a3 m3 c3)) := (((KpG.refl _ w3).setCell (by omega) _ _).setCell (by omega) _ _).setCell (by omega) _ _
  have BW := (((HA.out.trans (D3.mono HA.out.size)).setCell (p := ⟨w.heap.size, 0, none⟩) (Nat.le_refl _) (.slice a1 m1 c1)).setCell (p := ⟨w.heap.size, 2, none⟩) (Nat.le_refl _) (.slice a2 m2 c2)).setCell (p := ⟨w.heap.size, 6, none⟩) (Nat.le_refl _) (.slice a3 m3 c3)
  generalize (((w3.setCell ⟨w.heap.size, 0, none⟩ (.slice a1 m1 c1)).setCell ⟨w.heap.size, 2, none⟩ (.slice a2 m2 c2)).setCell ⟨w.heap.size, 6, none⟩ (.slice a3 m3 c3)) = WF at *
  have E3 : EOk (fun i => W.heap.size ≤ i) w3 ⟨.slice a1 m1 c1, fam, .slice a2 m2 c2, ts, seq, kind, .slice a3 m3 c3, row, qual, val⟩ := by
    have s1 : W.heap.size ≤ w1.heap.size := D1.size
    have s2 : W.heap.size ≤ w2.heap.size := D2.size
    refine ⟨RdG.of_own ((o1.later b2).later b3) HY.out.1 (by have := HL.out.1; rw [o1.len]; omega) (fun i hi => Nat.le_trans D0.size hi), RdG.of_own (o2.later b3) HY.out.2.1 (by have := HL.out.2.1; rw [o2.len]; omega) (fun i hi => by omega), RdG.of_own o3 HY.out.2.2 (by have := HL.out.2.2; rw [o3.len]; omega) (fun i hi => by omega)⟩
  have HE : Hid (EOk (fun i => W.heap.size ≤ i) WF _) := E3.kept KF
  have HO : Hid (O3 WF W.heap.size ⟨.slice a1 m1 c1, fam, .slice a2 m2 c2, ts, seq, kind, .slice a3 m3 c3, row, qual, val⟩) := by
    have e1 := o1.len; have e2 := o2.len; have e3 := o3.len
    have l1 : ∀ g, (Value.slice a1 m1 c1).ownBlock = some g → W.heap.size ≤ g ∧ g < w1.heap.size := fun g hg => ⟨Nat.le_trans D0.size (o1.2.lt g hg).1, (o1.2.lt g hg).2⟩
    have l2 : ∀ g, (Value.slice a2 m2 c2).ownBlock = some g → w1.heap.size ≤ g ∧ g < w2.heap.size := fun g hg => o2.2.lt g hg
    have l3 : ∀ g, (Value.slice a3 m3 c3).ownBlock = some g → w2.heap.size ≤ g ∧ g < w3.heap.size := fun g hg => o3.2.lt g hg
    have s1 : W.heap.size ≤ w1.heap.size := D1.size
    have s2 : w1.heap.size ≤ w2.heap.size := b2.size
    have s3 : w2.heap.size ≤ w3.heap.size := b3.size
    refine ⟨(own_same ((o1.later b2).later b3) (fun g hg => KF.block g (by have := l1 g hg; omega) (l1 g hg).1)).base (fun g hg => (l1 g hg).1) e1, (own_same (o2.later b3) (fun g hg => KF.block g (by have := l2 g hg; omega) (by have := l2 g hg; omega))).base (fun g hg => by have := l2 g hg; omega) e2, (own_same o3 (fun g hg => KF.block g (l3 g hg).2 (by have := l3 g hg; omega))).base (fun g hg => by have := l3 g hg; omega) e3, fun g h k => ?_, fun g h k => ?_, fun g h k => ?_⟩
    · have := l1 g h; have := l2 g k; omega
    · have := l1 g h; have := l3 g k; omega
    · have := l2 g h; have := l3 g k; omega
  have HBW : Hid (Below w.heap.size w WF) := BW
  obtain ⟨y0', y1', y2', y3', y4', y5', y6'⟩ := (⟨BF.vr, BF.fam, BF.vq, BF.ts, BF.seq, BF.kind, BF.vv⟩ : _ ∧ _ ∧ _ ∧ _ ∧ _ ∧ _ ∧ _)
  simp only at y0' y1' y2' y3' y4' y5' y6'
  have z0 : WF.cell? ⟨w.heap.size + 1, 0, none⟩ = some (.slice none 0 0) := by simp [World.cell?, RZ]
  have f0 : WF.frozen? ⟨w.heap.size + 1, 0, none⟩ = false := by simp [World.frozen?, RZ]
  have z1 : WF.cell? ⟨w.heap.size + 1, 1, none⟩ = some (.int .i64 0) := by simp [World.cell?, RZ]
  have f1 : WF.frozen? ⟨w.heap.size + 1, 1, none⟩ = false := by simp [World.frozen?, RZ]
  have z2 : WF.cell? ⟨w.heap.size + 1, 2, none⟩ = some (.slice none 0 0) := by simp [World.cell?, RZ]
  have f2 : WF.frozen? ⟨w.heap.size + 1, 2, none⟩ = false := by simp [World.frozen?, RZ]
  have z3 : WF.cell? ⟨w.heap.size + 1, 3, none⟩ = some (.int .i64 0) := by simp [World.cell?, RZ]
  have f3 : WF.frozen? ⟨w.heap.size + 1, 3, none⟩ = false := by simp [World.frozen?, RZ]
  have z4 : WF.cell? ⟨w.heap.size + 1, 4, none⟩ = some (.int .i64 0) := by simp [World.cell?, RZ]
  have f4 : WF.frozen? ⟨w.heap.size + 1, 4, none⟩ = false := by simp [World.frozen?, RZ]
  have z5 : WF.cell? ⟨w.heap.size + 1, 5, none⟩ = some (.int .i64 0) := by simp [World.cell?, RZ]
  have f5 : WF.frozen? ⟨w.heap.size + 1, 5, none⟩ = false := by simp [World.frozen?, RZ]
  have z6 : WF.cell? ⟨w.heap.size + 1, 6, none⟩ = some (.slice none 0 0) := by simp [World.cell?, RZ]
  have f6 : WF.frozen? ⟨w.heap.size + 1, 6, none⟩ = false := by simp [World.frozen?, RZ]
  clear RZ BF KF BW E3 o1 o2 o3 b1 b2 b3 D1 D2 D3 v0 v2 v6 g0 g2 g6 hS hS1 hS2 y0 y2 y6 D0 HR HX C1 C2 C3
  go_wp2
  refine bodyPost_ret (v := .agg #[.slice a1 m1 c1, .int .i64 fam, .slice a2 m2 c2, .int .i64 ts, .int .i64 seq, .int .i64 kind, .slice a3 m3 c3]) (by simp [results, Tryz.results49, go_sem, z0, z1, z2, z3, z4, z5, z6]) rfl ?_
  refine ⟨⟨.slice a1 m1 c1, fam, .slice a2 m2 c2, ts, seq, kind, .slice a3 m3 c3, row, qual, val⟩, rfl, ⟨rfl, rfl, rfl, rfl, rfl, rfl, rfl⟩, ?_, ?_, ?_⟩
  · refine (HE.out.kept ?_).mono (fun i hi => Nat.le_trans HA.out.size hi)
    exact (((((((KpG.refl _ WF).setCell (by omega) _ _).setCell (by omega) _ _).setCell (by omega) _ _).setCell (by omega) _ _).setCell (by omega) _ _).setCell (by omega) _ _).setCell (by omega) _ _
  · refine (HO.out.kept ?_).mono HA.out.size
    exact (((((((KpG.refl _ WF).setCell (by omega) _ _).setCell (by omega) _ _).setCell (by omega) _ _).setCell (by omega) _ _).setCell (by omega) _ _).setCell (by omega) _ _).setCell (by omega) _ _
  · exact ((((((HBW.out.setCell (Nat.le_succ _) _).setCell (Nat.le_succ _) _).setCell (Nat.le_succ _) _).setCell (Nat.le_succ _) _).setCell (Nat.le_succ _) _).setCell (Nat.le_succ _) _).setCell (Nat.le_succ _) _

set_option maxRecDepth 100000 in
theorem equal_any {a b : Value} {xs ys : List Nat} {w : World} (ha : Rd w a xs) (hb : Rd w b ys) :
    Calls Tryz.prog 126 #[a, b] w fun e w' => e = .returned (.bool (decide (xs = ys))) ∧ w' = w := by
  have h1 := conv_str ha
  have h2 := conv_str hb
  go_enter Tryz.func126, Tryz.ntmps126
  go_wp2
  go_ret
  exact ⟨by rw [← beq_str ha.1 hb.1]; rfl, rfl⟩
def sameS (a b : EntD) : Bool := decide (compareS a b = 0) && decide (a.val = b.val)
set_option maxRecDepth 100000 in
set_option maxHeartbeats 2000000 in
theorem same3_any {a b : EntD} {w : World} (ha : EntD.Ok w a) (hb : EntD.Ok w b) :
    Calls Tryz.prog 108 #[.agg a.cells, .agg b.cells] w fun r w' => r = .returned (.bool (sameS a b)) ∧ Below w.heap.size w w' := by
  have A1 := (Below.refl w.heap.size w).alloc (Nat.le_refl _) (.cells a.cells 84)
  have A2 := A1.alloc A1.size (.cells b.cells 84)
  have bxa : Hid (∀ Z, Below ((w.alloc (.cells a.cells 84)).alloc (.cells b.cells 84)).heap.size ((w.alloc (.cells a.cells 84)).alloc (.cells b.cells 84)) Z → EBox Z w.heap.size a) := fun Z k => ((EBox.new w a).later ((Below.refl _ _).alloc (Nat.le_refl _) _)).later k
  have bxb : Hid (∀ Z, Below ((w.alloc (.cells a.cells 84)).alloc (.cells b.cells 84)).heap.size ((w.alloc (.cells a.cells 84)).alloc (.cells b.cells 84)) Z → EBox Z (w.heap.size + 1) b) := fun Z k => by
    have := EBox.new (w.alloc (.cells a.cells 84)) b
    rw [World.size_alloc] at this
    exact this.later k
  obtain ⟨W, hW⟩ : ∃ W, W = (w.alloc (.cells a.cells 84)).alloc (.cells b.cells 84) := ⟨_, rfl⟩
  have HC : Hid (Calls Tryz.prog 81 #[.agg a.cells, .agg b.cells] W fun r w' => r = .returned (.int .i64 (compareS a b)) ∧ Below W.heap.size W w') := by
    rw [hW]; exact compare_any (ha.later A2) (hb.later A2)
  have HE : Hid (∀ Z, Below W.heap.size W Z → Calls Tryz.prog 126 #[a.vv, b.vv] Z fun r w' => r = .returned (.bool (decide (a.val = b.val))) ∧ w' = Z) := fun Z k => equal_any (((ha.later A2).later (by rw [← hW]; exact k)).2.2) (((hb.later A2).later (by rw [← hW]; exact k)).2.2)
  rw [← hW] at bxa bxb A2
  have HW := Lib.hid hW
  have HA := Lib.hid A2
  have B0 := Below.refl W.heap.size W
  have x0 := (bxa.out W B0).cells7
  have y0 := (bxb.out W B0).cells7
  obtain ⟨x00, x01, x02, x03, x04, x05, x06⟩ := x0
  obtain ⟨y00, y01, y02, y03, y04, y05, y06⟩ := y0
  have e0 : ∃ r, r = compareS a b := ⟨_, rfl⟩
  obtain ⟨r, hr⟩ := e0
  have HS : Hid (sameS a b = (decide (r = 0) && decide (a.val = b.val))) := by unfold Hid; rw [hr]; rfl
  rw [← hr] at HC
  obtain ⟨s, hs⟩ : ∃ s, s = sameS a b := ⟨_, rfl⟩
  rw [← hs] at HS ⊢
  clear hr hs A1 A2 B0 ha hb hW
  unfold EntD.cells at HC HW ⊢
  rw [HW.out] at x00 x01 x02 x03 x04 x05 x06 y00 y01 y02 y03 y04 y05 y06
  go_enter Tryz.func108, Tryz.ntmps108
  by_cases h0 : r = 0
  · have h0b : (r == 0) = true := by simp [h0]
    go_wp2_with fail
    rw [← HW.out]
    refine Calls.mono HC.out ?_
    rintro z w1 ⟨rfl, b1⟩
    have q6 := (bxa.out w1 b1).vv
    have p6 := (bxb.out w1 b1).vv
    have HF := Lib.hid (HA.out.trans (b1.mono HA.out.size))
    have HE1 := Lib.hid (HE.out w1 b1)
    clear x00 x01 x02 x03 x04 x05 x06 y00 y01 y02 y03 y04 y05 y06 b1
    go_wp2_with fail
    refine Calls.mono HE1.out ?_
    rintro z w2 ⟨rfl, rfl⟩
    go_wp2
    go_ret
    refine ⟨?_, HF.out⟩
    rw [HS.out]
    simp [h0]
  · have h0b : (r == 0) = false := by simp [h0]
    go_wp2_with fail
    rw [← HW.out]
    refine Calls.mono HC.out ?_
    rintro z w1 ⟨rfl, b1⟩
    have HF := Lib.hid (HA.out.trans (b1.mono HA.out.size))
    clear x00 x01 x02 x03 x04 x05 x06 y00 y01 y02 y03 y04 y05 y06 b1
    go_wp2
    go_ret
    refine ⟨?_, HF.out⟩
    rw [HS.out]
    simp [h0]
end Go.Proofs.YthhkpkfpifllkaaGreat


namespace Go.Proofs.YthhkpkfpifllkaaGreat
open Go.RowKit
set_option linter.unusedVariables false

def marks5 : List Nat := [201, 202, 203, 204, 205]
def Laid (w : World) (B : Nat) (u : Value) (bs : List Nat) : Prop := ∃ g c, u = .slice (some ⟨g, 0, none⟩) bs.length c ∧ bs.length + 75 ≤ c ∧ c ≤ maxLen ∧ Own w B (.slice (some ⟨g, 0, none⟩) (bs.length + 75) c) (bs.length + 75) ((bs ++ marks5) ++ List.replicate 70 206)
end Go.Proofs.YthhkpkfpifllkaaGreat

namespace Go.Proofs.YthhkpkfpifllkaaGreat
open Go.RowKit
set_option linter.unusedVariables false

def RowOk (bs : List Nat) : Prop := 1 ≤ bs.length ∧ bs.length ≤ 256
end Go.Proofs.YthhkpkfpifllkaaGreat

namespace Go.Proofs.YthhkpkfpifllkaaGreat
open Go.RowKit
set_option linter.unusedVariables false

def byt (s : ByteArray) (i : Nat) : Nat := if h : i < s.size then (s[i]'h).toNat else 0
theorem byt_in {s : ByteArray} {i : Nat} (h : i < s.size) : byt s i = (s[i]'h).toNat := by unfold byt; rw [dif_pos h]
def Letter (c : Nat) : Prop := 97 ≤ c ∧ c ≤ 122
def Digit (c : Nat) : Prop := 48 ≤ c ∧ c ≤ 57
instance (c : Nat) : Decidable (Letter c) := by unfold Letter; infer_instance
instance (c : Nat) : Decidable (Digit c) := by unfold Digit; infer_instance
def ByteOk (i c : Nat) : Prop := Letter c ∨ (i ≠ 0 ∧ (c = 95 ∨ Digit c))
def NameOk (s : ByteArray) : Prop := 1 ≤ s.size ∧ s.size ≤ 32 ∧ ∀ i, i < s.size → ByteOk i (byt s i)

set_option maxRecDepth 100000 in
theorem isLetter_any (c : Nat) (w : World) : Calls Tryz.prog 158 #[.int .u8 (c : Int)] w fun e w' => e = .returned (.bool (decide (Letter c))) ∧ w' = w := by
  by_cases h1 : 97 ≤ c
  · have d1 : decide ((97 : Int) ≤ (c : Int)) = true := decide_eq_true (by omega)
    by_cases h2 : c ≤ 122
    · have d2 : decide ((c : Int) ≤ 122) = true := decide_eq_true (by omega)
      have e : decide (Letter c) = true := decide_eq_true ⟨h1, h2⟩
      rw [e]
      clear e
      go_enter Tryz.func158, Tryz.ntmps158
      go_wp2
      go_ret
      exact ⟨by first | rfl | simp [d1, d2], rfl⟩
    · have d2 : decide ((c : Int) ≤ 122) = false := decide_eq_false (by omega)
      have e : decide (Letter c) = false := decide_eq_false (fun h => h2 h.2)
      rw [e]
      clear e
      go_enter Tryz.func158, Tryz.ntmps158
      go_wp2
      go_ret
      exact ⟨by first | rfl | simp [d1, d2], rfl⟩
  · have d1 : decide ((97 : Int) ≤ (c : Int)) = false := decide_eq_false (by omega)
    have e : decide (Letter c) = false := decide_eq_false (fun h => h1 h.1)
    rw [e]
    clear e
    go_enter Tryz.func158, Tryz.ntmps158
    go_wp2
    go_ret
    exact ⟨by first | rfl | simp [d1], rfl⟩
set_option maxRecDepth 100000 in
theorem isDigit_any (c : Nat) (w : World) : Calls Tryz.prog 159 #[.int .u8 (c : Int)] w fun e w' => e = .returned (.bool (decide (Digit c))) ∧ w' = w := by
  by_cases h1 : 48 ≤ c
  · have d1 : decide ((48 : Int) ≤ (c : Int)) = true := decide_eq_true (by omega)
    by_cases h2 : c ≤ 57
    · have d2 : decide ((c : Int) ≤ 57) = true := decide_eq_true (by omega)
      have e : decide (Digit c) = true := decide_eq_true ⟨h1, h2⟩
      rw [e]
      clear e
      go_enter Tryz.func159, Tryz.ntmps159
      go_wp2
      go_ret
      exact ⟨by first | rfl | simp [d1, d2], rfl⟩
    · have d2 : decide ((c : Int) ≤ 57) = false := decide_eq_false (by omega)
      have e : decide (Digit c) = false := decide_eq_false (fun h => h2 h.2)
      rw [e]
      clear e
      go_enter Tryz.func159, Tryz.ntmps159
      go_wp2
      go_ret
      exact ⟨by first | rfl | simp [d1, d2], rfl⟩
  · have d1 : decide ((48 : Int) ≤ (c : Int)) = false := decide_eq_false (by omega)
    have e : decide (Digit c) = false := decide_eq_false (fun h => h1 h.1)
    rw [e]
    clear e
    go_enter Tryz.func159, Tryz.ntmps159
    go_wp2
    go_ret
    exact ⟨by first | rfl | simp [d1], rfl⟩
theorem letter_y {c : Nat} (h : Letter c) (w : World) : Calls Tryz.prog 158 #[.int .u8 (c : Int)] w fun e w' => e = .returned (.bool true) ∧ w' = w := by have k := isLetter_any c w; rw [decide_eq_true h] at k; exact k
theorem letter_n {c : Nat} (h : ¬ Letter c) (w : World) : Calls Tryz.prog 158 #[.int .u8 (c : Int)] w fun e w' => e = .returned (.bool false) ∧ w' = w := by have k := isLetter_any c w; rw [decide_eq_false h] at k; exact k
theorem digit_y {c : Nat} (h : Digit c) (w : World) : Calls Tryz.prog 159 #[.int .u8 (c : Int)] w fun e w' => e = .returned (.bool true) ∧ w' = w := by have k := isDigit_any c w; rw [decide_eq_true h] at k; exact k
theorem digit_n {c : Nat} (h : ¬ Digit c) (w : World) : Calls Tryz.prog 159 #[.int .u8 (c : Int)] w fun e w' => e = .returned (.bool false) ∧ w' = w := by have k := isDigit_any c w; rw [decide_eq_false h] at k; exact k


theorem letter_95 (w : World) : Calls Tryz.prog 158 #[.int .u8 95] w fun e w' => e = .returned (.bool false) ∧ w' = w := letter_n (c := 95) (by decide) w
theorem digit_95 (w : World) : Calls Tryz.prog 159 #[.int .u8 95] w fun e w' => e = .returned (.bool false) ∧ w' = w := digit_n (c := 95) (by decide) w
set_option maxRecDepth 100000 in
theorem famName_len {s : ByteArray} (h : s.size < 1 ∨ 32 < s.size) (w : World) : Calls Tryz.prog 148 #[.string s] w fun e w' => e = .returned (.bool false) ∧ w' = w := by
  by_cases h1 : s.size < 1
  · have d1 : decide ((s.size : Int) < 1) = true := decide_eq_true (by omega)
    have i1 : (s.size : Int) < 1 := by omega
    clear h
    go_enter Tryz.func148, Tryz.ntmps148
    go_wp2
    go_ret
    exact ⟨rfl, rfl⟩
  · have d1 : decide ((s.size : Int) < 1) = false := decide_eq_false (by omega)
    have d2 : decide ((32 : Int) < (s.size : Int)) = true := decide_eq_true (by omega)
    have i1 : (1 : Int) ≤ (s.size : Int) := by omega
    have i2 : (32 : Int) < (s.size : Int) := by omega
    clear h
    go_enter Tryz.func148, Tryz.ntmps148
    go_wp2
    go_ret
    exact ⟨rfl, rfl⟩

set_option maxRecDepth 100000 in
set_option maxHeartbeats 4000000 in
theorem famName_in {s : ByteArray} (h1 : 1 ≤ s.size) (h2 : s.size ≤ 32) (w : World) (R : Bool) (hR : R = true ↔ ∀ i, i < s.size → ByteOk i (byt s i)) : Calls Tryz.prog 148 #[.string s] w fun e w' => e = .returned (.bool R) ∧ w' = w := by
  have HR : Hid (R = true ↔ ∀ i, i < s.size → ByteOk i (byt s i)) := hR
  have i1 : (1 : Int) ≤ (s.size : Int) := by omega
  have i2 : (s.size : Int) ≤ 32 := by omega
  have d1 : decide ((s.size : Int) < 1) = false := decide_eq_false (by omega)
  have d2 : decide ((32 : Int) < (s.size : Int)) = false := decide_eq_false (by omega)
  have i3 : 0 < s.size := by omega
  clear hR
  by_cases hl : Letter (s[0]'i3).toNat
  · have HL : Hid (Letter (s[0]'i3).toNat) := hl
    have HB0 : Hid (Letter (byt s 0)) := by unfold Hid; rw [byt_in i3]; exact hl
    clear hl
    go_enter Tryz.func148, Tryz.ntmps148
    go_wp2_with fail
    refine (letter_y HL.out _).mono ?_
    rintro e w1 ⟨rfl, rfl⟩
    go_wp2
    go_loopw [3, 4, 21] (fun _ _ i wr => ∃ t : Nat, t ≤ s.size ∧ i = .int .i64 (t : Int) ∧ wr = w1 ∧ ∀ j, j < t → ByteOk j (byt s j)) (fun _ _ i _ => s.size - (intOf i).toNat)
    case atStart => exact ⟨0, by omega, rfl, rfl, fun j hj => absurd hj (by omega)⟩
    case round =>
      obtain ⟨t, ht, rfl, rfl, hj⟩ := hrel
      have HJ : Hid (∀ j, j < t → ByteOk j (byt s j)) := hj
      clear hj
      by_cases hlt : t < s.size
      · have j1 : (t : Int) < (s.size : Int) := by omega
        have j2 : (0 : Int) ≤ (t : Int) := by omega
        have HBY : Hid (byt s t = (s[t]'hlt).toNat) := byt_in hlt
        have step : ∀ (h : ByteOk t (byt s t)), ∀ j, j < t + 1 → ByteOk j (byt s j) := fun h j hj => by
          by_cases e : j = t
          · rw [e]; exact h
          · exact HJ.out j (by omega)
        have HST := Lib.hid step
        clear step
        by_cases hle : Letter (s[t]'hlt).toNat
        · have HLE : Hid (Letter (s[t]'hlt).toNat) := hle
          clear hle
          go_wp2_with fail
          refine (letter_y HLE.out _).mono ?_
          rintro e w2 ⟨rfl, rfl⟩
          go_wp2
          go_roundw
          case rel => exact ⟨t + 1, by omega, by go_num, trivial, HST.out (.inl (by rw [HBY.out]; exact HLE.out))⟩
          case measure => simp [intOf]; omega
        · have HLE : Hid (¬ Letter (s[t]'hlt).toNat) := hle
          have ht1 : t ≠ 0 := by
            rintro rfl
            exact hle HL.out
          have HT0 : Hid (t ≠ 0) := ht1
          clear hle ht1
          by_cases hdi : Digit (s[t]'hlt).toNat
          · have HDI : Hid (Digit (s[t]'hlt).toNat) := hdi
            clear hdi
            go_wp2_with fail
            refine (letter_n HLE.out _).mono ?_
            rintro e w2 ⟨rfl, rfl⟩
            go_wp2_with fail
            refine (digit_y HDI.out _).mono ?_
            rintro e w2 ⟨rfl, rfl⟩
            go_wp2
            go_roundw
            case rel => exact ⟨t + 1, by omega, by go_num, trivial, HST.out (.inr ⟨HT0.out, .inr (by rw [HBY.out]; exact HDI.out)⟩)⟩
            case measure => simp [intOf]; omega
          · have HDI : Hid (¬ Digit (s[t]'hlt).toNat) := hdi
            clear hdi
            obtain ⟨c, hc⟩ : ∃ c, c = (s[t]'hlt).toNat := ⟨_, rfl⟩
            by_cases h95 : c = 95
            · subst h95
              have k95 : (((s[t]'hlt).toNat : Nat) : Int) = 95 := by rw [← hc]; rfl
              have HC : Hid (byt s t = 95) := by unfold Hid; rw [HBY.out, ← hc]
              clear hc
              go_wp2_with fail
              refine (letter_95 _).mono ?_
              rintro e w2 ⟨rfl, rfl⟩
              go_wp2_with fail
              refine (digit_95 _).mono ?_
              rintro e w2 ⟨rfl, rfl⟩
              go_wp2
              go_roundw
              case rel => exact ⟨t + 1, by omega, by go_num, trivial, HST.out (.inr ⟨HT0.out, .inl HC.out⟩)⟩
              case measure => simp [intOf]; omega
            · have k95 : ¬ ((((s[t]'hlt).toNat : Nat) : Int) = 95) := by rw [← hc]; omega
              have hRf : R = false := by
                cases hr : R with
                | false => rfl
                | true =>
                  exfalso
                  rcases (HR.out.1 hr) t hlt with k | ⟨_, k | k⟩
                  · rw [HBY.out] at k; exact HLE.out k
                  · rw [HBY.out, ← hc] at k; exact h95 k
                  · rw [HBY.out] at k; exact HDI.out k
              subst hRf
              clear hc
              go_wp2_with fail
              refine (letter_n HLE.out _).mono ?_
              rintro e w2 ⟨rfl, rfl⟩
              go_wp2_with fail
              refine (digit_n HDI.out _).mono ?_
              rintro e w2 ⟨rfl, rfl⟩
              go_wp2
              go_ret
              exact ⟨rfl, rfl⟩
      · have j1 : (s.size : Int) ≤ (t : Int) := by omega
        have hRt : R = true := HR.out.2 (fun i hi => HJ.out i (by omega))
        subst hRt
        go_wp2
        go_ret
        exact ⟨rfl, rfl⟩
  · have HL : Hid (¬ Letter (s[0]'i3).toNat) := hl
    have hRf : R = false := by
      cases hr : R with
      | false => rfl
      | true =>
        exfalso
        rcases (HR.out.1 hr) 0 i3 with k | ⟨k, _⟩
        · rw [byt_in i3] at k; exact hl k
        · exact k rfl
    subst hRf
    clear hl
    go_enter Tryz.func148, Tryz.ntmps148
    go_wp2_with fail
    refine (letter_n HL.out _).mono ?_
    rintro e w1 ⟨rfl, rfl⟩
    go_wp2
    go_ret
    exact ⟨rfl, rfl⟩
open Classical in
theorem famName_any (s : ByteArray) (w : World) : Calls Tryz.prog 148 #[.string s] w fun e w' => e = .returned (.bool (decide (NameOk s))) ∧ w' = w := by
  by_cases h : s.size < 1 ∨ 32 < s.size
  · rw [decide_eq_false (fun k : NameOk s => by have := k.1; have := k.2.1; omega)]
    exact famName_len h w
  · refine famName_in (by omega) (by omega) w _ ?_
    rw [decide_eq_true_iff]
    exact ⟨fun k => k.2.2, fun k => ⟨by omega, by omega, k⟩⟩
end Go.Proofs.YthhkpkfpifllkaaGreat

namespace Go.Proofs.YthhkpkfpifllkaaGreat
open Go.RowKit
set_option linter.unusedVariables false

end Go.Proofs.YthhkpkfpifllkaaGreat

namespace Go.Proofs.YthhkpkfpifllkaaGreat
open Go.RowKit
set_option linter.unusedVariables false

structure FamD where
  nm : ByteArray
  mx : Int
  tl : Int
def RdF (w : World) (v : Value) (fs : List FamD) : Prop := ∃ a cap, v = .slice a fs.length cap ∧ fs.length ≤ cap ∧ cap ≤ maxLen ∧ fs.length ≤ 281474976710656 ∧ (fs = [] ∨ ∃ b off, a = some ⟨b, off, none⟩ ∧ ∀ i f, fs[i]? = some f → w.cell? ⟨b, off + i * 3, none⟩ = some (.string f.nm) ∧ w.cell? ⟨b, off + i * 3 + 1, none⟩ = some (.int .i64 f.mx) ∧ w.cell? ⟨b, off + i * 3 + 2, none⟩ = some (.int .i64 f.tl))
theorem RdF.later {w w' : World} {v : Value} {fs : List FamD} (h : RdF w v fs) (hb : Below w.heap.size w w') : RdF w' v fs := by
  obtain ⟨a, cap, h1, h2, h3, h4, h5⟩ := h
  refine ⟨a, cap, h1, h2, h3, h4, ?_⟩
  rcases h5 with h5 | ⟨b, off, rfl, hc⟩
  · exact .inl h5
  · refine .inr ⟨b, off, rfl, fun i f hf => ?_⟩
    obtain ⟨c0, c1, c2⟩ := hc i f hf
    exact ⟨by rw [hb.cell (p := ⟨b, off + i * 3, none⟩) (World.block_lt_of_cell? w _ c0)]; exact c0, by rw [hb.cell (p := ⟨b, off + i * 3 + 1, none⟩) (World.block_lt_of_cell? w _ c1)]; exact c1, by rw [hb.cell (p := ⟨b, off + i * 3 + 2, none⟩) (World.block_lt_of_cell? w _ c2)]; exact c2⟩
theorem bytes_ne {a b : ByteArray} (h : ¬ a = b) : (a.toList == b.toList) = false := by
  rw [ByteArray.toList_eq, ByteArray.toList_eq]
  have h2 : a.data.toList ≠ b.data.toList := fun e => h (by
    have := Array.toList_inj.1 e
    cases a; cases b
    simp_all)
  simpa using h2
def famIx : List FamD → ByteArray → Nat → Int
  | [], _, _ => -1
  | f :: r, n, i => if f.nm = n then (i : Int) else famIx r n (i + 1)
theorem famIx_at {fs : List FamD} {n : ByteArray} : ∀ {t k : Nat} {f : FamD}, fs[t]? = some f → (∀ j g, j < t → fs[j]? = some g → g.nm ≠ n) → f.nm = n → famIx fs n k = ((k + t : Nat) : Int) := by
  induction fs with
  | nil => intro t k f h; simp at h
  | cons x r ih =>
    intro t k f h hj he
    cases t with
    | zero =>
      simp at h
      subst h
      unfold famIx
      rw [if_pos he]
      rfl
    | succ t =>
      unfold famIx
      rw [if_neg (hj 0 x (by omega) rfl), ih (t := t) (k := k + 1) (f := f) (by simpa using h) (fun j g hjt hg => hj (j + 1) g (by omega) (by simpa using hg)) he]
      congr 1
      omega
theorem famIx_none {fs : List FamD} {n : ByteArray} : ∀ {k : Nat}, (∀ g, g ∈ fs → g.nm ≠ n) → famIx fs n k = -1 := by
  induction fs with
  | nil => intro k _; rfl
  | cons x r ih =>
    intro k h
    unfold famIx
    rw [if_neg (h x (by simp)), ih (fun g hg => h g (by simp [hg]))]

set_option maxRecDepth 100000 in
set_option maxHeartbeats 4000000 in
theorem family_any {v : Value} {fs : List FamD} {w : World} (hr : RdF w v fs) (n : ByteArray) :
    Calls Tryz.prog 119 #[.agg #[v], .string n] w fun e w' => e = .returned (.int .i64 (famIx fs n 0)) ∧ Below w.heap.size w w' := by
  obtain ⟨a, cap, rfl, h2, h3, h4, h5⟩ := hr
  obtain ⟨k, hk⟩ : ∃ k, k = fs.length := ⟨_, rfl⟩
  rw [← hk] at h2 h4 ⊢
  have HK : Hid (k = fs.length) := hk
  have HC : Hid (fs = [] ∨ ∃ b off, a = some ⟨b, off, none⟩ ∧ ∀ i f, fs[i]? = some f → w.cell? ⟨b, off + i * 3, none⟩ = some (.string f.nm) ∧ w.cell? ⟨b, off + i * 3 + 1, none⟩ = some (.int .i64 f.mx) ∧ w.cell? ⟨b, off + i * 3 + 2, none⟩ = some (.int .i64 f.tl)) := h5
  have A1 := (Below.refl w.heap.size w).alloc (Nat.le_refl _) (.cells #[.slice a k cap] 27)
  clear hk h5
  go_enter Tryz.func119, Tryz.ntmps119
  go_wp2
  go_loopw [5, 6, 10] (fun _ _ i wr => ∃ t : Nat, t ≤ k ∧ i = .int .i64 (t : Int) ∧ Below w.heap.size w wr ∧ ∀ j g, j < t → fs[j]? = some g → g.nm ≠ n) (fun _ _ i _ => k - (intOf i).toNat)
  case atStart => exact ⟨0, by omega, rfl, A1, fun j g hj _ => absurd hj (by omega)⟩
  case round =>
    obtain ⟨t, ht, rfl, B1, hj⟩ := hrel
    have HJ : Hid (∀ j g, j < t → fs[j]? = some g → g.nm ≠ n) := hj
    clear hj A1
    by_cases hlt : t < k
    · have j1 : (t : Int) < (k : Int) := by omega
      have j2 : (0 : Int) ≤ (t : Int) := by omega
      rcases HC.out with h0 | ⟨b, off, rfl, hc⟩
      · have := HK.out; rw [h0] at this; simp at this; omega
      obtain ⟨f, hf⟩ : ∃ f, fs[t]? = some f := ⟨fs[t]'(by rw [← HK.out]; exact hlt), List.getElem?_eq_getElem _⟩
      obtain ⟨c0, c1, c2⟩ := hc t f hf
      have d0 : wr.cell? ⟨b, off + t * 3, none⟩ = some (.string f.nm) := by rw [B1.cell (p := ⟨b, off + t * 3, none⟩) (World.block_lt_of_cell? w _ c0)]; exact c0
      have d1 : wr.cell? ⟨b, off + t * 3 + 1, none⟩ = some (.int .i64 f.mx) := by rw [B1.cell (p := ⟨b, off + t * 3 + 1, none⟩) (World.block_lt_of_cell? w _ c1)]; exact c1
      have d2 : wr.cell? ⟨b, off + t * 3 + 2, none⟩ = some (.int .i64 f.tl) := by rw [B1.cell (p := ⟨b, off + t * 3 + 2, none⟩) (World.block_lt_of_cell? w _ c2)]; exact c2
      have HF : Hid (fs[t]? = some f) := hf
      clear hc c0 c1 c2 hf
      have A2 := B1.alloc B1.size (.cells #[.string f.nm, .int .i64 f.mx, .int .i64 f.tl] 132)
      by_cases he : f.nm = n
      · have HV : Hid (famIx fs n 0 = (t : Int)) := by
          unfold Hid
          rw [famIx_at HF.out HJ.out he]
          simp
        go_wp2
        go_ret
        rw [HV.out]
        exact ⟨rfl, B1.alloc B1.size _⟩
      · have he2 := bytes_ne he
        have HNE : Hid (∀ j g, j < t + 1 → fs[j]? = some g → g.nm ≠ n) := fun j g hj hg => by
          by_cases e : j = t
          · subst e
            rw [HF.out] at hg
            simp at hg
            rw [← hg]; exact he
          · exact HJ.out j g (by omega) hg
        go_wp2
        go_roundw
        case rel => exact ⟨t + 1, by omega, by go_num, B1.alloc B1.size _, HNE.out⟩
        case measure => simp [intOf]; omega
    · have j1 : (k : Int) ≤ (t : Int) := by omega
      have HV : Hid (famIx fs n 0 = -1) := famIx_none (fun g hg => by
        obtain ⟨i, hi⟩ := List.getElem?_of_mem hg
        have := (List.getElem?_eq_some_iff.1 hi).1
        exact HJ.out i g (by have := HK.out; omega) hi)
      go_wp2
      go_ret
      rw [HV.out]
      exact ⟨rfl, B1⟩

end Go.Proofs.YthhkpkfpifllkaaGreat
