import Derived.Test.YtnjopfdeapclhaaJ16
import Derived.Test.YtnjopfdeapclhaaJ07
namespace Go.Proofs.Ytnjopfdeapclhaa
open Go.RowKit Go.Shelf
set_option linter.unusedVariables false
attribute [local go_sem] Oper.semAt_some

/-- A box that holds one value. -/
def Bxd (w : World) (b : Nat) (t : TypeId) (v : Value) : Prop := w.heap[b]? = some (.cells #[v] t (0, 0))
theorem Bxd.cell {w : World} {b : Nat} {t : TypeId} {v : Value} (h : Bxd w b t v) : w.cell? ⟨b, 0, none⟩ = some v := by unfold Bxd at h; simp [World.cell?, h]
theorem Bxd.fz {w : World} {b : Nat} {t : TypeId} {v : Value} (h : Bxd w b t v) : w.frozen? ⟨b, 0, none⟩ = false := by unfold Bxd at h; simp [World.frozen?, h]
theorem Bxd.lt {w : World} {b : Nat} {t : TypeId} {v : Value} (h : Bxd w b t v) : b < w.heap.size := (Array.getElem?_eq_some_iff.1 h).1
theorem Bxd.new (w : World) (t : TypeId) (v : Value) : Bxd (w.alloc (.cells #[v] t)) w.heap.size t v := World.alloc_heap_new w _
theorem Bxd.set {w : World} {b : Nat} {t : TypeId} {v : Value} (h : Bxd w b t v) (u : Value) : Bxd (w.setCell ⟨b, 0, none⟩ u) b t u := by
  unfold Bxd at *
  simp [World.setCell, Array.getElem?_modify, h]
theorem Bxd.keep {w w' : World} {b : Nat} {t : TypeId} {v : Value} (h : Bxd w b t v) (hb : w'.heap[b]? = w.heap[b]?) : Bxd w' b t v := hb.trans h
theorem Bxd.turn {w w' : World} {B b : Nat} {t : TypeId} {v : Value} (h : Bxd w b t v) (hb : Turn B w w') : Bxd w' b t v := hb.cells _ _ h rfl

theorem ownsRow_mono {B B' s n : Nat} {e : TypeId} {v : Value} {xs : List Value} {w : World} (h : w.ownsRow B e s v n xs) (hB : B' ≤ B) : w.ownsRow B' e s v n xs := by
  refine ⟨h.1, ?_⟩
  rcases h.2 with h2 | ⟨g, cap, cur, h3, h4, h5⟩
  · exact .inl h2
  · exact .inr ⟨g, cap, cur, h3, Nat.le_trans hB h4, h5⟩

theorem own_at {B s n : Nat} {e : TypeId} {v : Value} {xs : List Value} {w : World} (h : w.ownsRow B e s v n xs) {g : Nat} (hg : v.ownBlock = some g) : B ≤ g ∧ ∃ cur, w.heap[g]? = some (.cells cur e (0, 0)) := by
  rcases h.2 with ⟨rfl, _⟩ | ⟨g', cap, cur, rfl, h4, h5, _⟩
  · cases hg
  · cases hg; exact ⟨h4, cur, h5⟩

/-- What a list of entries grows to: the loop's own state. -/
structure Gro (w : World) (Bl B0 : Nat) (pre : List EntD) (W : World) : Prop where
  box : ∃ v, Bxd W Bl 22 v ∧ W.ownsRow B0 30 7 v pre.length (evals pre)
  ents : ∀ x ∈ pre, EOk (fun i => B0 ≤ i) W x
  below : Below w.heap.size w W
  size : B0 ≤ W.heap.size + 6

set_option maxRecDepth 100000 in
set_option maxHeartbeats 4000000 in
theorem rows_any {G : Nat → Prop} {w : World} {t : Nat} {L : List EntD} {k : Int} {f : Bool} (hb : Tb G w t L k f) (hsz : L.length < 1000000000) :
    Calls Try.prog 10 #[.pointer (some ⟨t, 0, none⟩)] w fun z w' => ∃ v xs, z = .returned v ∧ w'.ownsRow w.heap.size 30 7 v xs.length (evals xs) ∧ Sm xs L ∧ (∀ x ∈ xs, EOk (fun i => w.heap.size ≤ i) w' x) ∧ Below w.heap.size w w' := by
  obtain ⟨p, T, h1, h2, h3⟩ := hb.tree
  have hlens := hb.lens
  refine (callsIn_wide (n := 9)).1 ?_
  refine callsIn_of_wp_marks Try.func10 rfl trivial ?_ rfl
  simp only [Try.ntmps10, List.size_toArray, List.length_cons, List.length_nil, Nat.reduceAdd, Nat.reduceSub, Array.replicate_succ, Array.replicate_zero, List.push_toArray, List.append_toArray, List.nil_append, List.cons_append]
  have hdd : ∀ k : Nat, (Fence.wide.depth.isSome = true → 1 ≤ k) := fun k h => by cases h
  have HA : Hid (∀ X, Calls Try.prog 11 #[.pointer (some ⟨t, 0, none⟩)] X _) := fun X => all_any X _
  gi_wp2_with (refine ⟨trivial, ?_⟩; gi_at_call 11; refine (callsIn_wide.2 (HA.out _)).mono ?_; rintro e w' ⟨rfl, rfl⟩)
  have b1 := (Below.refl w.heap.size w).alloc (Nat.le_refl _) (.cells #[.slice none 0 0] 22)
  have b2 := b1.alloc b1.size (.cells #[.pointer (some ⟨t, 0, none⟩)] 24)
  have x1 : Bxd ((w.alloc (.cells #[.slice none 0 0] 22)).alloc (.cells #[.pointer (some ⟨t, 0, none⟩)] 24)) w.heap.size 22 (.slice none 0 0) := (Bxd.new w _ _).keep (Below.heap_alloc _ _ _ (by simp))
  have x2 : Bxd ((w.alloc (.cells #[.slice none 0 0] 22)).alloc (.cells #[.pointer (some ⟨t, 0, none⟩)] 24)) (w.heap.size + 1) 24 (.pointer (some ⟨t, 0, none⟩)) := by
    have := Bxd.new (w.alloc (.cells #[.slice none 0 0] 22)) 24 (.pointer (some ⟨t, 0, none⟩))
    rwa [World.size_alloc] at this
  have s2 : ((w.alloc (.cells #[.slice none 0 0] 22)).alloc (.cells #[.pointer (some ⟨t, 0, none⟩)] 24)).heap.size = w.heap.size + 2 := by simp
  generalize (w.alloc (.cells #[.slice none 0 0] 22)).alloc (.cells #[.pointer (some ⟨t, 0, none⟩)] 24) = V at *
  have hT2 : IsT (fun i => G i ∧ i < w.heap.size) V p T := h2.lt.kept (KpG.of b2)
  have hb2 := h1.later b2
  refine range_wide (w := V) rfl (enters_of Try.func35 (by kernel_rfl) rfl) (encs := fun x : EntD => #[.agg x.cells]) (all_seq x2 hb2 hT2 (by rw [h3]; exact hlens)) (fun h k => h.trans k) (fun X o o' ho hc => KpO.put o o' (by omega) ho hc) (fun _ => rfl)
    (fun pre X => Gro w w.heap.size (w.heap.size + 8) pre X ∧ pre.length ≤ L.length)
    (fun c pre X => False)
    (fun s X h => by have := h.1.size; have := h.1.below.size; omega)
    (fun s X Z hX ⟨h, hl⟩ tu => ⟨⟨by obtain ⟨v, k1, k2⟩ := h.box; exact ⟨v, k1.turn tu, ownsRow_turn k2 tu⟩, fun x hx => (h.ents x hx).keptC tu.toC, h.below.trans (tu.below.mono (by omega)), Nat.le_trans h.size (by have := tu.below.size; omega)⟩, hl⟩)
    (fun c s X Z hX h tu => h)
    ⟨⟨⟨_, x1, World.ownsRow_nil _ _ _ _⟩, by simp, b2, by omega⟩, by simp⟩
    (fun pre x a' X => ∃ Bx, w.heap.size + 8 ≤ Bx ∧ EBox X Bx x ∧ NxC T.ord (V.heap.size + 2) pre x X ∧ a' = { tmps := #[.pointer (some ⟨t, 0, none⟩), undef, .slice none 0 0, .pointer (some ⟨w.heap.size, 0, none⟩), .pointer (some ⟨Bx, 0, none⟩), .pointer (some ⟨t, 0, none⟩), .func (.func 35) #[] #[.pointer (some ⟨w.heap.size + 1, 0, none⟩)], .agg x.cells, undef, undef, undef, undef, undef], defers := [] })
    (fun pre x a' _ X Z hX ⟨Bx, k0, k1, k2, k3⟩ tu => ⟨Bx, k0, tu.cells _ _ k1 rfl, ⟨Nat.le_trans k2.1 tu.below.size, k2.2.1, k2.2.2.keptC tu.toC⟩, k3⟩)
    ?assign ?body ?done ?stop (fun c s X h => h.elim)
  case assign =>
    intro l' pre x X K hi hsX hgd hK
    have hsX' : w.heap.size + 8 ≤ X.heap.size := by have := hgd.1; omega
    obtain ⟨vr, fam, vq, ts, seq, kind, vv, row, qual, val⟩ := x
    have r1 : Rd X vr row := hgd.2.2.1.1
    have r2 : Rd X vq qual := hgd.2.2.2.1.1
    have r3 : Rd X vv val := hgd.2.2.2.2.1
    obtain ⟨ar, nr, cr, rfl⟩ := rd_slice r1
    obtain ⟨aq, nq, cq, rfl⟩ := rd_slice r2
    obtain ⟨av, nv, cv, rfl⟩ := rd_slice r3
    have hbb := (Below.refl X.heap.size X).alloc (Nat.le_refl _) (.cells (EntD.mk (.slice ar nr cr) fam (.slice aq nq cq) ts seq kind (.slice av nv cv) row qual val).cells 30)
    have tu := Turn.of (B := V.heap.size) hbb (by omega)
    have HI : Hid (Gro w w.heap.size (w.heap.size + 8) pre _ ∧ pre.length ≤ L.length) := (fun ⟨h, hl⟩ => ⟨⟨by obtain ⟨v, k1, k2⟩ := h.box; exact ⟨v, k1.turn tu, ownsRow_turn k2 tu⟩, fun x hx => (h.ents x hx).keptC tu.toC, h.below.trans (tu.below.mono (by omega)), Nat.le_trans h.size (by have := tu.below.size; omega)⟩, hl⟩) hi
    have HN : Hid (NxC T.ord (V.heap.size + 2) pre _ _) := ⟨Nat.le_trans hgd.1 tu.below.size, hgd.2.1, hgd.2.2.keptC tu.toC⟩
    have HT : Hid (KpO (fun i => G i ∧ i < w.heap.size) (V.heap.size + 2) X _) := ⟨tu.toC, Oth.of hbb⟩
    have HX : Hid (EBox (X.alloc (.cells (EntD.mk (.slice ar nr cr) fam (.slice aq nq cq) ts seq kind (.slice av nv cv) row qual val).cells 30)) X.heap.size _) := EBox.new X _
    clear hbb tu hi hgd r1 r2 r3
    simp only [EntD.cells] at *
    gi_wp2
    exact hK _ _ ((KeepsOthers.alloc _ _).from _) HT.out HI.out ⟨X.heap.size, hsX', HX.out, HN.out, rfl⟩
  case body =>
    rintro l' pre x a' X ⟨hg, hl⟩ ⟨Bx, hBx, bx, hnx, rfl⟩
    obtain ⟨v, k1, k2⟩ := hg.box
    have hX8 : w.heap.size + 8 ≤ X.heap.size := by have := hnx.1; omega
    have hlen1 : pre.length + 1 ≤ L.length := by
      obtain ⟨q, hq1, hq2⟩ := hnx.2.1
      have e1 := hq2.len
      have e2 := hq1.length_le
      rw [h3] at e2
      simp at e1
      omega
    obtain ⟨vr, fam, vq, ts, seq, kind, vv, row, qual, val⟩ := x
    have r1 : Rd X vr row := hnx.2.2.1.1
    have r2 : Rd X vq qual := hnx.2.2.2.1.1
    have r3 : Rd X vv val := hnx.2.2.2.2.1
    obtain ⟨ar, nr, cr, rfl⟩ := rd_slice r1
    obtain ⟨aq, nq, cq, rfl⟩ := rd_slice r2
    obtain ⟨av, nv, cv, rfl⟩ := rd_slice r3
    obtain ⟨xe, hxe⟩ : ∃ xe : EntD, xe = ⟨.slice ar nr cr, fam, .slice aq nq cq, ts, seq, kind, .slice av nv cv, row, qual, val⟩ := ⟨_, rfl⟩
    obtain ⟨i0, hi, hz0, hz1, hz2⟩ := info_parts info_ent
    have HX : Hid (EOk (fun i => w.heap.size + 8 ≤ i) X xe) := by rw [hxe]; exact hnx.2.2.mono (fun i hi => by omega)
    have HK : Hid (Bxd X w.heap.size 22 v ∧ X.ownsRow (w.heap.size + 8) 30 7 v pre.length (evals pre)) := ⟨k1, k2⟩
    have HG : Hid (Gro w w.heap.size (w.heap.size + 8) pre X) := hg
    have kc := k1.cell
    have kf := k1.fz
    obtain ⟨c0, c1, c2, c3, c4, c5, c6⟩ := (⟨bx.vr, bx.fam, bx.vq, bx.ts, bx.seq, bx.kind, bx.vv⟩ : _ ∧ _ ∧ _ ∧ _ ∧ _ ∧ _ ∧ _)
    simp only at c0 c1 c2 c3 c4 c5 c6
    obtain ⟨av0, nv0, cv0, rfl⟩ : ∃ a0 n0 c0, v = .slice a0 n0 c0 := by
      rcases k2.2 with ⟨rfl, _⟩ | ⟨g, cap, cur, rfl, _⟩
      · exact ⟨_, _, _, rfl⟩
      · exact ⟨_, _, _, rfl⟩
    have hcells : ∀ j u, (EntD.cells xe).toList[j]? = some u → (X.alloc (.cells xe.cells 30)).cell? ((⟨X.heap.size, 0, none⟩ : Addr).add j) = some u := fun j u hu => by
      have e : (⟨X.heap.size, 0, none⟩ : Addr).add j = ⟨X.heap.size, j, none⟩ := by unfold Addr.add; split <;> simp_all
      rw [e]
      have hb := World.alloc_heap_new X (.cells xe.cells 30)
      simp only [World.cell?, hb]
      rw [← Array.getElem?_toList]; exact hu
    have hone : ∀ u ∈ (EntD.cells xe).toList, u.oneCell' = true := by rw [hxe]; simp [EntD.cells, Value.oneCell']
    have hxl : (EntD.cells xe).toList.length = 1 * 7 := by rw [hxe]; simp [EntD.cells]
    have exe : xe.cells = #[.slice ar nr cr, .int .i64 fam, .slice aq nq cq, .int .i64 ts, .int .i64 seq, .int .i64 kind, .slice av nv cv] := by rw [hxe]; rfl
    rw [exe] at hcells hone hxl
    simp only [EntD.cells]
    clear hg k1 k2 bx r1 r2 r3 hnx h1 h2 hT2 hb2 x1 x2 hb
    gi_wp2_with (gi_at_builtin; refine wpListIn_append_own _ rfl _ _ 22 rfl (w.heap.size + 8) 30 i0 _ 7 104 und_ents hi hz0 hz1 hz2 rfl (by decide) _ _ _ rfl (HK.out.2.alloc _) ⟨X.heap.size, 0, none⟩ 1 1 _ rfl hxl hcells hone (by show _ ≤ maxLen; unfold maxLen; omega) (by omega) (by rw [World.size_alloc]; omega) ?_; intro v' w1 hown' hgrow hnil; obtain ⟨g', cap', rfl⟩ := ownsRow_succ hown'; have kb1 : Bxd w1 w.heap.size 22 _ := (HK.out.1.keep (Below.heap_alloc X _ _ (by omega))).keep (hgrow.block _ (by rw [World.size_alloc]; omega) (fun e => by have := (own_at HK.out.2 e.symm).1; omega)); have kc1 := kb1.cell; have kf1 := kb1.fz)
    have bA : Below X.heap.size X (X.alloc (.cells #[.slice ar nr cr, .int .i64 fam, .slice aq nq cq, .int .i64 ts, .int .i64 seq, .int .i64 kind, .slice av nv cv] 30)) := (Below.refl _ X).alloc (Nat.le_refl _) _
    have kst : ∀ i, i < X.heap.size → i < w.heap.size + 8 → i ≠ w.heap.size → (w1.setCell ⟨w.heap.size, 0, none⟩ (.slice (some ⟨g', 0, none⟩) (pre.length + 1) cap')).heap[i]? = X.heap[i]? := fun i h1 h2 h3 =>
      (Below.heap_setCell w1 ⟨w.heap.size, 0, none⟩ _ i h3).trans ((hgrow.block i (by rw [World.size_alloc]; omega) (fun e => by have := (own_at HK.out.2 e.symm).1; omega)).trans (Below.heap_alloc X _ i h1))
    have szF : X.heap.size ≤ (w1.setCell ⟨w.heap.size, 0, none⟩ (.slice (some ⟨g', 0, none⟩) (pre.length + 1) cap')).heap.size := by rw [World.size_setCell]; exact Nat.le_trans bA.size hgrow.size
    have hKO : KeepsOthers X (w1.setCell ⟨w.heap.size, 0, none⟩ (.slice (some ⟨g', 0, none⟩) (pre.length + 1) cap')) := ((KeepsOthers.alloc X _).trans (KeepsOthers.of_grownBy hgrow (fun j o hj ho => by
      obtain ⟨_, cur, hc⟩ := own_at (HK.out.2.alloc _) hj.symm.symm
      rw [hc] at ho; cases ho; rfl))).trans (KeepsOthers.setCell _ _ _)
    have hKU : KU X (w1.setCell ⟨w.heap.size, 0, none⟩ (.slice (some ⟨g', 0, none⟩) (pre.length + 1) cap')) := ((KU.of bA).trans (KU.grown hgrow (fun r hr => by
      obtain ⟨_, cur, hc⟩ := own_at (HK.out.2.alloc _) hr
      exact ⟨cur, _, _, hc, by decide⟩))).trans (KU.set kb1 (by decide) _ _)
    refine ⟨hKO.from _, ⟨⟨szF, fun i o hi ho hg => ?_⟩, szF, fun i o hB hi ho => hKO.same i o hi ho⟩, ⟨⟨_, kb1.set _, ?_⟩, fun y hy => ?_, ?_, ?_⟩, by simp; omega⟩
    · rw [kst i (Array.getElem?_eq_some_iff.1 hi).1 (by omega) (by omega)]; exact hi
    · rw [evals_snoc, List.length_append]
      have := ownsRow_setCell_below hown' (a := ⟨w.heap.size, 0, none⟩) (show w.heap.size < w.heap.size + 8 by omega) (.slice (some ⟨g', 0, none⟩) (pre.length + 1) cap')
      exact this
    · simp only [List.mem_append, List.mem_singleton] at hy
      rcases hy with hy | rfl
      · exact (HG.out.ents y hy).ku hKU
      · have := HX.out.ku hKU
        rw [hxe] at this
        exact this
    · have b0 := HG.out.below
      refine ⟨?_, ?_, ?_, Nat.le_trans b0.size szF, fun i hi => (kst i (by have := b0.size; omega) (by omega) (by omega)).trans (b0.block i hi)⟩
      · exact (hgrow.os.trans bA.os).trans b0.os
      · exact (hgrow.tape.trans bA.tape).trans b0.tape
      · exact (hgrow.output.trans bA.output).trans b0.output
    · have := HG.out.size; omega
  case done =>
    rintro D xs X hD hsm ⟨hg, hl⟩ hdf
    obtain ⟨v, k1, k2⟩ := hg.box
    have kc := k1.cell
    gi_wp2
    have tu := Turn.put (B := V.heap.size) (.deferred none) (by have := hg.size; have := hg.below.size; omega) hD hdf rfl
    refine ⟨by simp, .inl ⟨_, _, rfl, run_takeDeferred hdf, ?_⟩⟩
    refine ⟨_, results_tmp rfl _ _ _, v, xs, rfl, ?_, by rw [← h3]; exact hsm, fun x hx => ((hg.ents x hx).keptC tu.toC).mono (fun i hi => by omega), hg.below.trans (tu.below.mono (by omega))⟩
    exact ownsRow_mono (ownsRow_turn k2 tu) (by omega)
  case stop =>
    rintro D c pre X hD hsp h hdf
    exact h.elim
end Go.Proofs.Ytnjopfdeapclhaa

namespace Go.Proofs.Ytnjopfdeapclhaa
open Go.RowKit
set_option linter.unusedVariables false

set_option maxRecDepth 100000 in
set_option maxHeartbeats 1000000 in
/-- The law's own comparison, by a loop. -/
theorem same8_any {va vb : Value} {xs ys : List Nat} {w : World} (ha : Rd w va xs) (hb : Rd w vb ys) :
    Calls Try.prog 38 #[va, vb] w fun e w' => e = .returned (.bool (decide (xs = ys))) ∧ Below w.heap.size w w' := by
  obtain ⟨a, n, cap, rfl⟩ := rd_slice ha
  obtain ⟨b, m, capb, rfl⟩ := rd_slice hb
  obtain ⟨hn, _, _, hn48⟩ := rd_lens ha
  obtain ⟨hm, _, _, hm48⟩ := rd_lens hb
  have HN : Hid (n = xs.length) := hn
  have HM : Hid (m = ys.length) := hm
  clear hn hm
  by_cases hnm : n = m
  · subst hnm
    go_enter Try.func38, Try.ntmps38
    go_wp2
    go_loopw [5] (fun i wr => ∃ t : Nat, t ≤ n ∧ i = .int .i64 (t : Int) ∧ xs.take t = ys.take t ∧ Below w.heap.size w wr) (fun i _ => n - (intOf i).toNat)
    case atStart => exact ⟨0, by omega, rfl, rfl, Below.refl _ _⟩
    case round =>
      obtain ⟨t, htn, rfl, heq, hbk⟩ := hrel
      have HQ : Hid (xs.take t = ys.take t) := heq
      clear heq
      by_cases h1 : t < n
      · have h1' : (t : Int) < (n : Int) := by omega
        have ht0 : (0 : Int) ≤ (t : Int) := by omega
        rcases rd_some ha with ⟨_, h0, _⟩ | ⟨ba, oa, rfl⟩
        · omega
        rcases rd_some hb with ⟨_, h0, _⟩ | ⟨bb, ob, rfl⟩
        · omega
        obtain ⟨ca0, cal⟩ := rd_cell ha t h1
        obtain ⟨cb0, cbl⟩ := rd_cell hb t h1
        have ca : wr.cell? ⟨ba, oa + t, none⟩ = some (.int .u8 ((xs.getD t 0 : Nat) : Int)) := by
          rw [hbk.cell (p := ⟨ba, oa + t, none⟩) (World.block_lt_of_cell? w _ ca0)]; exact ca0
        have cb : wr.cell? ⟨bb, ob + t, none⟩ = some (.int .u8 ((ys.getD t 0 : Nat) : Int)) := by
          rw [hbk.cell (p := ⟨bb, ob + t, none⟩) (World.block_lt_of_cell? w _ cb0)]; exact cb0
        have HTE : Hid (xs.getD t 0 = ys.getD t 0 → xs.take (t + 1) = ys.take (t + 1)) := fun e => take_eq (by rw [← HN.out]; exact h1) (by rw [← HM.out]; exact h1) HQ.out e
        have HNE : Hid (xs.getD t 0 ≠ ys.getD t 0 → xs ≠ ys) := fun e h => e (by rw [h])
        obtain ⟨x, hx⟩ : ∃ x, x = xs.getD t 0 := ⟨_, rfl⟩
        obtain ⟨y, hy⟩ : ∃ y, y = ys.getD t 0 := ⟨_, rfl⟩
        rw [← hx] at ca cal HTE HNE
        rw [← hy] at cb cbl HTE HNE
        clear hx hy ca0 cb0
        by_cases hxy : x = y
        · subst hxy
          go_wp2
          go_quiet (fail)
          go_wp2
          go_roundw
          case rel => exact ⟨t + 1, by omega, by go_num, HTE.out trivial, below_drewN hbk _⟩
          case measure => simp [intOf]; omega
        · have hxy' : ¬ ((x : Int) = (y : Int)) := by omega
          go_wp2
          go_quiet (fail)
          go_wp2
          go_ret
          rw [decide_eq_false (HNE.out hxy)]
          exact ⟨rfl, below_drewN hbk _⟩
      · have h1' : (n : Int) ≤ (t : Int) := by omega
        go_wp2
        go_ret
        have e : xs = ys := by
          have := HQ.out
          rw [List.take_of_length_le (by rw [← HN.out]; omega), List.take_of_length_le (by rw [← HM.out]; omega)] at this
          exact this
        rw [decide_eq_true e]
        exact ⟨rfl, hbk⟩
  · have hnm' : ¬ ((n : Int) = (m : Int)) := by omega
    go_enter Try.func38, Try.ntmps38
    go_wp2
    go_ret
    rw [decide_eq_false (fun e => hnm (by rw [HN.out, HM.out, e]))]
    exact ⟨rfl, Below.refl _ _⟩

instance (a b : EntD) : Decidable (EntD.Same a b) := by unfold EntD.Same; infer_instance

set_option maxRecDepth 100000 in
set_option maxHeartbeats 8000000 in
/-- The law's sameEntry. -/
theorem se_any {a b : EntD} {w : World} (ha : EntD.Ok w a) (hb : EntD.Ok w b) :
    Calls Try.prog 12 #[.agg a.cells, .agg b.cells] w fun r w' => r = .returned (.bool (decide (EntD.Same a b))) ∧ Below w.heap.size w w' := by
  have A1 := (Below.refl w.heap.size w).alloc (Nat.le_refl _) (.cells a.cells 30)
  have A2 := A1.alloc A1.size (.cells b.cells 30)
  have bxa0 := (EBox.new w a).later ((Below.refl (w.alloc (.cells a.cells 30)).heap.size (w.alloc (.cells a.cells 30))).alloc (Nat.le_refl _) (.cells b.cells 30))
  have bxb0 := EBox.new (w.alloc (.cells a.cells 30)) b
  rw [World.size_alloc] at bxb0
  obtain ⟨V, hV⟩ : ∃ V, V = (w.alloc (.cells a.cells 30)).alloc (.cells b.cells 30) := ⟨_, rfl⟩
  rw [← hV] at A2 bxa0 bxb0
  have HV : Hid (V = _) := hV
  clear hV A1
  have HX : Hid (EBox V w.heap.size a ∧ EBox V (w.heap.size + 1) b ∧ Below w.heap.size w V) := ⟨bxa0, bxb0, A2⟩
  have HA : Hid (∀ wx, Below V.heap.size V wx → EntD.Ok wx a ∧ EntD.Ok wx b ∧ EBox wx w.heap.size a ∧ EBox wx (w.heap.size + 1) b) := fun wx q => ⟨(ha.later A2).later q, (hb.later A2).later q, bxa0.later q, bxb0.later q⟩
  obtain ⟨c0, c1, c2, c3, c4, c5, c6⟩ := (⟨bxa0.vr, bxa0.fam, bxa0.vq, bxa0.ts, bxa0.seq, bxa0.kind, bxa0.vv⟩ : _ ∧ _ ∧ _ ∧ _ ∧ _ ∧ _ ∧ _)
  obtain ⟨d0, d1, d2, d3, d4, d5, d6⟩ := (⟨bxb0.vr, bxb0.fam, bxb0.vq, bxb0.ts, bxb0.seq, bxb0.kind, bxb0.vv⟩ : _ ∧ _ ∧ _ ∧ _ ∧ _ ∧ _ ∧ _)
  clear A2 bxa0 bxb0 ha hb
  obtain ⟨va, fa, qa, ta, sa, ka, wa, ra, la, ya⟩ := a
  obtain ⟨vb, fb, qb, tb, sb, kb, wb, rb, lb, yb⟩ := b
  simp only [EntD.cells] at *
  by_cases h1 : fa = fb
  · by_cases h2 : ta = tb
    · by_cases h3 : sa = sb
      · by_cases h4 : ka = kb
        · subst h1 h2 h3 h4
          go_enter Try.func12, Try.ntmps12
          go_wp2_with fail
          rw [← HV.out]
          go_wp2_with fail
          refine (same8_any (HA.out _ (Below.refl _ _)).1.1 (HA.out _ (Below.refl _ _)).2.1.1).mono ?_
          rintro e w1 ⟨rfl, hb1⟩
          by_cases e1 : ra = rb
          · rw [decide_eq_true e1]
            have x2 := (HA.out _ hb1).2.2.1.vq
            have y2 := (HA.out _ hb1).2.2.2.vq
            simp only at x2 y2
            go_wp2_with fail
            refine (same8_any (HA.out _ hb1).1.2.1 (HA.out _ hb1).2.1.2.1).mono ?_
            rintro e w2 ⟨rfl, hb2⟩
            have B2 := hb1.trans (hb2.mono hb1.size)
            by_cases e2 : la = lb
            · rw [decide_eq_true e2]
              have x6 := (HA.out _ B2).2.2.1.vv
              have y6 := (HA.out _ B2).2.2.2.vv
              simp only at x6 y6
              go_wp2_with fail
              refine (same8_any (HA.out _ B2).1.2.2 (HA.out _ B2).2.1.2.2).mono ?_
              rintro e w3 ⟨rfl, hb3⟩
              have B3 := B2.trans (hb3.mono B2.size)
              by_cases e3 : ya = yb
              · rw [decide_eq_true e3]
                go_wp2
                go_ret
                have hd : decide (EntD.Same ⟨va, fa, qa, ta, sa, ka, wa, ra, la, ya⟩ ⟨vb, fa, qb, ta, sa, ka, wb, rb, lb, yb⟩) = true := decide_eq_true ⟨rfl, rfl, rfl, rfl, e1, e2, e3⟩
                rw [hd]
                exact ⟨rfl, HX.out.2.2.trans (B3.mono HX.out.2.2.size)⟩
              · rw [decide_eq_false e3]
                go_wp2
                go_ret
                rw [decide_eq_false (show ¬ EntD.Same _ _ from fun h => e3 h.2.2.2.2.2.2)]
                exact ⟨rfl, HX.out.2.2.trans (B3.mono HX.out.2.2.size)⟩
            · rw [decide_eq_false e2]
              go_wp2
              go_ret
              rw [decide_eq_false (show ¬ EntD.Same _ _ from fun h => e2 h.2.2.2.2.2.1)]
              exact ⟨rfl, HX.out.2.2.trans (B2.mono HX.out.2.2.size)⟩
          · rw [decide_eq_false e1]
            go_wp2
            go_ret
            rw [decide_eq_false (show ¬ EntD.Same _ _ from fun h => e1 h.2.2.2.2.1)]
            exact ⟨rfl, HX.out.2.2.trans (hb1.mono HX.out.2.2.size)⟩
        · subst h1 h2 h3
          go_enter Try.func12, Try.ntmps12
          go_wp2_with fail
          rw [← HV.out]
          go_wp2
          go_ret
          rw [decide_eq_false (show ¬ EntD.Same _ _ from fun h => h4 h.2.2.2.1)]
          exact ⟨rfl, HX.out.2.2⟩
      · subst h1 h2
        go_enter Try.func12, Try.ntmps12
        go_wp2_with fail
        rw [← HV.out]
        go_wp2
        go_ret
        rw [decide_eq_false (show ¬ EntD.Same _ _ from fun h => h3 h.2.2.1)]
        exact ⟨rfl, HX.out.2.2⟩
    · subst h1
      go_enter Try.func12, Try.ntmps12
      go_wp2_with fail
      rw [← HV.out]
      go_wp2
      go_ret
      rw [decide_eq_false (show ¬ EntD.Same _ _ from fun h => h2 h.2.1)]
      exact ⟨rfl, HX.out.2.2⟩
  · go_enter Try.func12, Try.ntmps12
    go_wp2_with fail
    rw [← HV.out]
    go_wp2
    go_ret
    rw [decide_eq_false (show ¬ EntD.Same _ _ from fun h => h1 h.1)]
    exact ⟨rfl, HX.out.2.2⟩
end Go.Proofs.Ytnjopfdeapclhaa

namespace Go.Proofs.Ytnjopfdeapclhaa
open Go.RowKit Go.Shelf
set_option linter.unusedVariables false
attribute [local go_sem] Oper.semAt_some

/-- The law's at(ts). -/
def atD (vr vq vv : Value) (ts : Int) : EntD := ⟨vr, 0, vq, ts, 32, 1, vv, [114], [113], [118]⟩
def zD : EntD := ⟨.slice none 0 0, 0, .slice none 0 0, 0, 0, 0, .slice none 0 0, [], [], []⟩

set_option maxRecDepth 100000 in
set_option maxHeartbeats 1000000 in
theorem at_any (ts : Int) (w : World) : Calls Try.prog 31 #[.int .i64 ts] w fun e w' => ∃ vr vq vv, e = .returned (.agg (atD vr vq vv ts).cells) ∧ EntD.Ok w' (atD vr vq vv ts) ∧ Below w.heap.size w w' := by
  have k1 := Joins.run_convert_bytes_const_at (P := Try.prog) (w.alloc (.cells zD.cells 30)) 28 5 #[.int .u8 114] 1 1 (w.heap.size + 1) (by simp) und_bytes und_byte
  have k2 := Joins.run_convert_bytes_const_at (P := Try.prog) ((w.alloc (.cells zD.cells 30)).alloc (.cells #[.int .u8 114] 5 (1, 2))) 28 5 #[.int .u8 113] 1 1 (w.heap.size + 2) (by simp) und_bytes und_byte
  have k3 := Joins.run_convert_bytes_const_at (P := Try.prog) (((w.alloc (.cells zD.cells 30)).alloc (.cells #[.int .u8 114] 5 (1, 2))).alloc (.cells #[.int .u8 113] 5 (1, 2))) 28 5 #[.int .u8 118] 1 1 (w.heap.size + 3) (by simp) und_bytes und_byte
  simp only [zD, EntD.cells, List.size_toArray, List.length_cons, List.length_nil, Nat.zero_add] at k1 k2 k3
  obtain ⟨w4, hw4, bx, d2, d3, d4, bel⟩ := three w (atD (.slice (some ⟨w.heap.size + 1, 0, none⟩) 1 1) (.slice (some ⟨w.heap.size + 2, 0, none⟩) 1 1) (.slice (some ⟨w.heap.size + 3, 0, none⟩) 1 1) ts)
  have HF : Hid (_ ∧ _ ∧ _ ∧ _ ∧ _ ∧ _) := ⟨hw4, bx, d2, d3, d4, bel⟩
  clear bx d2 d3 d4 bel hw4
  simp only [atD, EntD.cells] at HF
  go_enter Try.func31, Try.ntmps31
  go_wp2
  clear k1 k2 k3
  obtain ⟨hw4, bx, d2, d3, d4, bel⟩ := HF.out
  clear HF
  rw [← hw4]
  have y0 := bx.vr
  have y1 := bx.fam
  have y2 := bx.vq
  have y3 := bx.ts
  have y4 := bx.seq
  have y5 := bx.kind
  have y6 := bx.vv
  simp only at y0 y1 y2 y3 y4 y5 y6
  refine bodyPost_ret (v := .agg (atD (.slice (some ⟨w.heap.size + 1, 0, none⟩) 1 1) (.slice (some ⟨w.heap.size + 2, 0, none⟩) 1 1) (.slice (some ⟨w.heap.size + 3, 0, none⟩) 1 1) ts).cells) (by simp [results, Try.results31, go_sem, y0, y1, y2, y3, y4, y5, y6, atD, EntD.cells]) rfl ?_
  exact ⟨_, _, _, rfl, ⟨rd_one d2 (by decide), rd_one d3 (by decide), rd_one d4 (by decide)⟩, bel⟩

set_option maxRecDepth 100000 in
set_option maxHeartbeats 4000000 in
/-- From: a function that is not nil. -/
theorem from_any {w : World} {e : EntD} {v : Option Addr} (he : EntD.Ok w e) (hl : e.row.length ≤ 140737488355328 ∧ e.qual.length ≤ 140737488355328) :
    Calls Try.prog 27 #[.pointer v, .agg e.cells] w fun z w' => (∃ lb, z = .returned (.func (.func 50) #[] lb)) ∧ Below w.heap.size w w' := by
  have A1 := (Below.refl w.heap.size w).alloc (Nat.le_refl _) (.cells #[.pointer v] 24)
  obtain ⟨d, hd⟩ : ∃ d : EntD, d = { e with vv := .slice none 0 0, val := [] } := ⟨_, rfl⟩
  have A2 := A1.alloc A1.size (.cells d.cells 30)
  have hed : EntD.Ok ((w.alloc (.cells #[.pointer v] 24)).alloc (.cells d.cells 30)) d := by
    rw [hd]
    rw [hd] at A2
    exact ⟨he.1.later A2, he.2.1.later A2, Rd.nil _⟩
  have HC : Hid (Calls Try.prog 34 _ _ _) := copyOf_any hed (by rw [hd]; exact ⟨hl.1, hl.2, by simp⟩)
  have HA : Hid (Below w.heap.size w ((w.alloc (.cells #[.pointer v] 24)).alloc (.cells d.cells 30))) := A2
  obtain ⟨ar, nr, cr, e1⟩ := rd_slice he.1
  obtain ⟨aq, nq, cq, e2⟩ := rd_slice he.2.1
  obtain ⟨av, nv, cv, e3⟩ := rd_slice he.2.2
  have ed : d.cells = #[e.vr, .int .i64 e.fam, e.vq, .int .i64 e.ts, .int .i64 e.seq, .int .i64 e.kind, .slice none 0 0] := by rw [hd]; rfl
  rw [ed] at HC HA
  unfold EntD.cells
  rw [e1, e2] at HC HA
  rw [e1, e2, e3]
  clear A1 A2 he hl hed ed hd e1 e2 e3
  go_enter Try.func27, Try.ntmps27
  go_wp2_with fail
  refine Calls.mono HC.out ?_
  rintro z w1 ⟨x, rfl, -, hx, hb⟩
  obtain ⟨vr, fam, vq, ts, seq, kind, vv, row, qual, val⟩ := x
  obtain ⟨br, mr, dr, e1⟩ := rd_slice hx.ok.1
  obtain ⟨bq, mq, dq, e2⟩ := rd_slice hx.ok.2.1
  obtain ⟨bv, mv, dv, e3⟩ := rd_slice hx.ok.2.2
  simp only at e1 e2 e3
  subst e1 e2 e3
  have B1 := HA.out.trans (hb.mono HA.out.size)
  clear hx hb HC HA
  simp only [EntD.cells]
  go_wp2
  go_ret
  exact ⟨⟨_, rfl⟩, B1.alloc B1.size _⟩
end Go.Proofs.Ytnjopfdeapclhaa
