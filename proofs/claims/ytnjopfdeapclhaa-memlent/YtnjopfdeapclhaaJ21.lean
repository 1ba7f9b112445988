import Derived.Test.YtnjopfdeapclhaaM52
import Derived.Test.YtnjopfdeapclhaaM32
import Derived.Test.YtnjopfdeapclhaaJ17
namespace Go.Proofs.Ytnjopfdeapclhaa
open Go.RowKit Go.Shelf
set_option linter.unusedVariables false
attribute [local go_sem] Oper.semAt_some

/-- Its byte strings lie below s. -/
def Und (y : EntD) (s : Nat) : Prop := ∀ g, y.vr.ownBlock = some g ∨ y.vq.ownBlock = some g ∨ y.vv.ownBlock = some g → g < s
/-- Two entries of which no byte string shares memory. -/
def Dsj (x y : EntD) : Prop := ∀ g, (x.vr.ownBlock = some g ∨ x.vq.ownBlock = some g ∨ x.vv.ownBlock = some g) → ¬ (y.vr.ownBlock = some g ∨ y.vq.ownBlock = some g ∨ y.vv.ownBlock = some g)
/-- A list of entries, each owns its byte strings, all apart. -/
structure OL (w : World) (b : Nat) (xs : List EntD) : Prop where
  own : ∀ x ∈ xs, O3 w b x
  ap : xs.Pairwise Dsj
theorem OL.nil (w : World) (b : Nat) : OL w b [] := ⟨by simp, List.Pairwise.nil⟩
theorem OL.later {w w' : World} {b : Nat} {xs : List EntD} (h : OL w b xs) (k : Below w.heap.size w w') : OL w' b xs := ⟨fun x hx => (h.own x hx).later k, h.ap⟩
theorem OL.ku {w w' : World} {b : Nat} {xs : List EntD} (h : OL w b xs) (k : KU w w') : OL w' b xs := ⟨fun x hx => (h.own x hx).ku k, h.ap⟩
theorem OL.turn {w w' : World} {b B : Nat} {xs : List EntD} (h : OL w b xs) (k : Turn B w w') : OL w' b xs := ⟨fun x hx => (h.own x hx).turn k, h.ap⟩
theorem OL.snoc {w : World} {b : Nat} {xs : List EntD} {x : EntD} (h : OL w b xs) (hx : O3 w b x) (hd : ∀ y ∈ xs, Dsj y x) : OL w b (xs ++ [x]) := by
  refine ⟨fun y hy => ?_, ?_⟩
  · rcases List.mem_append.1 hy with hy | hy
    · exact h.own y hy
    · simp at hy; subst hy; exact hx
  · rw [List.pairwise_append]
    refine ⟨h.ap, by simp, fun y hy z hz => ?_⟩
    simp at hz; subst hz; exact hd y hy
/-- What such a list grows to. -/
structure GroO (w : World) (Bl B0 n : Nat) (pre : List EntD) (W : World) : Prop where
  gro : Gro w Bl B0 pre W
  len : pre.length ≤ n
  ol : OL W w.heap.size pre
theorem GroO.turn {w : World} {Bl B0 n B : Nat} {pre : List EntD} {W Z : World} (h : GroO w Bl B0 n pre W) (tu : Turn B W Z) (hB : w.heap.size ≤ B) : GroO w Bl B0 n pre Z :=
  ⟨⟨by obtain ⟨v, k1, k2⟩ := h.gro.box; exact ⟨v, k1.turn tu, ownsRow_turn k2 tu⟩, fun x hx => (h.gro.ents x hx).keptC tu.toC, h.gro.below.trans (tu.below.mono hB), Nat.le_trans h.gro.size (by have := tu.below.size; omega)⟩, h.len, h.ol.turn tu⟩

set_option maxRecDepth 100000 in
set_option maxHeartbeats 4000000 in
theorem rowsO_any {G : Nat → Prop} {w : World} {t : Nat} {L : List EntD} {k : Int} {f : Bool} (hb : Tb G w t L k f) (hsz : L.length < 1000000000) :
    Calls Try.prog 10 #[.pointer (some ⟨t, 0, none⟩)] w fun z w' => ∃ v xs, z = .returned v ∧ w'.ownsRow w.heap.size 30 7 v xs.length (evals xs) ∧ Sm xs L ∧ (∀ x ∈ xs, EOk (fun i => w.heap.size ≤ i) w' x) ∧ OL w' w.heap.size xs ∧ Below w.heap.size w w' := by
  obtain ⟨p, T, h1, h2, h3⟩ := hb.tree
  have hlens := hb.lens
  refine (callsIn_wide (n := 9)).1 ?_
  refine callsIn_of_wp_marks Try.func10 rfl trivial ?_ rfl
  simp only [Try.ntmps10, List.size_toArray, List.length_cons, List.length_nil, Nat.reduceAdd, Nat.reduceSub, Array.replicate_succ, Array.replicate_zero, List.push_toArray, List.append_toArray, List.nil_append, List.cons_append]
  have hdd : ∀ k : Nat, (Fence.wide.depth.isSome = true → 1 ≤ k) := fun k h => by cases h
  have HA : Hid (∀ X, Calls Try.prog 11 #[.pointer (some ⟨t, 0, none⟩)] X _) := fun X => all_any X _
  gi_wp2_with (refine ⟨trivial, ?_⟩; gi_at_call 11; refine (callsIn_wide.2 (HA.out _)).mono ?_; rintro e w' ⟨rfl, rfl⟩)
  have b1 := (Below.refl w.heap.size w).alloc (Nat.le_refl _) (.cells #[.slice none 0 0] 22)
  have b2 := b1.alloc b1.size (.cells #[.pointer (some ⟨t, 0, none⟩)] 24)
  have x1 : Bxd ((w.alloc (.cells #[.slice none 0 0] 22)).alloc (.cells #[.pointer (some ⟨t, 0, none⟩)] 24)) w.heap.size 22 (.slice none 0 0) := (Bxd.new w _ _).keep (Below.heap_alloc _ _ _ (by simp))
  have x2 : Bxd ((w.alloc (.cells #[.slice none 0 0] 22)).alloc (.cells #[.pointer (some ⟨t, 0, none⟩)] 24)) (w.heap.size + 1) 24 (.pointer (some ⟨t, 0, none⟩)) := by
    have := Bxd.new (w.alloc (.cells #[.slice none 0 0] 22)) 24 (.pointer (some ⟨t, 0, none⟩))
    rwa [World.size_alloc] at this
  have s2 : ((w.alloc (.cells #[.slice none 0 0] 22)).alloc (.cells #[.pointer (some ⟨t, 0, none⟩)] 24)).heap.size = w.heap.size + 2 := by simp
  generalize (w.alloc (.cells #[.slice none 0 0] 22)).alloc (.cells #[.pointer (some ⟨t, 0, none⟩)] 24) = V at *
  have hT2 : IsT (fun i => G i ∧ i < w.heap.size) V p T := h2.lt.kept (KpG.of b2)
  have hb2 := h1.later b2
  refine range_o (w := V) rfl (enters_of Try.func35 (by kernel_rfl) rfl) (encs := fun x : EntD => #[.agg x.cells]) (all_seqO x2 hb2 hT2 (by rw [h3]; exact hlens)) (fun h k => h.trans k) (fun X o o' ho hc => KpO.put o o' (by omega) ho hc) (fun _ => rfl)
    (fun pre X => GroO w w.heap.size (w.heap.size + 8) L.length pre X)
    (fun c pre X => False)
    (fun s X h => by have := h.gro.size; have := h.gro.below.size; omega)
    (fun s X Z hX h tu => h.turn tu (by omega))
    (fun c s X Z hX h tu => h)
    ⟨⟨⟨_, x1, World.ownsRow_nil _ _ _ _⟩, by simp, b2, by omega⟩, by simp, OL.nil _ _⟩
    (fun pre x a' X => ∃ Bx s, w.heap.size + 8 ≤ Bx ∧ EBox X Bx x ∧ NxC T.ord (V.heap.size + 2) pre x X ∧ (O3 X s x ∧ w.heap.size ≤ s ∧ ∀ y ∈ pre, Und y s) ∧ a' = { tmps := #[.pointer (some ⟨t, 0, none⟩), undef, .slice none 0 0, .pointer (some ⟨w.heap.size, 0, none⟩), .pointer (some ⟨Bx, 0, none⟩), .pointer (some ⟨t, 0, none⟩), .func (.func 35) #[] #[.pointer (some ⟨w.heap.size + 1, 0, none⟩)], .agg x.cells, undef, undef, undef, undef, undef], defers := [] })
    (fun pre x a' _ X Z hX ⟨Bx, s, k0, k1, k2, k4, k3⟩ tu => ⟨Bx, s, k0, tu.cells _ _ k1 rfl, ⟨Nat.le_trans k2.1 tu.below.size, k2.2.1, k2.2.2.keptC tu.toC⟩, ⟨k4.1.turn tu, k4.2⟩, k3⟩)
    ?assign ?body ?done ?stop (fun c s X h => h.elim)
  case assign =>
    intro l' pre x Wp X K hip hi hsX hgd0 hK
    have hgd := hgd0.1
    have HO : Hid (∀ Z, Turn V.heap.size X Z → O3 Z Wp.heap.size x ∧ w.heap.size ≤ Wp.heap.size ∧ ∀ y ∈ pre, Und y Wp.heap.size) := fun Z tz => ⟨hgd0.2.1.turn tz, hip.gro.below.size, fun y hy g hg => ((hip.ol.own y hy).lt g hg).2⟩
    have HO := Lib.hid (HO.out _ (Turn.of ((Below.refl X.heap.size X).alloc (Nat.le_refl _) (.cells x.cells 30)) (by omega)))
    clear hgd0
    have hsX' : w.heap.size + 8 ≤ X.heap.size := by have := hgd.1; omega
    obtain ⟨vr, fam, vq, ts, seq, kind, vv, row, qual, val⟩ := x
    have r1 : Rd X vr row := hgd.2.2.1.1
    have r2 : Rd X vq qual := hgd.2.2.2.1.1
    have r3 : Rd X vv val := hgd.2.2.2.2.1
    obtain ⟨ar, nr, cr, rfl⟩ := rd_slice r1
    obtain ⟨aq, nq, cq, rfl⟩ := rd_slice r2
    obtain ⟨av, nv, cv, rfl⟩ := rd_slice r3
    have hbb := (Below.refl X.heap.size X).alloc (Nat.le_refl _) (.cells (EntD.mk (.slice ar nr cr) fam (.slice aq nq cq) ts seq kind (.slice av nv cv) row qual val).cells 30)
    have tu := Turn.of (B := V.heap.size) hbb (by omega)
    have HI : Hid (GroO w w.heap.size (w.heap.size + 8) L.length pre _) := hi.turn tu (by omega)
    have HN : Hid (NxC T.ord (V.heap.size + 2) pre _ _) := ⟨Nat.le_trans hgd.1 tu.below.size, hgd.2.1, hgd.2.2.keptC tu.toC⟩
    have HT : Hid (KpO (fun i => G i ∧ i < w.heap.size) (V.heap.size + 2) X _) := ⟨tu.toC, Oth.of hbb⟩
    have HX : Hid (EBox (X.alloc (.cells (EntD.mk (.slice ar nr cr) fam (.slice aq nq cq) ts seq kind (.slice av nv cv) row qual val).cells 30)) X.heap.size _) := EBox.new X _
    clear hbb tu hi hgd r1 r2 r3
    simp only [EntD.cells] at *
    gi_wp2
    exact hK _ _ ((KeepsOthers.alloc _ _).from _) HT.out HI.out ⟨X.heap.size, Wp.heap.size, hsX', HX.out, HN.out, HO.out, rfl⟩
  case body =>
    rintro l' pre x a' X ⟨hg, hl, hol⟩ ⟨Bx, s, hBx, bx, hnx, ho, rfl⟩
    have HOl0 := Lib.hid (hol.snoc (ho.1.mono ho.2.1) (fun y hy g h1 h2 => by
      have := ho.2.2 y hy g h1
      have := (ho.1.lt g h2).1
      omega))
    clear ho hol
    obtain ⟨v, k1, k2⟩ := hg.box
    have hX8 : w.heap.size + 8 ≤ X.heap.size := by have := hnx.1; omega
    have hlen1 : pre.length + 1 ≤ L.length := by
      obtain ⟨q, hq1, hq2⟩ := hnx.2.1
      have e1 := hq2.len
      have e2 := hq1.length_le
      rw [h3] at e2
      simp at e1
      omega
    obtain ⟨vr, fam, vq, ts, seq, kind, vv, row, qual, val⟩ := x
    have r1 : Rd X vr row := hnx.2.2.1.1
    have r2 : Rd X vq qual := hnx.2.2.2.1.1
    have r3 : Rd X vv val := hnx.2.2.2.2.1
    obtain ⟨ar, nr, cr, rfl⟩ := rd_slice r1
    obtain ⟨aq, nq, cq, rfl⟩ := rd_slice r2
    obtain ⟨av, nv, cv, rfl⟩ := rd_slice r3
    obtain ⟨xe, hxe⟩ : ∃ xe : EntD, xe = ⟨.slice ar nr cr, fam, .slice aq nq cq, ts, seq, kind, .slice av nv cv, row, qual, val⟩ := ⟨_, rfl⟩
    obtain ⟨i0, hi, hz0, hz1, hz2⟩ := info_parts info_ent
    have HOl : Hid (OL X w.heap.size (pre ++ [xe])) := by rw [hxe]; exact HOl0.out
    clear HOl0
    have HX : Hid (EOk (fun i => w.heap.size + 8 ≤ i) X xe) := by rw [hxe]; exact hnx.2.2.mono (fun i hi => by omega)
    have HK : Hid (Bxd X w.heap.size 22 v ∧ X.ownsRow (w.heap.size + 8) 30 7 v pre.length (evals pre)) := ⟨k1, k2⟩
    have HG : Hid (Gro w w.heap.size (w.heap.size + 8) pre X) := hg
    have kc := k1.cell
    have kf := k1.fz
    obtain ⟨c0, c1, c2, c3, c4, c5, c6⟩ := (⟨bx.vr, bx.fam, bx.vq, bx.ts, bx.seq, bx.kind, bx.vv⟩ : _ ∧ _ ∧ _ ∧ _ ∧ _ ∧ _ ∧ _)
    simp only at c0 c1 c2 c3 c4 c5 c6
    obtain ⟨av0, nv0, cv0, rfl⟩ : ∃ a0 n0 c0, v = .slice a0 n0 c0 := by
      rcases k2.2 with ⟨rfl, _⟩ | ⟨g, cap, cur, rfl, _⟩
      · exact ⟨_, _, _, rfl⟩
      · exact ⟨_, _, _, rfl⟩
    have hcells : ∀ j u, (EntD.cells xe).toList[j]? = some u → (X.alloc (.cells xe.cells 30)).cell? ((⟨X.heap.size, 0, none⟩ : Addr).add j) = some u := fun j u hu => by
      have e : (⟨X.heap.size, 0, none⟩ : Addr).add j = ⟨X.heap.size, j, none⟩ := by unfold Addr.add; split <;> simp_all
      rw [e]
      have hb := World.alloc_heap_new X (.cells xe.cells 30)
      simp only [World.cell?, hb]
      rw [← Array.getElem?_toList]; exact hu
    have hone : ∀ u ∈ (EntD.cells xe).toList, u.oneCell' = true := by rw [hxe]; simp [EntD.cells, Value.oneCell']
    have hxl : (EntD.cells xe).toList.length = 1 * 7 := by rw [hxe]; simp [EntD.cells]
    have exe : xe.cells = #[.slice ar nr cr, .int .i64 fam, .slice aq nq cq, .int .i64 ts, .int .i64 seq, .int .i64 kind, .slice av nv cv] := by rw [hxe]; rfl
    rw [exe] at hcells hone hxl
    simp only [EntD.cells]
    clear hg k1 k2 bx r1 r2 r3 hnx h1 h2 hT2 hb2 x1 x2 hb
    gi_wp2_with (gi_at_builtin; refine wpListIn_append_own _ rfl _ _ 22 rfl (w.heap.size + 8) 30 i0 _ 7 104 und_ents hi hz0 hz1 hz2 rfl (by decide) _ _ _ rfl (HK.out.2.alloc _) ⟨X.heap.size, 0, none⟩ 1 1 _ rfl hxl hcells hone (by show _ ≤ maxLen; unfold maxLen; omega) (by omega) (by rw [World.size_alloc]; omega) ?_; intro v' w1 hown' hgrow hnil; obtain ⟨g', cap', rfl⟩ := ownsRow_succ hown'; have kb1 : Bxd w1 w.heap.size 22 _ := (HK.out.1.keep (Below.heap_alloc X _ _ (by omega))).keep (hgrow.block _ (by rw [World.size_alloc]; omega) (fun e => by have := (own_at HK.out.2 e.symm).1; omega)); have kc1 := kb1.cell; have kf1 := kb1.fz)
    have bA : Below X.heap.size X (X.alloc (.cells #[.slice ar nr cr, .int .i64 fam, .slice aq nq cq, .int .i64 ts, .int .i64 seq, .int .i64 kind, .slice av nv cv] 30)) := (Below.refl _ X).alloc (Nat.le_refl _) _
    have kst : ∀ i, i < X.heap.size → i < w.heap.size + 8 → i ≠ w.heap.size → (w1.setCell ⟨w.heap.size, 0, none⟩ (.slice (some ⟨g', 0, none⟩) (pre.length + 1) cap')).heap[i]? = X.heap[i]? := fun i h1 h2 h3 =>
      (Below.heap_setCell w1 ⟨w.heap.size, 0, none⟩ _ i h3).trans ((hgrow.block i (by rw [World.size_alloc]; omega) (fun e => by have := (own_at HK.out.2 e.symm).1; omega)).trans (Below.heap_alloc X _ i h1))
    have szF : X.heap.size ≤ (w1.setCell ⟨w.heap.size, 0, none⟩ (.slice (some ⟨g', 0, none⟩) (pre.length + 1) cap')).heap.size := by rw [World.size_setCell]; exact Nat.le_trans bA.size hgrow.size
    have hKO : KeepsOthers X (w1.setCell ⟨w.heap.size, 0, none⟩ (.slice (some ⟨g', 0, none⟩) (pre.length + 1) cap')) := ((KeepsOthers.alloc X _).trans (KeepsOthers.of_grownBy hgrow (fun j o hj ho => by
      obtain ⟨_, cur, hc⟩ := own_at (HK.out.2.alloc _) hj.symm.symm
      rw [hc] at ho; cases ho; rfl))).trans (KeepsOthers.setCell _ _ _)
    have hKU : KU X (w1.setCell ⟨w.heap.size, 0, none⟩ (.slice (some ⟨g', 0, none⟩) (pre.length + 1) cap')) := ((KU.of bA).trans (KU.grown hgrow (fun r hr => by
      obtain ⟨_, cur, hc⟩ := own_at (HK.out.2.alloc _) hr
      exact ⟨cur, _, _, hc, by decide⟩))).trans (KU.set kb1 (by decide) _ _)
    refine ⟨hKO.from _, ⟨⟨szF, fun i o hi ho hg => ?_⟩, szF, fun i o hB hi ho => hKO.same i o hi ho⟩, ⟨⟨⟨_, kb1.set _, ?_⟩, fun y hy => ?_, ?_, ?_⟩, by simp; omega, by have := HOl.out.ku hKU; rw [hxe] at this; exact this⟩⟩
    · rw [kst i (Array.getElem?_eq_some_iff.1 hi).1 (by omega) (by omega)]; exact hi
    · rw [evals_snoc, List.length_append]
      have := ownsRow_setCell_below hown' (a := ⟨w.heap.size, 0, none⟩) (show w.heap.size < w.heap.size + 8 by omega) (.slice (some ⟨g', 0, none⟩) (pre.length + 1) cap')
      exact this
    · simp only [List.mem_append, List.mem_singleton] at hy
      rcases hy with hy | rfl
      · exact (HG.out.ents y hy).ku hKU
      · have := HX.out.ku hKU
        rw [hxe] at this
        exact this
    · have b0 := HG.out.below
      refine ⟨?_, ?_, ?_, Nat.le_trans b0.size szF, fun i hi => (kst i (by have := b0.size; omega) (by omega) (by omega)).trans (b0.block i hi)⟩
      · exact (hgrow.os.trans bA.os).trans b0.os
      · exact (hgrow.tape.trans bA.tape).trans b0.tape
      · exact (hgrow.output.trans bA.output).trans b0.output
    · have := HG.out.size; omega
  case done =>
    rintro D xs X hD hsm ⟨hg, hl, hol⟩ hdf
    obtain ⟨v, k1, k2⟩ := hg.box
    have kc := k1.cell
    gi_wp2
    have tu := Turn.put (B := V.heap.size) (.deferred none) (by have := hg.size; have := hg.below.size; omega) hD hdf rfl
    refine ⟨by simp, .inl ⟨_, _, rfl, run_takeDeferred hdf, ?_⟩⟩
    refine ⟨_, results_tmp rfl _ _ _, v, xs, rfl, ?_, by rw [← h3]; exact hsm, fun x hx => ((hg.ents x hx).keptC tu.toC).mono (fun i hi => by omega), hol.turn tu, hg.below.trans (tu.below.mono (by omega))⟩
    exact ownsRow_mono (ownsRow_turn k2 tu) (by omega)
  case stop =>
    rintro D c pre X hD hsp h hdf
    exact h.elim
set_option maxRecDepth 100000 in
set_option maxHeartbeats 4000000 in
theorem fromLO_any {G : Nat → Prop} {w : World} {t : Nat} {L : List EntD} {k : Int} {f : Bool} {e : EntD} (he : EntD.Ok w e) (hel : e.row.length ≤ 140737488355328 ∧ e.qual.length ≤ 140737488355328) (hb : Tb G w t L k f) (hsz : L.length < 1000000000) :
    Calls Try.prog 21 #[.pointer (some ⟨t, 0, none⟩), .agg e.cells] w fun z w' => ∃ v xs, z = .returned v ∧ w'.ownsRow w.heap.size 30 7 v xs.length (evals xs) ∧ Sm xs (L.dropWhile (fun y => decide (compareS y e < 0))) ∧ (∀ x ∈ xs, EOk (fun i => w.heap.size ≤ i) w' x) ∧ OL w' w.heap.size xs ∧ Below w.heap.size w w' := by
  obtain ⟨p, T, h1, h2, h3⟩ := hb.tree
  have hlens := hb.lens
  refine (callsIn_wide (n := 9)).1 ?_
  refine callsIn_of_wp_marks Try.func21 rfl trivial ?_ rfl
  simp only [Try.ntmps21, List.size_toArray, List.length_cons, List.length_nil, Nat.reduceAdd, Nat.reduceSub, Array.replicate_succ, Array.replicate_zero, List.push_toArray, List.append_toArray, List.nil_append, List.cons_append]
  have hdd : ∀ k : Nat, (Fence.wide.depth.isSome = true → 1 ≤ k) := fun k h => by cases h
  have HA : Hid (∀ X, Below w.heap.size w X → Calls Try.prog 27 #[.pointer (some ⟨t, 0, none⟩), .agg e.cells] X _) := fun X bb => from_ans (he.later bb) hel
  obtain ⟨ar0, nr0, cr0, er⟩ := rd_slice he.1
  obtain ⟨aq0, nq0, cq0, eq⟩ := rd_slice he.2.1
  obtain ⟨av0, nv0, cv0, ev⟩ := rd_slice he.2.2
  have hec : e.cells = #[.slice ar0 nr0 cr0, .int .i64 e.fam, .slice aq0 nq0 cq0, .int .i64 e.ts, .int .i64 e.seq, .int .i64 e.kind, .slice av0 nv0 cv0] := by unfold EntD.cells; rw [er, eq, ev]
  have b0 := (Below.refl w.heap.size w).alloc (Nat.le_refl _) (.cells e.cells 30)
  have b1 := b0.alloc b0.size (.cells #[.slice none 0 0] 22)
  have HB1 : Hid (Below w.heap.size w ((w.alloc (.cells e.cells 30)).alloc (.cells #[.slice none 0 0] 22))) := b1
  have x1 : Bxd ((w.alloc (.cells e.cells 30)).alloc (.cells #[.slice none 0 0] 22)) (w.heap.size + 1) 22 (.slice none 0 0) := by
    have := Bxd.new (w.alloc (.cells e.cells 30)) 22 (.slice none 0 0)
    rwa [World.size_alloc] at this
  have HX1 := Lib.hid x1
  rw [hec] at HA HB1 HX1 ⊢
  clear hec er eq ev b1 x1 b0
  gi_wp2_with (refine ⟨trivial, ?_⟩; gi_at_call 27; refine (callsIn_wide.2 (HA.out _ HB1.out)).mono ?_; rintro e1 V ⟨Bf, x0, rfl, x2, hxb, hsx, hxe, bV, sV⟩)
  have b2 := HB1.out.trans (bV.mono HB1.out.size)
  have x1 := HX1.out.keep (bV.block _ HX1.out.lt)
  rw [World.size_alloc, World.size_alloc] at x2 sV
  have s2 : w.heap.size + 4 ≤ V.heap.size := by omega
  obtain ⟨Bl, hBl⟩ : ∃ Bl, Bl = w.heap.size + 1 := ⟨_, rfl⟩
  rw [← hBl] at x1 x2 ⊢
  obtain ⟨Bt, hBt⟩ : ∃ Bt, Bt = Bl + 1 := ⟨_, rfl⟩
  rw [← hBt] at x2 ⊢
  have HLL : Hid (fromS x0 T = L.dropWhile (fun y => decide (compareS y e < 0))) := by
    unfold Hid
    rw [fromS_same (y := e) (fun z => (compareS_same ⟨rfl, rfl, rfl, rfl, rfl, rfl, rfl⟩ hsx).trans (compareS_noval z e _ _)), fromS_drop e T (by rw [h3]; exact hb.srt), h3]
  have HLe : Hid ((fromS x0 T).length ≤ L.length) := by
    unfold Hid
    rw [HLL.out]
    exact (List.dropWhile_sublist _).length_le
  have q1 : w.heap.size + 1 ≤ Bl := by omega
  have q2 : Bl + 2 ≤ V.heap.size := by omega
  clear HA HX1 HB1 bV sV hsx hBl hBt
  have hT2 : IsT (fun i => G i ∧ i < w.heap.size) V p T := h2.lt.kept (KpG.of b2)
  have hb2 := h1.later b2
  refine range_o (w := V) rfl (enters_of Try.func50 (by kernel_rfl) rfl) (encs := fun x : EntD => #[.agg x.cells]) (from_seqO hxb (hxe.mono (fun _ _ => trivial)) x2 hb2 hT2 (fun x hx => hlens x ((List.dropWhile_sublist _).subset (HLL.out ▸ hx)))) (fun h k => h.trans k) (fun X o o' ho hc => KpO.put o o' (by omega) ho hc) (fun _ => rfl)
    (fun pre X => GroO w Bl (V.heap.size + 6) L.length pre X)
    (fun c pre X => False)
    (fun s X h => by have := h.gro.size; have := h.gro.below.size; omega)
    (fun s X Z hX h tu => h.turn tu (by omega))
    (fun c s X Z hX h tu => h)
    ⟨⟨⟨_, x1, World.ownsRow_nil _ _ _ _⟩, by simp, b2, by omega⟩, by simp, OL.nil _ _⟩
    (fun pre x a' X => ∃ Bx s, V.heap.size + 6 ≤ Bx ∧ EBox X Bx x ∧ NxC (fromS x0 T) (V.heap.size + 2) pre x X ∧ (O3 X s x ∧ w.heap.size ≤ s ∧ ∀ y ∈ pre, Und y s) ∧ a' = { tmps := #[.pointer (some ⟨t, 0, none⟩), .agg #[.slice ar0 nr0 cr0, .int .i64 e.fam, .slice aq0 nq0 cq0, .int .i64 e.ts, .int .i64 e.seq, .int .i64 e.kind, .slice av0 nv0 cv0], undef, .pointer (some ⟨w.heap.size, 0, none⟩), .slice none 0 0, .pointer (some ⟨Bl, 0, none⟩), .pointer (some ⟨Bx, 0, none⟩), .pointer (some ⟨t, 0, none⟩), .agg #[.slice ar0 nr0 cr0, .int .i64 e.fam, .slice aq0 nq0 cq0, .int .i64 e.ts, .int .i64 e.seq, .int .i64 e.kind, .slice av0 nv0 cv0], .func (.func 50) #[] #[.pointer (some ⟨Bt, 0, none⟩), .pointer (some ⟨Bf, 0, none⟩)], .agg x.cells, undef, undef, undef, undef, undef], defers := [] })
    (fun pre x a' _ X Z hX ⟨Bx, s, k0, k1, k2, k4, k3⟩ tu => ⟨Bx, s, k0, tu.cells _ _ k1 rfl, ⟨Nat.le_trans k2.1 tu.below.size, k2.2.1, k2.2.2.keptC tu.toC⟩, ⟨k4.1.turn tu, k4.2⟩, k3⟩)
    ?assign ?body ?done ?stop (fun c s X h => h.elim)
  case assign =>
    intro l' pre x Wp X K hip hi hsX hgd0 hK
    have hgd := hgd0.1
    have HO : Hid (∀ Z, Turn V.heap.size X Z → O3 Z Wp.heap.size x ∧ w.heap.size ≤ Wp.heap.size ∧ ∀ y ∈ pre, Und y Wp.heap.size) := fun Z tz => ⟨hgd0.2.1.turn tz, hip.gro.below.size, fun y hy g hg => ((hip.ol.own y hy).lt g hg).2⟩
    have HO := Lib.hid (HO.out _ (Turn.of ((Below.refl X.heap.size X).alloc (Nat.le_refl _) (.cells x.cells 30)) (by omega)))
    clear hgd0
    have hsX' : V.heap.size + 6 ≤ X.heap.size := by have := hgd.1; omega
    obtain ⟨vr, fam, vq, ts, seq, kind, vv, row, qual, val⟩ := x
    have r1 : Rd X vr row := hgd.2.2.1.1
    have r2 : Rd X vq qual := hgd.2.2.2.1.1
    have r3 : Rd X vv val := hgd.2.2.2.2.1
    obtain ⟨ar, nr, cr, rfl⟩ := rd_slice r1
    obtain ⟨aq, nq, cq, rfl⟩ := rd_slice r2
    obtain ⟨av, nv, cv, rfl⟩ := rd_slice r3
    have hbb := (Below.refl X.heap.size X).alloc (Nat.le_refl _) (.cells (EntD.mk (.slice ar nr cr) fam (.slice aq nq cq) ts seq kind (.slice av nv cv) row qual val).cells 30)
    have tu := Turn.of (B := V.heap.size) hbb (by omega)
    have HI : Hid (GroO w Bl (V.heap.size + 6) L.length pre _) := hi.turn tu (by omega)
    have HN : Hid (NxC (fromS x0 T) (V.heap.size + 2) pre _ _) := ⟨Nat.le_trans hgd.1 tu.below.size, hgd.2.1, hgd.2.2.keptC tu.toC⟩
    have HT : Hid (KpO (fun i => G i ∧ i < w.heap.size) (V.heap.size + 2) X _) := ⟨tu.toC, Oth.of hbb⟩
    have HX : Hid (EBox (X.alloc (.cells (EntD.mk (.slice ar nr cr) fam (.slice aq nq cq) ts seq kind (.slice av nv cv) row qual val).cells 30)) X.heap.size _) := EBox.new X _
    clear hbb tu hi hgd r1 r2 r3
    simp only [EntD.cells] at *
    gi_wp2
    exact hK _ _ ((KeepsOthers.alloc _ _).from _) HT.out HI.out ⟨X.heap.size, Wp.heap.size, hsX', HX.out, HN.out, HO.out, rfl⟩
  case body =>
    rintro l' pre x a' X ⟨hg, hl, hol⟩ ⟨Bx, s, hBx, bx, hnx, ho, rfl⟩
    have HOl0 := Lib.hid (hol.snoc (ho.1.mono ho.2.1) (fun y hy g h1 h2 => by
      have := ho.2.2 y hy g h1
      have := (ho.1.lt g h2).1
      omega))
    clear ho hol
    obtain ⟨v, k1, k2⟩ := hg.box
    have hX8 : V.heap.size + 6 ≤ X.heap.size := by have := hnx.1; omega
    have hlen1 : pre.length + 1 ≤ L.length := by
      obtain ⟨q, hq1, hq2⟩ := hnx.2.1
      have e1 := hq2.len
      have e2 := hq1.length_le
      have e3 := HLe.out
      simp at e1
      omega
    obtain ⟨vr, fam, vq, ts, seq, kind, vv, row, qual, val⟩ := x
    have r1 : Rd X vr row := hnx.2.2.1.1
    have r2 : Rd X vq qual := hnx.2.2.2.1.1
    have r3 : Rd X vv val := hnx.2.2.2.2.1
    obtain ⟨ar, nr, cr, rfl⟩ := rd_slice r1
    obtain ⟨aq, nq, cq, rfl⟩ := rd_slice r2
    obtain ⟨av, nv, cv, rfl⟩ := rd_slice r3
    obtain ⟨xe, hxe⟩ : ∃ xe : EntD, xe = ⟨.slice ar nr cr, fam, .slice aq nq cq, ts, seq, kind, .slice av nv cv, row, qual, val⟩ := ⟨_, rfl⟩
    obtain ⟨i0, hi, hz0, hz1, hz2⟩ := info_parts info_ent
    have HOl : Hid (OL X w.heap.size (pre ++ [xe])) := by rw [hxe]; exact HOl0.out
    clear HOl0
    have HX : Hid (EOk (fun i => V.heap.size + 6 ≤ i) X xe) := by rw [hxe]; exact hnx.2.2.mono (fun i hi => by omega)
    have HK : Hid (Bxd X Bl 22 v ∧ X.ownsRow (V.heap.size + 6) 30 7 v pre.length (evals pre)) := ⟨k1, k2⟩
    have HG : Hid (Gro w Bl (V.heap.size + 6) pre X) := hg
    have kc := k1.cell
    have kf := k1.fz
    obtain ⟨c0, c1, c2, c3, c4, c5, c6⟩ := (⟨bx.vr, bx.fam, bx.vq, bx.ts, bx.seq, bx.kind, bx.vv⟩ : _ ∧ _ ∧ _ ∧ _ ∧ _ ∧ _ ∧ _)
    simp only at c0 c1 c2 c3 c4 c5 c6
    obtain ⟨av0, nv0, cv0, rfl⟩ : ∃ a0 n0 c0, v = .slice a0 n0 c0 := by
      rcases k2.2 with ⟨rfl, _⟩ | ⟨g, cap, cur, rfl, _⟩
      · exact ⟨_, _, _, rfl⟩
      · exact ⟨_, _, _, rfl⟩
    have hcells : ∀ j u, (EntD.cells xe).toList[j]? = some u → (X.alloc (.cells xe.cells 30)).cell? ((⟨X.heap.size, 0, none⟩ : Addr).add j) = some u := fun j u hu => by
      have e : (⟨X.heap.size, 0, none⟩ : Addr).add j = ⟨X.heap.size, j, none⟩ := by unfold Addr.add; split <;> simp_all
      rw [e]
      have hb := World.alloc_heap_new X (.cells xe.cells 30)
      simp only [World.cell?, hb]
      rw [← Array.getElem?_toList]; exact hu
    have hone : ∀ u ∈ (EntD.cells xe).toList, u.oneCell' = true := by rw [hxe]; simp [EntD.cells, Value.oneCell']
    have hxl : (EntD.cells xe).toList.length = 1 * 7 := by rw [hxe]; simp [EntD.cells]
    have exe : xe.cells = #[.slice ar nr cr, .int .i64 fam, .slice aq nq cq, .int .i64 ts, .int .i64 seq, .int .i64 kind, .slice av nv cv] := by rw [hxe]; rfl
    rw [exe] at hcells hone hxl
    simp only [EntD.cells]
    clear hg k1 k2 bx r1 r2 r3 hnx h1 h2 hT2 hb2 x1 x2 hb
    gi_wp2_with (gi_at_builtin; refine wpListIn_append_own _ rfl _ _ 22 rfl (V.heap.size + 6) 30 i0 _ 7 104 und_ents hi hz0 hz1 hz2 rfl (by decide) _ _ _ rfl (HK.out.2.alloc _) ⟨X.heap.size, 0, none⟩ 1 1 _ rfl hxl hcells hone (by show _ ≤ maxLen; unfold maxLen; omega) (by omega) (by rw [World.size_alloc]; omega) ?_; intro v' w1 hown' hgrow hnil; obtain ⟨g', cap', rfl⟩ := ownsRow_succ hown'; have kb1 : Bxd w1 Bl 22 _ := (HK.out.1.keep (Below.heap_alloc X _ _ (by omega))).keep (hgrow.block _ (by rw [World.size_alloc]; omega) (fun e => by have := (own_at HK.out.2 e.symm).1; omega)); have kc1 := kb1.cell; have kf1 := kb1.fz)
    have bA : Below X.heap.size X (X.alloc (.cells #[.slice ar nr cr, .int .i64 fam, .slice aq nq cq, .int .i64 ts, .int .i64 seq, .int .i64 kind, .slice av nv cv] 30)) := (Below.refl _ X).alloc (Nat.le_refl _) _
    have kst : ∀ i, i < X.heap.size → i < V.heap.size + 6 → i ≠ Bl → (w1.setCell ⟨Bl, 0, none⟩ (.slice (some ⟨g', 0, none⟩) (pre.length + 1) cap')).heap[i]? = X.heap[i]? := fun i h1 h2 h3 =>
      (Below.heap_setCell w1 ⟨Bl, 0, none⟩ _ i h3).trans ((hgrow.block i (by rw [World.size_alloc]; omega) (fun e => by have := (own_at HK.out.2 e.symm).1; omega)).trans (Below.heap_alloc X _ i h1))
    have szF : X.heap.size ≤ (w1.setCell ⟨Bl, 0, none⟩ (.slice (some ⟨g', 0, none⟩) (pre.length + 1) cap')).heap.size := by rw [World.size_setCell]; exact Nat.le_trans bA.size hgrow.size
    have hKO : KeepsOthers X (w1.setCell ⟨Bl, 0, none⟩ (.slice (some ⟨g', 0, none⟩) (pre.length + 1) cap')) := ((KeepsOthers.alloc X _).trans (KeepsOthers.of_grownBy hgrow (fun j o hj ho => by
      obtain ⟨_, cur, hc⟩ := own_at (HK.out.2.alloc _) hj.symm.symm
      rw [hc] at ho; cases ho; rfl))).trans (KeepsOthers.setCell _ _ _)
    have hKU : KU X (w1.setCell ⟨Bl, 0, none⟩ (.slice (some ⟨g', 0, none⟩) (pre.length + 1) cap')) := ((KU.of bA).trans (KU.grown hgrow (fun r hr => by
      obtain ⟨_, cur, hc⟩ := own_at (HK.out.2.alloc _) hr
      exact ⟨cur, _, _, hc, by decide⟩))).trans (KU.set kb1 (by decide) _ _)
    refine ⟨hKO.from _, ⟨⟨szF, fun i o hi ho hg => ?_⟩, szF, fun i o hB hi ho => hKO.same i o hi ho⟩, ⟨⟨⟨_, kb1.set _, ?_⟩, fun y hy => ?_, ?_, ?_⟩, by simp; omega, by have := HOl.out.ku hKU; rw [hxe] at this; exact this⟩⟩
    · rw [kst i (Array.getElem?_eq_some_iff.1 hi).1 (by omega) (by omega)]; exact hi
    · rw [evals_snoc, List.length_append]
      have := ownsRow_setCell_below hown' (a := ⟨Bl, 0, none⟩) (show Bl < V.heap.size + 6 by omega) (.slice (some ⟨g', 0, none⟩) (pre.length + 1) cap')
      exact this
    · simp only [List.mem_append, List.mem_singleton] at hy
      rcases hy with hy | rfl
      · exact (HG.out.ents y hy).ku hKU
      · have := HX.out.ku hKU
        rw [hxe] at this
        exact this
    · have b0 := HG.out.below
      refine ⟨?_, ?_, ?_, Nat.le_trans b0.size szF, fun i hi => (kst i (by have := b0.size; omega) (by omega) (by omega)).trans (b0.block i hi)⟩
      · exact (hgrow.os.trans bA.os).trans b0.os
      · exact (hgrow.tape.trans bA.tape).trans b0.tape
      · exact (hgrow.output.trans bA.output).trans b0.output
    · have := HG.out.size; omega
  case done =>
    rintro D xs X hD hsm ⟨hg, hl, hol⟩ hdf
    obtain ⟨v, k1, k2⟩ := hg.box
    have kc := k1.cell
    gi_wp2
    have tu := Turn.put (B := V.heap.size) (.deferred none) (by have := hg.size; have := hg.below.size; omega) hD hdf rfl
    refine ⟨by simp, .inl ⟨_, _, rfl, run_takeDeferred hdf, ?_⟩⟩
    refine ⟨_, results_tmp rfl _ _ _, v, xs, rfl, ?_, HLL.out ▸ hsm, fun x hx => ((hg.ents x hx).keptC tu.toC).mono (fun i hi => by omega), hol.turn tu, hg.below.trans (tu.below.mono (by omega))⟩
    exact ownsRow_mono (ownsRow_turn k2 tu) (by omega)
  case stop =>
    rintro D c pre X hD hsp h hdf
    exact h.elim
end Go.Proofs.Ytnjopfdeapclhaa

namespace Go.Proofs.Ytnjopfdeapclhaa
open Go.RowKit Go.Shelf
set_option linter.unusedVariables false
attribute [local go_sem] Oper.semAt_some

theorem cmp_at (a b c a' b' c' : Value) (s t : Int) : compareS (atD a b c s) (atD a' b' c' t) = cmpI t s := by
  unfold compareS cmpsS atD
  simp [firstNZ, ordC, aheadS, cmpI]
  exact fun h => h.symm
theorem check_at (a b c : Value) (s : Int) (h : 1 ≤ s ∧ s ≤ 100) : checkS (atD a b c s) = 0 := by
  unfold checkS atD
  simp
  omega

/-- A table alone, behind a box for the answer. -/
structure Td (w : World) (L : List EntD) (k : Int) (W : World) : Prop where
  box : Bxd W w.heap.size 4 (.bool false)
  tab : Tb (fun i => w.heap.size + 1 < i) W (w.heap.size + 1) L k false
  below : Below w.heap.size w W
  size : w.heap.size + 2 ≤ W.heap.size
theorem Td.later {w W W' : World} {L : List EntD} {k : Int} (h : Td w L k W) (b : Below W.heap.size W W') : Td w L k W' :=
  ⟨h.box.keep (b.block _ h.box.lt), h.tab.later b, h.below.trans (b.mono h.below.size), Nat.le_trans h.size b.size⟩
theorem Td.apart {w W W' : World} {L L' : List EntD} {k k' : Int} (h : Td w L k W) (b : Apart (w.heap.size + 1) W W') (t : Tb (fun i => w.heap.size + 1 < i) W' (w.heap.size + 1) L' k' false) : Td w L' k' W' :=
  ⟨h.box.keep (b.block _ h.box.lt (by omega)), t, h.below.trans (b.below (by omega) h.below.size), Nat.le_trans h.size b.size⟩
theorem Td.hG {w W : World} {L : List EntD} {k : Int} (h : Td w L k W) : ∀ i, W.heap.size ≤ i → w.heap.size + 1 < i := fun i hi => by have := h.size; omega

theorem same_at {a b c : Value} {s : Int} {x y : EntD} {a' b' c' : Value} {t : Int} (hx : EntD.Same x (atD a b c s)) (hy : EntD.Same y (atD a' b' c' t)) : compareS x y = cmpI t s := (compareS_same hx hy).trans (cmp_at ..)

/-- The first Add of told. -/
theorem td_first {w W : World} {k : Int} {a b c : Value} (h : Td w [] k W) (he : EntD.Ok W (atD a b c 4)) :
    Calls Try.prog 9 #[.pointer (some ⟨w.heap.size + 1, 0, none⟩), .agg (atD a b c 4).cells] W fun z w' => z = .returned (.int .i64 0) ∧ ∃ x k, EntD.Same x (atD a b c 4) ∧ Td w [x] k w' := by
  refine (add_tb h.tab he h.hG (by simp)).mono ?_
  rintro z w' ⟨n, rfl, hap, ⟨h0, _, h2⟩ | ⟨rfl, _, _, _, A, B, x, h3, h4, h5⟩⟩
  · obtain ⟨⟨y, hy, _⟩, _⟩ := h2 (check_at _ _ _ _ (by omega)) rfl
    cases hy
  · obtain ⟨rfl, rfl⟩ := List.append_eq_nil_iff.1 h3.symm
    exact ⟨rfl, x, _, h4, h.apart hap h5⟩
theorem td_second {w W : World} {k : Int} {a b c a' b' c' : Value} {x : EntD} (h : Td w [x] k W) (hx : EntD.Same x (atD a' b' c' 4)) (he : EntD.Ok W (atD a b c 5)) :
    Calls Try.prog 9 #[.pointer (some ⟨w.heap.size + 1, 0, none⟩), .agg (atD a b c 5).cells] W fun z w' => z = .returned (.int .i64 0) ∧ ∃ y k, EntD.Same y (atD a b c 5) ∧ Td w [y, x] k w' := by
  refine (add_tb h.tab he h.hG (by simp)).mono ?_
  rintro z w' ⟨n, rfl, hap, ⟨h0, _, h2⟩ | ⟨rfl, _, _, _, A, B, y, h3, h4, h5⟩⟩
  · obtain ⟨⟨y, hy, hc⟩, _⟩ := h2 (check_at _ _ _ _ (by omega)) rfl
    simp only [List.mem_singleton] at hy
    subst hy
    rw [same_at (show EntD.Same _ _ from ⟨rfl, rfl, rfl, rfl, rfl, rfl, rfl⟩) hx] at hc
    simp [cmpI] at hc
  · refine ⟨rfl, y, k + ((packL (atD a b c 5)).length : Nat), h4, ?_⟩
    cases A with
    | nil =>
      simp only [List.nil_append] at h3 h5
      subst h3
      exact h.apart hap h5
    | cons q A =>
      simp only [List.cons_append, List.cons.injEq] at h3
      obtain ⟨rfl, h3⟩ := h3
      obtain ⟨rfl, rfl⟩ := List.append_eq_nil_iff.1 h3.symm
      have := h5.srt
      simp only [Srt, List.cons_append, List.nil_append, List.pairwise_cons, List.mem_singleton] at this
      have h6 := this.1 y (by simp)
      rw [same_at hx h4] at h6
      simp [cmpI] at h6
theorem td_third {w W : World} {k : Int} {a b c a' b' c' : Value} {x y : EntD} (h : Td w [y, x] k W) (hy : EntD.Same y (atD a' b' c' 5)) (he : EntD.Ok W (atD a b c 5)) :
    Calls Try.prog 9 #[.pointer (some ⟨w.heap.size + 1, 0, none⟩), .agg (atD a b c 5).cells] W fun z w' => z = .returned (.int .i64 80) ∧ Td w [y, x] k w' := by
  refine (add_tb h.tab he h.hG (by simp)).mono ?_
  rintro z w' ⟨n, rfl, hap, ⟨h0, h1, h2⟩ | ⟨rfl, _, _, hn, A, B, z, h3, h4, h5⟩⟩
  · obtain ⟨_, rfl⟩ := h2 (check_at _ _ _ _ (by omega)) rfl
    exact ⟨rfl, h.apart hap h1⟩
  · exact absurd ⟨y, by simp, by rw [same_at (show EntD.Same _ _ from ⟨rfl, rfl, rfl, rfl, rfl, rfl, rfl⟩) hy]; simp [cmpI]⟩ hn
theorem td_new (w W : World) (hb : Bxd W w.heap.size 4 (.bool false)) (hs : W.heap.size = w.heap.size + 1) (hbl : Below w.heap.size w W) :
    Calls Try.prog 8 #[] W fun z w' => z = .returned (.pointer (some ⟨w.heap.size + 1, 0, none⟩)) ∧ Td w [] 0 w' := by
  refine (new_any W).mono ?_
  rintro z w' ⟨rfl, h1, h2, h3⟩
  rw [hs] at h1
  refine ⟨by rw [hs], hb.keep (h3.block _ hb.lt), ⟨by omega, List.Pairwise.nil, by simp, by simp, none, .leaf, h1, rfl, rfl⟩, hbl.trans (h3.mono (by omega)), by omega⟩
theorem Sm.at0 {x : EntD} {q : List EntD} {y z : EntD} (h : Sm [x] q) (hq : q <+: [y, z]) : EntD.Same x y := by
  cases q with
  | nil => exact h.elim
  | cons a q =>
    obtain ⟨r, hr⟩ := hq
    simp only [List.cons_append, List.cons.injEq] at hr
    rw [← hr.1]; exact h.1
/-- What a round over two is told. -/
theorem nx2 {y z : EntD} {B : Nat} {pre : List EntD} {x : EntD} {X : World} (h : NxC [y, z] B pre x X) : (pre.length = 0 ∧ EntD.Same x y) ∨ (pre.length = 1 ∧ EntD.Same x z) := by
  obtain ⟨_, ⟨q, ⟨r, hr⟩, hs⟩, _⟩ := h
  have hl := hs.len
  have hl2 := congrArg List.length hr
  simp at hl hl2
  match pre, q, hs, hr with
  | [], [a], hs, hr =>
    simp only [List.cons_append, List.nil_append, List.cons.injEq] at hr
    exact .inl ⟨rfl, by rw [← hr.1]; exact hs.1⟩
  | [p], [a, b], hs, hr =>
    simp only [List.cons_append, List.nil_append, List.cons.injEq] at hr
    exact .inr ⟨rfl, by rw [← hr.2.1]; exact hs.2.1⟩
  | [], [], hs, _ => exact hs.elim
  | [], a :: b :: q, hs, _ => exact hs.2.elim
  | [p], [], hs, _ => exact hs.elim
  | [p], [a], hs, _ => exact hs.2.elim
  | [p], a :: b :: c :: q, hs, _ => exact hs.2.2.elim
  | p :: p' :: pre, q, hs, hr => simp at hl; omega
end Go.Proofs.Ytnjopfdeapclhaa
