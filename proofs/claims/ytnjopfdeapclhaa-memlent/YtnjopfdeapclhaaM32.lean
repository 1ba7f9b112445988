import Derived.Test.YtnjopfdeapclhaaM31
import Derived.Test.YtnjopfdeapclhaaJ17
namespace Go.Proofs.Ytnjopfdeapclhaa
open Go.RowKit Go.Shelf
set_option linter.unusedVariables false
attribute [local go_sem] Oper.semAt_some

theorem dropWhile_all {α : Type} {p : α → Bool} : ∀ {l : List α}, (∀ y ∈ l, p y = true) → l.dropWhile p = []
  | [], _ => rfl
  | y :: l, h => by rw [List.dropWhile_cons, if_pos (h y (by simp))]; exact dropWhile_all (fun z hz => h z (by simp [hz]))
theorem fromS_drop (x : EntD) : ∀ T : BT, Srt T.ord → fromS x T = T.ord.dropWhile (fun y => decide (compareS y x < 0))
  | .leaf, _ => rfl
  | .node l e r, h => by
    simp only [BT.ord] at h ⊢
    have h1 : Srt l.ord := (List.pairwise_append.1 h).1
    have h2 := (List.pairwise_append.1 h).2.1
    have h3 : Srt r.ord := (List.pairwise_cons.1 h2).2
    rw [List.dropWhile_append, fromS]
    split
    · rename_i hc
      have e1 : l.ord.dropWhile (fun y => decide (compareS y x < 0)) = [] := by
        refine dropWhile_all fun y hy => ?_
        have := (List.pairwise_append.1 h).2.2 y hy e (by simp)
        simpa using cmp_lt_trans this hc
      rw [e1, fromS_drop x r h3]
      simp [hc]
    · rename_i hc
      rw [fromS_drop x l h1]
      split
      · rename_i hn
        have : l.ord.dropWhile (fun y => decide (compareS y x < 0)) = [] := by simpa using hn
        rw [this]
        simp [hc]
      · rfl
theorem fromS_same {x y : EntD} (h : ∀ z, compareS z x = compareS z y) : ∀ T : BT, fromS x T = fromS y T
  | .leaf => rfl
  | .node l e r => by rw [fromS, fromS, h e, fromS_same h l, fromS_same h r]
theorem compareS_noval (z e : EntD) (v : Value) (l : List Nat) : compareS z { e with vv := v, val := l } = compareS z e := rfl

set_option maxRecDepth 100000 in
set_option maxHeartbeats 4000000 in
/-- From: told exactly. -/
theorem from_ans {w : World} {e : EntD} {v : Option Addr} (he : EntD.Ok w e) (hl : e.row.length ≤ 140737488355328 ∧ e.qual.length ≤ 140737488355328) :
    Calls Try.prog 27 #[.pointer v, .agg e.cells] w fun z w' => ∃ Bf x, z = .returned (.func (.func 50) #[] #[.pointer (some ⟨w.heap.size, 0, none⟩), .pointer (some ⟨Bf, 0, none⟩)]) ∧ Bxd w' w.heap.size 24 (.pointer v) ∧ EBox w' Bf x ∧ EntD.Same x { e with vv := .slice none 0 0, val := [] } ∧ EOk (fun i => w.heap.size ≤ i) w' x ∧ Below w.heap.size w w' ∧ w.heap.size + 2 ≤ w'.heap.size := by
  have A1 := (Below.refl w.heap.size w).alloc (Nat.le_refl _) (.cells #[.pointer v] 24)
  obtain ⟨d, hd⟩ : ∃ d : EntD, d = { e with vv := .slice none 0 0, val := [] } := ⟨_, rfl⟩
  have A2 := A1.alloc A1.size (.cells d.cells 30)
  have hed : EntD.Ok ((w.alloc (.cells #[.pointer v] 24)).alloc (.cells d.cells 30)) d := by
    rw [hd]
    rw [hd] at A2
    exact ⟨he.1.later A2, he.2.1.later A2, Rd.nil _⟩
  have HC : Hid (Calls Try.prog 34 _ _ _) := copyOf_any hed (by rw [hd]; exact ⟨hl.1, hl.2, by simp⟩)
  have HZ : Hid (Bxd ((w.alloc (.cells #[.pointer v] 24)).alloc (.cells d.cells 30)) w.heap.size 24 (.pointer v) ∧ ((w.alloc (.cells #[.pointer v] 24)).alloc (.cells d.cells 30)).heap.size = w.heap.size + 2) := ⟨(Bxd.new w _ _).keep (Below.heap_alloc _ _ _ (by simp)), by simp⟩
  have HA : Hid (Below w.heap.size w ((w.alloc (.cells #[.pointer v] 24)).alloc (.cells d.cells 30))) := A2
  obtain ⟨ar, nr, cr, e1⟩ := rd_slice he.1
  obtain ⟨aq, nq, cq, e2⟩ := rd_slice he.2.1
  obtain ⟨av, nv, cv, e3⟩ := rd_slice he.2.2
  have ed : d.cells = #[e.vr, .int .i64 e.fam, e.vq, .int .i64 e.ts, .int .i64 e.seq, .int .i64 e.kind, .slice none 0 0] := by rw [hd]; rfl
  have HD : Hid (∀ x, EntD.Same x d → EntD.Same x { e with vv := .slice none 0 0, val := [] }) := fun x h => by rw [← hd]; exact h
  rw [ed] at HC HA HZ
  unfold EntD.cells
  rw [e1, e2] at HC HA HZ
  rw [e1, e2, e3]
  clear A1 A2 he hl hed ed hd e1 e2 e3
  go_enter Try.func27, Try.ntmps27
  go_wp2_with fail
  refine Calls.mono HC.out ?_
  rintro z w1 ⟨x, rfl, hsm, hx, hb⟩
  have hsx := Lib.hid (HD.out _ hsm)
  have B1 := HA.out.trans (hb.mono HA.out.size)
  have z1 := Lib.hid (HZ.out.1.keep (hb.block _ HZ.out.1.lt))
  have z2 := Lib.hid (Nat.le_trans (Nat.le_of_eq HZ.out.2.symm) hb.size)
  have HX : Hid (EOk (fun i => w.heap.size ≤ i) (w1.alloc (.cells x.cells 30)) x) := (hx.mono (fun i hi => Nat.le_trans HA.out.size hi)).kept (KpG.of ((Below.refl w1.heap.size w1).alloc (Nat.le_refl _) _))
  have HE : Hid (EBox (w1.alloc (.cells x.cells 30)) w1.heap.size x) := EBox.new w1 x
  obtain ⟨br, mr, dr, e1⟩ := rd_slice hx.ok.1
  obtain ⟨bq, mq, dq, e2⟩ := rd_slice hx.ok.2.1
  obtain ⟨bv, mv, dv, e3⟩ := rd_slice hx.ok.2.2
  have ex : x.cells = #[.slice br mr dr, .int .i64 x.fam, .slice bq mq dq, .int .i64 x.ts, .int .i64 x.seq, .int .i64 x.kind, .slice bv mv dv] := by unfold EntD.cells; rw [e1, e2, e3]
  rw [ex] at HX HE ⊢
  clear hx hb HC HA HD HZ hsm e1 e2 e3 ex
  go_wp2
  go_ret
  refine ⟨_, x, rfl, z1.out.keep (Below.heap_alloc _ _ _ z1.out.lt), HE.out, hsx.out, HX.out, B1.alloc B1.size _, ?_⟩
  rw [World.size_alloc]
  have := z2.out
  omega
set_option maxRecDepth 100000 in
set_option maxHeartbeats 4000000 in
theorem fromL_any {G : Nat → Prop} {w : World} {t : Nat} {L : List EntD} {k : Int} {f : Bool} {e : EntD} (he : EntD.Ok w e) (hel : e.row.length ≤ 140737488355328 ∧ e.qual.length ≤ 140737488355328) (hb : Tb G w t L k f) (hsz : L.length < 1000000000) :
    Calls Try.prog 21 #[.pointer (some ⟨t, 0, none⟩), .agg e.cells] w fun z w' => ∃ v xs, z = .returned v ∧ w'.ownsRow w.heap.size 30 7 v xs.length (evals xs) ∧ Sm xs (L.dropWhile (fun y => decide (compareS y e < 0))) ∧ (∀ x ∈ xs, EOk (fun i => w.heap.size ≤ i) w' x) ∧ Below w.heap.size w w' := by
  obtain ⟨p, T, h1, h2, h3⟩ := hb.tree
  have hlens := hb.lens
  refine (callsIn_wide (n := 9)).1 ?_
  refine callsIn_of_wp_marks Try.func21 rfl trivial ?_ rfl
  simp only [Try.ntmps21, List.size_toArray, List.length_cons, List.length_nil, Nat.reduceAdd, Nat.reduceSub, Array.replicate_succ, Array.replicate_zero, List.push_toArray, List.append_toArray, List.nil_append, List.cons_append]
  have hdd : ∀ k : Nat, (Fence.wide.depth.isSome = true → 1 ≤ k) := fun k h => by cases h
  have HA : Hid (∀ X, Below w.heap.size w X → Calls Try.prog 27 #[.pointer (some ⟨t, 0, none⟩), .agg e.cells] X _) := fun X bb => from_ans (he.later bb) hel
  obtain ⟨ar0, nr0, cr0, er⟩ := rd_slice he.1
  obtain ⟨aq0, nq0, cq0, eq⟩ := rd_slice he.2.1
  obtain ⟨av0, nv0, cv0, ev⟩ := rd_slice he.2.2
  have hec : e.cells = #[.slice ar0 nr0 cr0, .int .i64 e.fam, .slice aq0 nq0 cq0, .int .i64 e.ts, .int .i64 e.seq, .int .i64 e.kind, .slice av0 nv0 cv0] := by unfold EntD.cells; rw [er, eq, ev]
  have b0 := (Below.refl w.heap.size w).alloc (Nat.le_refl _) (.cells e.cells 30)
  have b1 := b0.alloc b0.size (.cells #[.slice none 0 0] 22)
  have HB1 : Hid (Below w.heap.size w ((w.alloc (.cells e.cells 30)).alloc (.cells #[.slice none 0 0] 22))) := b1
  have x1 : Bxd ((w.alloc (.cells e.cells 30)).alloc (.cells #[.slice none 0 0] 22)) (w.heap.size + 1) 22 (.slice none 0 0) := by
    have := Bxd.new (w.alloc (.cells e.cells 30)) 22 (.slice none 0 0)
    rwa [World.size_alloc] at this
  have HX1 := Lib.hid x1
  rw [hec] at HA HB1 HX1 ⊢
  clear hec er eq ev b1 x1 b0
  gi_wp2_with (refine ⟨trivial, ?_⟩; gi_at_call 27; refine (callsIn_wide.2 (HA.out _ HB1.out)).mono ?_; rintro e1 V ⟨Bf, x0, rfl, x2, hxb, hsx, hxe, bV, sV⟩)
  have b2 := HB1.out.trans (bV.mono HB1.out.size)
  have x1 := HX1.out.keep (bV.block _ HX1.out.lt)
  rw [World.size_alloc, World.size_alloc] at x2 sV
  have s2 : w.heap.size + 4 ≤ V.heap.size := by omega
  obtain ⟨Bl, hBl⟩ : ∃ Bl, Bl = w.heap.size + 1 := ⟨_, rfl⟩
  rw [← hBl] at x1 x2 ⊢
  obtain ⟨Bt, hBt⟩ : ∃ Bt, Bt = Bl + 1 := ⟨_, rfl⟩
  rw [← hBt] at x2 ⊢
  have HLL : Hid (fromS x0 T = L.dropWhile (fun y => decide (compareS y e < 0))) := by
    unfold Hid
    rw [fromS_same (y := e) (fun z => (compareS_same ⟨rfl, rfl, rfl, rfl, rfl, rfl, rfl⟩ hsx).trans (compareS_noval z e _ _)), fromS_drop e T (by rw [h3]; exact hb.srt), h3]
  have HLe : Hid ((fromS x0 T).length ≤ L.length) := by
    unfold Hid
    rw [HLL.out]
    exact (List.dropWhile_sublist _).length_le
  have q1 : w.heap.size + 1 ≤ Bl := by omega
  have q2 : Bl + 2 ≤ V.heap.size := by omega
  clear HA HX1 HB1 bV sV hsx hBl hBt
  have hT2 : IsT (fun i => G i ∧ i < w.heap.size) V p T := h2.lt.kept (KpG.of b2)
  have hb2 := h1.later b2
  refine range_wide (w := V) rfl (enters_of Try.func50 (by kernel_rfl) rfl) (encs := fun x : EntD => #[.agg x.cells]) (from_seq hxb (hxe.mono (fun _ _ => trivial)) x2 hb2 hT2 (fun x hx => hlens x ((List.dropWhile_sublist _).subset (HLL.out ▸ hx)))) (fun h k => h.trans k) (fun X o o' ho hc => KpO.put o o' (by omega) ho hc) (fun _ => rfl)
    (fun pre X => Gro w Bl (V.heap.size + 6) pre X ∧ pre.length ≤ L.length)
    (fun c pre X => False)
    (fun s X h => by have := h.1.size; have := h.1.below.size; omega)
    (fun s X Z hX ⟨h, hl⟩ tu => ⟨⟨by obtain ⟨v, k1, k2⟩ := h.box; exact ⟨v, k1.turn tu, ownsRow_turn k2 tu⟩, fun x hx => (h.ents x hx).keptC tu.toC, h.below.trans (tu.below.mono (by omega)), Nat.le_trans h.size (by have := tu.below.size; omega)⟩, hl⟩)
    (fun c s X Z hX h tu => h)
    ⟨⟨⟨_, x1, World.ownsRow_nil _ _ _ _⟩, by simp, b2, by omega⟩, by simp⟩
    (fun pre x a' X => ∃ Bx, V.heap.size + 6 ≤ Bx ∧ EBox X Bx x ∧ NxC (fromS x0 T) (V.heap.size + 2) pre x X ∧ a' = { tmps := #[.pointer (some ⟨t, 0, none⟩), .agg #[.slice ar0 nr0 cr0, .int .i64 e.fam, .slice aq0 nq0 cq0, .int .i64 e.ts, .int .i64 e.seq, .int .i64 e.kind, .slice av0 nv0 cv0], undef, .pointer (some ⟨w.heap.size, 0, none⟩), .slice none 0 0, .pointer (some ⟨Bl, 0, none⟩), .pointer (some ⟨Bx, 0, none⟩), .pointer (some ⟨t, 0, none⟩), .agg #[.slice ar0 nr0 cr0, .int .i64 e.fam, .slice aq0 nq0 cq0, .int .i64 e.ts, .int .i64 e.seq, .int .i64 e.kind, .slice av0 nv0 cv0], .func (.func 50) #[] #[.pointer (some ⟨Bt, 0, none⟩), .pointer (some ⟨Bf, 0, none⟩)], .agg x.cells, undef, undef, undef, undef, undef], defers := [] })
    (fun pre x a' _ X Z hX ⟨Bx, k0, k1, k2, k3⟩ tu => ⟨Bx, k0, tu.cells _ _ k1 rfl, ⟨Nat.le_trans k2.1 tu.below.size, k2.2.1, k2.2.2.keptC tu.toC⟩, k3⟩)
    ?assign ?body ?done ?stop (fun c s X h => h.elim)
  case assign =>
    intro l' pre x X K hi hsX hgd hK
    have hsX' : V.heap.size + 6 ≤ X.heap.size := by have := hgd.1; omega
    obtain ⟨vr, fam, vq, ts, seq, kind, vv, row, qual, val⟩ := x
    have r1 : Rd X vr row := hgd.2.2.1.1
    have r2 : Rd X vq qual := hgd.2.2.2.1.1
    have r3 : Rd X vv val := hgd.2.2.2.2.1
    obtain ⟨ar, nr, cr, rfl⟩ := rd_slice r1
    obtain ⟨aq, nq, cq, rfl⟩ := rd_slice r2
    obtain ⟨av, nv, cv, rfl⟩ := rd_slice r3
    have hbb := (Below.refl X.heap.size X).alloc (Nat.le_refl _) (.cells (EntD.mk (.slice ar nr cr) fam (.slice aq nq cq) ts seq kind (.slice av nv cv) row qual val).cells 30)
    have tu := Turn.of (B := V.heap.size) hbb (by omega)
    have HI : Hid (Gro w Bl (V.heap.size + 6) pre _ ∧ pre.length ≤ L.length) := (fun ⟨h, hl⟩ => ⟨⟨by obtain ⟨v, k1, k2⟩ := h.box; exact ⟨v, k1.turn tu, ownsRow_turn k2 tu⟩, fun x hx => (h.ents x hx).keptC tu.toC, h.below.trans (tu.below.mono (by omega)), Nat.le_trans h.size (by have := tu.below.size; omega)⟩, hl⟩) hi
    have HN : Hid (NxC (fromS x0 T) (V.heap.size + 2) pre _ _) := ⟨Nat.le_trans hgd.1 tu.below.size, hgd.2.1, hgd.2.2.keptC tu.toC⟩
    have HT : Hid (KpO (fun i => G i ∧ i < w.heap.size) (V.heap.size + 2) X _) := ⟨tu.toC, Oth.of hbb⟩
    have HX : Hid (EBox (X.alloc (.cells (EntD.mk (.slice ar nr cr) fam (.slice aq nq cq) ts seq kind (.slice av nv cv) row qual val).cells 30)) X.heap.size _) := EBox.new X _
    clear hbb tu hi hgd r1 r2 r3
    simp only [EntD.cells] at *
    gi_wp2
    exact hK _ _ ((KeepsOthers.alloc _ _).from _) HT.out HI.out ⟨X.heap.size, hsX', HX.out, HN.out, rfl⟩
  case body =>
    rintro l' pre x a' X ⟨hg, hl⟩ ⟨Bx, hBx, bx, hnx, rfl⟩
    obtain ⟨v, k1, k2⟩ := hg.box
    have hX8 : V.heap.size + 6 ≤ X.heap.size := by have := hnx.1; omega
    have hlen1 : pre.length + 1 ≤ L.length := by
      obtain ⟨q, hq1, hq2⟩ := hnx.2.1
      have e1 := hq2.len
      have e2 := hq1.length_le
      have e3 := HLe.out
      simp at e1
      omega
    obtain ⟨vr, fam, vq, ts, seq, kind, vv, row, qual, val⟩ := x
    have r1 : Rd X vr row := hnx.2.2.1.1
    have r2 : Rd X vq qual := hnx.2.2.2.1.1
    have r3 : Rd X vv val := hnx.2.2.2.2.1
    obtain ⟨ar, nr, cr, rfl⟩ := rd_slice r1
    obtain ⟨aq, nq, cq, rfl⟩ := rd_slice r2
    obtain ⟨av, nv, cv, rfl⟩ := rd_slice r3
    obtain ⟨xe, hxe⟩ : ∃ xe : EntD, xe = ⟨.slice ar nr cr, fam, .slice aq nq cq, ts, seq, kind, .slice av nv cv, row, qual, val⟩ := ⟨_, rfl⟩
    obtain ⟨i0, hi, hz0, hz1, hz2⟩ := info_parts info_ent
    have HX : Hid (EOk (fun i => V.heap.size + 6 ≤ i) X xe) := by rw [hxe]; exact hnx.2.2.mono (fun i hi => by omega)
    have HK : Hid (Bxd X Bl 22 v ∧ X.ownsRow (V.heap.size + 6) 30 7 v pre.length (evals pre)) := ⟨k1, k2⟩
    have HG : Hid (Gro w Bl (V.heap.size + 6) pre X) := hg
    have kc := k1.cell
    have kf := k1.fz
    obtain ⟨c0, c1, c2, c3, c4, c5, c6⟩ := (⟨bx.vr, bx.fam, bx.vq, bx.ts, bx.seq, bx.kind, bx.vv⟩ : _ ∧ _ ∧ _ ∧ _ ∧ _ ∧ _ ∧ _)
    simp only at c0 c1 c2 c3 c4 c5 c6
    obtain ⟨av0, nv0, cv0, rfl⟩ : ∃ a0 n0 c0, v = .slice a0 n0 c0 := by
      rcases k2.2 with ⟨rfl, _⟩ | ⟨g, cap, cur, rfl, _⟩
      · exact ⟨_, _, _, rfl⟩
      · exact ⟨_, _, _, rfl⟩
    have hcells : ∀ j u, (EntD.cells xe).toList[j]? = some u → (X.alloc (.cells xe.cells 30)).cell? ((⟨X.heap.size, 0, none⟩ : Addr).add j) = some u := fun j u hu => by
      have e : (⟨X.heap.size, 0, none⟩ : Addr).add j = ⟨X.heap.size, j, none⟩ := by unfold Addr.add; split <;> simp_all
      rw [e]
      have hb := World.alloc_heap_new X (.cells xe.cells 30)
      simp only [World.cell?, hb]
      rw [← Array.getElem?_toList]; exact hu
    have hone : ∀ u ∈ (EntD.cells xe).toList, u.oneCell' = true := by rw [hxe]; simp [EntD.cells, Value.oneCell']
    have hxl : (EntD.cells xe).toList.length = 1 * 7 := by rw [hxe]; simp [EntD.cells]
    have exe : xe.cells = #[.slice ar nr cr, .int .i64 fam, .slice aq nq cq, .int .i64 ts, .int .i64 seq, .int .i64 kind, .slice av nv cv] := by rw [hxe]; rfl
    rw [exe] at hcells hone hxl
    simp only [EntD.cells]
    clear hg k1 k2 bx r1 r2 r3 hnx h1 h2 hT2 hb2 x1 x2 hb
    gi_wp2_with (gi_at_builtin; refine wpListIn_append_own _ rfl _ _ 22 rfl (V.heap.size + 6) 30 i0 _ 7 104 und_ents hi hz0 hz1 hz2 rfl (by decide) _ _ _ rfl (HK.out.2.alloc _) ⟨X.heap.size, 0, none⟩ 1 1 _ rfl hxl hcells hone (by show _ ≤ maxLen; unfold maxLen; omega) (by omega) (by rw [World.size_alloc]; omega) ?_; intro v' w1 hown' hgrow hnil; obtain ⟨g', cap', rfl⟩ := ownsRow_succ hown'; have kb1 : Bxd w1 Bl 22 _ := (HK.out.1.keep (Below.heap_alloc X _ _ (by omega))).keep (hgrow.block _ (by rw [World.size_alloc]; omega) (fun e => by have := (own_at HK.out.2 e.symm).1; omega)); have kc1 := kb1.cell; have kf1 := kb1.fz)
    have bA : Below X.heap.size X (X.alloc (.cells #[.slice ar nr cr, .int .i64 fam, .slice aq nq cq, .int .i64 ts, .int .i64 seq, .int .i64 kind, .slice av nv cv] 30)) := (Below.refl _ X).alloc (Nat.le_refl _) _
    have kst : ∀ i, i < X.heap.size → i < V.heap.size + 6 → i ≠ Bl → (w1.setCell ⟨Bl, 0, none⟩ (.slice (some ⟨g', 0, none⟩) (pre.length + 1) cap')).heap[i]? = X.heap[i]? := fun i h1 h2 h3 =>
      (Below.heap_setCell w1 ⟨Bl, 0, none⟩ _ i h3).trans ((hgrow.block i (by rw [World.size_alloc]; omega) (fun e => by have := (own_at HK.out.2 e.symm).1; omega)).trans (Below.heap_alloc X _ i h1))
    have szF : X.heap.size ≤ (w1.setCell ⟨Bl, 0, none⟩ (.slice (some ⟨g', 0, none⟩) (pre.length + 1) cap')).heap.size := by rw [World.size_setCell]; exact Nat.le_trans bA.size hgrow.size
    have hKO : KeepsOthers X (w1.setCell ⟨Bl, 0, none⟩ (.slice (some ⟨g', 0, none⟩) (pre.length + 1) cap')) := ((KeepsOthers.alloc X _).trans (KeepsOthers.of_grownBy hgrow (fun j o hj ho => by
      obtain ⟨_, cur, hc⟩ := own_at (HK.out.2.alloc _) hj.symm.symm
      rw [hc] at ho; cases ho; rfl))).trans (KeepsOthers.setCell _ _ _)
    have hKU : KU X (w1.setCell ⟨Bl, 0, none⟩ (.slice (some ⟨g', 0, none⟩) (pre.length + 1) cap')) := ((KU.of bA).trans (KU.grown hgrow (fun r hr => by
      obtain ⟨_, cur, hc⟩ := own_at (HK.out.2.alloc _) hr
      exact ⟨cur, _, _, hc, by decide⟩))).trans (KU.set kb1 (by decide) _ _)
    refine ⟨hKO.from _, ⟨⟨szF, fun i o hi ho hg => ?_⟩, szF, fun i o hB hi ho => hKO.same i o hi ho⟩, ⟨⟨_, kb1.set _, ?_⟩, fun y hy => ?_, ?_, ?_⟩, by simp; omega⟩
    · rw [kst i (Array.getElem?_eq_some_iff.1 hi).1 (by omega) (by omega)]; exact hi
    · rw [evals_snoc, List.length_append]
      have := ownsRow_setCell_below hown' (a := ⟨Bl, 0, none⟩) (show Bl < V.heap.size + 6 by omega) (.slice (some ⟨g', 0, none⟩) (pre.length + 1) cap')
      exact this
    · simp only [List.mem_append, List.mem_singleton] at hy
      rcases hy with hy | rfl
      · exact (HG.out.ents y hy).ku hKU
      · have := HX.out.ku hKU
        rw [hxe] at this
        exact this
    · have b0 := HG.out.below
      refine ⟨?_, ?_, ?_, Nat.le_trans b0.size szF, fun i hi => (kst i (by have := b0.size; omega) (by omega) (by omega)).trans (b0.block i hi)⟩
      · exact (hgrow.os.trans bA.os).trans b0.os
      · exact (hgrow.tape.trans bA.tape).trans b0.tape
      · exact (hgrow.output.trans bA.output).trans b0.output
    · have := HG.out.size; omega
  case done =>
    rintro D xs X hD hsm ⟨hg, hl⟩ hdf
    obtain ⟨v, k1, k2⟩ := hg.box
    have kc := k1.cell
    gi_wp2
    have tu := Turn.put (B := V.heap.size) (.deferred none) (by have := hg.size; have := hg.below.size; omega) hD hdf rfl
    refine ⟨by simp, .inl ⟨_, _, rfl, run_takeDeferred hdf, ?_⟩⟩
    refine ⟨_, results_tmp rfl _ _ _, v, xs, rfl, ?_, HLL.out ▸ hsm, fun x hx => ((hg.ents x hx).keptC tu.toC).mono (fun i hi => by omega), hg.below.trans (tu.below.mono (by omega))⟩
    exact ownsRow_mono (ownsRow_turn k2 tu) (by omega)
  case stop =>
    rintro D c pre X hD hsp h hdf
    exact h.elim
end Go.Proofs.Ytnjopfdeapclhaa

