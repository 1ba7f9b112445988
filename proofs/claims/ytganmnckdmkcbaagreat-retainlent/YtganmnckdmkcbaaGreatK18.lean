import Derived.Test.YtganmnckdmkcbaaGreatK17
namespace Go.Proofs.YtganmnckdmkcbaaGreat
open Go.RowKit Go.Maps
set_option linter.unusedVariables false

theorem ebox_set7 {w : World} {g : Nat} {b : EntD} (h : EBox w g b) (x : EntD) :
    EBox (((((((w.setCell ⟨g, 0, none⟩ x.vr).setCell ⟨g, 1, none⟩ (.int .i64 x.fam)).setCell ⟨g, 2, none⟩ x.vq).setCell ⟨g, 3, none⟩ (.int .i64 x.ts)).setCell ⟨g, 4, none⟩ (.int .i64 x.seq)).setCell ⟨g, 5, none⟩ (.int .i64 x.kind)).setCell ⟨g, 6, none⟩ x.vv) g x ∧ w.grownBy (((((((w.setCell ⟨g, 0, none⟩ x.vr).setCell ⟨g, 1, none⟩ (.int .i64 x.fam)).setCell ⟨g, 2, none⟩ x.vq).setCell ⟨g, 3, none⟩ (.int .i64 x.ts)).setCell ⟨g, 4, none⟩ (.int .i64 x.seq)).setCell ⟨g, 5, none⟩ (.int .i64 x.kind)).setCell ⟨g, 6, none⟩ x.vv) (some g) := by
  refine ⟨?_, ?_⟩
  · have := ((((((h.set0 x.vr x.row).set1 x.fam).set2 x.vq x.qual).set3 x.ts).set4 x.seq).set5 x.kind).set6 x.vv x.val
    exact this
  · have s1 : ∀ (w : World) (i : Nat) (v : Value), w.grownBy (w.setCell ⟨g, i, none⟩ v) (some g) := fun w i v => by
      refine ⟨rfl, rfl, rfl, by rw [World.size_setCell]; exact Nat.le_refl _, fun j hj hne => Below.heap_setCell w ⟨g, i, none⟩ v j (fun z => hne (by rw [z]))⟩
    have tr : ∀ {a b c : World}, a.grownBy b (some g) → b.grownBy c (some g) → a.grownBy c (some g) := fun {a b c} h k => ⟨k.os.trans h.os, k.tape.trans h.tape, k.output.trans h.output, Nat.le_trans h.size k.size, fun j hj hne => (k.block j (Nat.lt_of_lt_of_le hj h.size) hne).trans (h.block j hj hne)⟩
    exact tr (tr (tr (tr (tr (tr (s1 _ _ _) (s1 _ _ _)) (s1 _ _ _)) (s1 _ _ _)) (s1 _ _ _)) (s1 _ _ _)) (s1 _ _ _)
structure Gw (w wr : World) (l : List EntD) (e bst : EntD) (t : Nat) : Prop where
  be : EBox wr w.heap.size e
  bb : EBox wr (w.heap.size + 1) bst
  best : Bst ((l.take t).map EntD.dat) e.dat bst.dat
  mem : bst = e ∨ bst ∈ l
  below : Below w.heap.size w wr
theorem Gw.later {w wr wr' : World} {l : List EntD} {e bst : EntD} {t : Nat} (h : Gw w wr l e bst t) (b : Below wr.heap.size wr wr') : Gw w wr' l e bst t :=
  ⟨h.be.later b, h.bb.later b, h.best, h.mem, h.below.trans (b.mono h.below.size)⟩
set_option maxRecDepth 100000 in
set_option maxHeartbeats 8000000 in
theorem refGroup_any {w : World} {a : Option Addr} {cap : Nat} {l : List EntD} {e : EntD} (hl : RdL3 w a cap l) (he : EntD.Ok w e) (hn : l.length ≤ 1353245080300) :
    Calls Tryz.prog 62 #[.slice a l.length cap, .agg e.cells] w fun r w' => ∃ b : En, r = .returned (.tuple #[.int .i64 (gkind b (gputs (l.map EntD.dat) e.dat)), .bool (b.seq == e.seq)]) ∧ Bst (l.map EntD.dat) e.dat b ∧ Below w.heap.size w w' := by
  obtain ⟨W, hW, A, hb⟩ := box2 w e e
  obtain ⟨N, hN⟩ : ∃ N, N = l.length := ⟨_, rfl⟩
  have hc := hl.cap
  rw [← hN] at hn hc ⊢
  have HG : Hid (Gw w W l e e 0) := ⟨(hb W (Below.refl _ _)).1, (hb W (Below.refl _ _)).2, by simp; exact Bst.nil _, .inl rfl, A⟩
  obtain ⟨_, a1, n1, e1, -⟩ := id he.1
  obtain ⟨_, a2, n2, e2, -⟩ := id he.2.1
  obtain ⟨_, a3, n3, e3, -⟩ := id he.2.2
  have HN := Lib.hid hN
  have HL := Lib.hid hl
  have HE := Lib.hid he
  have HEe := Lib.hid (And.intro e1 (And.intro e2 e3))
  unfold EntD.cells at hW ⊢
  rw [e1, e2, e3] at hW ⊢
  have HW := Lib.hid hW
  clear hW A hb hN hl he e1 e2 e3
  go_enter Tryz.func62, Tryz.ntmps62
  go_upto_region 2 with fail
  rw [← HW.out]
  clear HW
  go_wp2
  go_loopw [7, 8, 9, 10] (fun p i _ _ wr => ∃ (t : Nat) (bst : EntD), t ≤ N ∧ i = .int .i64 (t : Int) ∧ p = .int .i64 ((gputs ((l.take t).map EntD.dat) e.dat : Nat) : Int) ∧ Hid (Gw w wr l e bst t)) (fun _ i _ _ _ => N - (intOf i).toNat)
  case atStart => exact ⟨0, e, Nat.zero_le _, rfl, by simp [gputs], HG⟩
  case round =>
    clear HG
    obtain ⟨t, bst, ht, rfl, rfl, HQ⟩ := hrel
    have t0 : (0 : Int) ≤ (t : Int) := by omega
    obtain ⟨G, hG⟩ : ∃ G, G = gputs ((l.take t).map EntD.dat) e.dat := ⟨_, rfl⟩
    have hGl : G ≤ N := by
      rw [hG]
      unfold gputs
      refine Nat.le_trans (List.length_filter_le _ _) ?_
      rw [List.length_map, List.length_take]
      omega
    rw [← hG]
    have HGp := Lib.hid hG
    clear hG
    by_cases hlt : t < N
    · have hlt2 : (t : Int) < (N : Int) := by omega
      obtain ⟨x, hx⟩ : ∃ x, l[t]? = some x := ⟨l[t]'(by rw [← HN.out]; exact hlt), List.getElem?_eq_getElem _⟩
      have hrd := HL.out.later HQ.out.below
      have hok := hrd.ok x (List.mem_of_getElem? hx)
      rcases hrd.at_ with h0 | ⟨b, off, rfl, hc⟩
      · rw [h0] at hx; simp at hx
      have d0 := hc t x hx 0 _ rfl
      have d1 := hc t x hx 1 _ rfl
      have d2 := hc t x hx 2 _ rfl
      have d3 := hc t x hx 3 _ rfl
      have d4 := hc t x hx 4 _ rfl
      have d5 := hc t x hx 5 _ rfl
      have d6 := hc t x hx 6 _ rfl
      simp only [Nat.add_zero] at d0
      obtain ⟨_, f1, m1, g1, -⟩ := id hok.1
      obtain ⟨_, f2, m2, g2, -⟩ := id hok.2.1
      obtain ⟨_, f3, m3, g3, -⟩ := id hok.2.2
      obtain ⟨X, hX, AX, hbx, -⟩ := box1 wr x
      have KS : Hid (∀ Z, Below X.heap.size X Z → EBox Z wr.heap.size x ∧ Gw w Z l e bst t ∧ EntD.Ok Z x ∧ EntD.Ok Z e) := fun Z k => by
        have q := (HQ.out.later AX).later k
        exact ⟨hbx Z k, q, (hok.later AX).later k, HE.out.later q.below⟩
      have HGx := Lib.hid (And.intro g1 (And.intro g2 g3))
      unfold EntD.cells at hX
      rw [g1, g2, g3] at hX
      rw [g1] at d0
      rw [g2] at d2
      rw [g3] at d6
      have HX := Lib.hid hX
      have HXm := Lib.hid hx
      have HS : Hid (gputs ((l.take (t + 1)).map EntD.dat) e.dat = if gv x.dat e.dat = true ∧ x.kind ≠ 3 then G + 1 else G) := by
        unfold Hid
        rw [List.take_add_one, hx, List.map_append, HGp.out]
        exact gputs_snoc _ x.dat e.dat
      have HTk : Hid ((l.take (t + 1)).map EntD.dat = (l.take t).map EntD.dat ++ [x.dat]) := by
        unfold Hid
        rw [List.take_add_one, hx, List.map_append]
        rfl
      clear hrd hok hc hx hX AX hbx g1 g2 g3
      go_upto_region 7 with fail
      rw [← HX.out]
      clear HX d0 d1 d2 d3 d4 d5 d6
      obtain ⟨gg, hgg⟩ : ∃ gg, gg = gv x.dat e.dat := ⟨_, rfl⟩
      have HGg : Hid (gg = (decide (x.kind ≤ 3) && decide (x.ts = e.ts) && mates x.dat e.dat)) := by unfold Hid; rw [hgg]; rfl
      have HGq := Lib.hid hgg
      clear hgg
      go_cut [10] from 13 to 49 (fun s wx => s = .bool gg ∧ Hid (Below X.heap.size X wx))
      case first =>
        obtain ⟨b1, b2, o1, o2⟩ := KS.out _ (Below.refl _ _)
        obtain ⟨x0, x1, x2, x3, x4, x5, x6⟩ := b1.cells7
        have HV : Hid (Calls Tryz.prog 61 #[.agg x.cells] X _) := version_any
        have HMt : Hid (∀ Z, Below X.heap.size X Z → Calls Tryz.prog 55 #[.agg x.cells, .agg e.cells] Z fun r w' => r = .returned (.bool (mates x.dat e.dat)) ∧ Below Z.heap.size Z w') := fun Z k => mates_any (KS.out Z k).2.2.1 (KS.out Z k).2.2.2
        unfold EntD.cells at HV HMt
        clear b1 b2 o1 o2
        go_wp2_with fail
        refine Calls.mono HV.out ?_
        rintro r w2 ⟨rfl, bv⟩
        have BV := Lib.hid bv
        obtain ⟨b1, b2, o1, o2⟩ := KS.out _ bv
        clear bv x0 x1 x2 x3 x4 x5 x6 HV
        obtain ⟨x0, x1, x2, x3, x4, x5, x6⟩ := b1.cells7
        obtain ⟨y0, y1, y2, y3, y4, y5, y6⟩ := b2.be.cells7
        clear b1 b2 o1 o2
        by_cases c3 : x.kind ≤ 3
        · rw [decide_eq_true c3]
          by_cases ct : x.ts = e.ts
          · have dt : (x.ts == e.ts) = true := by simpa using ct
            have q : Hid (gg = mates x.dat e.dat) := by unfold Hid; rw [HGg.out]; simp [c3, ct]
            obtain ⟨mm, hmm⟩ : ∃ mm, mm = mates x.dat e.dat := ⟨_, rfl⟩
            rw [← hmm] at HMt
            have q' : Hid (gg = mm) := by unfold Hid; rw [q.out, hmm]
            clear c3 ct HGg q hmm
            go_wp2_with fail
            refine Calls.mono (HMt.out _ BV.out) ?_
            rintro r w3 ⟨rfl, b3⟩
            have B3 := Lib.hid (BV.out.trans (b3.mono BV.out.size))
            clear b3
            go_wp2
            go_meet
            case rel => exact ⟨by rw [q'.out], B3.out⟩
          · have dt : (x.ts == e.ts) = false := by simpa using ct
            have q : Hid (gg = false) := by unfold Hid; rw [HGg.out]; simp [ct]
            clear c3 ct HGg
            go_wp2_with fail
            go_meet
            case rel => exact ⟨by rw [q.out], BV.out⟩
        · rw [decide_eq_false c3]
          have q : Hid (gg = false) := by unfold Hid; rw [HGg.out]; simp [c3]
          clear c3 HGg
          go_wp2_with fail
          go_meet
          case rel => exact ⟨by rw [q.out], BV.out⟩
      case rest =>
        obtain ⟨rfl, HBc⟩ := hcut
        obtain ⟨b1, b2, o1, o2⟩ := KS.out _ HBc.out
        have HKc := Lib.hid b2
        cases gg with
        | false =>
          have hgv := HGq.out.symm
          have q : Hid (gputs ((l.take (t + 1)).map EntD.dat) e.dat = G) := by unfold Hid; rw [HS.out, if_neg (by rw [hgv]; simp)]
          have HQ2 : Hid (Gw w wc l e bst (t + 1)) := ⟨b2.be, b2.bb, by rw [HTk.out]; exact b2.best.keep (fun z => by rw [hgv] at z; cases z), b2.mem, b2.below⟩
          clear hgv b1 b2 o1 o2
          go_wp2
          go_roundw
          case rel => exact ⟨t + 1, bst, by omega, by go_num, by rw [q.out], HQ2.out⟩
          case measure => simp only [intOf]; omega
        | true =>
          have hgv := HGq.out.symm
          obtain ⟨x0, x1, x2, x3, x4, x5, x6⟩ := b1.cells7
          obtain ⟨z0, z1, z2, z3, z4, z5, z6⟩ := b2.bb.cells7
          by_cases cs : bst.seq < x.seq
          · have ds : decide (bst.seq < x.seq) = true := decide_eq_true cs
            have hnx : Bst ((l.take (t + 1)).map EntD.dat) e.dat x.dat := by rw [HTk.out]; exact b2.best.next hgv cs
            have hs7 := ebox_set7 b2.bb x
            have fz0 := b2.bb.fzA 0
            have fz1 := b2.bb.fzA 1
            have fz2 := b2.bb.fzA 2
            have fz3 := b2.bb.fzA 3
            have fz4 := b2.bb.fzA 4
            have fz5 := b2.bb.fzA 5
            have fz6 := b2.bb.fzA 6
            rw [HGx.out.1] at x0
            rw [HGx.out.2.1] at x2
            rw [HGx.out.2.2] at x6
            rw [HGx.out.1, HGx.out.2.1, HGx.out.2.2] at hs7
            have HS7 := Lib.hid hs7
            have HNx := Lib.hid hnx
            have wlt : wr.heap.size ≠ w.heap.size + 1 := by
              have := (Array.getElem?_eq_some_iff.1 HQ.out.bb).1
              omega
            have HB1 := Lib.hid b1
            clear b1 b2 o1 o2 hs7 hnx cs
            go_upto_region 11 with fail
            obtain ⟨ebN, grN⟩ := HS7.out
            generalize (((((((wc.setCell ⟨w.heap.size + 1, 0, none⟩ (.slice f1 x.row.length m1)).setCell ⟨w.heap.size + 1, 1, none⟩ (.int .i64 x.fam)).setCell ⟨w.heap.size + 1, 2, none⟩ (.slice f2 x.qual.length m2)).setCell ⟨w.heap.size + 1, 3, none⟩ (.int .i64 x.ts)).setCell ⟨w.heap.size + 1, 4, none⟩ (.int .i64 x.seq)).setCell ⟨w.heap.size + 1, 5, none⟩ (.int .i64 x.kind)).setCell ⟨w.heap.size + 1, 6, none⟩ (.slice f3 x.val.length m3)) = X2 at ebN grN ⊢
            have sz := (Array.getElem?_eq_some_iff.1 HKc.out.bb).1
            have ebE : EBox X2 w.heap.size e := (grN.block w.heap.size (by omega) (by simp)).trans HKc.out.be
            have ebX : EBox X2 wr.heap.size x := (grN.block wr.heap.size (Array.getElem?_eq_some_iff.1 HB1.out).1 (by simpa using wlt)).trans HB1.out
            have y5 := ebX.kind
            have HQ2 : Hid (Gw w X2 l e x (t + 1)) := ⟨ebE, ebN, HNx.out, .inr (List.mem_of_getElem? HXm.out), HKc.out.below.grown grN HKc.out.below.size (fun k hk => by cases hk; omega)⟩
            clear ebN grN ebE ebX sz x0 x1 x2 x3 x4 x5 x6 z0 z1 z2 z3 z4 z5 z6 fz0 fz1 fz2 fz3 fz4 fz5 fz6 HS7 HB1
            by_cases c3 : x.kind = 3
            · have e3 : (x.kind != 3) = false := by simpa using c3
              have q : Hid (gputs ((l.take (t + 1)).map EntD.dat) e.dat = G) := by unfold Hid; rw [HS.out, if_neg (fun z => z.2 c3)]
              clear c3 hgv
              go_wp2
              go_roundw
              case rel => exact ⟨t + 1, x, by omega, by go_num, by rw [q.out], HQ2.out⟩
              case measure => simp only [intOf]; omega
            · have e3 : (x.kind != 3) = true := by simpa using c3
              have q : Hid (gputs ((l.take (t + 1)).map EntD.dat) e.dat = G + 1) := by unfold Hid; rw [HS.out, if_pos ⟨hgv, c3⟩]
              have w0 : IntKind.i64.wrap ((G : Int) + 1) = (G : Int) + 1 := by simp [IntKind.wrap, IntKind.bits, IntKind.signed]; omega
              clear c3 hgv
              go_wp2
              go_roundw
              case rel => exact ⟨t + 1, x, by omega, by go_num, by rw [q.out]; go_num, HQ2.out⟩
              case measure => simp only [intOf]; omega
          · have ds : decide (bst.seq < x.seq) = false := decide_eq_false cs
            have HQ2 : Hid (Gw w wc l e bst (t + 1)) := ⟨b2.be, b2.bb, by rw [HTk.out]; exact b2.best.keep (fun _ => by show x.seq ≤ bst.seq; omega), b2.mem, b2.below⟩
            clear b1 b2 o1 o2 cs
            by_cases c3 : x.kind = 3
            · have e3 : (x.kind != 3) = false := by simpa using c3
              have q : Hid (gputs ((l.take (t + 1)).map EntD.dat) e.dat = G) := by unfold Hid; rw [HS.out, if_neg (fun z => z.2 c3)]
              clear c3 hgv
              go_wp2
              go_roundw
              case rel => exact ⟨t + 1, bst, by omega, by go_num, by rw [q.out], HQ2.out⟩
              case measure => simp only [intOf]; omega
            · have e3 : (x.kind != 3) = true := by simpa using c3
              have q : Hid (gputs ((l.take (t + 1)).map EntD.dat) e.dat = G + 1) := by unfold Hid; rw [HS.out, if_pos ⟨hgv, c3⟩]
              have w0 : IntKind.i64.wrap ((G : Int) + 1) = (G : Int) + 1 := by simp [IntKind.wrap, IntKind.bits, IntKind.signed]; omega
              clear c3 hgv
              go_wp2
              go_roundw
              case rel => exact ⟨t + 1, bst, by omega, by go_num, by rw [q.out]; go_num, HQ2.out⟩
              case measure => simp only [intOf]; omega
    · have hge : ¬ (t : Int) < (N : Int) := by omega
      have hall : (l.take t).map EntD.dat = l.map EntD.dat := by rw [List.take_of_length_le (by rw [← HN.out]; omega)]
      have HFin : Hid (G = gputs (l.map EntD.dat) e.dat ∧ Bst (l.map EntD.dat) e.dat bst.dat) := by
        have h1 := HGp.out
        have h2 := HQ.out.best
        rw [hall] at h1 h2
        exact ⟨h1, h2⟩
      obtain ⟨x0, x1, x2, x3, x4, x5, x6⟩ := HQ.out.bb.cells7
      have y4 := HQ.out.be.seq
      clear hall x0 x1 x2 x3 x6
      by_cases k3 : bst.kind = 3
      · have q3 : (bst.kind == 3) = true := by simpa using k3
        by_cases g0 : 0 < G
        · have qg : (0 : Int) < (G : Int) := by omega
          have q : Hid (gkind bst.dat G = 2) := by
            unfold Hid gkind
            rw [if_pos (show bst.dat.kind = 3 from k3), if_pos g0]
          clear k3 g0
          go_wp2_with fail
          go_quiet (fail)
          go_wp2
          go_ret2
          exact ⟨bst.dat, by rw [← HFin.out.1, q.out]; rfl, HFin.out.2, below_drewN HQ.out.below _⟩
        · have qg : ¬ (0 : Int) < (G : Int) := by omega
          have q : Hid (gkind bst.dat G = 0) := by
            unfold Hid gkind
            rw [if_pos (show bst.dat.kind = 3 from k3), if_neg g0]
          clear k3 g0
          go_wp2_with fail
          go_quiet (fail)
          go_wp2
          go_ret2
          exact ⟨bst.dat, by rw [← HFin.out.1, q.out]; rfl, HFin.out.2, below_drewN HQ.out.below _⟩
      · have q3 : (bst.kind == 3) = false := by simpa using k3
        have q : Hid (gkind bst.dat G = bst.kind) := by
          unfold Hid gkind
          rw [if_neg (show ¬ bst.dat.kind = 3 from k3)]
          rfl
        clear k3
        go_wp2_with fail
        go_quiet (fail)
        go_wp2
        go_ret2
        exact ⟨bst.dat, by rw [← HFin.out.1, q.out]; rfl, HFin.out.2, below_drewN HQ.out.below _⟩
end Go.Proofs.YtganmnckdmkcbaaGreat

namespace Go.Proofs.YtganmnckdmkcbaaGreat
open Go.RowKit Go.Maps
set_option linter.unusedVariables false

theorem cmp_trans {x y z : EntD} (h : compareS x y ≤ 0) (k : compareS y z ≤ 0) : compareS x z ≤ 0 := by
  have t := compareS_tri x y z
  unfold Tri at t
  by_cases a : compareS x y = 0
  · by_cases b : compareS y z = 0
    · have := compareS_tri x y z
      unfold Tri at this
      have s1 := compareS_small x z
      omega
    · omega
  · omega
theorem ord_exists {k : Nat} {l : List EntD} (h : inOrderE (check3S k) l = 0) : ∃ m, IsOrd k (l.map EntD.dat) m := by
  obtain ⟨hc, xs, hx⟩ := inOrder_ok h
  refine ⟨_, isOrd_of h hx (List.mergeSort_perm xs (fun x y => decide (compareS x y ≤ 0))) ?_⟩
  have := List.pairwise_mergeSort (le := fun x y : EntD => decide (compareS x y ≤ 0)) (fun a b c h1 h2 => by
    simp only [decide_eq_true_eq] at *
    exact cmp_trans h1 h2) (fun a b => by
    have := compareS_swap a b
    simp only [Bool.or_eq_true, decide_eq_true_eq]
    omega) xs
  exact this.imp (fun h => by simpa using h)
theorem once_ok (l : List EntD) : ∀ (acc : List EntD), (∀ x ∈ acc ++ l, ∀ y ∈ acc ++ l, x.seq = y.seq → x.dat = y.dat) → ∃ xs, l.foldl (fun o e => o.bind fun xs => addO xs e) (some acc) = some xs := by
  induction l with
  | nil => intro acc _; exact ⟨acc, rfl⟩
  | cons e r ih =>
    intro acc h
    show ∃ xs, r.foldl (fun o e => o.bind fun xs => addO xs e) (addO acc e) = some xs
    cases hf : acc.find? (fun x => x.seq == e.seq) with
    | none =>
      have ha : addO acc e = some (acc ++ [e]) := by unfold addO; rw [hf]
      rw [ha]
      exact ih _ (by rw [List.append_assoc]; exact h)
    | some x =>
      have xm := List.mem_of_find?_eq_some hf
      have xs : x.seq = e.seq := by simpa using List.find?_some hf
      have hs : sameS x e = true := sameS_of (h x (List.mem_append_left _ xm) e (by simp) xs)
      rw [addO_old hf, hs, if_pos rfl]
      exact ih _ (fun a ha b hb => h a (by
        rcases List.mem_append.1 ha with q | q
        · exact List.mem_append_left _ q
        · exact List.mem_append_right _ (List.mem_cons_of_mem _ q)) b (by
        rcases List.mem_append.1 hb with q | q
        · exact List.mem_append_left _ q
        · exact List.mem_append_right _ (List.mem_cons_of_mem _ q)))
theorem takes_of {k : Nat} {l : List EntD} (hc : ∀ x ∈ l, check3S k x = 0) (hs : ∀ x ∈ l, ∀ y ∈ l, x.seq = y.seq → x.dat = y.dat) : inOrderE (check3S k) l = 0 := by
  obtain ⟨xs, hx⟩ := once_ok l [] (by simpa using hs)
  have ho : onceS l = some xs := hx
  unfold inOrderE
  rw [firstBad_zero hc, if_neg (by simp), if_neg (by rw [ho]; simp)]
theorem pair_eq : ∀ {m : List En}, m.Pairwise (fun a b => a.seq ≠ b.seq) → ∀ {x y : En}, x ∈ m → y ∈ m → x.seq = y.seq → x = y
  | [], _, x, y, hx, _, _ => by cases hx
  | a :: m, h, x, y, hx, hy, e => by
    have h1 := List.pairwise_cons.1 h
    rcases List.mem_cons.1 hx with p | p
    · rcases List.mem_cons.1 hy with q | q
      · rw [p, q]
      · exact absurd (p ▸ e) (h1.1 y q)
    · rcases List.mem_cons.1 hy with q | q
      · exact absurd (q ▸ e.symm) (h1.1 x p)
      · exact pair_eq h1.2 p q e
theorem IsOrd.same {k : Nat} {l m : List En} (h : IsOrd k l m) {x y : En} (hx : x ∈ l) (hy : y ∈ l) (e : x.seq = y.seq) : x = y :=
  pair_eq h.ne ((h.mem x).2 hx) ((h.mem y).2 hy) e
theorem IsOrd.part {k : Nat} {L m : List En} (h : IsOrd k L m) {l : List EntD} (hl : ∀ e ∈ l.map EntD.dat, e ∈ L) : inOrderE (check3S k) l = 0 :=
  takes_of (fun x hx => h.ck x.dat ((h.mem _).2 (hl _ (List.mem_map_of_mem hx)))) (fun x hx y hy e => h.same (hl _ (List.mem_map_of_mem hx)) (hl _ (List.mem_map_of_mem hy)) e)
theorem vis_of {C : Nat} {fs : List FamD} {clock : Int} {l : List EntD} (hC : C = 0) (h0 : 0 ≤ clock) (h1 : clock ≤ 1099511627776) (hi : inOrderE (check3S fs.length) l = 0) : visE C fs clock l = 0 := by
  unfold visE readE readerS boundsS
  have : ([clock, 1099511627776].any badT) = false := by simp [badT]; omega
  simp [hC, this, hi]
theorem squash_of {C : Nat} {fs : List FamD} {clock low : Int} {l : List EntD} (hC : C = 0) (h0 : 0 ≤ clock) (h1 : clock ≤ 1099511627776) (l0 : 0 ≤ low) (l1 : low ≤ 1099511627776) (hi : inOrderE (check3S fs.length) l = 0) : squashE C fs clock low l = 0 := by
  unfold squashE boundsS
  have : ([clock, low].any badT) = false := by simp [badT]; omega
  simp [hC, this, hi]
theorem left_takes {k : Nat} {fs : List (Int × Int)} {clock low : Int} {major : Bool} {la lb zs ls : List EntD} {mA : List En} {M : List En} (hA : IsOrd k (la.map EntD.dat) mA) (hM : IsOrd k M M) (hb : ∀ e ∈ lb.map EntD.dat, e ∈ M) (hz : zs.map EntD.dat = outS major low (verdictsS fs clock mA)) (ap : ∀ x ∈ la, ∀ y ∈ lb, x.seq ≠ y.seq) (hl : ls.map EntD.dat = zs.map EntD.dat ++ lb.map EntD.dat) : inOrderE (check3S k) ls = 0 := by
  have hL := hA.left (fs := fs) (clock := clock) (low := low) major
  have sq : ∀ e ∈ zs.map EntD.dat, ∃ x ∈ la, x.seq = e.seq := fun e he => by
    rw [hz, out_tld hA.ah hA.va] at he
    obtain ⟨x, hx, _, rfl⟩ := left_mem.1 he
    obtain ⟨y, hy, e1⟩ := List.mem_map.1 ((hA.mem x).1 hx)
    exact ⟨y, hy, by rw [(tld_eq mA x).2.2.2.2.1, ← e1]; rfl⟩
  have sb : ∀ e ∈ lb.map EntD.dat, ∃ y ∈ lb, y.seq = e.seq := fun e he => by
    obtain ⟨y, hy, e1⟩ := List.mem_map.1 he
    exact ⟨y, hy, by rw [← e1]; rfl⟩
  have two : ∀ x ∈ ls, x.dat ∈ zs.map EntD.dat ∨ x.dat ∈ lb.map EntD.dat := fun x hx => by
    have : x.dat ∈ ls.map EntD.dat := List.mem_map_of_mem hx
    rw [hl] at this
    exact List.mem_append.1 this
  refine takes_of (fun x hx => ?_) (fun x hx y hy e => ?_)
  · rcases two x hx with q | q
    · exact hL.ck x.dat (hz ▸ q)
    · exact hM.ck x.dat (hb _ q)
  · have e' : x.dat.seq = y.dat.seq := e
    rcases two x hx with p | p
    · rcases two y hy with q | q
      · exact hL.same (hz ▸ p) (hz ▸ q) e'
      · obtain ⟨u, hu, eu⟩ := sq _ p
        obtain ⟨v, hv, ev⟩ := sb _ q
        exact absurd (eu.trans (e'.trans ev.symm)) (ap u hu v hv)
    · rcases two y hy with q | q
      · obtain ⟨u, hu, eu⟩ := sq _ q
        obtain ⟨v, hv, ev⟩ := sb _ p
        exact absurd (eu.trans (e'.symm.trans ev.symm)) (ap u hu v hv)
      · exact hM.same (hb _ p) (hb _ q) e'
theorem IsOrd.self {k : Nat} {l m : List En} (h : IsOrd k l m) : IsOrd k m m := ⟨h.ah, h.ne, h.va, h.ck, fun _ => Iff.rfl⟩
theorem neverSeen_pure {fs : List FamD} (hS : SchemaOk fs) {clock d : Int} (hc : clock ≤ d) {la lb zs ls : List EntD} {mA M R : List En} (hA : IsOrd fs.length (la.map EntD.dat) mA) (hM : IsOrd fs.length (la.map EntD.dat ++ lb.map EntD.dat) M) (hz : zs.map EntD.dat = outS false 0 (verdictsS (mt fs) clock mA)) (hl : ls.map EntD.dat = zs.map EntD.dat ++ lb.map EntD.dat) (hR : IsOrd fs.length (ls.map EntD.dat) R) :
    (∀ tm n, showS tm n (verdictsS (mt fs) d M) = showS tm n (verdictsS (mt fs) d R)) ∧ topS (verdictsS (mt fs) d M) = topS (verdictsS (mt fs) d R) := by
  obtain ⟨mB, hB⟩ := ord_exists (hM.part (l := lb) (fun e he => List.mem_append_right _ he))
  have r1 := (red_left (fs := mt fs) (clock := clock) (low := 0) hA.ah hA.va (famAt_nn hS)).later hc
  have r := Red.union (m := M) (r := R) r1 (Red.refl mB) hA.ah hB.ah (fun e => by rw [hM.mem, List.mem_append, hA.mem, hB.mem]) (fun e => by
    rw [hR.mem, hl, List.mem_append, hz, out_tld hA.ah hA.va, hB.mem]
    rfl)
  have := (r.wk hM.ah hM.va).seen (hM.max hS) (hR.max hS) hM.ah hM.va hR.ah hR.va
  exact this.2
theorem majorUnseen_pure {fs : List FamD} (hS : SchemaOk fs) {clock d low : Int} (hc : clock ≤ d) {la lb zs ls : List EntD} {mA M R : List En} (hA : IsOrd fs.length (la.map EntD.dat) mA) (hM : IsOrd fs.length (la.map EntD.dat ++ lb.map EntD.dat) M) (hz : zs.map EntD.dat = outS true low (verdictsS (mt fs) clock mA)) (hl : ls.map EntD.dat = zs.map EntD.dat ++ lb.map EntD.dat) (hR : IsOrd fs.length (ls.map EntD.dat) R) (hb : ∀ y ∈ lb, low < y.ts ∧ ∀ x ∈ la, x.seq < y.seq) :
    (∀ tm n, showS tm n (verdictsS (mt fs) d M) = showS tm n (verdictsS (mt fs) d R)) ∧ topS (verdictsS (mt fs) d M) = topS (verdictsS (mt fs) d R) := by
  have w : Wk5 (mt fs) d M R := major_wk (c := clock) (low := low) (b := lb.map EntD.dat) hc hA.ah hA.va (famAt_nn hS) (fun e => by rw [hM.mem, List.mem_append, hA.mem]) (fun e => by
    rw [hR.mem, hl, List.mem_append, hz, out_tld hA.ah hA.va]
    rfl) (fun y hy => by
    obtain ⟨y', hy', rfl⟩ := List.mem_map.1 hy
    refine ⟨(hb y' hy').1, fun x hx => ?_⟩
    obtain ⟨x', hx', rfl⟩ := List.mem_map.1 ((hA.mem x).1 hx)
    exact (hb y' hy').2 x' hx')
  exact (w.seen (hM.max hS) (hR.max hS) hM.ah hM.va hR.ah hR.va).2
theorem nothingBack_pure {fs : List FamD} (hS : SchemaOk fs) {clock d : Int} (hc : clock ≤ d) {la lb vs us : List EntD} {mA M : List En} (hA : IsOrd fs.length (la.map EntD.dat) mA) (hM : IsOrd fs.length (la.map EntD.dat ++ lb.map EntD.dat) M) (hv : vs.map EntD.dat = (mA.filter fun x => shw 1099511627776 (sv (mt fs) clock mA x)).map (tld mA)) (hu : us.map EntD.dat = (M.filter fun x => shw 1099511627776 (sv (mt fs) d M x)).map (tld M)) {x : EntD} (hx : x ∈ la) (k1 : x.kind = 1) (h : ∃ y ∈ us, hit y.dat x.dat) : ∃ y ∈ vs, hit y.dat x.dat := by
  obtain ⟨y, hy, ht⟩ := h
  have hy' : y.dat ∈ us.map EntD.dat := List.mem_map_of_mem hy
  rw [hu] at hy'
  obtain ⟨z, hz, e⟩ := List.mem_map.1 hy'
  obtain ⟨zm, hz⟩ := List.mem_filter.1 hz
  have xA : x.dat ∈ mA := (hA.mem _).2 (List.mem_map_of_mem hx)
  have sub : ∀ e ∈ mA, e ∈ M := fun e he => (hM.mem e).2 (List.mem_append_left _ ((hA.mem e).1 he))
  have ez : z = x.dat := by
    refine pair_eq hM.ne zm (sub _ xA) ?_
    rw [← (tld_eq M z).2.2.2.2.1, e]
    exact ht.2.2.1
  subst ez
  have hz' := of_decide_eq_true hz
  have f5 := nothing_back (fs := mt fs) hc hA.ah hM.ah sub xA k1 hz'.1
  have i5 := (five_iff xA).1 f5
  have et : tld mA x.dat = x.dat := by
    rw [tld_hk i5.1 i5.2.1 i5.2.2.1]
    unfold hk
    rw [if_neg (by show ¬ x.kind = 3; omega)]
  have hm : x.dat ∈ vs.map EntD.dat := by
    rw [hv]
    refine List.mem_map.2 ⟨x.dat, List.mem_filter.2 ⟨xA, ?_⟩, et⟩
    unfold shw
    rw [decide_eq_true_eq, sv_e, et]
    refine ⟨f5, k1, ?_⟩
    have := (check_zero.1 (hA.ck _ xA)).1.2.2.2.1
    simp only [EntD.ofEn] at this
    omega
  obtain ⟨u, hu, e⟩ := List.mem_map.1 hm
  exact ⟨u, hu, by rw [e]; exact ⟨rfl, rfl, rfl, rfl, rfl, rfl⟩⟩
end Go.Proofs.YtganmnckdmkcbaaGreat

namespace Go.Proofs.YtganmnckdmkcbaaGreat
open Go.RowKit Go.Maps
set_option linter.unusedVariables false

structure LU (fs : List FamD) (l : List EntD) : Prop where
  va : ∀ e ∈ l.map EntD.dat, Va e
  un : ∀ x ∈ l, UndE fs x
  tl : ∀ f ∈ fs, 0 ≤ f.tl ∧ f.tl ≤ 1099511627776
theorem group_in {w : World} {fa a : Option Addr} {fc cap : Nat} {fs : List FamD} {l : List EntD} {x : EntD} (clock : Int) (hU : LU fs l) (hl : RdL3 w a cap l) (hx : x ∈ l) (h3 : x.kind ≤ 3) (hn : l.length ≤ 1353245080300) :
    Calls Tryz.prog 62 #[.slice a l.length cap, .agg x.cells] w fun r w' => ∃ K : Int, r = .returned (.tuple #[.int .i64 K, .bool (decidesS (l.map EntD.dat) x.dat)]) ∧ (K = 0 ↔ hasPut (l.map EntD.dat) x.dat = false) ∧ ((l.map EntD.dat).Pairwise (fun a b => a.seq ≠ b.seq) → decidesS (l.map EntD.dat) x.dat = true → hasPut (l.map EntD.dat) x.dat = true → K = (hk x.dat).kind) ∧ Below w.heap.size w w' := by
  refine Calls.mono (refGroup_any hl (hl.ok x hx) hn) ?_
  rintro r w' ⟨b, rfl, hb, hB⟩
  have xm : x.dat ∈ l.map EntD.dat := List.mem_map_of_mem hx
  have h3' : x.dat.kind ≤ 3 := h3
  have e := hb.dec h3' xm
  refine ⟨_, ?_, hb.zero hU.va h3' xm, fun hne hd hp => hb.kind hne hU.va h3' xm hd hp (fun {a b} ha hb e => pair_eq hne ha hb e), hB⟩
  rw [← e]
  rfl
set_option maxRecDepth 100000 in
set_option maxHeartbeats 8000000 in
theorem refRank_any {w : World} {fa a : Option Addr} {fc cap : Nat} {fs : List FamD} {l : List EntD} {e : EntD} (clock : Int) (hr : RdF w (.slice fa fs.length fc) fs) (hU : LU fs l) (hl : RdL3 w a cap l) (he : EntD.Ok w e) (hn : l.length ≤ 1353245080300) :
    Calls Tryz.prog 88 #[.agg #[.slice fa fs.length fc], .int .i64 clock, .slice a l.length cap, .agg e.cells] w fun r w' => r = .returned (.int .i64 (above (mt fs) clock (l.map EntD.dat) e.dat + 1)) ∧ Below w.heap.size w w' := by
  obtain ⟨W, hW, A, hb⟩ := box_se w fa fs.length fc e
  obtain ⟨N, hN⟩ : ∃ N, N = l.length := ⟨_, rfl⟩
  obtain ⟨K, hK⟩ : ∃ K, K = fs.length := ⟨_, rfl⟩
  obtain ⟨m, hm⟩ : ∃ m, m = l.map EntD.dat := ⟨_, rfl⟩
  have up : ∀ Z, Below W.heap.size W Z → Below w.heap.size w Z := fun Z b => A.trans (b.mono A.size)
  have hc := hl.cap
  have H0 := Lib.hid (fun (Z : World) (b : Below W.heap.size W Z) => hl.later (up Z b))
  have H1 := Lib.hid (fun (Z : World) (b : Below W.heap.size W Z) => he.later (up Z b))
  have HGr := Lib.hid (fun (Z : World) (b : Below W.heap.size W Z) (x : EntD) (hx : x ∈ l) (h3 : x.kind ≤ 3) => group_in (fa := fa) (fc := fc) clock hU (hl.later (up Z b)) hx h3 hn)
  have HIn := Lib.hid (fun (Z : World) (b : Below W.heap.size W Z) (x : EntD) (hx : x ∈ l) (h3 : x.kind ≤ 3) => refIn_any clock (hr.later (up Z b)) (hU.un x hx) hU.tl (hl.later (up Z b)) ((hl.later (up Z b)).ok x hx) h3 hn)
  rw [← hN, ← hm] at HGr
  rw [← hN, ← hm, ← hK] at HIn
  rw [← hK] at hb hW
  rw [← hN] at hn hc
  obtain ⟨R, hR⟩ : ∃ R, R = above (mt fs) clock (l.map EntD.dat) e.dat + 1 := ⟨_, rfl⟩
  rw [← hR, ← hN, ← hK]
  have HW := Lib.hid hW
  have HA := Lib.hid A
  have HN := Lib.hid hN
  have HM := Lib.hid hm
  have HR := Lib.hid hR
  have HB := Lib.hid hb
  unfold EntD.cells at HW HGr HIn ⊢
  clear hW A hb hN hR hl he hr hU up hm hK
  go_enter Tryz.func88, Tryz.ntmps88
  go_upto_region 1 with fail
  rw [← HW.out]
  clear HW
  go_wp2
  go_loopw [9, 10, 11, 12, 13, 14, 15] (fun n i _ _ _ _ _ wr => ∃ t : Nat, t ≤ N ∧ i = .int .i64 (t : Int) ∧ n = .int .i64 ((((l.take t).map EntD.dat).filter (ranks (mt fs) clock m e.dat)).length + 1 : Int) ∧ Hid (Below W.heap.size W wr)) (fun _ i _ _ _ _ _ _ => N - (intOf i).toNat)
  case atStart => exact ⟨0, Nat.zero_le _, rfl, by simp, Below.refl _ _⟩
  case round =>
    obtain ⟨t, ht, rfl, rfl, HBw⟩ := hrel
    have t0 : (0 : Int) ≤ (t : Int) := by omega
    obtain ⟨G, hG⟩ : ∃ G, G = (((l.take t).map EntD.dat).filter (ranks (mt fs) clock m e.dat)).length := ⟨_, rfl⟩
    have hGl : G ≤ N := by
      rw [hG]
      refine Nat.le_trans (List.length_filter_le _ _) ?_
      rw [List.length_map, List.length_take]
      omega
    rw [← hG]
    have HGp := Lib.hid hG
    clear hG
    by_cases hlt : t < N
    · have hlt2 : (t : Int) < (N : Int) := by omega
      obtain ⟨x, hx⟩ : ∃ x, l[t]? = some x := ⟨l[t]'(by rw [← HN.out]; exact hlt), List.getElem?_eq_getElem _⟩
      have hrd := H0.out _ HBw.out
      have hok := hrd.ok x (List.mem_of_getElem? hx)
      rcases hrd.at_ with h0 | ⟨b, off, rfl, hc⟩
      · rw [h0] at hx; simp at hx
      have d0 := hc t x hx 0 _ rfl
      have d1 := hc t x hx 1 _ rfl
      have d2 := hc t x hx 2 _ rfl
      have d3 := hc t x hx 3 _ rfl
      have d4 := hc t x hx 4 _ rfl
      have d5 := hc t x hx 5 _ rfl
      have d6 := hc t x hx 6 _ rfl
      simp only [Nat.add_zero] at d0
      obtain ⟨_, a1, n1, e1, -⟩ := id hok.1
      obtain ⟨_, a2, n2, e2, -⟩ := id hok.2.1
      obtain ⟨_, a3, n3, e3, -⟩ := id hok.2.2
      obtain ⟨X, hX, AX, hbx, -⟩ := box1 wr x
      have hBX : Below W.heap.size W X := HBw.out.trans (AX.mono HBw.out.size)
      have KS : Hid (∀ Z, Below X.heap.size X Z → EBox Z wr.heap.size x ∧ (Z.cell? ⟨w.heap.size, 0, none⟩ = some (.slice fa K fc) ∧ EBox Z (w.heap.size + 1) e) ∧ EntD.Ok Z x ∧ EntD.Ok Z e ∧ Below W.heap.size W Z) := fun Z k => ⟨hbx Z k, HB.out Z (hBX.trans (k.mono hBX.size)), (hok.later AX).later k, H1.out Z (hBX.trans (k.mono hBX.size)), hBX.trans (k.mono hBX.size)⟩
      unfold EntD.cells at hX
      rw [e1, e2, e3] at hX
      rw [e1] at d0
      rw [e2] at d2
      rw [e3] at d6
      have HX := Lib.hid hX
      have HXm := Lib.hid (List.mem_of_getElem? hx)
      have HS : Hid ((((l.take (t + 1)).map EntD.dat).filter (ranks (mt fs) clock m e.dat)).length = if ranks (mt fs) clock m e.dat x.dat then G + 1 else G) := by
        unfold Hid
        rw [List.take_add_one, hx, List.map_append, List.filter_append, List.length_append, ← HGp.out]
        cases z : ranks (mt fs) clock m e.dat x.dat <;> simp [z]
      have HRk : Hid (ranks (mt fs) clock m e.dat x.dat = (decide (x.kind ≤ 3) && decide (e.ts < x.ts) && mates x.dat e.dat && hasPut m x.dat && decidesS m x.dat && inB fs clock m x.dat)) := rfl
      have w0 : IntKind.i64.wrap ((G : Int) + 1 + 1) = (G : Int) + 1 + 1 := by simp [IntKind.wrap, IntKind.bits, IntKind.signed]; omega
      clear hrd hok hc hx hX AX hbx e1 e2 e3 hBX
      go_upto_region 6 with fail
      rw [← HX.out]
      clear HX d0 d1 d2 d3 d4 d5 d6
      obtain ⟨gg, hgg⟩ : ∃ gg, gg = (decide (x.kind ≤ 3) && decide (e.ts < x.ts) && mates x.dat e.dat) := ⟨_, rfl⟩
      have HGg := Lib.hid hgg
      clear hgg
      go_cut [12] from 16 to 62 (fun s wx => s = .bool gg ∧ Hid (Below X.heap.size X wx))
      case first =>
        obtain ⟨b1, b2, o1, o2, -⟩ := KS.out _ (Below.refl _ _)
        obtain ⟨x0, x1, x2, x3, x4, x5, x6⟩ := b1.cells7
        have HV : Hid (Calls Tryz.prog 61 #[.agg x.cells] X _) := version_any
        have HMt : Hid (∀ Z, Below X.heap.size X Z → Calls Tryz.prog 55 #[.agg x.cells, .agg e.cells] Z fun r w' => r = .returned (.bool (mates x.dat e.dat)) ∧ Below Z.heap.size Z w') := fun Z k => mates_any (KS.out Z k).2.2.1 (KS.out Z k).2.2.2.1
        unfold EntD.cells at HV HMt
        clear b1 b2 o1 o2
        go_wp2_with fail
        refine Calls.mono HV.out ?_
        rintro r w2 ⟨rfl, bv⟩
        have BV := Lib.hid bv
        obtain ⟨b1, b2, o1, o2, -⟩ := KS.out _ bv
        clear bv x0 x1 x2 x3 x4 x5 x6 HV
        obtain ⟨x0, x1, x2, x3, x4, x5, x6⟩ := b1.cells7
        obtain ⟨y0, y1, y2, y3, y4, y5, y6⟩ := b2.2.cells7
        clear b1 b2 o1 o2
        by_cases c3 : x.kind ≤ 3
        · rw [decide_eq_true c3]
          by_cases ct : e.ts < x.ts
          · have dt : decide (e.ts < x.ts) = true := decide_eq_true ct
            obtain ⟨mm, hmm⟩ : ∃ mm, mm = mates x.dat e.dat := ⟨_, rfl⟩
            rw [← hmm] at HMt
            have q' : Hid (gg = mm) := by unfold Hid; rw [HGg.out, hmm]; simp [c3, ct]
            clear c3 ct hmm
            go_wp2_with fail
            refine Calls.mono (HMt.out _ BV.out) ?_
            rintro r w3 ⟨rfl, b3⟩
            have B3 := Lib.hid (BV.out.trans (b3.mono BV.out.size))
            clear b3
            go_wp2
            go_meet
            case rel => exact ⟨by rw [q'.out], B3.out⟩
          · have dt : decide (e.ts < x.ts) = false := decide_eq_false ct
            have q : Hid (gg = false) := by unfold Hid; rw [HGg.out]; simp [ct]
            clear c3 ct
            go_wp2_with fail
            go_meet
            case rel => exact ⟨by rw [q.out], BV.out⟩
        · rw [decide_eq_false c3]
          have q : Hid (gg = false) := by unfold Hid; rw [HGg.out]; simp [c3]
          clear c3
          go_wp2_with fail
          go_meet
          case rel => exact ⟨by rw [q.out], BV.out⟩
      case rest =>
        obtain ⟨rfl, HBc⟩ := hcut
        obtain ⟨b1, b2, o1, o2, hBc⟩ := KS.out _ HBc.out
        have HBr := Lib.hid hBc
        obtain ⟨x0, x1, x2, x3, x4, x5, x6⟩ := b1.cells7
        clear b1 b2 o1 o2 hBc
        rw [← HGg.out] at HRk
        cases gg with
        | false =>
          have q : Hid ((((l.take (t + 1)).map EntD.dat).filter (ranks (mt fs) clock m e.dat)).length = G) := by unfold Hid; rw [HS.out, HRk.out]; simp
          go_wp2
          go_roundw
          case rel => exact ⟨t + 1, by omega, by go_num, by rw [q.out], HBr.out⟩
          case measure => simp only [intOf]; omega
        | true =>
          have c3 : x.kind ≤ 3 := by
            have := HGg.out.symm
            simp only [Bool.and_eq_true, decide_eq_true_eq] at this
            exact this.1.1
          have HG1 := Lib.hid (HGr.out _ HBr.out x HXm.out c3)
          have HI1 := Lib.hid (fun (Z : World) (k : Below W.heap.size W Z) => HIn.out Z k x HXm.out c3)
          obtain ⟨dd, hdd⟩ : ∃ dd, dd = decidesS m x.dat := ⟨_, rfl⟩
          obtain ⟨ii, hii⟩ : ∃ ii, ii = inB fs clock m x.dat := ⟨_, rfl⟩
          rw [← hdd] at HG1 HRk
          rw [← hii] at HI1 HRk
          clear hdd hii c3
          go_wp2_with fail
          refine Calls.mono HG1.out ?_
          rintro r w4 ⟨kk, rfl, hk0, -, b4⟩
          have B4 := Lib.hid (HBc.out.trans (b4.mono HBc.out.size))
          have HK0 := Lib.hid hk0
          clear b4 hk0 HG1 x0 x1 x2 x3 x4 x5 x6
          obtain ⟨b1, b2, o1, o2, hB4⟩ := KS.out _ B4.out
          have HB4 := Lib.hid hB4
          obtain ⟨x0, x1, x2, x3, x4, x5, x6⟩ := b1.cells7
          have sc := b2.1
          clear b1 b2 o1 o2 hB4
          go_wp2_with fail
          refine Calls.mono (HI1.out _ HB4.out) ?_
          rintro r w5 ⟨rfl, b5⟩
          have HB5 := Lib.hid (HB4.out.trans (b5.mono HB4.out.size))
          clear b5 HI1 x0 x1 x2 x3 x4 x5 x6 sc
          by_cases ck : kk = 0
          · have qk : (kk != 0) = false := by simpa using ck
            have q : Hid ((((l.take (t + 1)).map EntD.dat).filter (ranks (mt fs) clock m e.dat)).length = G) := by unfold Hid; rw [HS.out, HRk.out, HK0.out.1 ck]; simp
            clear ck
            go_wp2
            go_roundw
            case rel => exact ⟨t + 1, by omega, by go_num, by rw [q.out], HB5.out⟩
            case measure => simp only [intOf]; omega
          · have qk : (kk != 0) = true := by simpa using ck
            have hp : hasPut m x.dat = true := by
              cases z : hasPut m x.dat with
              | true => rfl
              | false => exact absurd (HK0.out.2 z) ck
            rw [hp] at HRk
            clear ck hp HK0
            cases dd with
            | false =>
              have q : Hid ((((l.take (t + 1)).map EntD.dat).filter (ranks (mt fs) clock m e.dat)).length = G) := by unfold Hid; rw [HS.out, HRk.out]; simp
              go_wp2
              go_roundw
              case rel => exact ⟨t + 1, by omega, by go_num, by rw [q.out], HB5.out⟩
              case measure => simp only [intOf]; omega
            | true =>
              cases ii with
              | false =>
                have q : Hid ((((l.take (t + 1)).map EntD.dat).filter (ranks (mt fs) clock m e.dat)).length = G) := by unfold Hid; rw [HS.out, HRk.out]; simp
                go_wp2
                go_roundw
                case rel => exact ⟨t + 1, by omega, by go_num, by rw [q.out], HB5.out⟩
                case measure => simp only [intOf]; omega
              | true =>
                have q : Hid ((((l.take (t + 1)).map EntD.dat).filter (ranks (mt fs) clock m e.dat)).length = G + 1) := by unfold Hid; rw [HS.out, HRk.out]; simp
                go_wp2
                go_roundw
                case rel => exact ⟨t + 1, by omega, by go_num, by rw [q.out]; go_num, HB5.out⟩
                case measure => simp only [intOf]; omega
    · have hge : ¬ (t : Int) < (N : Int) := by omega
      have q : Hid ((G : Int) + 1 = R) := by
        unfold Hid
        rw [HGp.out, HR.out, List.take_of_length_le (by rw [← HN.out]; omega), ← HM.out, ranks_above]
      go_wp2
      go_ret
      exact ⟨by rw [← q.out]; rfl, HA.out.trans (HBw.out.mono HA.out.size)⟩
end Go.Proofs.YtganmnckdmkcbaaGreat

namespace Go.Proofs.YtganmnckdmkcbaaGreat
open Go.RowKit Go.Maps
set_option linter.unusedVariables false

def chkC (e : EntD) : Int := ((checkS e : Nat) : Int)
theorem seq_of_chkC {e : EntD} (h : chkC e = 0) : 0 ≤ e.seq ∧ e.seq ≤ 17592186044431 := by
  unfold chkC at h
  have hc : checkS e = 0 := by omega
  unfold checkS at hc
  repeat' split at hc
  all_goals first | (exfalso; omega) | skip
  omega

set_option maxRecDepth 100000 in
set_option maxHeartbeats 4000000 in
theorem inOrderC_any {W : World} {cap : Nat} {a : Option Addr} {l : List EntD} (hr : RdL3 W a cap l) (hl : l.length ≤ 1353245080300)
    (HSort : ∀ Z a' c' xs, onceS l = some xs → Below W.heap.size W Z → Z.ownsRow W.heap.size 84 7 (.slice a' xs.length c') xs.length (evals xs) → Calls Tryz.prog 80 #[.slice a' xs.length c', .func (.func 81) #[] #[]] Z fun r Z' => r = .returned (.tuple #[]) ∧ ∃ ys : List EntD, ys.Perm xs ∧ (ys.Pairwise fun x y => compareS x y ≤ 0) ∧ Z'.ownsRow W.heap.size 84 7 (.slice a' xs.length c') xs.length (evals ys) ∧ Z.grownBy Z' (Value.slice a' xs.length c').ownBlock) :
    Calls Tryz.prog 47 #[.slice a l.length cap, .func (.func 48) #[] #[]] W fun r W' => Below W.heap.size W W' ∧ (inOrderE (chkC) l ≠ 0 → r = .returned (.tuple #[.slice none 0 0, .int .i64 (inOrderE (chkC) l)])) ∧ (inOrderE (chkC) l = 0 → ∃ xs ys a' c', onceS l = some xs ∧ ys.Perm xs ∧ (ys.Pairwise fun x y => compareS x y ≤ 0) ∧ r = .returned (.tuple #[.slice a' ys.length c', .int .i64 0]) ∧ W'.ownsRow W.heap.size 84 7 (.slice a' ys.length c') ys.length (evals ys)) := by
  obtain ⟨R, hR⟩ : ∃ R, R = inOrderE (chkC) l := ⟨_, rfl⟩
  obtain ⟨N, hN⟩ : ∃ N, N = l.length := ⟨_, rfl⟩
  rw [← hN] at hl ⊢
  rw [← hR]
  have HRR := Lib.hid hR
  have HN := Lib.hid hN
  have HRd := Lib.hid hr
  have HSo := Lib.hid HSort
  clear hR hN hr HSort
  go_enter Tryz.func47, Tryz.ntmps47
  go_wp2
  go_loopw [13] (fun i wr => ∃ t : Nat, t ≤ N ∧ i = .int .i64 (t : Int) ∧ Hid (Below W.heap.size W wr) ∧ Hid (∀ x ∈ l.take t, chkC x = 0)) (fun i _ => N - (intOf i).toNat)
  case atStart => exact ⟨0, Nat.zero_le _, rfl, Below.refl _ _, by unfold Hid; simp⟩
  case round =>
    obtain ⟨t, ht, rfl, HBw, HAll⟩ := hrel
    have t0 : (0 : Int) ≤ (t : Int) := by omega
    by_cases hlt : t < N
    · have hlt2 : (t : Int) < (N : Int) := by omega
      obtain ⟨e, he⟩ : ∃ e, l[t]? = some e := ⟨l[t]'(by rw [← HN.out]; exact hlt), List.getElem?_eq_getElem _⟩
      have hrd := HRd.out.later HBw.out
      have hok := hrd.ok e (List.mem_of_getElem? he)
      rcases hrd.at_ with h0 | ⟨b, off, rfl, hc⟩
      · rw [h0] at he; simp at he
      have d0 := hc t e he 0 e.vr rfl
      have d1 := hc t e he 1 (.int .i64 e.fam) rfl
      have d2 := hc t e he 2 e.vq rfl
      have d3 := hc t e he 3 (.int .i64 e.ts) rfl
      have d4 := hc t e he 4 (.int .i64 e.seq) rfl
      have d5 := hc t e he 5 (.int .i64 e.kind) rfl
      have d6 := hc t e he 6 e.vv rfl
      simp only [Nat.add_zero] at d0
      have A5 := (Below.refl wr.heap.size wr).alloc (Nat.le_refl _) (.cells e.cells 84)
      have B5 := HBw.out.trans (A5.mono HBw.out.size)
      have HCk := Lib.hid (check_any (hok.later A5))
      obtain ⟨_, a1, n1, e1, -⟩ := hok.1
      obtain ⟨_, a2, n2, e2, -⟩ := hok.2.1
      obtain ⟨_, a3, n3, e3, -⟩ := hok.2.2
      have hXe : e.cells = #[.slice a1 e.row.length n1, .int .i64 e.fam, .slice a2 e.qual.length n2, .int .i64 e.ts, .int .i64 e.seq, .int .i64 e.kind, .slice a3 e.val.length n3] := by unfold EntD.cells; rw [e1, e2, e3]
      rw [e1] at d0
      rw [e2] at d2
      rw [e3] at d6
      rw [hXe] at HCk B5
      have HB5 := Lib.hid B5
      have HE := Lib.hid he
      obtain ⟨c, hc2⟩ : ∃ c, c = chkC e := ⟨_, rfl⟩
      rw [show ((checkS e : Nat) : Int) = c from hc2.symm] at HCk
      have HC2 := Lib.hid hc2
      clear hrd hok hc A5 B5 e1 e2 e3 hXe he hc2
      go_wp2_with fail
      refine Calls.mono HCk.out ?_
      rintro z X2 ⟨rfl, b2⟩
      have HB2 := Lib.hid (HB5.out.trans (b2.mono HB5.out.size))
      clear b2 d0 d1 d2 d3 d4 d5 d6 HCk HB5
      by_cases h0 : c = 0
      · have HAll2 : Hid (∀ x ∈ l.take (t + 1), chkC x = 0) := by
          unfold Hid
          rw [List.take_add_one, HE.out]
          intro x hx
          rcases List.mem_append.1 hx with q | q
          · exact HAll.out x q
          · simp at q
            rw [q, ← HC2.out]; exact h0
        subst h0
        go_wp2
        go_roundw
        case rel => exact ⟨t + 1, by omega, by go_num, HB2, HAll2⟩
        case measure => simp only [intOf]; omega
      · have q : Hid (R = c ∧ R ≠ 0) := by
          have hd : l = l.take t ++ e :: l.drop (t + 1) := by
            have h1 := (List.getElem?_eq_some_iff.1 HE.out)
            rw [← h1.2, ← List.drop_eq_getElem_cons, List.take_append_drop]
          have hfb : firstBad (chkC) l = c := by
            rw [hd, HC2.out]
            exact firstBad_at HAll.out (by rw [← HC2.out]; exact h0)
          have : R = c := by rw [HRR.out, inOrderE, if_pos (by rw [hfb]; exact h0), hfb]
          exact ⟨this, by rw [this]; exact h0⟩
        have b0 : (c != 0) = true := by simp [h0]
        clear h0
        go_wp2
        go_ret2
        exact ⟨HB2.out, fun _ => by rw [q.out.1]; rfl, fun z => absurd z q.out.2⟩
    · have hge : ¬ (t : Int) < (N : Int) := by omega
      have e : t = N := by omega
      have hall : ∀ x ∈ l, chkC x = 0 := by have := HAll.out; rwa [e, HN.out, List.take_length] at this
      have HOn := Lib.hid (once_any (HRd.out.later HBw.out) (by rw [← HN.out]; omega) (fun x hx => seq_of_chkC (hall x hx)))
      have hRv : R = if onceS l = none then 31 else 0 := by rw [HRR.out, inOrderE, if_neg (by rw [firstBad_zero hall]; simp)]
      rw [← HN.out] at HOn
      have HRv := Lib.hid hRv
      clear hRv hall e
      go_wp2_with fail
      refine Calls.mono HOn.out ?_
      rintro z W2 ⟨b2, hnone, hsome⟩
      have HB2 := Lib.hid (HBw.out.trans (b2.mono HBw.out.size))
      clear HOn b2
      cases ho : onceS l with
      | none =>
        have hz := hnone ho
        subst hz
        have q : Hid (R = 31) := by unfold Hid; rw [HRv.out, if_pos ho]
        clear hnone hsome ho
        go_wp2
        go_ret2
        exact ⟨HB2.out, fun _ => by rw [q.out]; rfl, fun z => by have := q.out; omega⟩
      | some xs =>
        obtain ⟨a', c', hz, hrow⟩ := hsome xs ho
        subst hz
        have q : Hid (R = 0) := by unfold Hid; rw [HRv.out, if_neg (by rw [ho]; simp)]
        have hrow2 := row_low hrow HBw.out.size
        have HSc := Lib.hid (HSo.out W2 a' c' xs ho HB2.out hrow2)
        have HRw := Lib.hid hrow2
        have HOo := Lib.hid ho
        clear hnone hsome ho hrow hrow2
        go_wp2_with fail
        refine Calls.mono HSc.out ?_
        rintro z W3 ⟨rfl, ys, hp, hsrt, hrow3, hgr⟩
        have HF := Lib.hid (And.intro hp (And.intro hsrt (And.intro hrow3 hgr)))
        clear hp hsrt hrow3 hgr HSc
        go_wp2
        go_ret2
        obtain ⟨hp, hsrt, hrow3, hgr⟩ := HF.out
        have el := hp.length_eq
        refine ⟨HB2.out.grown hgr HB2.out.size (fun g hg => (HRw.out.lt g hg).1), fun z => absurd q.out z, fun _ => ⟨xs, ys, a', c', HOo.out, hp, hsrt, by rw [el]; rfl, by rw [el]; exact hrow3⟩⟩
end Go.Proofs.YtganmnckdmkcbaaGreat

namespace Go.Proofs.YtganmnckdmkcbaaGreat
open Go.RowKit Go.Maps
set_option linter.unusedVariables false

theorem row_set {w : World} {B s n c g k : Nat} {e : TypeId} {vs : List Value} (h : w.ownsRow B e s (.slice (some ⟨g, 0, none⟩) n c) n vs) (hk : k < vs.length) (u : Value) : (w.setCell ⟨g, k, none⟩ u).ownsRow B e s (.slice (some ⟨g, 0, none⟩) n c) n (vs.set k u) := by
  rcases h.2 with ⟨h1, _⟩ | ⟨g', cap, cur, h1, h2, h3, h4, h5, h6, h7⟩
  · cases h1
  · simp only [Value.slice.injEq, Option.some.injEq, Addr.mk.injEq] at h1
    obtain ⟨⟨rfl, -, -⟩, -, rfl⟩ := h1
    refine ⟨by have := h.1; simpa using this, .inr ⟨g, c, cur.setIfInBounds k u, rfl, h2, ?_, h4, h5, by simp [h6], ?_⟩⟩
    · simp [World.setCell, Array.getElem?_modify, h3]
    · rw [Array.toList_setIfInBounds, List.take_set, h7]
theorem evals_set {zs : List EntD} {t : Nat} (x : EntD) (ht : t < zs.length) : evals (zs.set t x) = (((((((evals zs).set (t * 7) x.vr).set (t * 7 + 1) (.int .i64 x.fam)).set (t * 7 + 2) x.vq).set (t * 7 + 3) (.int .i64 x.ts)).set (t * 7 + 4) (.int .i64 x.seq)).set (t * 7 + 5) (.int .i64 x.kind)).set (t * 7 + 6) x.vv := by
  induction zs generalizing t with
  | nil => simp at ht
  | cons y ys ih =>
    cases t with
    | zero =>
      rw [List.set_cons_zero, evals_cons, evals_cons]
      unfold EntD.cells
      simp
    | succ t =>
      have e : ∀ (L : List Value) (j : Nat) (v : Value), (y.cells.toList ++ L).set ((t + 1) * 7 + j) v = y.cells.toList ++ L.set (t * 7 + j) v := fun L j v => by
        rw [List.set_append_right _ _ (by rw [EntD.cells_len]; omega), EntD.cells_len]
        congr 2
        omega
      have e0 : ∀ (L : List Value) (v : Value), (y.cells.toList ++ L).set ((t + 1) * 7) v = y.cells.toList ++ L.set (t * 7) v := fun L v => e L 0 v
      rw [List.set_cons_succ, evals_cons, evals_cons, ih (by simpa using ht), e0, e, e, e, e, e, e]
theorem row_fz {w : World} {B s n c g : Nat} {e : TypeId} {vs : List Value} (h : w.ownsRow B e s (.slice (some ⟨g, 0, none⟩) n c) n vs) (i : Nat) : w.frozen? ⟨g, i, none⟩ = false := by
  rcases h.2 with ⟨h1, _⟩ | ⟨g', cap, cur, h1, h2, h3, h4, h5, h6, h7⟩
  · cases h1
  · simp only [Value.slice.injEq, Option.some.injEq, Addr.mk.injEq] at h1
    obtain ⟨⟨rfl, -, -⟩, -, rfl⟩ := h1
    simp [World.frozen?, h3]
theorem row_set7 {w : World} {B n c g t : Nat} {zs : List EntD} (h : w.ownsRow B 84 7 (.slice (some ⟨g, 0, none⟩) n c) n (evals zs)) (hn : n = zs.length) (ht : t < zs.length) (x : EntD) :
    (((((((w.setCell ⟨g, t * 7, none⟩ x.vr).setCell ⟨g, t * 7 + 1, none⟩ (.int .i64 x.fam)).setCell ⟨g, t * 7 + 2, none⟩ x.vq).setCell ⟨g, t * 7 + 3, none⟩ (.int .i64 x.ts)).setCell ⟨g, t * 7 + 4, none⟩ (.int .i64 x.seq)).setCell ⟨g, t * 7 + 5, none⟩ (.int .i64 x.kind)).setCell ⟨g, t * 7 + 6, none⟩ x.vv).ownsRow B 84 7 (.slice (some ⟨g, 0, none⟩) n c) n (evals (zs.set t x)) ∧ w.grownBy (((((((w.setCell ⟨g, t * 7, none⟩ x.vr).setCell ⟨g, t * 7 + 1, none⟩ (.int .i64 x.fam)).setCell ⟨g, t * 7 + 2, none⟩ x.vq).setCell ⟨g, t * 7 + 3, none⟩ (.int .i64 x.ts)).setCell ⟨g, t * 7 + 4, none⟩ (.int .i64 x.seq)).setCell ⟨g, t * 7 + 5, none⟩ (.int .i64 x.kind)).setCell ⟨g, t * 7 + 6, none⟩ x.vv) (some g) := by
  have l := evals_len zs
  refine ⟨?_, ?_⟩
  · rw [evals_set x ht]
    refine row_set (row_set (row_set (row_set (row_set (row_set (row_set h ?_ _) ?_ _) ?_ _) ?_ _) ?_ _) ?_ _) ?_ _
    all_goals first | omega | (simp only [List.length_set]; omega)
  · have s1 : ∀ (w : World) (i : Nat) (v : Value), w.grownBy (w.setCell ⟨g, i, none⟩ v) (some g) := fun w i v => by
      refine ⟨rfl, rfl, rfl, by rw [World.size_setCell]; exact Nat.le_refl _, fun j hj hne => Below.heap_setCell w ⟨g, i, none⟩ v j (fun z => hne (by rw [z]))⟩
    have tr : ∀ {a b c : World}, a.grownBy b (some g) → b.grownBy c (some g) → a.grownBy c (some g) := fun {a b c} h k => ⟨k.os.trans h.os, k.tape.trans h.tape, k.output.trans h.output, Nat.le_trans h.size k.size, fun j hj hne => (k.block j (Nat.lt_of_lt_of_le hj h.size) hne).trans (h.block j hj hne)⟩
    exact tr (tr (tr (tr (tr (tr (s1 _ _ _) (s1 _ _ _)) (s1 _ _ _)) (s1 _ _ _)) (s1 _ _ _)) (s1 _ _ _)) (s1 _ _ _)
structure Pc (W wr : World) (ys : List EntD) (t : Nat) (zs : List EntD) (v : Value) : Prop where
  row : wr.ownsRow W.heap.size 84 7 v zs.length (evals zs)
  ents : ∀ (i : Nat) x, i < t → zs[i]? = some x → O3 wr W.heap.size x
  ap : ∀ (i j : Nat) x y, i < j → j < t → zs[i]? = some x → zs[j]? = some y → Dsj x y
  below : Below W.heap.size W wr
  rest : ∀ i, t ≤ i → zs[i]? = ys[i]?
  dat : zs.map EntD.dat = ys.map EntD.dat
  ok : ∀ y ∈ ys, EntD.Ok W y
theorem Pc.step {W wr w1 w2 : World} {ys zs : List EntD} {t g n c : Nat} {x y : EntD} (h : Pc W wr ys t zs (.slice (some ⟨g, 0, none⟩) n c)) (hn : n = zs.length) (hy : ys[t]? = some y) (b : Below wr.heap.size wr w1) (o : O3 w1 wr.heap.size x) (e : x.dat = y.dat) (gr : w1.grownBy w2 (some g)) (r : w2.ownsRow W.heap.size 84 7 (.slice (some ⟨g, 0, none⟩) n c) n (evals (zs.set t x))) : Pc W w2 ys (t + 1) (zs.set t x) (.slice (some ⟨g, 0, none⟩) n c) := by
  have hlen : zs.length = ys.length := by have := congrArg List.length h.dat; simpa using this
  have ht : t < zs.length := by rw [hlen]; exact (List.getElem?_eq_some_iff.1 hy).1
  have gl := (h.row.lt g rfl)
  have ku : KU w1 w2 := KU.grown gr fun r hr => by
    cases hr
    have e1 := b.block g gl.2
    rcases h.row.2 with ⟨h1, _⟩ | ⟨g', cap, cur, h1, h2, h3, _⟩
    · cases h1
    · simp only [Value.slice.injEq, Option.some.injEq, Addr.mk.injEq] at h1
      obtain ⟨⟨rfl, -, -⟩, -⟩ := h1
      exact ⟨cur, _, _, e1.trans h3, by decide⟩
  have bb := h.below.trans (b.mono h.below.size)
  have old : ∀ (i : Nat) z, i < t → zs[i]? = some z → O3 w2 W.heap.size z ∧ ∀ k, (z.vr.ownBlock = some k ∨ z.vq.ownBlock = some k ∨ z.vv.ownBlock = some k) → k < wr.heap.size := fun i z hi hz => ⟨((h.ents i z hi hz).later b).ku ku, fun k hk => ((h.ents i z hi hz).lt k hk).2⟩
  refine ⟨by rw [List.length_set, ← hn]; exact r, fun i z hi hz => ?_, fun i j p q hij hj hp hq => ?_, bb.grown gr bb.size (fun k hk => by cases hk; exact gl.1), fun i hi => ?_, ?_, h.ok⟩
  · by_cases e1 : i = t
    · subst e1
      rw [List.getElem?_set_self ht] at hz
      cases hz
      exact (o.mono h.below.size).ku ku
    · rw [List.getElem?_set_ne (by omega)] at hz
      exact (old i z (by omega) hz).1
  · rw [List.getElem?_set_ne (by omega)] at hp
    by_cases e1 : j = t
    · subst e1
      rw [List.getElem?_set_self ht] at hq
      cases hq
      intro k hk hk2
      have := (old i p hij hp).2 k hk
      have := (o.lt k hk2).1
      omega
    · rw [List.getElem?_set_ne (by omega)] at hq
      exact h.ap i j p q hij (by omega) hp hq
  · rw [List.getElem?_set_ne (by omega)]
    exact h.rest i (by omega)
  · rw [List.map_set, h.dat, e]
    apply List.ext_getElem?
    intro i
    by_cases e1 : i = t
    · subst e1
      rw [List.getElem?_set_self (by simp; omega), List.getElem?_map, hy]
      rfl
    · rw [List.getElem?_set_ne (by omega)]
theorem Pc.done {W wr : World} {ys zs : List EntD} {v : Value} (h : Pc W wr ys zs.length zs v) : Rw wr W.heap.size v zs (fun i => W.heap.size ≤ i ∧ i < wr.heap.size) := by
  refine ⟨h.row, fun x hx => ?_, ?_, fun k hk => h.row.lt k hk, fun x hx k hk => ?_⟩
  · obtain ⟨i, hi⟩ := List.getElem?_of_mem hx
    exact h.ents i x (List.getElem?_eq_some_iff.1 hi).1 hi
  · rw [List.pairwise_iff_getElem]
    intro i j hi hj hij
    exact h.ap i j _ _ hij hj (List.getElem?_eq_getElem hi) (List.getElem?_eq_getElem hj)
  · obtain ⟨i, hi⟩ := List.getElem?_of_mem hx
    exact (h.ents i x (List.getElem?_eq_some_iff.1 hi).1 hi).lt k hk
end Go.Proofs.YtganmnckdmkcbaaGreat
