import Derived.Test.YtemdhpjoakldhaaJ25
import Derived.Test.YtemdhpjoakldhaaJ17
import Derived.Test.YtemdhpjoakldhaaRows
import Derived.Test.YtemdhpjoakldhaaJ00
import Derived.ProofKit
import Derived.OpenShut
import Derived.Deep.DeepHandedRow
import Derived.Lib.LaidTab
import Derived.Deep.Slices
import Derived.Test.YtemdhpjoakldhaaJ01
import Derived.Test.YtemdhpjoakldhaaJ15
import Derived.Test.YtemdhpjoakldhaaJ11
namespace Go.Proofs.Ytemdhpjoakldhaa
open Go.RowKit
set_option linter.unusedVariables false

/-- The law's shown: of one column, time, Seq and kind. -/
def hit (x e : En) : Prop := x.fam = e.fam ∧ x.ts = e.ts ∧ x.seq = e.seq ∧ x.row = e.row ∧ x.qual = e.qual ∧ x.kind = e.kind
theorem alikeS {a b : Value} {xs ys : List Nat} {w : World} (ha : Rd w a xs) (hb : Rd w b ys) : Calls Try.prog 19 #[a, b] w fun e w' => e = .returned (.bool (decide (xs = ys))) ∧ w = w' := Calls.mono (alike_any ha hb) fun e w' h => ⟨h.1, h.2.symm⟩
set_option maxRecDepth 100000 in
set_option maxHeartbeats 8000000 in
theorem shown_any {w : World} {a : Option Addr} {cap : Nat} {l : List EntD} {e : EntD} (hr : RdL3 w a cap l) (he : EntD.Ok w e) (hl : l.length ≤ 1353245080300) :
    Calls Try.prog 20 #[.slice a l.length cap, .agg e.cells] w fun r w' => ∃ b, r = .returned (.bool b) ∧ (b = true ↔ ∃ x ∈ l, hit x.dat e.dat) ∧ Below w.heap.size w w' := by
  obtain ⟨n, hn⟩ : ∃ n, n = l.length := ⟨_, rfl⟩
  rw [← hn] at hl ⊢
  have a1 : n ≤ cap := by rw [hn]; exact hr.cap.1
  have HN : Hid (l.length = n) := hn.symm
  have A1 := (Below.refl w.heap.size w).alloc (Nat.le_refl _) (.cells e.cells 38)
  have bx := EBox.new w e
  obtain ⟨V, hV⟩ : ∃ V, V = w.alloc (.cells e.cells 38) := ⟨_, rfl⟩
  rw [← hV] at A1 bx
  have HX := Lib.hid (And.intro bx (And.intro A1 (And.intro (hr.later A1) (he.later A1))))
  have HV := Lib.hid hV
  clear hn hr he A1 bx hV
  obtain ⟨vre, fe, vqe, te, se, ke, vve, rowe, quale, vale⟩ := e
  simp only [EntD.cells] at *
  have hmx : Try.prog.follows .mixedOrders = true := by kernel_rfl
  go_enter Try.func20, Try.ntmps20
  go_wp2_with fail
  rw [← HV.out]
  go_loopw [5] (fun i wr => ∃ t : Nat, t ≤ n ∧ i = .int .i64 (t : Int) ∧ Hid (Below V.heap.size V wr) ∧ Hid (∀ x ∈ l.take t, ¬ hit x.dat (EntD.dat ⟨vre, fe, vqe, te, se, ke, vve, rowe, quale, vale⟩))) (fun i _ => n - (intOf i).toNat)
  case atStart => exact ⟨0, Nat.zero_le _, rfl, Below.refl _ _, by unfold Hid; simp⟩
  case round =>
    obtain ⟨t, ht, rfl, HB, HAll⟩ := hrel
    have t0 : (0 : Int) ≤ (t : Int) := by omega
    by_cases hlt : t < n
    · have hlt2 : (t : Int) < (n : Int) := by omega
      obtain ⟨x, hx⟩ : ∃ x, l[t]? = some x := ⟨l[t]'(by rw [HN.out]; exact hlt), List.getElem?_eq_getElem _⟩
      obtain ⟨ba, oa, rfl⟩ : ∃ b off, a = some ⟨b, off, none⟩ := by
        rcases HX.out.2.2.1.at_ with h0 | ⟨b, off, q, _⟩
        · rw [h0] at hx; simp at hx
        · exact ⟨b, off, q⟩
      obtain ⟨vr, fm, vq, ts, sq, kn, vv, row, qual, val⟩ := x
      have HXm := Lib.hid hx
      have KS : Hid (∀ wx, Below wr.heap.size wr wx → (wx.cell? ⟨ba, oa + t * 7, none⟩ = some vr ∧ wx.cell? ⟨ba, oa + t * 7 + 1, none⟩ = some (.int .i64 fm) ∧ wx.cell? ⟨ba, oa + t * 7 + 2, none⟩ = some vq ∧ wx.cell? ⟨ba, oa + t * 7 + 3, none⟩ = some (.int .i64 ts) ∧ wx.cell? ⟨ba, oa + t * 7 + 4, none⟩ = some (.int .i64 sq) ∧ wx.cell? ⟨ba, oa + t * 7 + 5, none⟩ = some (.int .i64 kn)) ∧ wx.cell? ⟨w.heap.size, 0, none⟩ = some vre ∧ wx.cell? ⟨w.heap.size, 1, none⟩ = some (.int .i64 fe) ∧ wx.cell? ⟨w.heap.size, 2, none⟩ = some vqe ∧ wx.cell? ⟨w.heap.size, 3, none⟩ = some (.int .i64 te) ∧ wx.cell? ⟨w.heap.size, 4, none⟩ = some (.int .i64 se) ∧ wx.cell? ⟨w.heap.size, 5, none⟩ = some (.int .i64 ke)) := fun wx b => by
        have k := HB.out.trans (b.mono HB.out.size)
        have c1 := HX.out.2.2.1.cells k HXm.out
        have bb := HX.out.1.later k
        exact ⟨⟨c1 0 _ rfl, c1 1 _ rfl, c1 2 _ rfl, c1 3 _ rfl, c1 4 _ rfl, c1 5 _ rfl⟩, bb.vr, bb.fam, bb.vq, bb.ts, bb.seq, bb.kind⟩
      have HAr : Hid (∀ Z, Below wr.heap.size wr Z → Calls Try.prog 19 #[vr, vre] Z fun r w' => r = .returned (.bool (decide (row = rowe))) ∧ w' = Z) := fun Z b => by
        have k := HB.out.trans (b.mono HB.out.size)
        exact alike_any ((HX.out.2.2.1.later k).ok _ (List.mem_of_getElem? HXm.out)).1 (HX.out.2.2.2.later k).1
      have HAq : Hid (∀ Z, Below wr.heap.size wr Z → Calls Try.prog 19 #[vq, vqe] Z fun r w' => r = .returned (.bool (decide (qual = quale))) ∧ w' = Z) := fun Z b => by
        have k := HB.out.trans (b.mono HB.out.size)
        exact alike_any ((HX.out.2.2.1.later k).ok _ (List.mem_of_getElem? HXm.out)).2.1 (HX.out.2.2.2.later k).2.1
      have D0 : Below wr.heap.size wr wr.drew := (Below.refl _ _).drew
      obtain ⟨⟨u0, u1, u2, u3, u4, u5⟩, y0, y1, y2, y3, y4, y5⟩ := KS.out wr (Below.refl _ _)
      have HNx : Hid (¬ hit (EntD.dat ⟨vr, fm, vq, ts, sq, kn, vv, row, qual, val⟩) (EntD.dat ⟨vre, fe, vqe, te, se, ke, vve, rowe, quale, vale⟩) → ∀ x ∈ l.take (t + 1), ¬ hit x.dat (EntD.dat ⟨vre, fe, vqe, te, se, ke, vve, rowe, quale, vale⟩)) := fun hno x hx2 => by
        rw [List.take_add_one, HXm.out] at hx2
        rcases List.mem_append.1 hx2 with q | q
        · exact HAll.out x q
        · simp at q
          rw [q]; exact hno
      clear hx
      by_cases c0 : fm = fe
      · subst c0
        by_cases c1 : ts = te
        · subst c1
          by_cases c2 : sq = se
          · subst c2
            by_cases c3 : row = rowe
            · rw [decide_eq_true c3] at HAr
              by_cases c4 : qual = quale
              · rw [decide_eq_true c4] at HAq
                by_cases c5 : kn = ke
                · subst c5
                  have q9 := Lib.hid (And.intro (List.mem_of_getElem? HXm.out) (And.intro HB.out HX.out.2.1))
                  go_wp2_with fail
                  go_quiet (first | (go_at_call 19; with_reducible exact Calls.quiet_of_same (HAr.out _ (below_dn (Below.refl _ _) _))) | (go_at_call 19; with_reducible exact Calls.quiet_of_same (HAq.out _ (below_dn (Below.refl _ _) _))) | (go_at_call 19; with_reducible exact Calls.quiet_of_same (HAr.out _ (Below.refl _ _).drew)) | (go_at_call 19; with_reducible exact Calls.quiet_of_same (HAq.out _ (Below.refl _ _).drew)))
                  all_goals
                    go_wp2
                    go_ret
                    exact ⟨true, rfl, ⟨fun _ => ⟨_, q9.out.1, rfl, rfl, rfl, c3, c4, rfl⟩, fun _ => rfl⟩, q9.out.2.2.trans ((below_drewN q9.out.2.1 _).mono q9.out.2.2.size)⟩
                · have c9 : (kn == ke) = false := by simpa using c5
                  have q9 := Lib.hid (HNx.out (fun h => c5 h.2.2.2.2.2))
                  go_wp2_with fail
                  go_quiet (first | (go_at_call 19; with_reducible exact Calls.quiet_of_same (HAr.out _ (below_dn (Below.refl _ _) _))) | (go_at_call 19; with_reducible exact Calls.quiet_of_same (HAq.out _ (below_dn (Below.refl _ _) _))) | (go_at_call 19; with_reducible exact Calls.quiet_of_same (HAr.out _ (Below.refl _ _).drew)) | (go_at_call 19; with_reducible exact Calls.quiet_of_same (HAq.out _ (Below.refl _ _).drew)))
                  all_goals
                    go_wp2
                    go_roundw
                    case rel => exact ⟨t + 1, by omega, by go_num, below_drewN HB.out _, q9⟩
                    case measure => simp only [intOf]; omega
              · rw [decide_eq_false c4] at HAq
                have q9 := Lib.hid (HNx.out (fun h => c4 h.2.2.2.2.1))
                go_wp2_with fail
                go_quiet (first | (go_at_call 19; with_reducible exact Calls.quiet_of_same (HAr.out _ (below_dn (Below.refl _ _) _))) | (go_at_call 19; with_reducible exact Calls.quiet_of_same (HAq.out _ (below_dn (Below.refl _ _) _))) | (go_at_call 19; with_reducible exact Calls.quiet_of_same (HAr.out _ (Below.refl _ _).drew)) | (go_at_call 19; with_reducible exact Calls.quiet_of_same (HAq.out _ (Below.refl _ _).drew)))
                all_goals
                  go_wp2
                  go_roundw
                  case rel => exact ⟨t + 1, by omega, by go_num, below_drewN HB.out _, q9⟩
                  case measure => simp only [intOf]; omega
            · rw [decide_eq_false c3] at HAr
              have q9 := Lib.hid (HNx.out (fun h => c3 h.2.2.2.1))
              go_wp2_with fail
              go_quiet (first | (go_at_call 19; with_reducible exact Calls.quiet_of_same (HAr.out _ (below_dn (Below.refl _ _) _))) | (go_at_call 19; with_reducible exact Calls.quiet_of_same (HAq.out _ (below_dn (Below.refl _ _) _))) | (go_at_call 19; with_reducible exact Calls.quiet_of_same (HAr.out _ (Below.refl _ _).drew)) | (go_at_call 19; with_reducible exact Calls.quiet_of_same (HAq.out _ (Below.refl _ _).drew)))
              all_goals
                go_wp2
                go_roundw
                case rel => exact ⟨t + 1, by omega, by go_num, below_drewN HB.out _, q9⟩
                case measure => simp only [intOf]; omega
          · have c9 : (sq == se) = false := by simpa using c2
            have q9 := Lib.hid (HNx.out (fun h => c2 h.2.2.1))
            go_wp2_with fail
            go_quiet (first | (go_at_call 19; with_reducible exact Calls.quiet_of_same (HAr.out _ (below_dn (Below.refl _ _) _))) | (go_at_call 19; with_reducible exact Calls.quiet_of_same (HAq.out _ (below_dn (Below.refl _ _) _))) | (go_at_call 19; with_reducible exact Calls.quiet_of_same (HAr.out _ (Below.refl _ _).drew)) | (go_at_call 19; with_reducible exact Calls.quiet_of_same (HAq.out _ (Below.refl _ _).drew)))
            all_goals
              go_wp2
              go_roundw
              case rel => exact ⟨t + 1, by omega, by go_num, below_drewN HB.out _, q9⟩
              case measure => simp only [intOf]; omega
        · have c9 : (ts == te) = false := by simpa using c1
          have q9 := Lib.hid (HNx.out (fun h => c1 h.2.1))
          go_wp2_with fail
          go_quiet (first | (go_at_call 19; with_reducible exact Calls.quiet_of_same (HAr.out _ (below_dn (Below.refl _ _) _))) | (go_at_call 19; with_reducible exact Calls.quiet_of_same (HAq.out _ (below_dn (Below.refl _ _) _))) | (go_at_call 19; with_reducible exact Calls.quiet_of_same (HAr.out _ (Below.refl _ _).drew)) | (go_at_call 19; with_reducible exact Calls.quiet_of_same (HAq.out _ (Below.refl _ _).drew)))
          all_goals
            go_wp2
            go_roundw
            case rel => exact ⟨t + 1, by omega, by go_num, below_drewN HB.out _, q9⟩
            case measure => simp only [intOf]; omega
      · have c9 : (fm == fe) = false := by simpa using c0
        have q9 := Lib.hid (HNx.out (fun h => c0 h.1))
        go_wp2_with fail
        go_quiet (first | (go_at_call 19; with_reducible exact Calls.quiet_of_same (HAr.out _ (below_dn (Below.refl _ _) _))) | (go_at_call 19; with_reducible exact Calls.quiet_of_same (HAq.out _ (below_dn (Below.refl _ _) _))) | (go_at_call 19; with_reducible exact Calls.quiet_of_same (HAr.out _ (Below.refl _ _).drew)) | (go_at_call 19; with_reducible exact Calls.quiet_of_same (HAq.out _ (Below.refl _ _).drew)))
        all_goals
          go_wp2
          go_roundw
          case rel => exact ⟨t + 1, by omega, by go_num, below_drewN HB.out _, q9⟩
          case measure => simp only [intOf]; omega
    · have hge : ¬ (t : Int) < (n : Int) := by omega
      have e : t = n := by omega
      have q9 := Lib.hid (And.intro HAll.out (And.intro HB.out HX.out.2.1))
      rw [e, ← HN.out, List.take_length] at q9
      clear e
      go_wp2
      go_ret
      exact Or.inl ⟨rfl, q9.out.1, q9.out.2.2.trans (q9.out.2.1.mono q9.out.2.2.size)⟩
end Go.Proofs.Ytemdhpjoakldhaa

namespace Go.Proofs.Ytemdhpjoakldhaa
open Go.RowKit Go.Maps
set_option linter.unusedVariables false

theorem dn_below {W w : World} (h : ∃ n, w = W.drewN n) : Below W.heap.size W w := by
  obtain ⟨n, rfl⟩ := h
  exact below_dn (Below.refl _ _) n
theorem dn_more {W w : World} (h : ∃ n, w = W.drewN n) (m : Nat) : ∃ n, w.drewN m = W.drewN n := by
  obtain ⟨n, rfl⟩ := h
  exact ⟨n + m, World.drewN_drewN ..⟩
/-- Has no entry of one list the Seq of one of the other? -/
def apartS (la lb : List EntD) : Bool := la.all fun x => lb.all fun y => decide (x.seq ≠ y.seq)
theorem apart_iff {la lb : List EntD} : apartS la lb = true ↔ ∀ x ∈ la, ∀ y ∈ lb, x.seq ≠ y.seq := by
  unfold apartS
  simp only [List.all_eq_true, decide_eq_true_eq]
set_option maxRecDepth 100000 in
set_option maxHeartbeats 4000000 in
theorem apart_any {W : World} {a b : Option Addr} {c d : Nat} {la lb : List EntD} (h1 : RdL3 W a c la) (h2 : RdL3 W b d lb) (l1 : la.length ≤ 1353245080300) (l2 : lb.length ≤ 1353245080300) :
    Calls Try.prog 11 #[.slice a la.length c, .slice b lb.length d] W fun r w' => r = .returned (.bool (apartS la lb)) ∧ ∃ n, w' = W.drewN n := by
  have c1 := h1.cap
  have c2 := h2.cap
  obtain ⟨N, hN⟩ : ∃ N, N = la.length := ⟨_, rfl⟩
  obtain ⟨M, hM⟩ : ∃ M, M = lb.length := ⟨_, rfl⟩
  rw [← hN] at l1 c1 ⊢
  rw [← hM] at l2 c2 ⊢
  have HN := Lib.hid hN
  have HM := Lib.hid hM
  have H1 := Lib.hid h1
  have H2 := Lib.hid h2
  obtain ⟨Q, hQ⟩ : ∃ Q, Q = apartS la lb := ⟨_, rfl⟩
  rw [← hQ]
  have HQt : Hid ((∀ x ∈ la, ∀ y ∈ lb, x.seq ≠ y.seq) → Q = true) := fun z => hQ.trans (apart_iff.2 z)
  have HQf : Hid (∀ x ∈ la, ∀ y ∈ lb, x.seq = y.seq → Q = false) := fun x hx y hy e => by
    cases hq : Q with
    | false => rfl
    | true => exact absurd e (apart_iff.1 (hQ.symm.trans hq) x hx y hy)
  clear hN hM h1 h2 hQ
  go_enter Try.func11, Try.ntmps11
  go_wp2
  go_loopw [5, 6] (fun i _ wr => ∃ t : Nat, t ≤ N ∧ i = .int .i64 (t : Int) ∧ Hid (∀ x ∈ la.take t, ∀ y ∈ lb, x.seq ≠ y.seq) ∧ Hid (∃ n, wr = W.drewN n)) (fun i _ _ => N - (intOf i).toNat)
  case atStart => exact ⟨0, Nat.zero_le _, rfl, (fun x hx => by simp at hx), ⟨0, rfl⟩⟩
  case round =>
    obtain ⟨t, ht, rfl, HT, HB⟩ := hrel
    have t0 : (0 : Int) ≤ (t : Int) := by omega
    by_cases hlt : t < N
    · have hlt2 : (t : Int) < (N : Int) := by omega
      obtain ⟨x, hx⟩ : ∃ x, la[t]? = some x := ⟨la[t]'(by rw [← HN.out]; exact hlt), List.getElem?_eq_getElem _⟩
      obtain ⟨ba, oa, rfl⟩ : ∃ b off, a = some ⟨b, off, none⟩ := by
        rcases H1.out.at_ with h0 | ⟨b, off, q, _⟩
        · rw [h0] at hx; simp at hx
        · exact ⟨b, off, q⟩
      have HX := Lib.hid hx
      clear hx
      go_wp2
      go_loopw [6] (fun k wq => ∃ u : Nat, u ≤ M ∧ k = .int .i64 (u : Int) ∧ Hid (∀ y ∈ lb.take u, x.seq ≠ y.seq) ∧ Hid (∃ n, wq = W.drewN n)) (fun k _ => M - (intOf k).toNat)
      case atStart => exact ⟨0, Nat.zero_le _, rfl, (fun y hy => by simp at hy), HB.out⟩
      case round =>
        obtain ⟨u, hu, rfl, HU, HBq⟩ := hrel
        have u0 : (0 : Int) ≤ (u : Int) := by omega
        by_cases hlu : u < M
        · have hlu2 : (u : Int) < (M : Int) := by omega
          obtain ⟨y, hy⟩ : ∃ y, lb[u]? = some y := ⟨lb[u]'(by rw [← HM.out]; exact hlu), List.getElem?_eq_getElem _⟩
          obtain ⟨bb, ob, rfl⟩ : ∃ b' off, b = some ⟨b', off, none⟩ := by
            rcases H2.out.at_ with h0 | ⟨b, off, q, _⟩
            · rw [h0] at hy; simp at hy
            · exact ⟨b, off, q⟩
          have x4 := (H1.out.later (dn_below HBq.out)).cells (Below.refl _ _) HX.out 4 _ rfl
          have y4 := (H2.out.later (dn_below HBq.out)).cells (Below.refl _ _) hy 4 _ rfl
          have HY := Lib.hid hy
          clear hy
          by_cases hc : x.seq = y.seq
          · have c9 : (x.seq == y.seq) = true := by simpa using hc
            have HCq := Lib.hid hc
            clear hc
            go_wp2_with fail
            go_quiet (fail)
            go_wp2
            go_ret
            exact ⟨by rw [HQf.out x (List.mem_of_getElem? HX.out) y (List.mem_of_getElem? HY.out) HCq.out]; rfl, dn_more HBq.out _⟩
          · have c9 : (x.seq == y.seq) = false := by simpa using hc
            have HCq := Lib.hid hc
            clear hc
            go_wp2_with fail
            go_quiet (fail)
            go_wp2
            go_roundw
            case rel =>
              refine ⟨u + 1, by omega, by go_num, fun z hz => ?_, dn_more HBq.out _⟩
              rw [List.take_add_one, HY.out] at hz
              rcases List.mem_append.1 hz with q | q
              · exact HU.out z q
              · simp at q
                rw [q]
                exact HCq.out
            case measure => simp only [intOf]; omega
        · have hgu : ¬ (u : Int) < (M : Int) := by omega
          have HF : Hid (∀ y ∈ lb, x.seq ≠ y.seq) := fun y hy => HU.out y (by rw [List.take_of_length_le (by rw [← HM.out]; omega)]; exact hy)
          go_wp2
          go_roundw
          case rel =>
            refine ⟨t + 1, by omega, by go_num, fun z hz => ?_, HBq.out⟩
            rw [List.take_add_one, HX.out] at hz
            rcases List.mem_append.1 hz with q | q
            · exact HT.out z q
            · simp at q
              rw [q]
              exact HF.out
          case measure => simp only [intOf]; omega
    · have hgt : ¬ (t : Int) < (N : Int) := by omega
      have HF : Hid (∀ x ∈ la, ∀ y ∈ lb, x.seq ≠ y.seq) := fun x hx => HT.out x (by rw [List.take_of_length_le (by rw [← HN.out]; omega)]; exact hx)
      go_wp2
      go_ret
      exact ⟨by rw [HQt.out HF.out]; rfl, HB.out⟩
end Go.Proofs.Ytemdhpjoakldhaa

namespace Go.Proofs.Ytemdhpjoakldhaa
open Go.ChangeShapes Go.WideShapes Go.ChangeAt Go.RowKit
set_option linter.unusedVariables false

theorem own_knob : ownKnob Try.prog.godebug = none := by kernel_rfl
theorem laid_out : laidOutB Try.prog = true := by kernel_rfl
theorem und_int : Try.prog.underlying 3 = some (.int .i64) := by kernel_rfl
theorem und_u64 : Try.prog.underlying 131 = some (.int .u64) := by kernel_rfl
theorem und_bool : Try.prog.underlying 4 = some .bool := by kernel_rfl
theorem cells_byte : Try.prog.cellsOf 5 = 1 := by kernel_rfl
theorem cells_bytes : Try.prog.cellsOf 36 = 1 := by kernel_rfl

theorem bulk_pos {H : Type} (d : DataW H) : 1 ≤ Rows.uptoBulk d := by
  cases d with
  | lit l => cases l <;> simp [Rows.uptoBulk]
  | nil => simp [Rows.uptoBulk]
  | ptr d => simp [Rows.uptoBulk]
  | slice elems spare => simp [Rows.uptoBulk]
  | agg parts => simp [Rows.uptoBulk]
  | iface t d => simp [Rows.uptoBulk]
  | map entries => simp [Rows.uptoBulk]
  | held h => simp [Rows.uptoBulk]
theorem bulk_len {H : Type} (l : List (DataW H)) : l.length ≤ Rows.uptoBulkAll l := by
  induction l with
  | nil => simp [Rows.uptoBulkAll]
  | cons x r ih => have := bulk_pos x; simp only [Rows.uptoBulkAll, List.length_cons]; omega

/-- A slice of bytes that came in. -/
theorem open_bytes {H : Type} {enc : TypeId × Value → H} {W : World} {v : Value} {d : DataW H} {p : List MemPlace} {base : Nat} {held : Bool} (h : DataW.Trod enc Try.prog W base (fun _ => true) held 36 v d p) (hs : ∃ a n c, v = .slice a n c) :
    ∃ bs : List Nat, (bs.length ≤ 281474976710656 → Rd W v bs) ∧ bs.length + 1 ≤ Rows.uptoBulk d ∧ (bs = [] ∨ ∃ elems spare, d = .slice elems spare ∧ elems.length = bs.length) := by
  obtain ⟨a, n, c, rfl⟩ := hs
  obtain ⟨fuel, hf⟩ := h
  rcases open_ints und_bytes und_byte cells_byte hf with ⟨hcs, hx⟩ | ⟨x, l, c', zs, hcs, _, hl, hm, hz, hx, hcell, hwz⟩
  · simp [Value.cells] at hcs
    obtain ⟨rfl, rfl, rfl⟩ := hcs
    refine ⟨[], fun _ => Rd.nil W, ?_, .inl rfl⟩
    have := bulk_pos d
    simpa using this
  · simp [Value.cells] at hcs
    obtain ⟨rfl, rfl, rfl⟩ := hcs
    simp only [if_true] at hz
    simp only [Prod.mk.injEq] at hx
    obtain ⟨rfl, _⟩ := hx
    have hby : ∀ i, i < zs.length → 0 ≤ zs.getD i 0 ∧ zs.getD i 0 < 256 := by
      intro i hi
      have hmem : zs.getD i 0 ∈ zs := by simp [List.getD, List.getElem?_eq_getElem hi]
      have := bounds_u8 (hwz _ hmem)
      omega
    refine ⟨(zs.take n).map Int.toNat, fun hlen => ⟨?_, some x, c, ?_, ?_, hm, hlen, ?_, ?_⟩, ?_, .inr ⟨_, _, rfl, by simp [lits]⟩⟩
    · intro y hy
      simp only [List.mem_map] at hy
      obtain ⟨z, hz1, rfl⟩ := hy
      have := bounds_u8 (hwz z (List.mem_of_mem_take hz1))
      omega
    · simp; omega
    · simp; omega
    · by_cases hc0 : c = 0
      · exact .inl hc0
      · right
        obtain ⟨b, off, spot⟩ := x
        have hc := hcell 0 (by omega)
        have hspot : spot = none := by simpa [Addr.add] using World.cell?_spot hc
        subst hspot
        exact ⟨b, off, rfl⟩
    · by_cases hn0 : n = 0
      · left; simp [hn0]
      · right
        obtain ⟨b, off, spot⟩ := x
        have hc := hcell 0 (by omega)
        have hspot : spot = none := by simpa [Addr.add] using World.cell?_spot hc
        subst hspot
        refine ⟨b, off, rfl, fun i hi => ?_⟩
        have hin : i < n := by simp at hi; omega
        have hc := hcell i (by omega)
        have e : (⟨b, off, none⟩ : Addr).add i = ⟨b, off + i, none⟩ := by unfold Addr.add; split <;> simp_all
        rw [e] at hc
        rw [hc]
        have hb := hby i (by omega)
        have e2 : ((zs.take n).map Int.toNat).getD i 0 = (zs.getD i 0).toNat := by
          simp [List.getElem?_take_of_lt hin, List.getElem?_eq_getElem (show i < zs.length by omega)]
        rw [e2, Int.toNat_of_nonneg hb.1]
    · have h1 := bulk_len (H := H) (lits .u8 (zs.take n))
      simp only [Rows.uptoBulk]
      simp [lits] at h1 ⊢
      omega

/-- What the reach gives of a slice of bytes. -/
theorem reach_bytes {H : Type} {ts : List TypeId} {ds gs : List (DataW H)} (h : (DataW.weightsEach Try.prog ts (ds ++ gs)).all (fun x => decide (x ≤ reachBytes)) = true) (j : Nat) (ht : ts[j]? = some 36) {d : DataW H} (hd : ds[j]? = some d) {bs : List Nat} (hx : bs = [] ∨ ∃ elems spare, d = .slice elems spare ∧ elems.length = bs.length) : bs.length ≤ 140737488351232 := by
  rcases hx with rfl | ⟨elems, spare, rfl, hl⟩
  · simp
  · have hd2 : (ds ++ gs)[j]? = some (.slice elems spare) := by
      rw [List.getElem?_append_left (List.getElem?_eq_some_iff.1 hd).1]
      exact hd
    have := sized_slice h ht hd2 und_bytes
    rw [show Try.prog.bytesOf 5 = 1 by kernel_rfl] at this
    unfold reachBytes at this
    omega

end Go.Proofs.Ytemdhpjoakldhaa

namespace Go.Proofs.Ytemdhpjoakldhaa
open Go.ChangeShapes Go.WideShapes Go.ChangeAt Go.RowKit
set_option linter.unusedVariables false

set_option maxRecDepth 100000 in
theorem und_entry : Try.prog.underlying 38 = some (.struct #[{ name := "Row", type := 36, offset := 0, embedded := false, tag := "", pkgPath := "", byteOffset := 0 }, { name := "Fam", type := 3, offset := 1, embedded := false, tag := "", pkgPath := "", byteOffset := 24 }, { name := "Qual", type := 36, offset := 2, embedded := false, tag := "", pkgPath := "", byteOffset := 32 }, { name := "Ts", type := 3, offset := 3, embedded := false, tag := "", pkgPath := "", byteOffset := 56 }, { name := "Seq", type := 3, offset := 4, embedded := false, tag := "", pkgPath := "", byteOffset := 64 }, { name := "Kind", type := 3, offset := 5, embedded := false, tag := "", pkgPath := "", byteOffset := 72 }, { name := "Value", type := 36, offset := 6, embedded := false, tag := "", pkgPath := "", byteOffset := 80 }]) := by kernel_rfl
theorem cells_entry : Try.prog.cellsOf 38 = 7 := by kernel_rfl
theorem cells_int : Try.prog.cellsOf 3 = 1 := by kernel_rfl

theorem slice_one {H : Type} {enc : TypeId × Value → H} {W : World} {base fuel : Nat} {held : Bool} {t e : TypeId} {c : Value} {x : DataW H × List MemPlace} (hu : Try.prog.underlying t = some (.slice e)) (h : DataW.trod enc Try.prog W base (fun _ => true) held fuel t [c] = some x) : (∃ a n k, c = .slice a n k) ∧ DataW.Trod enc Try.prog W base (fun _ => true) held t c x.1 x.2 := by
  have hsl : ∃ a n k, c = .slice a n k := by
    rcases DataW.trod_slice hu h with ⟨h0, _⟩ | ⟨a, len, cap, _, _, _, _, h0, _⟩
    · simp at h0; exact ⟨_, _, _, h0⟩
    · simp at h0; exact ⟨_, _, _, h0⟩
  refine ⟨hsl, fuel, ?_⟩
  obtain ⟨a, n, k, rfl⟩ := hsl
  simpa [Value.cells] using h

set_option maxRecDepth 100000 in
/-- An entry that came in. -/
theorem open_entry {H : Type} {enc : TypeId × Value → H} {W : World} {base : Nat} {held : Bool} {v : Value} {d : DataW H} {p : List MemPlace} (h0 : DataW.Trod enc Try.prog W base (fun _ => true) held 38 v d p) (hv : ∃ cs, v = .agg cs ∧ cs.size = Try.prog.cellsOf 38) :
    ∃ e : EntD, v = .agg e.cells ∧ ((e.row.length ≤ 281474976710656 ∧ e.qual.length ≤ 281474976710656 ∧ e.val.length ≤ 281474976710656) → EntD.Ok W e) ∧ (e.row.length + e.qual.length + e.val.length + 8 ≤ Rows.uptoBulk d) ∧
      ((d.weights Try.prog 38).all (fun x => decide (x ≤ reachBytes)) = true → e.row.length ≤ 140737488351232 ∧ e.qual.length ≤ 140737488351232 ∧ e.val.length ≤ 140737488351232) := by
  obtain ⟨csA, rfl, hcs⟩ := hv
  obtain ⟨fuel, h⟩ := h0
  obtain ⟨cs⟩ := csA
  simp only [Value.cells] at h
  obtain ⟨xs, n, hx, hdp, hcl, hxl, hf⟩ := DataW.trod_struct und_entry h
  simp only [Prod.mk.injEq] at hdp
  obtain ⟨rfl, rfl⟩ := hdp
  rw [cells_entry] at hcl
  obtain ⟨c0, c1, c2, c3, c4, c5, c6, rfl⟩ : ∃ c0 c1 c2 c3 c4 c5 c6, cs = [c0, c1, c2, c3, c4, c5, c6] := by
    match cs, hcl with
    | [c0, c1, c2, c3, c4, c5, c6], _ => exact ⟨_, _, _, _, _, _, _, rfl⟩
  obtain ⟨x0, x1, x2, x3, x4, x5, x6, rfl⟩ : ∃ x0 x1 x2 x3 x4 x5 x6, xs = [x0, x1, x2, x3, x4, x5, x6] := by
    match xs, hxl with
    | [c0, c1, c2, c3, c4, c5, c6], _ => exact ⟨_, _, _, _, _, _, _, rfl⟩
  have f0 := hf 0 _ rfl
  have f1 := hf 1 _ rfl
  have f2 := hf 2 _ rfl
  have f3 := hf 3 _ rfl
  have f4 := hf 4 _ rfl
  have f5 := hf 5 _ rfl
  have f6 := hf 6 _ rfl
  simp [cells_int, cells_bytes] at f0 f1 f2 f3 f4 f5 f6
  obtain ⟨n1, e1, b1, w1⟩ := DataW.trod_int und_int f1
  obtain ⟨n3, e3, b3, w3⟩ := DataW.trod_int und_int f3
  obtain ⟨n4, e4, b4, w4⟩ := DataW.trod_int und_int f4
  obtain ⟨n5, e5, b5, w5⟩ := DataW.trod_int und_int f5
  simp at e1 e3 e4 e5
  subst e1 e3 e4 e5
  obtain ⟨s0, t0⟩ := slice_one und_bytes f0
  obtain ⟨s2, t2⟩ := slice_one und_bytes f2
  obtain ⟨s6, t6⟩ := slice_one und_bytes f6
  obtain ⟨row, hr, hrl, hrd⟩ := open_bytes t0 s0
  obtain ⟨qual, hq, hql, hqd⟩ := open_bytes t2 s2
  obtain ⟨val, hw, hwl, hwd⟩ := open_bytes t6 s6
  refine ⟨⟨c0, n1, c2, n3, n4, n5, c6, row, qual, val⟩, rfl, fun h => ⟨hr h.1, hq h.2.1, hw h.2.2⟩, ?_, fun hs => ?_⟩
  · have q1 := bulk_pos x1.1
    have q3 := bulk_pos x3.1
    have q4 := bulk_pos x4.1
    have q5 := bulk_pos x5.1
    simp only [Rows.uptoBulk, List.map_cons, List.map_nil, Rows.uptoBulkAll]
    omega
  · have hs2 : (DataW.weightsEach Try.prog [36, 3, 36, 3, 3, 3, 36] ([x0.1, x1.1, x2.1, x3.1, x4.1, x5.1, x6.1] ++ [])).all (fun x => decide (x ≤ reachBytes)) = true := by
      simp only [DataW.weights, und_entry] at hs
      simpa using hs
    exact ⟨reach_bytes hs2 0 rfl rfl hrd, reach_bytes hs2 2 rfl rfl hqd, reach_bytes hs2 6 rfl rfl hwd⟩

/-- The weights of one argument. -/
theorem weight_at {H : Type} : ∀ {ts : List TypeId} {ds : List (DataW H)} (h : (DataW.weightsEach Try.prog ts ds).all (fun x => decide (x ≤ reachBytes)) = true) (j : Nat) {t : TypeId} {d : DataW H} (ht : ts[j]? = some t) (hd : ds[j]? = some d), (d.weights Try.prog t).all (fun x => decide (x ≤ reachBytes)) = true
  | [], _, _, j, _, _, ht, _ => by simp at ht
  | _ :: _, [], _, j, _, _, _, hd => by simp at hd
  | t :: ts, d :: ds, h, 0, _, _, ht, hd => by
    simp only [List.getElem?_cons_zero, Option.some.injEq] at ht hd
    subst ht hd
    simp only [DataW.weightsEach, List.all_append, Bool.and_eq_true] at h
    exact h.1
  | t :: ts, d :: ds, h, j + 1, _, _, ht, hd => by
    simp only [DataW.weightsEach, List.all_append, Bool.and_eq_true] at h
    exact weight_at h.2 j (by simpa using ht) (by simpa using hd)

end Go.Proofs.Ytemdhpjoakldhaa

namespace Go.Proofs.Ytemdhpjoakldhaa
open Go.ChangeShapes Go.WideShapes Go.ChangeAt Go.RowKit
set_option linter.unusedVariables false

theorem und_ents : Try.prog.underlying 25 = some (.slice 38) := by kernel_rfl
/-- A list of entries that was handed in, not longer than a list may be. -/
def RdE3 (W : World) (v : Value) (xs : List EntD) : Prop := ∃ a c, v = .slice a xs.length c ∧ RdL3 W a c xs ∧ xs.length ≤ 1353245080300

theorem weight_allE {H : Type} {e : TypeId} : ∀ {ds : List (DataW H)} (h : (DataW.weightsAll Try.prog e ds).all (fun x => decide (x ≤ reachBytes)) = true) {d : DataW H} (hd : d ∈ ds), (d.weights Try.prog e).all (fun x => decide (x ≤ reachBytes)) = true
  | [], _, _, hd => by cases hd
  | x :: ds, h, d, hd => by
    simp only [DataW.weightsAll, List.all_append, Bool.and_eq_true] at h
    rcases List.mem_cons.1 hd with rfl | hd
    · exact h.1
    · exact weight_allE h.2 hd

set_option maxRecDepth 100000 in
theorem open_entc {H : Type} {enc : TypeId × Value → H} {W : World} {base fuel : Nat} {held : Bool} {cs : List Value} {x : DataW H × List MemPlace} (h : DataW.trod enc Try.prog W base (fun _ => true) held fuel 38 cs = some x) (hl : cs.length = 7) (hk : (x.1.weights Try.prog 38).all (fun x => decide (x ≤ reachBytes)) = true) :
    ∃ e : EntD, cs = e.cells.toList ∧ EntD.Ok W e := by
  obtain ⟨d, p⟩ := x
  obtain ⟨e, h1, h2, _, h4⟩ := open_entry (v := .agg cs.toArray) (d := d) (p := p) ⟨fuel, by simpa [Value.cells] using h⟩ ⟨cs.toArray, rfl, by rw [cells_entry]; simpa using hl⟩
  have h5 := h4 hk
  refine ⟨e, ?_, h2 ⟨by omega, by omega, by omega⟩⟩
  have : cs.toArray = e.cells := by injection h1
  rw [← this]

set_option maxRecDepth 100000 in
/-- A list of entries that came in. -/
theorem open_ents {H : Type} {enc : TypeId × Value → H} {W : World} {base : Nat} {held : Bool} {v : Value} {d : DataW H} {p : List MemPlace} (h0 : DataW.Trod enc Try.prog W base (fun _ => true) held 25 v d p) (hv : ∃ a n c, v = .slice a n c)
    (hk : (d.weights Try.prog 25).all (fun x => decide (x ≤ reachBytes)) = true) :
    ∃ xs, RdE3 W v xs := by
  obtain ⟨a, n, c, rfl⟩ := hv
  obtain ⟨fuel2, hf2⟩ := h0
  have hs2 : (DataW.weightsEach Try.prog [25] ([d] ++ [])).all (fun x => decide (x ≤ reachBytes)) = true := by
    simpa [DataW.weightsEach] using hk
  rcases Deep.open_slice und_ents hf2 with ⟨hcs, hx⟩ | ⟨x, l, c', m, k, D, Pl, hcs, _, hl, hm, hmm, hx, hel⟩
  · simp [Value.cells] at hcs
    obtain ⟨rfl, rfl, rfl⟩ := hcs
    exact ⟨[], none, 0, rfl, ⟨⟨Nat.le_refl _, Nat.zero_le _⟩, .inl rfl, fun x hx => by cases hx⟩, by simp⟩
  · simp [Value.cells] at hcs
    obtain ⟨rfl, rfl, rfl⟩ := hcs
    simp only [if_true] at hmm
    simp only [Prod.mk.injEq] at hx
    obtain ⟨hx1, _⟩ := hx
    have hn : n ≤ 1353245080300 := by
      rw [hx1] at hs2
      have := sized_slice hs2 (j := 0) (t := 25) rfl rfl und_ents
      rw [show Try.prog.bytesOf 38 = 104 by kernel_rfl] at this
      simp at this
      unfold reachBytes at this
      omega
    have hwt : ∀ j, j < n → ((D j).weights Try.prog 38).all (fun x => decide (x ≤ reachBytes)) = true := by
      intro j hj
      rw [hx1] at hk
      simp only [DataW.weights, und_ents, List.all_cons, List.all_append, Bool.and_eq_true] at hk
      exact weight_allE hk.2.1 (by simp only [List.mem_map, List.mem_range]; exact ⟨j, hj, rfl⟩)
    rw [cells_entry] at hel
    have hop : ∀ i, i < n → ∃ e : EntD, (∀ j y, e.cells.toList[j]? = some y → W.cell? ((x.add (i * 7)).add j) = some y) ∧ EntD.Ok W e := by
      intro i hi
      obtain ⟨cs', hc1, hc2⟩ := hel i (by omega)
      obtain ⟨_, hlen, hget⟩ := World.cells?_some hc1
      obtain ⟨e, rfl, hok⟩ := open_entc hc2 hlen (hwt i hi)
      refine ⟨e, fun j y hj => ?_, hok⟩
      have hj7 : j < 7 := by
        have := (List.getElem?_eq_some_iff.1 hj).1
        simpa [EntD.cells] using this
      rw [hget j hj7]
      exact hj
    have build : ∀ q, q ≤ n → ∃ fs : List EntD, fs.length = q ∧ ∀ i f, fs[i]? = some f → (∀ j y, f.cells.toList[j]? = some y → W.cell? ((x.add (i * 7)).add j) = some y) ∧ EntD.Ok W f := by
      intro q
      induction q with
      | zero => intro _; exact ⟨[], rfl, fun i o h => by simp at h⟩
      | succ q ih =>
        intro hq
        obtain ⟨os, hol, hos⟩ := ih (by omega)
        obtain ⟨o, ho⟩ := hop q (by omega)
        refine ⟨os ++ [o], by simp [hol], fun i o' h => ?_⟩
        by_cases hi : i < os.length
        · rw [List.getElem?_append_left hi] at h
          exact hos i o' h
        · rw [List.getElem?_append_right (by omega)] at h
          have hi2 : i = q := by
            by_cases h9 : i - os.length = 0
            · omega
            · rw [List.getElem?_eq_none (by simp; omega)] at h; cases h
          subst hi2
          rw [hol, Nat.sub_self] at h
          simp at h
          subst h
          exact ho
    obtain ⟨fs, hol, hos⟩ := build n (Nat.le_refl _)
    refine ⟨fs, some x, c, by rw [hol], ⟨⟨by omega, hm⟩, ?_, fun f hf => ?_⟩, by omega⟩
    · by_cases h0 : fs = []
      · exact .inl h0
      · have hin : 0 < fs.length := List.length_pos_iff.2 h0
        obtain ⟨b, off, spot⟩ := x
        obtain ⟨o, hc, _⟩ := hop 0 (by omega)
        have hc0 := hc 0 _ rfl
        have hspot : spot = none := by simpa [Addr.add] using World.cell?_spot hc0
        subst hspot
        have e : ∀ q r : Nat, ((⟨b, q, none⟩ : Addr).add r) = ⟨b, q + r, none⟩ := fun q r => by unfold Addr.add; split <;> simp_all
        refine .inr ⟨b, off, rfl, fun i f hi j u hj => ?_⟩
        have := (hos i f hi).1 j u hj
        rw [e, e] at this
        exact this
    · obtain ⟨i, hi⟩ := List.getElem?_of_mem hf
      exact (hos i f hi).2
end Go.Proofs.Ytemdhpjoakldhaa
