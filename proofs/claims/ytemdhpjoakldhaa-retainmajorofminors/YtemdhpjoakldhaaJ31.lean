import Derived.Test.YtemdhpjoakldhaaJ30
import Derived.Deep.CutRange
import Derived.ChangeSlices
namespace Go.Proofs.Ytemdhpjoakldhaa
open Go.RowKit Go.Maps
set_option linter.unusedVariables false

/-- A list of numbers that was handed in. -/
def RdJ (w : World) (v : Value) (js : List Int) : Prop := ∃ a cap, v = .slice a js.length cap ∧ js.length ≤ cap ∧ cap ≤ maxLen ∧ (js = [] ∨ ∃ b off, a = some ⟨b, off, none⟩ ∧ ∀ (i : Nat) j, js[i]? = some j → w.cell? ⟨b, off + i, none⟩ = some (.int .i64 j)) ∧ ∀ j ∈ js, -9223372036854775808 ≤ j ∧ j ≤ 9223372036854775807
theorem RdJ.later {w w' : World} {v : Value} {js : List Int} (h : RdJ w v js) (hb : Below w.heap.size w w') : RdJ w' v js := by
  obtain ⟨a, cap, h1, h2, h3, h4, h5⟩ := h
  refine ⟨a, cap, h1, h2, h3, ?_, h5⟩
  rcases h4 with h4 | ⟨b, off, rfl, hc⟩
  · exact .inl h4
  · exact .inr ⟨b, off, rfl, fun i j hj => by rw [hb.cell (p := ⟨b, off + i, none⟩) (World.block_lt_of_cell? w _ (hc i j hj))]; exact hc i j hj⟩
theorem RdL3.takeN {w : World} {a : Option Addr} {cap : Nat} {xs : List EntD} (h : RdL3 w a cap xs) (t : Nat) : RdL3 w a cap (xs.take t) := by
  refine ⟨⟨Nat.le_trans (List.length_take_le' _ _) h.cap.1, h.cap.2⟩, ?_, fun x hx => h.ok x (List.mem_of_mem_take hx)⟩
  rcases h.at_ with h1 | ⟨b, off, e, hc⟩
  · exact .inl (by rw [h1]; simp)
  · refine .inr ⟨b, off, e, fun i x hi => ?_⟩
    rw [List.getElem?_take] at hi
    split at hi
    · exact hc i x hi
    · cases hi
theorem RdL3.oneN {w : World} {b off cap : Nat} {xs : List EntD} (h : RdL3 w (some ⟨b, off, none⟩) cap xs) {t : Nat} {x : EntD} (hx : xs[t]? = some x) : RdL3 w (some ⟨b, off + t * 7, none⟩) (cap - t) [x] := by
  have lt := (List.getElem?_eq_some_iff.1 hx).1
  have c1 := h.cap
  refine ⟨⟨by simp; omega, by omega⟩, .inr ⟨b, off + t * 7, rfl, fun i y hi j u hj => ?_⟩, fun y hy => ?_⟩
  · cases i with
    | succ i => simp at hi
    | zero =>
      simp only [List.getElem?_cons_zero, Option.some.injEq] at hi
      subst hi
      have := h.cells (Below.refl _ _) hx j u hj
      simpa using this
  · rw [List.mem_singleton] at hy
    rw [hy]
    exact h.ok x (List.mem_of_getElem? hx)
/-- An own row of entries that are read is a list that is read. -/
theorem row_rdl {W : World} {N : Nat} {v : Value} {zs : List EntD} (h : W.ownsRow N 38 7 v zs.length (evals zs)) (hok : ∀ x ∈ zs, EntD.Ok W x) : ∃ a cap, v = .slice a zs.length cap ∧ RdL3 W a cap zs := by
  rcases h.2 with ⟨h1, h2⟩ | ⟨g, cap, cur, h1, h2, h3, h4, h5, h6, h7⟩
  · have hz := List.eq_nil_of_length_eq_zero h2
    subst hz
    exact ⟨none, 0, h1, ⟨⟨Nat.le_refl _, Nat.zero_le _⟩, .inl rfl, hok⟩⟩
  · refine ⟨some ⟨g, 0, none⟩, cap, h1, ⟨⟨h4, h5⟩, ?_, hok⟩⟩
    refine .inr ⟨g, 0, rfl, fun i x hi j u hj => ?_⟩
    have hr := h
    rw [h1] at hr
    obtain ⟨g2, e, _, _, hc⟩ := row_cells3 hr hi
    cases e
    rw [Nat.zero_add]
    exact hc j u hj
theorem shrt_check {k : Nat} {x : EntD} (h : check3S k x = 0) : Shrt x := by
  have ck := check_zero.1 h
  unfold Shrt
  omega
/-- What x & 3 is. -/
def and3 (j : Int) : Int := bits .and .i64 j 3
theorem and3_ok (j : Int) : 0 ≤ and3 j ∧ and3 j < 4 := by
  unfold and3 bits
  simp
  have h : (j % 2 ^ IntKind.i64.bits).toNat &&& 3 % 2 ^ IntKind.i64.bits ≤ 3 := Nat.le_trans Nat.and_le_right (by decide)
  generalize (j % 2 ^ IntKind.i64.bits).toNat &&& 3 % 2 ^ IntKind.i64.bits = m at h ⊢
  have e : IntKind.i64.wrap (m : Int) = (m : Int) := by simp [IntKind.wrap, IntKind.bits, IntKind.signed]; omega
  rw [e]
  omega
theorem clock_of {C : Nat} {fs : List FamD} {clock low : Int} {l : List EntD} (h : squashE C fs clock low l = 0) : 0 ≤ clock ∧ clock ≤ 1099511627776 ∧ C = 0 := by
  unfold squashE at h
  by_cases y : boundsS C [clock, low] = 0
  · unfold boundsS at y
    by_cases c : C = 0
    · rw [if_neg (by simpa using c)] at y
      by_cases z : [clock, low].any badT = true
      · rw [if_pos z] at y; cases y
      · simp [badT] at z
        exact ⟨by omega, by omega, c⟩
    · rw [if_pos c] at y; omega
  · rw [if_pos y] at h; exact absurd h y
set_option maxRecDepth 100000 in
set_option maxHeartbeats 8000000 in
theorem majorOfMinors_walk {W : World} {fa : Option Addr} {nf fc : Nat} {fs : List FamD} (hr : RdF W (.slice fa nf fc) fs) (hn : fa = none → fc = 0) (clock low : Int) {v vp ve : Value} {l : List EntD} {ps es : List Int} (h0 : RdE3 W v l) (h1 : RdJ W vp ps) (h2 : RdJ W ve es) :
    Calls Try.prog 6 #[.agg #[.slice fa nf fc], .int .i64 clock, .int .i64 low, v, vp, ve] W fun e w' => e = .returned (.bool true) ∧ Below W.heap.size W w' := by
  obtain ⟨a, cap, rfl, h0, hl⟩ := h0
  obtain ⟨ap, cp, rfl, p1, p2, p3, p4⟩ := id h1
  obtain ⟨ae, ce, rfl, q1, q2, q3, q4⟩ := id h2
  obtain ⟨C, hC⟩ : ∃ C : Nat, (C = 0 ↔ SchemaOk fs) ∧ (C = 0 ∨ C = 28) := by
    by_cases h : SchemaOk fs
    · exact ⟨0, ⟨fun _ => h, fun _ => rfl⟩, .inl rfl⟩
    · exact ⟨28, ⟨(fun z => by cases z), fun z => absurd z h⟩, .inr rfl⟩
  obtain rfl : nf = fs.length := by
    obtain ⟨_, _, e, _⟩ := hr
    simp only [Value.slice.injEq] at e
    exact e.2.1
  obtain ⟨K, hK⟩ : ∃ K, K = fs.length := ⟨_, rfl⟩
  obtain ⟨N, hN⟩ : ∃ N, N = l.length := ⟨_, rfl⟩
  obtain ⟨NP, hNP⟩ : ∃ N, N = ps.length := ⟨_, rfl⟩
  obtain ⟨NE, hNE⟩ : ∃ N, N = es.length := ⟨_, rfl⟩
  obtain ⟨X0, hX0, A1, hcell⟩ := sch_box W fa K fc
  have up : ∀ Z, Below X0.heap.size X0 Z → Below W.heap.size W Z := fun Z b => A1.trans (b.mono A1.size)
  have HG := Lib.hid (fun (Z : World) (b : Below X0.heap.size X0 Z) (hE : squashE C fs clock low l = 0) => squash_good (hr.later (up Z b)) hn C hC clock low true (h0.later (up Z b)) hl hE)
  have HBd := Lib.hid (fun (Z : World) (b : Below X0.heap.size X0 Z) (hE : squashE C fs clock low l ≠ 0) => squash_bad (hr.later (up Z b)) hn C hC clock low true (h0.later (up Z b)) hl hE)
  have HSq := Lib.hid (fun (Z : World) (b : Below X0.heap.size X0 Z) (ck lw : Int) (mj : Bool) (zs : List EntD) (a' : Option Addr) (c' : Nat) (hz : RdL3 Z a' c' zs) (hl' : zs.length ≤ 1353245080300) (hE : squashE C fs ck lw zs = 0) => squash_good (hr.later (up Z b)) hn C hC ck lw mj hz hl' hE)
  have HRl := Lib.hid (fun (Z : World) (b : Below X0.heap.size X0 Z) => h0.later (up Z b))
  have HRp := Lib.hid (fun (Z : World) (b : Below X0.heap.size X0 Z) => h1.later (up Z b))
  have HRe := Lib.hid (fun (Z : World) (b : Below X0.heap.size X0 Z) => h2.later (up Z b))
  have hcl := h0.cap
  have HC := Lib.hid hC
  have HL : Hid (l.length ≤ 1353245080300) := hl
  rw [← hK, ← hN] at HG HBd
  rw [← hK] at HSq
  rw [← hN] at hcl
  rw [← hNP] at p1 HRp
  rw [← hNE] at q1 HRe
  rw [← hK, ← hN, ← hNP, ← hNE]
  have HK := Lib.hid hK
  have HN := Lib.hid hN
  have HNP := Lib.hid hNP
  have HNE := Lib.hid hNE
  have HA1 := Lib.hid A1
  have HX0 := Lib.hid hX0
  have HC0 := Lib.hid hcell
  clear hr hn hC h0 h1 h2 hl hK hN hNP hNE hX0 A1 hcell up p3 p4 q3 q4
  go_enter Try.func6, Try.ntmps6
  go_wp2_with fail
  rw [← HX0.out]
  refine Calls.mono (started3 _) ?_
  rintro e1 w1 ⟨rfl, b1⟩
  have B1 := Lib.hid b1
  have s1 := HC0.out _ b1
  clear b1 HX0
  by_cases hE : squashE C fs clock low l = 0
  · have HE := Lib.hid hE
    clear hE
    go_wp2_with fail
    refine Calls.mono (HG.out _ B1.out HE.out) ?_
    rintro e1 w2 ⟨b2, ws, M, a2, c2, hM, rfl, rd2, dw, ln2⟩
    rw [HK.out] at hM
    have B2 := Lib.hid (B1.out.trans (b2.mono B1.out.size))
    have s2 := HC0.out _ B2.out
    have F2 := Lib.hid (And.intro hM (And.intro rd2 (And.intro dw ln2)))
    clear b2 hM rd2 dw ln2 s1 HG HBd
    go_wp2_with (go_at_call 15; refine (num_sym _ _).mono ?_; rintro e1 wn ⟨rfl, rfl⟩)
    have hnl : N ≤ 1353245080300 := by rw [HN.out]; exact HL.out
    go_loopw [16] (fun i wr => ∃ k : Nat, k ≤ N ∧ i = .int .i64 (k : Int) ∧ Hid ((l.take k).Pairwise fun x y => x.seq ≠ y.seq) ∧ Hid (Below w2.heap.size w2 wr)) (fun i _ => N - (intOf i).toNat)
    case atStart => exact ⟨0, Nat.zero_le _, rfl, (by unfold Hid; simp), Below.refl _ _⟩
    case round =>
      obtain ⟨k, hk, rfl, HP, HB⟩ := hrel
      have k0 : (0 : Int) ≤ (k : Int) := by omega
      by_cases hlt : k < N
      · have hlt2 : (k : Int) < (N : Int) := by omega
        obtain ⟨x, hx⟩ : ∃ x, l[k]? = some x := ⟨l[k]'(by rw [← HN.out]; exact hlt), List.getElem?_eq_getElem _⟩
        have BB := Lib.hid (B2.out.trans (HB.out.mono B2.out.size))
        obtain ⟨bl, ol, rfl⟩ : ∃ b off, a = some ⟨b, off, none⟩ := by
          rcases (HRl.out _ BB.out).at_ with h0 | ⟨b, off, q, _⟩
          · rw [h0] at hx; simp at hx
          · exact ⟨b, off, q⟩
        have HAp : Hid (∀ Z, Below X0.heap.size X0 Z → Calls Try.prog 11 #[.slice (some ⟨bl, ol, none⟩) k cap, .slice (some ⟨bl, ol + k * 7, none⟩) 1 (cap - k)] Z fun r w' => r = .returned (.bool (apartS (l.take k) [x])) ∧ ∃ n, w' = Z.drewN n) := fun Z b => by
          have := apart_any ((HRl.out Z b).takeN k) ((HRl.out Z b).oneN hx) (Nat.le_trans (List.length_take_le' _ _) HL.out) (by simp)
          rw [List.length_take, Nat.min_eq_left (by rw [← HN.out]; omega)] at this
          exact this
        have HX := Lib.hid hx
        clear hx
        have hkc : (k : Int) ≤ (cap : Int) := by omega
        have hkc2 : (k : Int) + 1 ≤ (cap : Int) := by omega
        have w0 : IntKind.i64.wrap ((k : Int) + 1) = (k : Int) + 1 := by simp [IntKind.wrap, IntKind.bits, IntKind.signed]; omega
        cases hq : apartS (l.take k) [x] with
        | false =>
          rw [hq] at HAp
          clear hq
          go_wp2_with fail
          go_quiet (first | (go_at_call 11; with_reducible exact Calls.quiet_of (HAp.out _ (below_dn BB.out _))))
          go_wp2
          go_ret
          have z := HA1.out.trans (BB.out.mono HA1.out.size)
          exact ⟨rfl, below_drewN z _⟩
        | true =>
          rw [hq] at HAp
          have HPx : Hid ((l.take (k + 1)).Pairwise fun x y => x.seq ≠ y.seq) := by
            unfold Hid
            rw [List.take_add_one, HX.out]
            refine List.pairwise_append.2 ⟨HP.out, by simp, fun y hy z hz => ?_⟩
            have hz' : z = x := by simpa using hz
            rw [hz']
            exact apart_iff.1 hq y hy x (by simp)
          clear hq
          go_wp2_with fail
          go_quiet (first | (go_at_call 11; with_reducible exact Calls.quiet_of (HAp.out _ (below_dn BB.out _))))
          go_wp2
          go_roundw
          case rel => exact ⟨k + 1, by omega, by go_num, HPx.out, below_drewN HB.out _⟩
          case measure => simp only [intOf]; omega
      · have hgt : ¬ (k : Int) < (N : Int) := by omega
        have HDs : Hid (l.Pairwise fun x y => x.seq ≠ y.seq) := by
          have := HP.out
          rw [List.take_of_length_le (by rw [← HN.out]; omega)] at this
          exact this
        have B3 := Lib.hid (B2.out.trans (HB.out.mono B2.out.size))
        have HWs := Lib.hid (F2.out.2.1.later HB.out)
        clear HP HB s2 hk hlt k0
        obtain ⟨w3, hw3⟩ : ∃ w3, w3 = wr := ⟨_, rfl⟩
        rw [← hw3] at B3 HWs ⊢
        clear hw3
        have hS : SchemaOk fs := HC.out.1.1 (vis_zero (vis_of_squash HE.out)).1
        have HSO := Lib.hid hS
        obtain ⟨ks, hks⟩ : ∃ ks : Nat → Int, ks = fun i => match ps[i]? with | some j => and3 j | none => 0 := ⟨_, rfl⟩
        have HKs := Lib.hid hks
        have HK0 : Hid (∀ i, 0 ≤ ks i ∧ ks i < 4) := fun i => by
          rw [hks]
          simp only
          cases ps[i]? with
          | none => exact ⟨by decide, by decide⟩
          | some j => exact and3_ok j
        have HCk : Hid (0 ≤ clock ∧ clock ≤ 1099511627776 ∧ C = 0) := clock_of HE.out
        clear hS hks
        go_wp2
        go_loopw [17, 18, 19, 20, 21, 22, 23, 24] (fun lv pv _ _ _ _ _ _ wr => ∃ (p : Nat) (zs : List EntD) (al : Option Addr) (cl : Nat), p ≤ 4 ∧ pv = .int .i64 (p : Int) ∧ lv = .slice al zs.length cl ∧ Hid (RdL3 wr al cl zs ∧ Mn fs clock ks l (p : Int) zs) ∧ Hid (Below w3.heap.size w3 wr)) (fun _ pv _ _ _ _ _ _ _ => 4 - (intOf pv).toNat)
        case atStart => exact ⟨0, [], none, 0, by omega, rfl, rfl, ⟨⟨⟨Nat.le_refl _, Nat.zero_le _⟩, .inl rfl, fun x hx => by cases hx⟩, Mn.start (fun i => (HK0.out i).1)⟩, Below.refl _ _⟩
        case round =>
          obtain ⟨p, zs, al, cl, hp4, rfl, rfl, HZ, HB⟩ := hrel
          have p0 : (0 : Int) ≤ (p : Int) := by omega
          by_cases hp : p < 4
          · have hp2 : (p : Int) < 4 := by omega
            go_wp2
            obtain ⟨w4, hw4⟩ : ∃ w4, w4 = wr := ⟨_, rfl⟩
            rw [← hw4] at HZ HB ⊢
            clear hw4
            go_loopw [19, 20, 21] (fun pt i _ wq => ∃ (t : Nat) (a' : Option Addr) (c' : Nat), t ≤ N ∧ i = .int .i64 (t : Int) ∧ pt = .slice a' (selB (fun i => decide (ks i = (p : Int))) l t).length c' ∧ Hid (wq.ownsRow w4.heap.size 38 7 (.slice a' (selB (fun i => decide (ks i = (p : Int))) l t).length c') (selB (fun i => decide (ks i = (p : Int))) l t).length (evals (selB (fun i => decide (ks i = (p : Int))) l t))) ∧ Hid (Below w4.heap.size w4 wq)) (fun _ i _ _ => N - (intOf i).toNat)
            case atStart => exact ⟨0, none, 0, Nat.zero_le _, rfl, rfl, by unfold Hid; exact (Rw.nil w4 w4.heap.size (fun _ => True)).row, Below.refl _ _⟩
            case round =>
              obtain ⟨t, a', c', ht, rfl, rfl, HRw, HBq⟩ := hrel
              obtain ⟨qs, hqs⟩ : ∃ qs, qs = selB (fun i => decide (ks i = (p : Int))) l t := ⟨_, rfl⟩
              rw [← hqs] at HRw ⊢
              have HQs := Lib.hid hqs
              have hql : qs.length ≤ t := by rw [hqs]; exact selB_le _
              clear hqs
              have t0 : (0 : Int) ≤ (t : Int) := by omega
              have BB := Lib.hid (B3.out.trans ((HB.out.trans (HBq.out.mono HB.out.size)).mono B3.out.size))
              by_cases hlt : t < N
              · have hlt2 : (t : Int) < (N : Int) := by omega
                obtain ⟨x, hx⟩ : ∃ x, l[t]? = some x := ⟨l[t]'(by rw [← HN.out]; exact hlt), List.getElem?_eq_getElem _⟩
                obtain ⟨bl, ol, rfl⟩ : ∃ b off, a = some ⟨b, off, none⟩ := by
                  rcases (HRl.out _ BB.out).at_ with h0 | ⟨b, off, q, _⟩
                  · rw [h0] at hx; simp at hx
                  · exact ⟨b, off, q⟩
                have hok := (HRl.out _ BB.out).ok x (List.mem_of_getElem? hx)
                have cx := (HRl.out _ BB.out).cells (Below.refl _ _) hx
                obtain ⟨_, a1, n1, e1, -⟩ := hok.1
                obtain ⟨_, a3, n3, e3, -⟩ := hok.2.1
                obtain ⟨_, a5, n5, e5, -⟩ := hok.2.2
                obtain ⟨xr, xf, xq, xt, xsq, xk, xv, xrow, xqual, xval⟩ := x
                simp only at e1 e3 e5
                subst e1 e3 e5
                have y0 := cx 0 _ rfl
                have y1 := cx 1 _ rfl
                have y2 := cx 2 _ rfl
                have y3 := cx 3 _ rfl
                have y4 := cx 4 _ rfl
                have y5 := cx 5 _ rfl
                have y6 := cx 6 _ rfl
                simp only [Nat.add_zero] at y0
                have HAl := Lib.hid ((Below.refl wr.heap.size wr).alloc (Nat.le_refl _) (.cells #[.slice a1 xrow.length n1, .int .i64 xf, .slice a3 xqual.length n3, .int .i64 xt, .int .i64 xsq, .int .i64 xk, .slice a5 xval.length n5] 38))
                have HRow : Hid ((wr.alloc (.cells #[.slice a1 xrow.length n1, .int .i64 xf, .slice a3 xqual.length n3, .int .i64 xt, .int .i64 xsq, .int .i64 xk, .slice a5 xval.length n5] 38)).ownsRow w4.heap.size 38 7 (.slice a' qs.length c') qs.length (evals qs)) := row_same HRw.out (fun g hg => HAl.out.block g (HRw.out.lt g hg).2)
                have HSz : Hid (w4.heap.size ≤ (wr.alloc (.cells #[.slice a1 xrow.length n1, .int .i64 xf, .slice a3 xqual.length n3, .int .i64 xt, .int .i64 xsq, .int .i64 xk, .slice a5 xval.length n5] 38)).heap.size) := Nat.le_trans HBq.out.size HAl.out.size
                have HOne : Hid (∀ u ∈ (⟨.slice a1 xrow.length n1, xf, .slice a3 xqual.length n3, xt, xsq, xk, .slice a5 xval.length n5, xrow, xqual, xval⟩ : EntD).cells.toList, u.oneCell' = true) := fun u hu => by
                  simp [EntD.cells] at hu
                  rcases hu with rfl | rfl | rfl | rfl | rfl | rfl | rfl <;> rfl
                have HSu : Hid (∀ n, selB n l (t + 1) = if n t = true then selB n l t ++ [(⟨.slice a1 xrow.length n1, xf, .slice a3 xqual.length n3, xt, xsq, xk, .slice a5 xval.length n5, xrow, xqual, xval⟩ : EntD)] else selB n l t) := fun n => selB_succ hx
                clear hok cx hx
                have finA : Hid (ks t = (p : Int) → selB (fun i => decide (ks i = (p : Int))) l (t + 1) = qs ++ [(⟨.slice a1 xrow.length n1, xf, .slice a3 xqual.length n3, xt, xsq, xk, .slice a5 xval.length n5, xrow, xqual, xval⟩ : EntD)]) := fun e => by
                  rw [HSu.out, if_pos (by simpa using e), HQs.out]
                have finS : Hid (ks t ≠ (p : Int) → selB (fun i => decide (ks i = (p : Int))) l (t + 1) = qs) := fun e => by
                  rw [HSu.out, if_neg (by simpa using e), HQs.out]
                by_cases htp : t < NP
                · have htp2 : (t : Int) < (NP : Int) := by omega
                  obtain ⟨j, hj⟩ : ∃ j, ps[t]? = some j := ⟨ps[t]'(by rw [← HNP.out]; exact htp), List.getElem?_eq_getElem _⟩
                  obtain ⟨a9, c9, e9, l9, m9, g9, b9⟩ := HRp.out _ BB.out
                  rcases g9 with g9 | ⟨bp, op, rfl, hc9⟩
                  · rw [g9] at hj; simp at hj
                  simp only [Value.slice.injEq] at e9
                  obtain ⟨rfl, -, rfl⟩ := e9
                  have yj := hc9 t j hj
                  have hkt : ks t = and3 j := by rw [HKs.out]; simp only [hj]
                  unfold and3 at hkt
                  have HKt := Lib.hid hkt
                  clear hc9 hkt l9 m9 b9 hj
                  by_cases hkp : bits .and .i64 j 3 = (p : Int)
                  · have z9 : (bits .and .i64 j 3 == (p : Int)) = true := by simpa using hkp
                    have HAd := Lib.hid (finA.out (HKt.out.trans hkp))
                    clear hkp
                    go_wp2_with (at_builtin; refine wpl_append_ent (x := (⟨.slice a1 xrow.length n1, xf, .slice a3 xqual.length n3, xt, xsq, xk, .slice a5 xval.length n5, xrow, xqual, xval⟩ : EntD)) (xs := qs) rfl _ _ rfl rfl HRow.out ⟨wr.heap.size, 0, none⟩ rfl (ent_new wr (⟨.slice a1 xrow.length n1, xf, .slice a3 xqual.length n3, xt, xsq, xk, .slice a5 xval.length n5, xrow, xqual, xval⟩ : EntD)) HOne.out (by omega) HSz.out ?_)
                    intro a4 c4 X4 row4 gr4
                    have H4 : Hid (X4.ownsRow w4.heap.size 38 7 (.slice a4 (qs.length + 1) c4) (qs.length + 1) (evals (qs ++ [(⟨.slice a1 xrow.length n1, xf, .slice a3 xqual.length n3, xt, xsq, xk, .slice a5 xval.length n5, xrow, xqual, xval⟩ : EntD)]))) := row4
                    have HB4 : Hid (Below w4.heap.size w4 X4) := by
                      have bA := HBq.out.trans (HAl.out.mono HBq.out.size)
                      exact bA.grown gr4 bA.size (fun g hg => (HRw.out.lt g hg).1)
                    clear row4 gr4
                    go_wp2
                    go_roundw
                    case rel => exact ⟨t + 1, a4, c4, by omega, by go_num, by rw [HAd.out, List.length_append]; rfl, by rw [HAd.out, List.length_append]; exact H4.out, HB4.out⟩
                    case measure => simp only [intOf]; omega
                  · have z9 : (bits .and .i64 j 3 == (p : Int)) = false := by simpa using hkp
                    have HSk := Lib.hid (finS.out (fun z => hkp (HKt.out.symm.trans z)))
                    clear hkp
                    go_wp2
                    go_roundw
                    case rel => exact ⟨t + 1, a', c', by omega, by go_num, by rw [HSk.out], by rw [HSk.out]; exact HRw.out, HBq.out⟩
                    case measure => simp only [intOf]; omega
                · have htp2 : ¬ (t : Int) < (NP : Int) := by omega
                  have hkt : ks t = 0 := by
                    rw [HKs.out]
                    have : ps[t]? = none := List.getElem?_eq_none (by rw [← HNP.out]; omega)
                    simp only [this]
                  have HKt := Lib.hid hkt
                  clear hkt
                  by_cases hkp : (0 : Int) = (p : Int)
                  · have z9 : ((0 : Int) == (p : Int)) = true := by simpa using hkp
                    have HAd := Lib.hid (finA.out (HKt.out.trans hkp))
                    clear hkp
                    go_wp2_with (at_builtin; refine wpl_append_ent (x := (⟨.slice a1 xrow.length n1, xf, .slice a3 xqual.length n3, xt, xsq, xk, .slice a5 xval.length n5, xrow, xqual, xval⟩ : EntD)) (xs := qs) rfl _ _ rfl rfl HRow.out ⟨wr.heap.size, 0, none⟩ rfl (ent_new wr (⟨.slice a1 xrow.length n1, xf, .slice a3 xqual.length n3, xt, xsq, xk, .slice a5 xval.length n5, xrow, xqual, xval⟩ : EntD)) HOne.out (by omega) HSz.out ?_)
                    intro a4 c4 X4 row4 gr4
                    have H4 : Hid (X4.ownsRow w4.heap.size 38 7 (.slice a4 (qs.length + 1) c4) (qs.length + 1) (evals (qs ++ [(⟨.slice a1 xrow.length n1, xf, .slice a3 xqual.length n3, xt, xsq, xk, .slice a5 xval.length n5, xrow, xqual, xval⟩ : EntD)]))) := row4
                    have HB4 : Hid (Below w4.heap.size w4 X4) := by
                      have bA := HBq.out.trans (HAl.out.mono HBq.out.size)
                      exact bA.grown gr4 bA.size (fun g hg => (HRw.out.lt g hg).1)
                    clear row4 gr4
                    go_wp2
                    go_roundw
                    case rel => exact ⟨t + 1, a4, c4, by omega, by go_num, by rw [HAd.out, List.length_append]; rfl, by rw [HAd.out, List.length_append]; exact H4.out, HB4.out⟩
                    case measure => simp only [intOf]; omega
                  · have z9 : ((0 : Int) == (p : Int)) = false := by simpa using hkp
                    have HSk := Lib.hid (finS.out (fun z => hkp (HKt.out.symm.trans z)))
                    clear hkp
                    go_wp2
                    go_roundw
                    case rel => exact ⟨t + 1, a', c', by omega, by go_num, by rw [HSk.out], by rw [HSk.out]; exact HRw.out, HBq.out⟩
                    case measure => simp only [intOf]; omega
              · have hgt : ¬ (t : Int) < (N : Int) := by omega
                have HPr : Hid (qs = parP ks l (p : Int)) := by
                  unfold Hid parP
                  rw [HQs.out, ← HN.out, show t = N by omega]
                have HRq : Hid (RdL3 wr a' c' qs) := by
                  obtain ⟨a9, c9, e9, r9⟩ := row_rdl HRw.out (fun x hx => (HRl.out _ BB.out).ok x (by rw [HPr.out] at hx; exact sub_l hx))
                  simp only [Value.slice.injEq] at e9
                  obtain ⟨rfl, -, rfl⟩ := e9
                  exact r9
                obtain ⟨w5, hw5⟩ : ∃ w5, w5 = wr := ⟨_, rfl⟩
                rw [← hw5] at BB HRq HBq ⊢
                clear hw5 HRw
                have s5 := HC0.out _ BB.out
                go_upto_region 24 with fail
                go_cut [113] from 65 to 144 (fun s wx => ∃ c : Bool, s = .bool c ∧ (c = true → ∃ j, es[p]? = some j ∧ 0 ≤ j ∧ j < clock) ∧ wx = w5)
                case first =>
                  by_cases pe : p < NE
                  · have pe2 : (p : Int) < (NE : Int) := by omega
                    obtain ⟨j, hj⟩ : ∃ j, es[p]? = some j := ⟨es[p]'(by rw [← HNE.out]; exact pe), List.getElem?_eq_getElem _⟩
                    obtain ⟨a9, c9, e9, l9, m9, g9, b9⟩ := HRe.out _ BB.out
                    rcases g9 with g9 | ⟨bp, op, rfl, hc9⟩
                    · rw [g9] at hj; simp at hj
                    simp only [Value.slice.injEq] at e9
                    obtain ⟨rfl, -, rfl⟩ := e9
                    have yj := hc9 p j hj
                    have HJ := Lib.hid hj
                    clear hc9 l9 m9 b9 hj
                    by_cases j0 : (0 : Int) ≤ j
                    · have z1 : decide ((0 : Int) ≤ j) = true := decide_eq_true j0
                      by_cases j1 : j < clock
                      · have z2 : decide (j < clock) = true := decide_eq_true j1
                        go_wp2_with fail
                        go_meet
                        case rel => exact ⟨true, rfl, fun _ => ⟨j, HJ.out, j0, j1⟩, rfl⟩
                      · have z2 : decide (j < clock) = false := decide_eq_false j1
                        go_wp2_with fail
                        go_meet
                        case rel => exact ⟨false, rfl, (fun z => by cases z), rfl⟩
                    · have z1 : decide ((0 : Int) ≤ j) = false := decide_eq_false j0
                      go_wp2_with fail
                      go_meet
                      case rel => exact ⟨false, rfl, (fun z => by cases z), rfl⟩
                  · have pe2 : ¬ (p : Int) < (NE : Int) := by omega
                    go_wp2_with fail
                    go_meet
                    case rel => exact ⟨false, rfl, (fun z => by cases z), rfl⟩
                case rest =>
                  obtain ⟨c, rfl, hcc, rfl⟩ := hcut
                  go_upto_if 113 with fail
                  go_cut [22] from 65 to 144 (fun s wx => ∃ at_ : Int, s = .int .i64 at_ ∧ 0 ≤ at_ ∧ at_ ≤ clock ∧ wx = wc)
                  case first =>
                    cases c with
                    | true =>
                      obtain ⟨j, hj, j0, j1⟩ := hcc rfl
                      obtain ⟨a9, c9, e9, l9, m9, g9, b9⟩ := HRe.out _ BB.out
                      rcases g9 with g9 | ⟨bp, op, rfl, hc9⟩
                      · rw [g9] at hj; simp at hj
                      simp only [Value.slice.injEq] at e9
                      obtain ⟨rfl, -, rfl⟩ := e9
                      have yj := hc9 p j hj
                      have pe2 : (p : Int) < (NE : Int) := by
                        have := (List.getElem?_eq_some_iff.1 hj).1
                        rw [HNE.out]; omega
                      clear hc9 l9 m9 b9 hj
                      go_wp2_with fail
                      go_meet
                      case rel => exact ⟨j, rfl, j0, by omega, rfl⟩
                    | false =>
                      go_wp2_with fail
                      go_meet
                      case rel => exact ⟨clock, rfl, HCk.out.1, Int.le_refl _, rfl⟩
                  case rest =>
                    obtain ⟨at_, rfl, at0, at1, hw6⟩ := hcut
                    subst hw6
                    obtain ⟨hM, rdW, dw, lnW⟩ := F2.out
                    have hqi : inOrderE (check3S fs.length) qs = 0 := hM.part (fun e he => by rw [HPr.out] at he; exact dat_sub he)
                    have hqn : qs.length ≤ 1353245080300 := by have := hql; omega
                    have HAt : Hid (0 ≤ at_ ∧ at_ ≤ clock) := ⟨at0, at1⟩
                    have HSq5 := Lib.hid (HSq.out _ BB.out at_ 0 false qs a' c' HRq.out hqn (squash_of HCk.out.2.2 at0 (by have := HCk.out.2.1; omega) (by decide) (by decide) hqi))
                    clear hM rdW dw lnW hqi hqn at0 at1 hcc
                    go_wp2_with fail
                    refine Calls.mono HSq5.out ?_
                    rintro e7 w7 ⟨b7, ms, mP, a7, c7, hP, rfl, rd7, dm, ln7⟩
                    rw [HK.out, HPr.out] at hP
                    rw [HPr.out] at ln7
                    have B7 := Lib.hid (BB.out.trans (b7.mono BB.out.size))
                    have K7 := Lib.hid ((HB.out.trans (HBq.out.mono HB.out.size)).trans (b7.mono (Nat.le_trans HB.out.size HBq.out.size)))
                    have s7 := HC0.out _ B7.out
                    have Z7 := Lib.hid ((HZ.out.1.later HBq.out).later b7)
                    have F7 := Lib.hid (And.intro hP (And.intro rd7 (And.intro dm ln7)))
                    have HLz : Hid (zs.length + ms.length ≤ 1353245080300) := by
                      have h1 := HZ.out.2.len
                      have h2 := uniP_len ks l (p : Int)
                      have h3 := uniP_le ks l ((p : Int) + 1)
                      have h4 := HL.out
                      unfold Hid
                      omega
                    have HJn := Lib.hid (fun (Z : World) (b : Below w7.heap.size w7 Z) => join_any (Z7.out.later b) (rd7.later b) (fun x hx => shrt_check ((inOrder_ok HZ.out.2.take).1 x hx)) (shrt_left hP dm) HLz.out)
                    have HMj : Hid (∀ js : List EntD, js.map EntD.dat = zs.map EntD.dat ++ ms.map EntD.dat → inOrderE (check3S fs.length) js = 0 ∧ Mn fs clock ks l ((p + 1 : Nat) : Int) js ∧ js.length ≤ 1353245080300) := fun js hj => by
                      have q := HZ.out.2.join HSO.out HAt.out.2 F2.out.1 HDs.out hP dm ln7 hj
                      have e := len_of_dat2 hj
                      have hz := HLz.out
                      rw [show ((p + 1 : Nat) : Int) = (p : Int) + 1 by omega]
                      exact ⟨q.1, q.2, by omega⟩
                    clear b7 hP rd7 dm ln7 HSq5 s5
                    by_cases p2 : p = 2
                    · have z2 : ((p : Int) == 2) = true := by simp [p2]
                      have HSj : Hid (∀ (Z : World), Below w7.heap.size w7 Z → ∀ (js : List EntD) (a1 : Option Addr) (c1 : Nat), RdL3 Z a1 c1 js → js.map EntD.dat = zs.map EntD.dat ++ ms.map EntD.dat → Calls Try.prog 14 #[.agg #[.slice fa K fc], .int .i64 at_, .bool false, .int .i64 0, .slice a1 js.length c1] Z fun r W' => Below Z.heap.size Z W' ∧ ∃ (us : List EntD) (a' : Option Addr) (c' : Nat), r = .returned (.tuple #[.slice a' us.length c', .int .i64 0]) ∧ RdL3 W' a' c' us ∧ Mn fs clock ks l ((p + 1 : Nat) : Int) us) := fun Z b js a1 c1 rj dj => by
                        obtain ⟨k1, k2, k3⟩ := HMj.out js dj
                        refine Calls.mono (HSq.out Z (B7.out.trans (b.mono B7.out.size)) at_ 0 false js a1 c1 rj k3 (squash_of HCk.out.2.2 HAt.out.1 (by have := HCk.out.2.1; have := HAt.out.2; omega) (by decide) (by decide) k1)) ?_
                        rintro r W' ⟨bb, us, R, a9, c9, hR, rfl, r9, d9, l9⟩
                        rw [HK.out] at hR
                        exact ⟨bb, us, a9, c9, rfl, r9, k2.again HSO.out HAt.out.2 hR d9 l9⟩
                      have HC7 : Hid (∀ Z, Below w7.heap.size w7 Z → Z.cell? ⟨W.heap.size, 0, none⟩ = some (.slice fa K fc)) := fun Z b => HC0.out _ (B7.out.trans (b.mono B7.out.size))
                      have D0 : Below w7.heap.size w7 w7.drew := (Below.refl _ _).drew
                      clear p2
                      go_wp2_with (go_at_call 15; refine (num_sym _ _).mono ?_; rintro e1 wn ⟨rfl, rfl⟩)
                      go_region_held3 (fun wx => wx.cell? ⟨W.heap.size, 0, none⟩ = some (.slice fa K fc)) (first | exact HC7.out _ D2 | exact HC7.out _ D1 | exact HC7.out _ D0) (first | (have hq := D1; clear hq; (go_at_call 14; refine Calls.mono (HSj.out _ D1 js aj cj FJ.out.1 FJ.out.2) ?_; rintro e8 z2 ⟨t2, us, a8, c8, rfl, rd8, mn8⟩; have D2 := D1.trans (t2.mono D1.size); have F8 := Lib.hid (And.intro rd8 mn8); clear t2 rd8 mn8)) | (go_at_call 13; refine Calls.mono (HJn.out _ D0) ?_; rintro e8 z1 ⟨t1, js, aj, cj, rfl, rdj, dj⟩; have D1 := D0.trans (t1.mono D0.size); have FJ := Lib.hid (And.intro rdj dj); clear rdj dj t1))
                      have K8 := Lib.hid (K7.out.trans (D2.mono K7.out.size))
                      clear D0 D1 D2
                      go_wp2_with (go_at_call 15; refine (num_sym _ _).mono ?_; rintro e1 wn ⟨rfl, rfl⟩)
                      go_roundw
                      case rel => exact ⟨p + 1, us, a8, c8, by omega, by go_num, rfl, F8.out, K8.out⟩
                      case measure => simp only [intOf]; omega
                    · have z2 : ((p : Int) == 2) = false := by
                        simp only [beq_eq_false_iff_ne]
                        omega
                      clear p2
                      go_wp2_with (go_at_call 15; refine (num_sym _ _).mono ?_; rintro e1 wn ⟨rfl, rfl⟩)
                      refine Calls.mono (HJn.out _ (Below.refl _ _)) ?_
                      rintro e8 w8 ⟨b8, js, a8, c8, rfl, rd8, d8⟩
                      have K8 := Lib.hid (K7.out.trans (b8.mono K7.out.size))
                      have F8 : Hid (RdL3 w8 a8 c8 js ∧ Mn fs clock ks l ((p + 1 : Nat) : Int) js) := ⟨rd8, (HMj.out js d8).2.1⟩
                      clear b8 rd8 d8
                      go_wp2
                      go_roundw
                      case rel => exact ⟨p + 1, js, a8, c8, by omega, by go_num, rfl, F8.out, K8.out⟩
                      case measure => simp only [intOf]; omega
          · have hpn : ¬ (p : Int) < 4 := by omega
            have e4 : p = 4 := by omega
            have HM4 : Hid (Mn fs clock ks l 4 zs) := by
              have := HZ.out.2
              rw [e4] at this
              exact this
            have BR := Lib.hid (B3.out.trans (HB.out.mono B3.out.size))
            have sr := HC0.out _ BR.out
            have hzn : zs.length ≤ 1353245080300 := by
              have h1 := HM4.out.len
              have h2 := uniP_le ks l 4
              have h3 := HL.out
              omega
            have HSz := Lib.hid (HSq.out _ BR.out clock low true zs al cl HZ.out.1 hzn (by
              have := HE.out
              unfold squashE at this ⊢
              by_cases y : boundsS C [clock, low] = 0
              · rw [if_neg (by simpa using y)]
                exact HM4.out.take
              · rw [if_pos y] at this; exact absurd this y))
            have HW9 := Lib.hid (HWs.out.later HB.out)
            clear hzn e4
            go_wp2_with fail
            refine Calls.mono HSz.out ?_
            rintro e9 w9 ⟨b9, gs, R, a9, c9, hR, rfl, rd9, dg, ln9⟩
            rw [HK.out] at hR
            have HSm : Hid (∀ Z, Below w9.heap.size w9 Z → Calls Try.prog 17 #[.slice a9 gs.length c9, .slice a2 ws.length c2] Z fun e w' => e = .returned (.bool true) ∧ Below Z.heap.size Z w') := fun Z b => by
              refine sameAll_ok (rd9.later b) ((HW9.out.later b9).later b) ?_ ?_
              · exact HM4.out.final (fun i => (HK0.out i).2) F2.out.1 hR F2.out.2.2.1 dg
              · have h1 := HM4.out.len
                have h2 := uniP_le ks l 4
                have h3 := HL.out
                omega
            have K9 := Lib.hid (HA1.out.trans ((BR.out.trans (b9.mono BR.out.size)).mono HA1.out.size))
            have T0 : Below w9.heap.size w9 w9 := Below.refl _ _
            clear b9 hR rd9 dg ln9 HSz
            go_wp2_with (first | (go_at_call 15; refine (num_sym _ _).mono ?_; rintro e1 wn ⟨rfl, rfl⟩) | (go_at_call 17; refine Calls.mono (HSm.out _ T0) ?_; rintro e1 z1 ⟨rfl, t1⟩; have T1 := T0.trans (t1.mono T0.size)))
            go_ret
            exact ⟨rfl, K9.out.trans (T1.mono K9.out.size)⟩
  · have HE := Lib.hid hE
    go_wp2_with fail
    refine Calls.mono (HBd.out _ B1.out hE) ?_
    rintro e1 w2 ⟨b2, rfl⟩
    have B2 := Lib.hid (HA1.out.trans ((B1.out.trans (b2.mono B1.out.size)).mono HA1.out.size))
    have b0 : (squashE C fs clock low l != 0) = true := by simpa using hE
    clear b2 hE
    go_wp2_with (go_at_call 15; refine (num_sym _ _).mono ?_; rintro e1 wn ⟨rfl, rfl⟩)
    go_ret
    exact ⟨rfl, B2.out⟩
end Go.Proofs.Ytemdhpjoakldhaa

namespace Go.Proofs.Ytemdhpjoakldhaa
open Go.ChangeShapes Go.WideShapes Go.ChangeAt Go.RowKit
set_option linter.unusedVariables false

theorem und_intsJ : Try.prog.underlying 41 = some (.slice 3) := by kernel_rfl
theorem cells_intJ : Try.prog.cellsOf 3 = 1 := by kernel_rfl
theorem und_intJ : Try.prog.underlying 3 = some (.int .i64) := by kernel_rfl
/-- Numbers that came in. -/
theorem open_nums {H : Type} {enc : TypeId × Value → H} {W : World} {v : Value} {d : DataW H} {p : List MemPlace} {base : Nat} {held : Bool} (h : DataW.Trod enc Try.prog W base (fun _ => true) held 41 v d p) (hs : ∃ a n c, v = .slice a n c) : ∃ js : List Int, RdJ W v js := by
  obtain ⟨a, n, c, rfl⟩ := hs
  obtain ⟨fuel, hf⟩ := h
  rcases open_ints und_intsJ und_intJ cells_intJ hf with ⟨hcs, hx⟩ | ⟨x, l, c', zs, hcs, _, hl, hm, hz, hx, hcell, hwz⟩
  · simp [Value.cells] at hcs
    obtain ⟨rfl, rfl, rfl⟩ := hcs
    exact ⟨[], none, 0, rfl, Nat.le_refl _, Nat.zero_le _, .inl rfl, fun j hj => by cases hj⟩
  · simp [Value.cells] at hcs
    obtain ⟨rfl, rfl, rfl⟩ := hcs
    simp only [if_true] at hz
    have hlen : (zs.take n).length = n := by rw [List.length_take]; omega
    refine ⟨zs.take n, some x, c, by rw [hlen], by omega, hm, ?_, fun j hj => ?_⟩
    · by_cases hn0 : n = 0
      · left; simp [hn0]
      · right
        obtain ⟨b, off, spot⟩ := x
        have hc := hcell 0 (by omega)
        have hspot : spot = none := by simpa [Addr.add] using World.cell?_spot hc
        subst hspot
        refine ⟨b, off, rfl, fun i j hj => ?_⟩
        have hin : i < n := by
          have := (List.getElem?_eq_some_iff.1 hj).1
          omega
        rw [List.getElem?_take_of_lt hin] at hj
        have hc := hcell i (by omega)
        have e : (⟨b, off, none⟩ : Addr).add i = ⟨b, off + i, none⟩ := by unfold Addr.add; split <;> simp_all
        rw [e] at hc
        rw [hc]
        simp [List.getD, hj]
    · have := hwz j (List.mem_of_mem_take hj)
      have e1 : IntKind.i64.min = -9223372036854775808 := by decide
      have e2 : IntKind.i64.max = 9223372036854775807 := by decide
      simp only [Lit.wf, e1, e2, Bool.and_eq_true, decide_eq_true_eq] at this
      exact this
end Go.Proofs.Ytemdhpjoakldhaa
