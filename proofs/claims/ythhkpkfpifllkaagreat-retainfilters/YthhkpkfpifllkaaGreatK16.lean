import Derived.Test.YthhkpkfpifllkaaGreatK15
namespace Go.Proofs.YthhkpkfpifllkaaGreat
open Go.RowKit Go.Maps
set_option linter.unusedVariables false

theorem once_ok (l : List EntD) : ∀ (acc : List EntD), (∀ x ∈ acc ++ l, ∀ y ∈ acc ++ l, x.seq = y.seq → x.dat = y.dat) → ∃ xs, l.foldl (fun o e => o.bind fun xs => addO xs e) (some acc) = some xs := by
  induction l with
  | nil => intro acc _; exact ⟨acc, rfl⟩
  | cons e r ih =>
    intro acc h
    show ∃ xs, r.foldl (fun o e => o.bind fun xs => addO xs e) (addO acc e) = some xs
    cases hf : acc.find? (fun x => x.seq == e.seq) with
    | none =>
      have ha : addO acc e = some (acc ++ [e]) := by unfold addO; rw [hf]
      rw [ha]
      exact ih _ (by rw [List.append_assoc]; exact h)
    | some x =>
      have xm := List.mem_of_find?_eq_some hf
      have xs : x.seq = e.seq := by simpa using List.find?_some hf
      have hs : sameS x e = true := sameS_of (h x (List.mem_append_left _ xm) e (by simp) xs)
      rw [addO_old hf, hs, if_pos rfl]
      exact ih _ (fun a ha b hb => h a (by
        rcases List.mem_append.1 ha with q | q
        · exact List.mem_append_left _ q
        · exact List.mem_append_right _ (List.mem_cons_of_mem _ q)) b (by
        rcases List.mem_append.1 hb with q | q
        · exact List.mem_append_left _ q
        · exact List.mem_append_right _ (List.mem_cons_of_mem _ q)))
theorem takes_of {k : Nat} {l : List EntD} (hc : ∀ x ∈ l, check3S k x = 0) (hs : ∀ x ∈ l, ∀ y ∈ l, x.seq = y.seq → x.dat = y.dat) : inOrderE (check3S k) l = 0 := by
  obtain ⟨xs, hx⟩ := once_ok l [] (by simpa using hs)
  have ho : onceS l = some xs := hx
  unfold inOrderE
  rw [firstBad_zero hc, if_neg (by simp), if_neg (by rw [ho]; simp)]
theorem pair_eq : ∀ {m : List En}, m.Pairwise (fun a b => a.seq ≠ b.seq) → ∀ {x y : En}, x ∈ m → y ∈ m → x.seq = y.seq → x = y
  | [], _, x, y, hx, _, _ => by cases hx
  | a :: m, h, x, y, hx, hy, e => by
    have h1 := List.pairwise_cons.1 h
    rcases List.mem_cons.1 hx with p | p
    · rcases List.mem_cons.1 hy with q | q
      · rw [p, q]
      · exact absurd (p ▸ e) (h1.1 y q)
    · rcases List.mem_cons.1 hy with q | q
      · exact absurd (q ▸ e.symm) (h1.1 x p)
      · exact pair_eq h1.2 p q e
theorem IsOrd.same {k : Nat} {l m : List En} (h : IsOrd k l m) {x y : En} (hx : x ∈ l) (hy : y ∈ l) (e : x.seq = y.seq) : x = y :=
  pair_eq h.ne ((h.mem x).2 hx) ((h.mem y).2 hy) e
theorem IsOrd.part {k : Nat} {L m : List En} (h : IsOrd k L m) {l : List EntD} (hl : ∀ e ∈ l.map EntD.dat, e ∈ L) : inOrderE (check3S k) l = 0 :=
  takes_of (fun x hx => h.ck x.dat ((h.mem _).2 (hl _ (List.mem_map_of_mem hx)))) (fun x hx y hy e => h.same (hl _ (List.mem_map_of_mem hx)) (hl _ (List.mem_map_of_mem hy)) e)
end Go.Proofs.YthhkpkfpifllkaaGreat

namespace Go.Proofs.YthhkpkfpifllkaaGreat
open Go.RowKit Go.Maps
set_option linter.unusedVariables false

def selB (q : Nat → Bool) (l : List EntD) (t : Nat) : List EntD := ((List.range t).filter q).filterMap fun i => l[i]?
def uniP (ks : Nat → Int) (l : List EntD) (p : Int) : List EntD := selB (fun i => decide (ks i < p)) l l.length
def parP (ks : Nat → Int) (l : List EntD) (p : Int) : List EntD := selB (fun i => decide (ks i = p)) l l.length
structure Mn (fs : List FamD) (clock : Int) (ks : Nat → Int) (l : List EntD) (p : Int) (zs : List EntD) : Prop where
  st : ∃ mU R, IsOrd fs.length ((uniP ks l p).map EntD.dat) mU ∧ IsOrd fs.length (zs.map EntD.dat) R ∧ Red (mt fs) clock mU R
  len : zs.length ≤ (uniP ks l p).length
end Go.Proofs.YthhkpkfpifllkaaGreat

namespace Go.Proofs.YthhkpkfpifllkaaGreat
open Go.RowKit Go.Maps
set_option linter.unusedVariables false

def RdJ (w : World) (v : Value) (js : List Int) : Prop := ∃ a cap, v = .slice a js.length cap ∧ js.length ≤ cap ∧ cap ≤ maxLen ∧ (js = [] ∨ ∃ b off, a = some ⟨b, off, none⟩ ∧ ∀ (i : Nat) j, js[i]? = some j → w.cell? ⟨b, off + i, none⟩ = some (.int .i64 j)) ∧ ∀ j ∈ js, -9223372036854775808 ≤ j ∧ j ≤ 9223372036854775807
theorem RdJ.later {w w' : World} {v : Value} {js : List Int} (h : RdJ w v js) (hb : Below w.heap.size w w') : RdJ w' v js := by
  obtain ⟨a, cap, h1, h2, h3, h4, h5⟩ := h
  refine ⟨a, cap, h1, h2, h3, ?_, h5⟩
  rcases h4 with h4 | ⟨b, off, rfl, hc⟩
  · exact .inl h4
  · exact .inr ⟨b, off, rfl, fun i j hj => by rw [hb.cell (p := ⟨b, off + i, none⟩) (World.block_lt_of_cell? w _ (hc i j hj))]; exact hc i j hj⟩
theorem RdL3.takeN {w : World} {a : Option Addr} {cap : Nat} {xs : List EntD} (h : RdL3 w a cap xs) (t : Nat) : RdL3 w a cap (xs.take t) := by
  refine ⟨⟨Nat.le_trans (List.length_take_le' _ _) h.cap.1, h.cap.2⟩, ?_, fun x hx => h.ok x (List.mem_of_mem_take hx)⟩
  rcases h.at_ with h1 | ⟨b, off, e, hc⟩
  · exact .inl (by rw [h1]; simp)
  · refine .inr ⟨b, off, e, fun i x hi => ?_⟩
    rw [List.getElem?_take] at hi
    split at hi
    · exact hc i x hi
    · cases hi
theorem row_rdl {W : World} {N : Nat} {v : Value} {zs : List EntD} (h : W.ownsRow N 84 7 v zs.length (evals zs)) (hok : ∀ x ∈ zs, EntD.Ok W x) : ∃ a cap, v = .slice a zs.length cap ∧ RdL3 W a cap zs := by
  rcases h.2 with ⟨h1, h2⟩ | ⟨g, cap, cur, h1, h2, h3, h4, h5, h6, h7⟩
  · have hz := List.eq_nil_of_length_eq_zero h2
    subst hz
    exact ⟨none, 0, h1, ⟨⟨Nat.le_refl _, Nat.zero_le _⟩, .inl rfl, hok⟩⟩
  · refine ⟨some ⟨g, 0, none⟩, cap, h1, ⟨⟨h4, h5⟩, ?_, hok⟩⟩
    refine .inr ⟨g, 0, rfl, fun i x hi j u hj => ?_⟩
    have hr := h
    rw [h1] at hr
    obtain ⟨g2, e, _, _, hc⟩ := row_cells3 hr hi
    cases e
    rw [Nat.zero_add]
    exact hc j u hj
theorem shrt_check {k : Nat} {x : EntD} (h : check3S k x = 0) : Shrt x := by
  have ck := check_zero.1 h
  unfold Shrt
  omega
def and3 (j : Int) : Int := bits .and .i64 j 3
end Go.Proofs.YthhkpkfpifllkaaGreat

namespace Go.Proofs.YthhkpkfpifllkaaGreat
open Go.RowKit Go.Maps
set_option linter.unusedVariables false

set_option maxRecDepth 100000 in
set_option maxHeartbeats 4000000 in
theorem begins_ok {w : World} {aa ab : Option Addr} {ca cb : Nat} {xs ys : List EntD} (ha : RdL3 w aa ca xs) (hb : RdL3 w ab cb ys) (hs : xs.map EntD.dat = (ys.take xs.length).map EntD.dat) (hle : xs.length ≤ ys.length) (hl : xs.length ≤ 1353245080300) (hl2 : ys.length ≤ 1353245080300) :
    Calls Tryz.prog 103 #[.slice aa xs.length ca, .slice ab ys.length cb] w fun r w' => r = .returned (.bool true) ∧ Below w.heap.size w w' := by
  have HC := Lib.hid (sameAll_ok ha (hb.takeN xs.length) hs hl)
  have e1 : (ys.take xs.length).length = xs.length := by rw [List.length_take]; omega
  rw [e1] at HC
  have hcb := hb.cap
  unfold maxLen at hcb
  obtain ⟨n, hn⟩ : ∃ n, n = xs.length := ⟨_, rfl⟩
  obtain ⟨m, hm⟩ : ∃ m, m = ys.length := ⟨_, rfl⟩
  rw [← hn] at HC hle hl ⊢
  rw [← hm] at hle hcb hl2 ⊢
  have h1 : (n : Int) ≤ (m : Int) := by omega
  have h2 : n ≤ cb := by omega
  clear ha hb hs e1 hn hm
  go_enter Tryz.func103, Tryz.ntmps103
  go_wp2_with fail
  refine Calls.mono HC.out ?_
  rintro z W1 ⟨rfl, b1⟩
  have HB := Lib.hid b1
  clear b1 HC
  go_wp2
  go_ret
  exact ⟨rfl, HB.out⟩

set_option maxRecDepth 100000 in
set_option maxHeartbeats 4000000 in
theorem dropped_any {W : World} {fb : Nat} {c0 ov : Value} {major : Bool} {low : Int} {ct : Ct} (hb : SBx W fb c0 ov (fBc major low ct) 107) :
    Calls Tryz.prog 100 #[.pointer (some ⟨fb, 0, none⟩)] W fun r W' => r = .returned (.agg #[.int .i64 ct.o, .int .i64 ct.m, .int .i64 ct.x, .int .i64 ct.a, .int .i64 ct.k]) ∧ Below W.heap.size W W' := by
  have y2 := hb.at 2
  have y3 := hb.at 3
  have y4 := hb.at 4
  have y5 := hb.at 5
  have y6 := hb.at 6
  simp only [fBc, List.getElem?_cons_succ, List.getElem?_cons_zero, Nat.reduceAdd] at y2 y3 y4 y5 y6
  have hlt := hb.lt
  clear hb
  go_enter Tryz.func100, Tryz.ntmps100
  go_wp2_with fail
  have hv := heap_new W (.cells #[.int .i64 ct.o, .int .i64 ct.m, .int .i64 ct.x, .int .i64 ct.a, .int .i64 ct.k] 105)
  have hB := (Below.refl W.heap.size W).alloc (Nat.le_refl _) (.cells #[.int .i64 ct.o, .int .i64 ct.m, .int .i64 ct.x, .int .i64 ct.a, .int .i64 ct.k] 105)
  generalize W.alloc (.cells #[.int .i64 ct.o, .int .i64 ct.m, .int .i64 ct.x, .int .i64 ct.a, .int .i64 ct.k] 105) = V at *
  have z0 : V.cell? ⟨W.heap.size, 0, none⟩ = some (.int .i64 ct.o) := cell_at9 hv rfl
  have z1 : V.cell? ⟨W.heap.size, 1, none⟩ = some (.int .i64 ct.m) := cell_at9 hv rfl
  have z2 : V.cell? ⟨W.heap.size, 2, none⟩ = some (.int .i64 ct.x) := cell_at9 hv rfl
  have z3 : V.cell? ⟨W.heap.size, 3, none⟩ = some (.int .i64 ct.a) := cell_at9 hv rfl
  have z4 : V.cell? ⟨W.heap.size, 4, none⟩ = some (.int .i64 ct.k) := cell_at9 hv rfl
  refine bodyPost_ret (v := .agg #[.int .i64 ct.o, .int .i64 ct.m, .int .i64 ct.x, .int .i64 ct.a, .int .i64 ct.k]) (by simp [results, Tryz.results100, go_sem, z0, z1, z2, z3, z4]) rfl ?_
  exact ⟨rfl, hB⟩

set_option maxRecDepth 100000 in
set_option maxHeartbeats 4000000 in
theorem clashes_any {w : World} {fb cap : Nat} {a : Option Addr} {l : List EntD} {e : EntD} (hc : w.cell? ⟨fb, 2, none⟩ = some (.slice a l.length cap)) (hl : RdL3 w a cap l) (he : EntD.Ok w e) (hn : l.length ≤ 1353245080300) :
    Calls Tryz.prog 101 #[.pointer (some ⟨fb, 0, none⟩), .agg e.cells] w fun r w' => ∃ q, r = .returned (.bool q) ∧ (q = false → ∀ (i : Nat) x, i + 1 < l.length → l[i]? = some x → x.seq = e.seq → x.dat = e.dat) ∧ Below w.heap.size w w' := by
  obtain ⟨W, hW, A, hbx, -⟩ := box1 w e
  obtain ⟨qb, hqb⟩ : ∃ q, q = w.heap.size := ⟨_, rfl⟩
  have hqb' := hqb.symm
  rw [← hqb] at hbx
  have HFb : Hid (∀ Z, Below W.heap.size W Z → Z.cell? ⟨fb, 2, none⟩ = some (.slice a l.length cap)) := fun Z b => by
    have k := A.trans (b.mono A.size)
    exact (k.cell (p := ⟨fb, 2, none⟩) (World.block_lt_of_cell? _ _ hc)).trans hc
  have HCs : Hid (∀ Z, Below W.heap.size W Z → Z.cell? ⟨qb, 0, none⟩ = some e.vr ∧ Z.cell? ⟨qb, 1, none⟩ = some (.int .i64 e.fam) ∧ Z.cell? ⟨qb, 2, none⟩ = some e.vq ∧ Z.cell? ⟨qb, 3, none⟩ = some (.int .i64 e.ts) ∧ Z.cell? ⟨qb, 4, none⟩ = some (.int .i64 e.seq) ∧ Z.cell? ⟨qb, 5, none⟩ = some (.int .i64 e.kind) ∧ Z.cell? ⟨qb, 6, none⟩ = some e.vv) := fun Z b => EBox.cells7 (hbx Z b)
  have HL := Lib.hid (hl.later A)
  have HOk := Lib.hid (he.later A)
  have HA := Lib.hid A
  have hcap := hl.cap
  unfold maxLen at hcap
  obtain ⟨N, hN⟩ : ∃ N, N = l.length := ⟨_, rfl⟩
  rw [← hN] at hn HFb hcap ⊢
  have HN := Lib.hid hN
  have HW := Lib.hid hW
  unfold EntD.cells at HW ⊢
  clear hW A hbx hqb hc hl he hN
  go_enter Tryz.func101, Tryz.ntmps101
  go_upto_region 1 with fail
  rw [← HW.out]
  (try rw [hqb'])
  clear HW hqb'
  go_wp2
  go_loopw [5] (fun i wr => ∃ t : Nat, t ≤ N ∧ i = .int .i64 (t : Int) ∧ Hid (∀ (i : Nat) x, i < t → l[i]? = some x → x.seq = e.seq → x.dat = e.dat) ∧ Hid (Below W.heap.size W wr)) (fun i _ => N - (intOf i).toNat)
  case atStart => exact ⟨0, Nat.zero_le _, rfl, (fun i x h => absurd h (Nat.not_lt_zero _)), Below.refl _ _⟩
  case round =>
    obtain ⟨t, ht, rfl, HAll, HBw⟩ := hrel
    have t0 : (0 : Int) ≤ (t : Int) := by omega
    have cf := HFb.out wr HBw.out
    by_cases hlt : t + 1 < N
    · have hlt2 : (t : Int) + 1 < (N : Int) := by omega
      have hlt3 : (t : Int) < (N : Int) := by omega
      obtain ⟨x, hx⟩ : ∃ x, l[t]? = some x := ⟨l[t]'(by rw [← HN.out]; omega), List.getElem?_eq_getElem _⟩
      obtain ⟨ba, oa, rfl⟩ : ∃ b off, a = some ⟨b, off, none⟩ := by
        rcases HL.out.at_ with h0 | ⟨b, off, q, _⟩
        · rw [h0] at hx; simp at hx
        · exact ⟨b, off, q⟩
      have HXs : Hid (∀ Z, Below W.heap.size W Z → (Z.cell? ⟨fb, 2, none⟩ = some (.slice (some ⟨ba, oa, none⟩) N cap)) ∧ (Z.cell? ⟨ba, oa + t * 7, none⟩ = some x.vr ∧ Z.cell? ⟨ba, oa + t * 7 + 1, none⟩ = some (.int .i64 x.fam) ∧ Z.cell? ⟨ba, oa + t * 7 + 2, none⟩ = some x.vq ∧ Z.cell? ⟨ba, oa + t * 7 + 3, none⟩ = some (.int .i64 x.ts) ∧ Z.cell? ⟨ba, oa + t * 7 + 4, none⟩ = some (.int .i64 x.seq) ∧ Z.cell? ⟨ba, oa + t * 7 + 5, none⟩ = some (.int .i64 x.kind) ∧ Z.cell? ⟨ba, oa + t * 7 + 6, none⟩ = some x.vv) ∧ (Z.cell? ⟨qb, 0, none⟩ = some e.vr ∧ Z.cell? ⟨qb, 1, none⟩ = some (.int .i64 e.fam) ∧ Z.cell? ⟨qb, 2, none⟩ = some e.vq ∧ Z.cell? ⟨qb, 3, none⟩ = some (.int .i64 e.ts) ∧ Z.cell? ⟨qb, 4, none⟩ = some (.int .i64 e.seq) ∧ Z.cell? ⟨qb, 5, none⟩ = some (.int .i64 e.kind) ∧ Z.cell? ⟨qb, 6, none⟩ = some e.vv)) := fun Z b => by
        have cx := (HL.out.later b).cells (Below.refl _ _) hx
        exact ⟨HFb.out Z b, ⟨by have := cx 0 _ rfl; simpa using this, cx 1 _ rfl, cx 2 _ rfl, cx 3 _ rfl, cx 4 _ rfl, cx 5 _ rfl, cx 6 _ rfl⟩, HCs.out Z b⟩
      have HNext : Hid ((x.seq = e.seq → x.dat = e.dat) → ∀ (i : Nat) y, i < t + 1 → l[i]? = some y → y.seq = e.seq → y.dat = e.dat) := fun hq i y hi hy he => by
        by_cases z : i < t
        · exact HAll.out i y z hy he
        · have : i = t := by omega
          rw [this, hx] at hy
          cases hy
          exact hq he
      have HSm : Hid (∀ Z, Below W.heap.size W Z → Calls Tryz.prog 45 #[.agg x.cells, .agg e.cells] Z fun r w' => r = .returned (.bool (decide (EntD.Same x e))) ∧ Below W.heap.size W w') := fun Z b => (same3r_any ((HL.out.later b).ok x (List.mem_of_getElem? hx)) (HOk.out.later b)).mono fun r w' k => ⟨k.1, b.trans (k.2.mono b.size)⟩
      unfold EntD.cells at HSm
      obtain ⟨c0, ⟨x0, x1, x2, x3, x4, x5, x6⟩, y0, y1, y2, y3, y4, y5, y6⟩ := HXs.out wr HBw.out
      clear hx cf HAll
      by_cases hq : x.seq = e.seq
      · have hqb : (x.seq == e.seq) = true := by simp [hq]
        have D1 : Below wr.heap.size wr wr.drew := (Below.refl _ _).drew
        have B2 := HBw.out.trans (D1.mono HBw.out.size)
        have HC6 := Lib.hid (HSm.out _ B2)
        obtain ⟨M, hM⟩ : ∃ M, M = decide (EntD.Same x e) := ⟨_, rfl⟩
        rw [← hM] at HC6
        have HM := Lib.hid hM
        have z1 := HXs.out _ B2
        clear hM hq x0 x1 x2 x3 x4 x5 x6 y0 y1 y2 y3 y4 y5 y6
        go_upto_region 4 with fail
        clear c0
        go_region_held3 (fun Z => (Z.cell? ⟨fb, 2, none⟩ = some (.slice (some ⟨ba, oa, none⟩) N cap)) ∧ (Z.cell? ⟨ba, oa + t * 7, none⟩ = some x.vr ∧ Z.cell? ⟨ba, oa + t * 7 + 1, none⟩ = some (.int .i64 x.fam) ∧ Z.cell? ⟨ba, oa + t * 7 + 2, none⟩ = some x.vq ∧ Z.cell? ⟨ba, oa + t * 7 + 3, none⟩ = some (.int .i64 x.ts) ∧ Z.cell? ⟨ba, oa + t * 7 + 4, none⟩ = some (.int .i64 x.seq) ∧ Z.cell? ⟨ba, oa + t * 7 + 5, none⟩ = some (.int .i64 x.kind) ∧ Z.cell? ⟨ba, oa + t * 7 + 6, none⟩ = some x.vv) ∧ (Z.cell? ⟨qb, 0, none⟩ = some e.vr ∧ Z.cell? ⟨qb, 1, none⟩ = some (.int .i64 e.fam) ∧ Z.cell? ⟨qb, 2, none⟩ = some e.vq ∧ Z.cell? ⟨qb, 3, none⟩ = some (.int .i64 e.ts) ∧ Z.cell? ⟨qb, 4, none⟩ = some (.int .i64 e.seq) ∧ Z.cell? ⟨qb, 5, none⟩ = some (.int .i64 e.kind) ∧ Z.cell? ⟨qb, 6, none⟩ = some e.vv)) (first | exact HXs.out _ b3 | exact z1) ((go_at_call 45; refine Calls.mono HC6.out ?_; rintro z X3 ⟨rfl, b3⟩))
        have HB3 := Lib.hid b3
        clear z1 D1 B2 HC6 b3
        cases M with
        | true =>
          have HNx := Lib.hid (HNext.out (fun _ => EntD.dat_same.2 (of_decide_eq_true HM.out.symm)))
          go_wp2
          go_roundw
          case rel => exact ⟨t + 1, by omega, by go_num, HNx.out, HB3.out⟩
          case measure => simp only [intOf]; omega
        | false =>
          go_wp2
          go_ret
          exact ⟨true, rfl, (fun z => by cases z), HA.out.trans (HB3.out.mono HA.out.size)⟩
      · have hqb : (x.seq == e.seq) = false := by simp [hq]
        have HNx := Lib.hid (HNext.out (fun z => absurd z hq))
        clear hq
        go_upto_region 4 with fail
        go_quiet (fail)
        go_wp2
        go_roundw
        case rel => exact ⟨t + 1, by omega, by go_num, HNx.out, below_dn HBw.out _⟩
        case measure => simp only [intOf]; omega
    · have hge : ¬ (t : Int) + 1 < (N : Int) := by omega
      go_wp2
      go_ret
      exact .inl ⟨rfl, fun i x hi hx hs => HAll.out i x (by omega) hx hs, HA.out.trans (HBw.out.mono HA.out.size)⟩
end Go.Proofs.YthhkpkfpifllkaaGreat

namespace Go.Proofs.YthhkpkfpifllkaaGreat
open Go.RowKit Go.Maps
set_option linter.unusedVariables false

theorem ebox_set7 {w : World} {g : Nat} {b : EntD} (h : EBox w g b) (x : EntD) :
    EBox (((((((w.setCell ⟨g, 0, none⟩ x.vr).setCell ⟨g, 1, none⟩ (.int .i64 x.fam)).setCell ⟨g, 2, none⟩ x.vq).setCell ⟨g, 3, none⟩ (.int .i64 x.ts)).setCell ⟨g, 4, none⟩ (.int .i64 x.seq)).setCell ⟨g, 5, none⟩ (.int .i64 x.kind)).setCell ⟨g, 6, none⟩ x.vv) g x ∧ w.grownBy (((((((w.setCell ⟨g, 0, none⟩ x.vr).setCell ⟨g, 1, none⟩ (.int .i64 x.fam)).setCell ⟨g, 2, none⟩ x.vq).setCell ⟨g, 3, none⟩ (.int .i64 x.ts)).setCell ⟨g, 4, none⟩ (.int .i64 x.seq)).setCell ⟨g, 5, none⟩ (.int .i64 x.kind)).setCell ⟨g, 6, none⟩ x.vv) (some g) := by
  refine ⟨?_, ?_⟩
  · have := ((((((h.set0 x.vr x.row).set1 x.fam).set2 x.vq x.qual).set3 x.ts).set4 x.seq).set5 x.kind).set6 x.vv x.val
    exact this
  · have s1 : ∀ (w : World) (i : Nat) (v : Value), w.grownBy (w.setCell ⟨g, i, none⟩ v) (some g) := fun w i v => by
      refine ⟨rfl, rfl, rfl, by rw [World.size_setCell]; exact Nat.le_refl _, fun j hj hne => Below.heap_setCell w ⟨g, i, none⟩ v j (fun z => hne (by rw [z]))⟩
    have tr : ∀ {a b c : World}, a.grownBy b (some g) → b.grownBy c (some g) → a.grownBy c (some g) := fun {a b c} h k => ⟨k.os.trans h.os, k.tape.trans h.tape, k.output.trans h.output, Nat.le_trans h.size k.size, fun j hj hne => (k.block j (Nat.lt_of_lt_of_le hj h.size) hne).trans (h.block j hj hne)⟩
    exact tr (tr (tr (tr (tr (tr (s1 _ _ _) (s1 _ _ _)) (s1 _ _ _)) (s1 _ _ _)) (s1 _ _ _)) (s1 _ _ _)) (s1 _ _ _)
structure Gw (w wr : World) (l : List EntD) (e bst : EntD) (t : Nat) : Prop where
  be : EBox wr w.heap.size e
  bb : EBox wr (w.heap.size + 1) bst
  best : Bst ((l.take t).map EntD.dat) e.dat bst.dat
  mem : bst = e ∨ bst ∈ l
  below : Below w.heap.size w wr
theorem Gw.later {w wr wr' : World} {l : List EntD} {e bst : EntD} {t : Nat} (h : Gw w wr l e bst t) (b : Below wr.heap.size wr wr') : Gw w wr' l e bst t :=
  ⟨h.be.later b, h.bb.later b, h.best, h.mem, h.below.trans (b.mono h.below.size)⟩
set_option maxRecDepth 100000 in
set_option maxHeartbeats 8000000 in
theorem refGroup_any {w : World} {a : Option Addr} {cap : Nat} {l : List EntD} {e : EntD} (hl : RdL3 w a cap l) (he : EntD.Ok w e) (hn : l.length ≤ 1353245080300) :
    Calls Tryz.prog 62 #[.slice a l.length cap, .agg e.cells] w fun r w' => ∃ b : En, r = .returned (.tuple #[.int .i64 (gkind b (gputs (l.map EntD.dat) e.dat)), .bool (b.seq == e.seq)]) ∧ Bst (l.map EntD.dat) e.dat b ∧ Below w.heap.size w w' := by
  obtain ⟨W, hW, A, hb⟩ := box2 w e e
  obtain ⟨N, hN⟩ : ∃ N, N = l.length := ⟨_, rfl⟩
  have hc := hl.cap
  rw [← hN] at hn hc ⊢
  have HG : Hid (Gw w W l e e 0) := ⟨(hb W (Below.refl _ _)).1, (hb W (Below.refl _ _)).2, by simp; exact Bst.nil _, .inl rfl, A⟩
  obtain ⟨_, a1, n1, e1, -⟩ := id he.1
  obtain ⟨_, a2, n2, e2, -⟩ := id he.2.1
  obtain ⟨_, a3, n3, e3, -⟩ := id he.2.2
  have HN := Lib.hid hN
  have HL := Lib.hid hl
  have HE := Lib.hid he
  have HEe := Lib.hid (And.intro e1 (And.intro e2 e3))
  unfold EntD.cells at hW ⊢
  rw [e1, e2, e3] at hW ⊢
  have HW := Lib.hid hW
  clear hW A hb hN hl he e1 e2 e3
  go_enter Tryz.func62, Tryz.ntmps62
  go_upto_region 2 with fail
  rw [← HW.out]
  clear HW
  go_wp2
  go_loopw [7, 8, 9, 10] (fun p i _ _ wr => ∃ (t : Nat) (bst : EntD), t ≤ N ∧ i = .int .i64 (t : Int) ∧ p = .int .i64 ((gputs ((l.take t).map EntD.dat) e.dat : Nat) : Int) ∧ Hid (Gw w wr l e bst t)) (fun _ i _ _ _ => N - (intOf i).toNat)
  case atStart => exact ⟨0, e, Nat.zero_le _, rfl, by simp [gputs], HG⟩
  case round =>
    clear HG
    obtain ⟨t, bst, ht, rfl, rfl, HQ⟩ := hrel
    have t0 : (0 : Int) ≤ (t : Int) := by omega
    obtain ⟨G, hG⟩ : ∃ G, G = gputs ((l.take t).map EntD.dat) e.dat := ⟨_, rfl⟩
    have hGl : G ≤ N := by
      rw [hG]
      unfold gputs
      refine Nat.le_trans (List.length_filter_le _ _) ?_
      rw [List.length_map, List.length_take]
      omega
    rw [← hG]
    have HGp := Lib.hid hG
    clear hG
    by_cases hlt : t < N
    · have hlt2 : (t : Int) < (N : Int) := by omega
      obtain ⟨x, hx⟩ : ∃ x, l[t]? = some x := ⟨l[t]'(by rw [← HN.out]; exact hlt), List.getElem?_eq_getElem _⟩
      have hrd := HL.out.later HQ.out.below
      have hok := hrd.ok x (List.mem_of_getElem? hx)
      rcases hrd.at_ with h0 | ⟨b, off, rfl, hc⟩
      · rw [h0] at hx; simp at hx
      have d0 := hc t x hx 0 _ rfl
      have d1 := hc t x hx 1 _ rfl
      have d2 := hc t x hx 2 _ rfl
      have d3 := hc t x hx 3 _ rfl
      have d4 := hc t x hx 4 _ rfl
      have d5 := hc t x hx 5 _ rfl
      have d6 := hc t x hx 6 _ rfl
      simp only [Nat.add_zero] at d0
      obtain ⟨_, f1, m1, g1, -⟩ := id hok.1
      obtain ⟨_, f2, m2, g2, -⟩ := id hok.2.1
      obtain ⟨_, f3, m3, g3, -⟩ := id hok.2.2
      obtain ⟨X, hX, AX, hbx, -⟩ := box1 wr x
      have KS : Hid (∀ Z, Below X.heap.size X Z → EBox Z wr.heap.size x ∧ Gw w Z l e bst t ∧ EntD.Ok Z x ∧ EntD.Ok Z e) := fun Z k => by
        have q := (HQ.out.later AX).later k
        exact ⟨hbx Z k, q, (hok.later AX).later k, HE.out.later q.below⟩
      have HGx := Lib.hid (And.intro g1 (And.intro g2 g3))
      unfold EntD.cells at hX
      rw [g1, g2, g3] at hX
      rw [g1] at d0
      rw [g2] at d2
      rw [g3] at d6
      have HX := Lib.hid hX
      have HXm := Lib.hid hx
      have HS : Hid (gputs ((l.take (t + 1)).map EntD.dat) e.dat = if gv x.dat e.dat = true ∧ x.kind ≠ 3 then G + 1 else G) := by
        unfold Hid
        rw [List.take_add_one, hx, List.map_append, HGp.out]
        exact gputs_snoc _ x.dat e.dat
      have HTk : Hid ((l.take (t + 1)).map EntD.dat = (l.take t).map EntD.dat ++ [x.dat]) := by
        unfold Hid
        rw [List.take_add_one, hx, List.map_append]
        rfl
      clear hrd hok hc hx hX AX hbx g1 g2 g3
      go_upto_region 7 with fail
      rw [← HX.out]
      clear HX d0 d1 d2 d3 d4 d5 d6
      obtain ⟨gg, hgg⟩ : ∃ gg, gg = gv x.dat e.dat := ⟨_, rfl⟩
      have HGg : Hid (gg = (decide (x.kind ≤ 3) && decide (x.ts = e.ts) && mates x.dat e.dat)) := by unfold Hid; rw [hgg]; rfl
      have HGq := Lib.hid hgg
      clear hgg
      go_cut [10] from 13 to 49 (fun s wx => s = .bool gg ∧ Hid (Below X.heap.size X wx))
      case first =>
        obtain ⟨b1, b2, o1, o2⟩ := KS.out _ (Below.refl _ _)
        obtain ⟨x0, x1, x2, x3, x4, x5, x6⟩ := b1.cells7
        have HV : Hid (Calls Tryz.prog 61 #[.agg x.cells] X _) := version_any
        have HMt : Hid (∀ Z, Below X.heap.size X Z → Calls Tryz.prog 55 #[.agg x.cells, .agg e.cells] Z fun r w' => r = .returned (.bool (mates x.dat e.dat)) ∧ Below Z.heap.size Z w') := fun Z k => mates_any (KS.out Z k).2.2.1 (KS.out Z k).2.2.2
        unfold EntD.cells at HV HMt
        clear b1 b2 o1 o2
        go_wp2_with fail
        refine Calls.mono HV.out ?_
        rintro r w2 ⟨rfl, bv⟩
        have BV := Lib.hid bv
        obtain ⟨b1, b2, o1, o2⟩ := KS.out _ bv
        clear bv x0 x1 x2 x3 x4 x5 x6 HV
        obtain ⟨x0, x1, x2, x3, x4, x5, x6⟩ := b1.cells7
        obtain ⟨y0, y1, y2, y3, y4, y5, y6⟩ := b2.be.cells7
        clear b1 b2 o1 o2
        by_cases c3 : x.kind ≤ 3
        · rw [decide_eq_true c3]
          by_cases ct : x.ts = e.ts
          · have dt : (x.ts == e.ts) = true := by simpa using ct
            have q : Hid (gg = mates x.dat e.dat) := by unfold Hid; rw [HGg.out]; simp [c3, ct]
            obtain ⟨mm, hmm⟩ : ∃ mm, mm = mates x.dat e.dat := ⟨_, rfl⟩
            rw [← hmm] at HMt
            have q' : Hid (gg = mm) := by unfold Hid; rw [q.out, hmm]
            clear c3 ct HGg q hmm
            go_wp2_with fail
            refine Calls.mono (HMt.out _ BV.out) ?_
            rintro r w3 ⟨rfl, b3⟩
            have B3 := Lib.hid (BV.out.trans (b3.mono BV.out.size))
            clear b3
            go_wp2
            go_meet
            case rel => exact ⟨by rw [q'.out], B3.out⟩
          · have dt : (x.ts == e.ts) = false := by simpa using ct
            have q : Hid (gg = false) := by unfold Hid; rw [HGg.out]; simp [ct]
            clear c3 ct HGg
            go_wp2_with fail
            go_meet
            case rel => exact ⟨by rw [q.out], BV.out⟩
        · rw [decide_eq_false c3]
          have q : Hid (gg = false) := by unfold Hid; rw [HGg.out]; simp [c3]
          clear c3 HGg
          go_wp2_with fail
          go_meet
          case rel => exact ⟨by rw [q.out], BV.out⟩
      case rest =>
        obtain ⟨rfl, HBc⟩ := hcut
        obtain ⟨b1, b2, o1, o2⟩ := KS.out _ HBc.out
        have HKc := Lib.hid b2
        cases gg with
        | false =>
          have hgv := HGq.out.symm
          have q : Hid (gputs ((l.take (t + 1)).map EntD.dat) e.dat = G) := by unfold Hid; rw [HS.out, if_neg (by rw [hgv]; simp)]
          have HQ2 : Hid (Gw w wc l e bst (t + 1)) := ⟨b2.be, b2.bb, by rw [HTk.out]; exact b2.best.keep (fun z => by rw [hgv] at z; cases z), b2.mem, b2.below⟩
          clear hgv b1 b2 o1 o2
          go_wp2
          go_roundw
          case rel => exact ⟨t + 1, bst, by omega, by go_num, by rw [q.out], HQ2.out⟩
          case measure => simp only [intOf]; omega
        | true =>
          have hgv := HGq.out.symm
          obtain ⟨x0, x1, x2, x3, x4, x5, x6⟩ := b1.cells7
          obtain ⟨z0, z1, z2, z3, z4, z5, z6⟩ := b2.bb.cells7
          by_cases cs : bst.seq < x.seq
          · have ds : decide (bst.seq < x.seq) = true := decide_eq_true cs
            have hnx : Bst ((l.take (t + 1)).map EntD.dat) e.dat x.dat := by rw [HTk.out]; exact b2.best.next hgv cs
            have hs7 := ebox_set7 b2.bb x
            have fz0 := b2.bb.fzA 0
            have fz1 := b2.bb.fzA 1
            have fz2 := b2.bb.fzA 2
            have fz3 := b2.bb.fzA 3
            have fz4 := b2.bb.fzA 4
            have fz5 := b2.bb.fzA 5
            have fz6 := b2.bb.fzA 6
            rw [HGx.out.1] at x0
            rw [HGx.out.2.1] at x2
            rw [HGx.out.2.2] at x6
            rw [HGx.out.1, HGx.out.2.1, HGx.out.2.2] at hs7
            have HS7 := Lib.hid hs7
            have HNx := Lib.hid hnx
            have wlt : wr.heap.size ≠ w.heap.size + 1 := by
              have := (Array.getElem?_eq_some_iff.1 HQ.out.bb).1
              omega
            have HB1 := Lib.hid b1
            clear b1 b2 o1 o2 hs7 hnx cs
            go_upto_region 11 with fail
            obtain ⟨ebN, grN⟩ := HS7.out
            generalize (((((((wc.setCell ⟨w.heap.size + 1, 0, none⟩ (.slice f1 x.row.length m1)).setCell ⟨w.heap.size + 1, 1, none⟩ (.int .i64 x.fam)).setCell ⟨w.heap.size + 1, 2, none⟩ (.slice f2 x.qual.length m2)).setCell ⟨w.heap.size + 1, 3, none⟩ (.int .i64 x.ts)).setCell ⟨w.heap.size + 1, 4, none⟩ (.int .i64 x.seq)).setCell ⟨w.heap.size + 1, 5, none⟩ (.int .i64 x.kind)).setCell ⟨w.heap.size + 1, 6, none⟩ (.slice f3 x.val.length m3)) = X2 at ebN grN ⊢
            have sz := (Array.getElem?_eq_some_iff.1 HKc.out.bb).1
            have ebE : EBox X2 w.heap.size e := (grN.block w.heap.size (by omega) (by simp)).trans HKc.out.be
            have ebX : EBox X2 wr.heap.size x := (grN.block wr.heap.size (Array.getElem?_eq_some_iff.1 HB1.out).1 (by simpa using wlt)).trans HB1.out
            have y5 := ebX.kind
            have HQ2 : Hid (Gw w X2 l e x (t + 1)) := ⟨ebE, ebN, HNx.out, .inr (List.mem_of_getElem? HXm.out), HKc.out.below.grown grN HKc.out.below.size (fun k hk => by cases hk; omega)⟩
            clear ebN grN ebE ebX sz x0 x1 x2 x3 x4 x5 x6 z0 z1 z2 z3 z4 z5 z6 fz0 fz1 fz2 fz3 fz4 fz5 fz6 HS7 HB1
            by_cases c3 : x.kind = 3
            · have e3 : (x.kind != 3) = false := by simpa using c3
              have q : Hid (gputs ((l.take (t + 1)).map EntD.dat) e.dat = G) := by unfold Hid; rw [HS.out, if_neg (fun z => z.2 c3)]
              clear c3 hgv
              go_wp2
              go_roundw
              case rel => exact ⟨t + 1, x, by omega, by go_num, by rw [q.out], HQ2.out⟩
              case measure => simp only [intOf]; omega
            · have e3 : (x.kind != 3) = true := by simpa using c3
              have q : Hid (gputs ((l.take (t + 1)).map EntD.dat) e.dat = G + 1) := by unfold Hid; rw [HS.out, if_pos ⟨hgv, c3⟩]
              have w0 : IntKind.i64.wrap ((G : Int) + 1) = (G : Int) + 1 := by simp [IntKind.wrap, IntKind.bits, IntKind.signed]; omega
              clear c3 hgv
              go_wp2
              go_roundw
              case rel => exact ⟨t + 1, x, by omega, by go_num, by rw [q.out]; go_num, HQ2.out⟩
              case measure => simp only [intOf]; omega
          · have ds : decide (bst.seq < x.seq) = false := decide_eq_false cs
            have HQ2 : Hid (Gw w wc l e bst (t + 1)) := ⟨b2.be, b2.bb, by rw [HTk.out]; exact b2.best.keep (fun _ => by show x.seq ≤ bst.seq; omega), b2.mem, b2.below⟩
            clear b1 b2 o1 o2 cs
            by_cases c3 : x.kind = 3
            · have e3 : (x.kind != 3) = false := by simpa using c3
              have q : Hid (gputs ((l.take (t + 1)).map EntD.dat) e.dat = G) := by unfold Hid; rw [HS.out, if_neg (fun z => z.2 c3)]
              clear c3 hgv
              go_wp2
              go_roundw
              case rel => exact ⟨t + 1, bst, by omega, by go_num, by rw [q.out], HQ2.out⟩
              case measure => simp only [intOf]; omega
            · have e3 : (x.kind != 3) = true := by simpa using c3
              have q : Hid (gputs ((l.take (t + 1)).map EntD.dat) e.dat = G + 1) := by unfold Hid; rw [HS.out, if_pos ⟨hgv, c3⟩]
              have w0 : IntKind.i64.wrap ((G : Int) + 1) = (G : Int) + 1 := by simp [IntKind.wrap, IntKind.bits, IntKind.signed]; omega
              clear c3 hgv
              go_wp2
              go_roundw
              case rel => exact ⟨t + 1, bst, by omega, by go_num, by rw [q.out]; go_num, HQ2.out⟩
              case measure => simp only [intOf]; omega
    · have hge : ¬ (t : Int) < (N : Int) := by omega
      have hall : (l.take t).map EntD.dat = l.map EntD.dat := by rw [List.take_of_length_le (by rw [← HN.out]; omega)]
      have HFin : Hid (G = gputs (l.map EntD.dat) e.dat ∧ Bst (l.map EntD.dat) e.dat bst.dat) := by
        have h1 := HGp.out
        have h2 := HQ.out.best
        rw [hall] at h1 h2
        exact ⟨h1, h2⟩
      obtain ⟨x0, x1, x2, x3, x4, x5, x6⟩ := HQ.out.bb.cells7
      have y4 := HQ.out.be.seq
      clear hall x0 x1 x2 x3 x6
      by_cases k3 : bst.kind = 3
      · have q3 : (bst.kind == 3) = true := by simpa using k3
        by_cases g0 : 0 < G
        · have qg : (0 : Int) < (G : Int) := by omega
          have q : Hid (gkind bst.dat G = 2) := by
            unfold Hid gkind
            rw [if_pos (show bst.dat.kind = 3 from k3), if_pos g0]
          clear k3 g0
          go_wp2_with fail
          go_quiet (fail)
          go_wp2
          go_ret2
          exact ⟨bst.dat, by rw [← HFin.out.1, q.out]; rfl, HFin.out.2, below_drewN HQ.out.below _⟩
        · have qg : ¬ (0 : Int) < (G : Int) := by omega
          have q : Hid (gkind bst.dat G = 0) := by
            unfold Hid gkind
            rw [if_pos (show bst.dat.kind = 3 from k3), if_neg g0]
          clear k3 g0
          go_wp2_with fail
          go_quiet (fail)
          go_wp2
          go_ret2
          exact ⟨bst.dat, by rw [← HFin.out.1, q.out]; rfl, HFin.out.2, below_drewN HQ.out.below _⟩
      · have q3 : (bst.kind == 3) = false := by simpa using k3
        have q : Hid (gkind bst.dat G = bst.kind) := by
          unfold Hid gkind
          rw [if_neg (show ¬ bst.dat.kind = 3 from k3)]
          rfl
        clear k3
        go_wp2_with fail
        go_quiet (fail)
        go_wp2
        go_ret2
        exact ⟨bst.dat, by rw [← HFin.out.1, q.out]; rfl, HFin.out.2, below_drewN HQ.out.below _⟩
end Go.Proofs.YthhkpkfpifllkaaGreat

namespace Go.Proofs.YthhkpkfpifllkaaGreat
open Go.RowKit Go.Maps
set_option linter.unusedVariables false

structure LU (fs : List FamD) (l : List EntD) : Prop where
  va : ∀ e ∈ l.map EntD.dat, Va e
  un : ∀ x ∈ l, UndE fs x
  tl : ∀ f ∈ fs, 0 ≤ f.tl ∧ f.tl ≤ 1099511627776
theorem group_in {w : World} {fa a : Option Addr} {fc cap : Nat} {fs : List FamD} {l : List EntD} {x : EntD} (clock : Int) (hU : LU fs l) (hl : RdL3 w a cap l) (hx : x ∈ l) (h3 : x.kind ≤ 3) (hn : l.length ≤ 1353245080300) :
    Calls Tryz.prog 62 #[.slice a l.length cap, .agg x.cells] w fun r w' => ∃ K : Int, r = .returned (.tuple #[.int .i64 K, .bool (decidesS (l.map EntD.dat) x.dat)]) ∧ (K = 0 ↔ hasPut (l.map EntD.dat) x.dat = false) ∧ ((l.map EntD.dat).Pairwise (fun a b => a.seq ≠ b.seq) → decidesS (l.map EntD.dat) x.dat = true → hasPut (l.map EntD.dat) x.dat = true → K = (hk x.dat).kind) ∧ Below w.heap.size w w' := by
  refine Calls.mono (refGroup_any hl (hl.ok x hx) hn) ?_
  rintro r w' ⟨b, rfl, hb, hB⟩
  have xm : x.dat ∈ l.map EntD.dat := List.mem_map_of_mem hx
  have h3' : x.dat.kind ≤ 3 := h3
  have e := hb.dec h3' xm
  refine ⟨_, ?_, hb.zero hU.va h3' xm, fun hne hd hp => hb.kind hne hU.va h3' xm hd hp (fun {a b} ha hb e => pair_eq hne ha hb e), hB⟩
  rw [← e]
  rfl
set_option maxRecDepth 100000 in
set_option maxHeartbeats 8000000 in
theorem refRank_any {w : World} {fa a : Option Addr} {fc cap : Nat} {fs : List FamD} {l : List EntD} {e : EntD} (clock : Int) (hr : RdF w (.slice fa fs.length fc) fs) (hU : LU fs l) (hl : RdL3 w a cap l) (he : EntD.Ok w e) (hn : l.length ≤ 1353245080300) :
    Calls Tryz.prog 88 #[.agg #[.slice fa fs.length fc], .int .i64 clock, .slice a l.length cap, .agg e.cells] w fun r w' => r = .returned (.int .i64 (above (mt fs) clock (l.map EntD.dat) e.dat + 1)) ∧ Below w.heap.size w w' := by
  obtain ⟨W, hW, A, hb⟩ := box_se w fa fs.length fc e
  obtain ⟨N, hN⟩ : ∃ N, N = l.length := ⟨_, rfl⟩
  obtain ⟨K, hK⟩ : ∃ K, K = fs.length := ⟨_, rfl⟩
  obtain ⟨m, hm⟩ : ∃ m, m = l.map EntD.dat := ⟨_, rfl⟩
  have up : ∀ Z, Below W.heap.size W Z → Below w.heap.size w Z := fun Z b => A.trans (b.mono A.size)
  have hc := hl.cap
  have H0 := Lib.hid (fun (Z : World) (b : Below W.heap.size W Z) => hl.later (up Z b))
  have H1 := Lib.hid (fun (Z : World) (b : Below W.heap.size W Z) => he.later (up Z b))
  have HGr := Lib.hid (fun (Z : World) (b : Below W.heap.size W Z) (x : EntD) (hx : x ∈ l) (h3 : x.kind ≤ 3) => group_in (fa := fa) (fc := fc) clock hU (hl.later (up Z b)) hx h3 hn)
  have HIn := Lib.hid (fun (Z : World) (b : Below W.heap.size W Z) (x : EntD) (hx : x ∈ l) (h3 : x.kind ≤ 3) => refIn_any clock (hr.later (up Z b)) (hU.un x hx) hU.tl (hl.later (up Z b)) ((hl.later (up Z b)).ok x hx) h3 hn)
  rw [← hN, ← hm] at HGr
  rw [← hN, ← hm, ← hK] at HIn
  rw [← hK] at hb hW
  rw [← hN] at hn hc
  obtain ⟨R, hR⟩ : ∃ R, R = above (mt fs) clock (l.map EntD.dat) e.dat + 1 := ⟨_, rfl⟩
  rw [← hR, ← hN, ← hK]
  have HW := Lib.hid hW
  have HA := Lib.hid A
  have HN := Lib.hid hN
  have HM := Lib.hid hm
  have HR := Lib.hid hR
  have HB := Lib.hid hb
  unfold EntD.cells at HW HGr HIn ⊢
  clear hW A hb hN hR hl he hr hU up hm hK
  go_enter Tryz.func88, Tryz.ntmps88
  go_upto_region 1 with fail
  rw [← HW.out]
  clear HW
  go_wp2
  go_loopw [9, 10, 11, 12, 13, 14, 15] (fun n i _ _ _ _ _ wr => ∃ t : Nat, t ≤ N ∧ i = .int .i64 (t : Int) ∧ n = .int .i64 ((((l.take t).map EntD.dat).filter (ranks (mt fs) clock m e.dat)).length + 1 : Int) ∧ Hid (Below W.heap.size W wr)) (fun _ i _ _ _ _ _ _ => N - (intOf i).toNat)
  case atStart => exact ⟨0, Nat.zero_le _, rfl, by simp, Below.refl _ _⟩
  case round =>
    obtain ⟨t, ht, rfl, rfl, HBw⟩ := hrel
    have t0 : (0 : Int) ≤ (t : Int) := by omega
    obtain ⟨G, hG⟩ : ∃ G, G = (((l.take t).map EntD.dat).filter (ranks (mt fs) clock m e.dat)).length := ⟨_, rfl⟩
    have hGl : G ≤ N := by
      rw [hG]
      refine Nat.le_trans (List.length_filter_le _ _) ?_
      rw [List.length_map, List.length_take]
      omega
    rw [← hG]
    have HGp := Lib.hid hG
    clear hG
    by_cases hlt : t < N
    · have hlt2 : (t : Int) < (N : Int) := by omega
      obtain ⟨x, hx⟩ : ∃ x, l[t]? = some x := ⟨l[t]'(by rw [← HN.out]; exact hlt), List.getElem?_eq_getElem _⟩
      have hrd := H0.out _ HBw.out
      have hok := hrd.ok x (List.mem_of_getElem? hx)
      rcases hrd.at_ with h0 | ⟨b, off, rfl, hc⟩
      · rw [h0] at hx; simp at hx
      have d0 := hc t x hx 0 _ rfl
      have d1 := hc t x hx 1 _ rfl
      have d2 := hc t x hx 2 _ rfl
      have d3 := hc t x hx 3 _ rfl
      have d4 := hc t x hx 4 _ rfl
      have d5 := hc t x hx 5 _ rfl
      have d6 := hc t x hx 6 _ rfl
      simp only [Nat.add_zero] at d0
      obtain ⟨_, a1, n1, e1, -⟩ := id hok.1
      obtain ⟨_, a2, n2, e2, -⟩ := id hok.2.1
      obtain ⟨_, a3, n3, e3, -⟩ := id hok.2.2
      obtain ⟨X, hX, AX, hbx, -⟩ := box1 wr x
      have hBX : Below W.heap.size W X := HBw.out.trans (AX.mono HBw.out.size)
      have KS : Hid (∀ Z, Below X.heap.size X Z → EBox Z wr.heap.size x ∧ (Z.cell? ⟨w.heap.size, 0, none⟩ = some (.slice fa K fc) ∧ EBox Z (w.heap.size + 1) e) ∧ EntD.Ok Z x ∧ EntD.Ok Z e ∧ Below W.heap.size W Z) := fun Z k => ⟨hbx Z k, HB.out Z (hBX.trans (k.mono hBX.size)), (hok.later AX).later k, H1.out Z (hBX.trans (k.mono hBX.size)), hBX.trans (k.mono hBX.size)⟩
      unfold EntD.cells at hX
      rw [e1, e2, e3] at hX
      rw [e1] at d0
      rw [e2] at d2
      rw [e3] at d6
      have HX := Lib.hid hX
      have HXm := Lib.hid (List.mem_of_getElem? hx)
      have HS : Hid ((((l.take (t + 1)).map EntD.dat).filter (ranks (mt fs) clock m e.dat)).length = if ranks (mt fs) clock m e.dat x.dat then G + 1 else G) := by
        unfold Hid
        rw [List.take_add_one, hx, List.map_append, List.filter_append, List.length_append, ← HGp.out]
        cases z : ranks (mt fs) clock m e.dat x.dat <;> simp [z]
      have HRk : Hid (ranks (mt fs) clock m e.dat x.dat = (decide (x.kind ≤ 3) && decide (e.ts < x.ts) && mates x.dat e.dat && hasPut m x.dat && decidesS m x.dat && inB fs clock m x.dat)) := rfl
      have w0 : IntKind.i64.wrap ((G : Int) + 1 + 1) = (G : Int) + 1 + 1 := by simp [IntKind.wrap, IntKind.bits, IntKind.signed]; omega
      clear hrd hok hc hx hX AX hbx e1 e2 e3 hBX
      go_upto_region 6 with fail
      rw [← HX.out]
      clear HX d0 d1 d2 d3 d4 d5 d6
      obtain ⟨gg, hgg⟩ : ∃ gg, gg = (decide (x.kind ≤ 3) && decide (e.ts < x.ts) && mates x.dat e.dat) := ⟨_, rfl⟩
      have HGg := Lib.hid hgg
      clear hgg
      go_cut [12] from 16 to 62 (fun s wx => s = .bool gg ∧ Hid (Below X.heap.size X wx))
      case first =>
        obtain ⟨b1, b2, o1, o2, -⟩ := KS.out _ (Below.refl _ _)
        obtain ⟨x0, x1, x2, x3, x4, x5, x6⟩ := b1.cells7
        have HV : Hid (Calls Tryz.prog 61 #[.agg x.cells] X _) := version_any
        have HMt : Hid (∀ Z, Below X.heap.size X Z → Calls Tryz.prog 55 #[.agg x.cells, .agg e.cells] Z fun r w' => r = .returned (.bool (mates x.dat e.dat)) ∧ Below Z.heap.size Z w') := fun Z k => mates_any (KS.out Z k).2.2.1 (KS.out Z k).2.2.2.1
        unfold EntD.cells at HV HMt
        clear b1 b2 o1 o2
        go_wp2_with fail
        refine Calls.mono HV.out ?_
        rintro r w2 ⟨rfl, bv⟩
        have BV := Lib.hid bv
        obtain ⟨b1, b2, o1, o2, -⟩ := KS.out _ bv
        clear bv x0 x1 x2 x3 x4 x5 x6 HV
        obtain ⟨x0, x1, x2, x3, x4, x5, x6⟩ := b1.cells7
        obtain ⟨y0, y1, y2, y3, y4, y5, y6⟩ := b2.2.cells7
        clear b1 b2 o1 o2
        by_cases c3 : x.kind ≤ 3
        · rw [decide_eq_true c3]
          by_cases ct : e.ts < x.ts
          · have dt : decide (e.ts < x.ts) = true := decide_eq_true ct
            obtain ⟨mm, hmm⟩ : ∃ mm, mm = mates x.dat e.dat := ⟨_, rfl⟩
            rw [← hmm] at HMt
            have q' : Hid (gg = mm) := by unfold Hid; rw [HGg.out, hmm]; simp [c3, ct]
            clear c3 ct hmm
            go_wp2_with fail
            refine Calls.mono (HMt.out _ BV.out) ?_
            rintro r w3 ⟨rfl, b3⟩
            have B3 := Lib.hid (BV.out.trans (b3.mono BV.out.size))
            clear b3
            go_wp2
            go_meet
            case rel => exact ⟨by rw [q'.out], B3.out⟩
          · have dt : decide (e.ts < x.ts) = false := decide_eq_false ct
            have q : Hid (gg = false) := by unfold Hid; rw [HGg.out]; simp [ct]
            clear c3 ct
            go_wp2_with fail
            go_meet
            case rel => exact ⟨by rw [q.out], BV.out⟩
        · rw [decide_eq_false c3]
          have q : Hid (gg = false) := by unfold Hid; rw [HGg.out]; simp [c3]
          clear c3
          go_wp2_with fail
          go_meet
          case rel => exact ⟨by rw [q.out], BV.out⟩
      case rest =>
        obtain ⟨rfl, HBc⟩ := hcut
        obtain ⟨b1, b2, o1, o2, hBc⟩ := KS.out _ HBc.out
        have HBr := Lib.hid hBc
        obtain ⟨x0, x1, x2, x3, x4, x5, x6⟩ := b1.cells7
        clear b1 b2 o1 o2 hBc
        rw [← HGg.out] at HRk
        cases gg with
        | false =>
          have q : Hid ((((l.take (t + 1)).map EntD.dat).filter (ranks (mt fs) clock m e.dat)).length = G) := by unfold Hid; rw [HS.out, HRk.out]; simp
          go_wp2
          go_roundw
          case rel => exact ⟨t + 1, by omega, by go_num, by rw [q.out], HBr.out⟩
          case measure => simp only [intOf]; omega
        | true =>
          have c3 : x.kind ≤ 3 := by
            have := HGg.out.symm
            simp only [Bool.and_eq_true, decide_eq_true_eq] at this
            exact this.1.1
          have HG1 := Lib.hid (HGr.out _ HBr.out x HXm.out c3)
          have HI1 := Lib.hid (fun (Z : World) (k : Below W.heap.size W Z) => HIn.out Z k x HXm.out c3)
          obtain ⟨dd, hdd⟩ : ∃ dd, dd = decidesS m x.dat := ⟨_, rfl⟩
          obtain ⟨ii, hii⟩ : ∃ ii, ii = inB fs clock m x.dat := ⟨_, rfl⟩
          rw [← hdd] at HG1 HRk
          rw [← hii] at HI1 HRk
          clear hdd hii c3
          go_wp2_with fail
          refine Calls.mono HG1.out ?_
          rintro r w4 ⟨kk, rfl, hk0, -, b4⟩
          have B4 := Lib.hid (HBc.out.trans (b4.mono HBc.out.size))
          have HK0 := Lib.hid hk0
          clear b4 hk0 HG1 x0 x1 x2 x3 x4 x5 x6
          obtain ⟨b1, b2, o1, o2, hB4⟩ := KS.out _ B4.out
          have HB4 := Lib.hid hB4
          obtain ⟨x0, x1, x2, x3, x4, x5, x6⟩ := b1.cells7
          have sc := b2.1
          clear b1 b2 o1 o2 hB4
          go_wp2_with fail
          refine Calls.mono (HI1.out _ HB4.out) ?_
          rintro r w5 ⟨rfl, b5⟩
          have HB5 := Lib.hid (HB4.out.trans (b5.mono HB4.out.size))
          clear b5 HI1 x0 x1 x2 x3 x4 x5 x6 sc
          by_cases ck : kk = 0
          · have qk : (kk != 0) = false := by simpa using ck
            have q : Hid ((((l.take (t + 1)).map EntD.dat).filter (ranks (mt fs) clock m e.dat)).length = G) := by unfold Hid; rw [HS.out, HRk.out, HK0.out.1 ck]; simp
            clear ck
            go_wp2
            go_roundw
            case rel => exact ⟨t + 1, by omega, by go_num, by rw [q.out], HB5.out⟩
            case measure => simp only [intOf]; omega
          · have qk : (kk != 0) = true := by simpa using ck
            have hp : hasPut m x.dat = true := by
              cases z : hasPut m x.dat with
              | true => rfl
              | false => exact absurd (HK0.out.2 z) ck
            rw [hp] at HRk
            clear ck hp HK0
            cases dd with
            | false =>
              have q : Hid ((((l.take (t + 1)).map EntD.dat).filter (ranks (mt fs) clock m e.dat)).length = G) := by unfold Hid; rw [HS.out, HRk.out]; simp
              go_wp2
              go_roundw
              case rel => exact ⟨t + 1, by omega, by go_num, by rw [q.out], HB5.out⟩
              case measure => simp only [intOf]; omega
            | true =>
              cases ii with
              | false =>
                have q : Hid ((((l.take (t + 1)).map EntD.dat).filter (ranks (mt fs) clock m e.dat)).length = G) := by unfold Hid; rw [HS.out, HRk.out]; simp
                go_wp2
                go_roundw
                case rel => exact ⟨t + 1, by omega, by go_num, by rw [q.out], HB5.out⟩
                case measure => simp only [intOf]; omega
              | true =>
                have q : Hid ((((l.take (t + 1)).map EntD.dat).filter (ranks (mt fs) clock m e.dat)).length = G + 1) := by unfold Hid; rw [HS.out, HRk.out]; simp
                go_wp2
                go_roundw
                case rel => exact ⟨t + 1, by omega, by go_num, by rw [q.out]; go_num, HB5.out⟩
                case measure => simp only [intOf]; omega
    · have hge : ¬ (t : Int) < (N : Int) := by omega
      have q : Hid ((G : Int) + 1 = R) := by
        unfold Hid
        rw [HGp.out, HR.out, List.take_of_length_le (by rw [← HN.out]; omega), ← HM.out, ranks_above]
      go_wp2
      go_ret
      exact ⟨by rw [← q.out]; rfl, HA.out.trans (HBw.out.mono HA.out.size)⟩
end Go.Proofs.YthhkpkfpifllkaaGreat

namespace Go.Proofs.YthhkpkfpifllkaaGreat
open Go.RowKit Go.Maps
set_option linter.unusedVariables false

def chkC (e : EntD) : Int := ((checkS e : Nat) : Int)
end Go.Proofs.YthhkpkfpifllkaaGreat

namespace Go.Proofs.YthhkpkfpifllkaaGreat
open Go.RowKit Go.Maps
set_option linter.unusedVariables false

theorem row_set {w : World} {B s n c g k : Nat} {e : TypeId} {vs : List Value} (h : w.ownsRow B e s (.slice (some ⟨g, 0, none⟩) n c) n vs) (hk : k < vs.length) (u : Value) : (w.setCell ⟨g, k, none⟩ u).ownsRow B e s (.slice (some ⟨g, 0, none⟩) n c) n (vs.set k u) := by
  rcases h.2 with ⟨h1, _⟩ | ⟨g', cap, cur, h1, h2, h3, h4, h5, h6, h7⟩
  · cases h1
  · simp only [Value.slice.injEq, Option.some.injEq, Addr.mk.injEq] at h1
    obtain ⟨⟨rfl, -, -⟩, -, rfl⟩ := h1
    refine ⟨by have := h.1; simpa using this, .inr ⟨g, c, cur.setIfInBounds k u, rfl, h2, ?_, h4, h5, by simp [h6], ?_⟩⟩
    · simp [World.setCell, Array.getElem?_modify, h3]
    · rw [Array.toList_setIfInBounds, List.take_set, h7]
structure Pc (W wr : World) (ys : List EntD) (t : Nat) (zs : List EntD) (v : Value) : Prop where
  row : wr.ownsRow W.heap.size 84 7 v zs.length (evals zs)
  ents : ∀ (i : Nat) x, i < t → zs[i]? = some x → O3 wr W.heap.size x
  ap : ∀ (i j : Nat) x y, i < j → j < t → zs[i]? = some x → zs[j]? = some y → Dsj x y
  below : Below W.heap.size W wr
  rest : ∀ i, t ≤ i → zs[i]? = ys[i]?
  dat : zs.map EntD.dat = ys.map EntD.dat
  ok : ∀ y ∈ ys, EntD.Ok W y
end Go.Proofs.YthhkpkfpifllkaaGreat

namespace Go.Proofs.YthhkpkfpifllkaaGreat
open Go.RowKit Go.Maps
set_option linter.unusedVariables false

end Go.Proofs.YthhkpkfpifllkaaGreat
