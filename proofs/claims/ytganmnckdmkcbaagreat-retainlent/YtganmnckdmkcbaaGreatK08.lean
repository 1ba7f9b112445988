import Derived.Test.YtganmnckdmkcbaaGreatK07
namespace Go.Proofs.YtganmnckdmkcbaaGreat
open Go.RowKit
set_option linter.unusedVariables false

def staysS (major : Bool) (low : Int) (v : Vd) : Bool := if v.fate = 5 then true else if v.fate = 6 then !major else if v.fate = 7 then !major || decide (low < v.e.ts) else false
structure Ct where
  o : Int
  m : Int
  x : Int
  a : Int
  k : Int
def Ct.inc (c : Ct) (ft : Int) : Ct := if ft = 1 then { c with o := c.o + 1 } else if ft = 2 then { c with m := c.m + 1 } else if ft = 3 then { c with x := c.x + 1 } else if ft = 4 then { c with a := c.a + 1 } else { c with k := c.k + 1 }
def Ct.Ok (c : Ct) (n : Nat) : Prop := (0 ≤ c.o ∧ c.o ≤ n) ∧ (0 ≤ c.m ∧ c.m ≤ n) ∧ (0 ≤ c.x ∧ c.x ≤ n) ∧ (0 ≤ c.a ∧ c.a ≤ n) ∧ (0 ≤ c.k ∧ c.k ≤ n)
theorem Ct.Ok.inc {c : Ct} {n : Nat} (h : c.Ok n) (ft : Int) : (c.inc ft).Ok (n + 1) := by
  obtain ⟨h1, h2, h3, h4, h5⟩ := h
  unfold Ct.inc Ct.Ok
  repeat' split
  all_goals (simp only; omega)
theorem Ct.Ok.mono {c : Ct} {n m : Nat} (h : c.Ok n) (k : n ≤ m) : c.Ok m := by
  obtain ⟨h1, h2, h3, h4, h5⟩ := h
  unfold Ct.Ok
  omega
def fBc (major : Bool) (low : Int) (c : Ct) : List Value := [.bool major, .int .i64 low, .int .i64 c.o, .int .i64 c.m, .int .i64 c.x, .int .i64 c.a, .int .i64 c.k]
theorem SBx.at {w : World} {b : Nat} {c0 v : Value} {cs : List Value} {ty : TypeId} (h : SBx w b c0 v cs ty) (i : Nat) : w.cell? ⟨b, i + 2, none⟩ = cs[i]? := by unfold SBx at h; simp [World.cell?, h]
theorem SBx.later {w w' : World} {b : Nat} {c0 v : Value} {cs : List Value} {ty : TypeId} (h : SBx w b c0 v cs ty) (k : Below w.heap.size w w') : SBx w' b c0 v cs ty := h.keep (k.block b h.lt)
theorem SBx.setN {w : World} {b : Nat} {c0 v u : Value} {cs ds : List Value} {ty : TypeId} (h : SBx w b c0 v cs ty) (i : Nat) (e : cs.set i u = ds) : SBx (w.setCell ⟨b, i + 2, none⟩ u) b c0 v ds ty := by
  unfold SBx at *
  subst e
  simp [World.setCell, Array.getElem?_modify, h]
section
variable {W : World} {fb : Nat} {c0 ov : Value} {major : Bool} {low : Int} {ct : Ct} {e : EntD}

set_option maxRecDepth 100000 in
set_option maxHeartbeats 4000000 in
theorem stays_any (hb : SBx W fb c0 ov (fBc major low ct) 107) (ft rk : Int) :
    Calls Tryz.prog 104 #[.pointer (some ⟨fb, 0, none⟩), vdV e ft rk] W fun r w' => r = .returned (.bool (staysS major low ⟨e.dat, ft, rk⟩)) ∧ Below W.heap.size W w' := by
  obtain ⟨R, hR⟩ : ∃ R, R = staysS major low ⟨e.dat, ft, rk⟩ := ⟨_, rfl⟩
  rw [← hR]
  have HR : Hid (R = if ft = 5 then true else if ft = 6 then !major else if ft = 7 then !major || decide (low < e.ts) else false) := hR
  clear hR
  have A := (Below.refl W.heap.size W).alloc (Nat.le_refl _) (.cells #[e.vr, .int .i64 e.fam, e.vq, .int .i64 e.ts, .int .i64 e.seq, .int .i64 e.kind, e.vv, .int .i64 ft, .int .i64 rk] 152)
  have vb : VBx (W.alloc (.cells #[e.vr, .int .i64 e.fam, e.vq, .int .i64 e.ts, .int .i64 e.seq, .int .i64 e.kind, e.vv, .int .i64 ft, .int .i64 rk] 152)) W.heap.size e ft rk := heap_new W _
  obtain ⟨X, hX⟩ : ∃ X, X = W.alloc (.cells #[e.vr, .int .i64 e.fam, e.vq, .int .i64 e.ts, .int .i64 e.seq, .int .i64 e.kind, e.vv, .int .i64 ft, .int .i64 rk] 152) := ⟨_, rfl⟩
  rw [← hX] at A vb
  obtain ⟨qb, hqb⟩ : ∃ q, q = W.heap.size := ⟨_, rfl⟩
  have hqb' := hqb.symm
  rw [← hqb] at vb
  have hb1 := hb.later A
  have x7 := vb.all.2.2.2.2.2.2.2.1
  have x3 := vb.all.2.2.2.1
  have y2 := hb1.at 0
  have y3 := hb1.at 1
  simp only [fBc, Nat.zero_add, Nat.reduceAdd, List.getElem?_cons_zero, List.getElem?_cons_succ] at y2 y3
  have HX := Lib.hid hX
  have HA := Lib.hid A
  unfold vdV
  rw [hX] at x7 x3 y2 y3
  clear hX A vb hb hb1 hqb
  go_enter Tryz.func104, Tryz.ntmps104
  by_cases h5 : ft = 5
  · have b5 : (ft == 5) = true := by simp [h5]
    have H5 := Lib.hid h5
    clear h5
    go_wp2
    go_ret
    exact ⟨by rw [HR.out, if_pos H5.out]; rfl, by rw [← HX.out]; exact HA.out⟩
  · have b5 : (ft == 5) = false := by simp [h5]
    have H5 := Lib.hid h5
    clear h5
    by_cases h6 : ft = 6
    · have b6 : (ft == 6) = true := by simp [h6]
      have H6 := Lib.hid h6
      clear h6
      go_wp2
      go_ret
      exact ⟨by rw [HR.out, if_neg H5.out, if_pos H6.out]; rfl, by rw [← HX.out]; exact HA.out⟩
    · have b6 : (ft == 6) = false := by simp [h6]
      have H6 := Lib.hid h6
      clear h6
      by_cases h7 : ft = 7
      · have b7 : (ft == 7) = true := by simp [h7]
        have H7 := Lib.hid h7
        clear h7
        cases major with
        | true =>
          go_upto_region 7 with fail
          rw [← HX.out] at x3 y2 y3 ⊢
          go_quiet (fail)
          go_wp2
          go_ret
          exact ⟨by rw [HR.out, if_neg H5.out, if_neg H6.out, if_pos H7.out]; simp, HA.out.trans ((below_dn (Below.refl _ _) _).mono HA.out.size)⟩
        | false =>
          go_upto_region 7 with fail
          rw [← HX.out] at x3 y2 y3 ⊢
          go_quiet (fail)
          go_wp2
          go_ret
          exact ⟨by rw [HR.out, if_neg H5.out, if_neg H6.out, if_pos H7.out]; simp, HA.out.trans ((below_dn (Below.refl _ _) _).mono HA.out.size)⟩
      · have b7 : (ft == 7) = false := by simp [h7]
        have H7 := Lib.hid h7
        clear h7
        go_wp2
        go_ret
        exact ⟨by rw [HR.out, if_neg H5.out, if_neg H6.out, if_neg H7.out]; rfl, by rw [← HX.out]; exact HA.out⟩

set_option maxRecDepth 100000 in
set_option maxHeartbeats 4000000 in
theorem count_any {n : Nat} (hb : SBx W fb c0 ov (fBc major low ct) 107) (hc : ct.Ok n) (hn : n < 1353245080339) (ft : Int) :
    Calls Tryz.prog 106 #[.pointer (some ⟨fb, 0, none⟩), .int .i64 ft] W fun r w' => r = .returned (.tuple #[]) ∧ SBx w' fb c0 ov (fBc major low (ct.inc ft)) 107 ∧ W.grownBy w' (some fb) := by
  obtain ⟨⟨o0, o1⟩, ⟨m0, m1⟩, ⟨x0, x1⟩, ⟨a0, a1⟩, k0, k1⟩ := hc
  have HB := Lib.hid hb
  have y4 := hb.at 2
  have y5 := hb.at 3
  have y6 := hb.at 4
  have y7 := hb.at 5
  have y8 := hb.at 6
  simp only [fBc, Nat.reduceAdd, List.getElem?_cons_zero, List.getElem?_cons_succ] at y4 y5 y6 y7 y8
  have f4 := hb.fz 4
  have f5 := hb.fz 5
  have f6 := hb.fz 6
  have f7 := hb.fz 7
  have f8 := hb.fz 8
  clear hb
  go_enter Tryz.func106, Tryz.ntmps106
  by_cases h1 : ft = 1
  · have b1 : (ft == 1) = true := by simp [h1]
    have H1 := Lib.hid h1
    clear h1
    go_wp2
    go_end0
    refine ⟨rfl, ?_, grown1 _ _ _ _⟩
    have q : ct.inc ft = { ct with o := ct.o + 1 } := by unfold Ct.inc; rw [if_pos H1.out]
    rw [q]
    exact HB.out.setN 2 rfl
  · have b1 : (ft == 1) = false := by simp [h1]
    have H1 := Lib.hid h1
    clear h1
    by_cases h2 : ft = 2
    · have b2 : (ft == 2) = true := by simp [h2]
      have H2 := Lib.hid h2
      clear h2
      go_wp2
      go_end0
      refine ⟨rfl, ?_, grown1 _ _ _ _⟩
      have q : ct.inc ft = { ct with m := ct.m + 1 } := by unfold Ct.inc; rw [if_neg H1.out, if_pos H2.out]
      rw [q]
      exact HB.out.setN 3 rfl
    · have b2 : (ft == 2) = false := by simp [h2]
      have H2 := Lib.hid h2
      clear h2
      by_cases h3 : ft = 3
      · have b3 : (ft == 3) = true := by simp [h3]
        have H3 := Lib.hid h3
        clear h3
        go_wp2
        go_end0
        refine ⟨rfl, ?_, grown1 _ _ _ _⟩
        have q : ct.inc ft = { ct with x := ct.x + 1 } := by unfold Ct.inc; rw [if_neg H1.out, if_neg H2.out, if_pos H3.out]
        rw [q]
        exact HB.out.setN 4 rfl
      · have b3 : (ft == 3) = false := by simp [h3]
        have H3 := Lib.hid h3
        clear h3
        by_cases h4 : ft = 4
        · have b4 : (ft == 4) = true := by simp [h4]
          have H4 := Lib.hid h4
          clear h4
          go_wp2
          go_end0
          refine ⟨rfl, ?_, grown1 _ _ _ _⟩
          have q : ct.inc ft = { ct with a := ct.a + 1 } := by unfold Ct.inc; rw [if_neg H1.out, if_neg H2.out, if_neg H3.out, if_pos H4.out]
          rw [q]
          exact HB.out.setN 5 rfl
        · have b4 : (ft == 4) = false := by simp [h4]
          have H4 := Lib.hid h4
          clear h4
          go_wp2
          go_end0
          refine ⟨rfl, ?_, grown1 _ _ _ _⟩
          have q : ct.inc ft = { ct with k := ct.k + 1 } := by unfold Ct.inc; rw [if_neg H1.out, if_neg H2.out, if_neg H3.out, if_neg H4.out]
          rw [q]
          exact HB.out.setN 6 rfl
end
end Go.Proofs.YtganmnckdmkcbaaGreat

namespace Go.Proofs.YtganmnckdmkcbaaGreat
open Go.RowKit
set_option linter.unusedVariables false

def outS (major : Bool) (low : Int) (vs : List Vd) : List En := (vs.filter (staysS major low)).map Vd.e
def cntS (major : Bool) (low : Int) (vs : List Vd) : Ct := vs.foldl (fun c v => if staysS major low v then c else c.inc v.fate) ⟨0, 0, 0, 0, 0⟩
theorem outS_snoc (major : Bool) (low : Int) (vs : List Vd) (v : Vd) : outS major low (vs ++ [v]) = if staysS major low v then outS major low vs ++ [v.e] else outS major low vs := by
  unfold outS
  rw [List.filter_append, List.map_append]
  by_cases h : staysS major low v = true
  · simp [h]
  · simp [h]
theorem cntS_snoc (major : Bool) (low : Int) (vs : List Vd) (v : Vd) : cntS major low (vs ++ [v]) = if staysS major low v then cntS major low vs else (cntS major low vs).inc v.fate := by
  unfold cntS
  rw [List.foldl_append]
  rfl
structure TF (fb N : Nat) (c0 : Value) (major : Bool) (low : Int) (W : World) (O : Nat → Prop) (vs : List Vd) : Prop where
  st : ∃ xs ov Or, SBx W fb c0 ov (fBc major low (cntS major low vs)) 107 ∧ Rw W N ov xs Or ∧ ¬ Or fb ∧ (∀ i, Or i → O i) ∧ xs.map EntD.dat = outS major low vs
  ok : (cntS major low vs).Ok vs.length
  of : O fb
  lt : ∀ i, O i → i < W.heap.size
  low : N ≤ W.heap.size

set_option maxRecDepth 100000 in
set_option maxHeartbeats 4000000 in
theorem keep_any3 {W : World} {fb N : Nat} {c0 : Value} {major : Bool} {low : Int} {O : Nat → Prop} {vs : List Vd} {e : EntD} {n : Nat} (ft rk : Int) (h : TF fb N c0 major low W O vs) (he : EntD.Ok W e) (hf : Fit n e.dat) (hv : vs.length < 1353245080339) :
    Calls Tryz.prog 70 #[.pointer (some ⟨fb, 0, none⟩), vdV e ft rk] W fun r W' => r = .returned (.tuple #[]) ∧ ∃ O', TF fb N c0 major low W' O' (vs ++ [⟨e.dat, ft, rk⟩]) ∧ Tf W W' O O' := by
  obtain ⟨xs, ov, Or, hb, hr, hno, hsub, hx⟩ := h.st
  have hxl : xs.length ≤ vs.length := by
    have := congrArg List.length hx
    simp only [List.length_map, outS] at this
    have := List.length_filter_le (staysS major low) vs
    omega
  have A := (Below.refl W.heap.size W).alloc (Nat.le_refl _) (.cells #[e.vr, .int .i64 e.fam, e.vq, .int .i64 e.ts, .int .i64 e.seq, .int .i64 e.kind, e.vv, .int .i64 ft, .int .i64 rk] 152)
  have vb : VBx (W.alloc (.cells #[e.vr, .int .i64 e.fam, e.vq, .int .i64 e.ts, .int .i64 e.seq, .int .i64 e.kind, e.vv, .int .i64 ft, .int .i64 rk] 152)) W.heap.size e ft rk := heap_new W _
  obtain ⟨X, hX⟩ : ∃ X, X = W.alloc (.cells #[e.vr, .int .i64 e.fam, e.vq, .int .i64 e.ts, .int .i64 e.seq, .int .i64 e.kind, e.vv, .int .i64 ft, .int .i64 rk] 152) := ⟨_, rfl⟩
  rw [← hX] at A vb
  obtain ⟨qb, hqb⟩ : ∃ q, q = W.heap.size := ⟨_, rfl⟩
  have hqb' := hqb.symm
  rw [← hqb] at vb
  have HU : Hid (∀ Z, Below X.heap.size X Z → SBx Z fb c0 ov (fBc major low (cntS major low vs)) 107 ∧ Rw Z N ov xs Or ∧ VBx Z qb e ft rk ∧ EntD.Ok Z e ∧ Below W.heap.size W Z) := fun Z b => by
    have b2 := A.trans (b.mono A.size)
    exact ⟨hb.keep (b2.block fb hb.lt), hr.keep (fun i hi => b2.block i (h.lt i (hsub i hi))), vb.keep (b.block _ vb.lt), he.later b2, b2⟩
  have HC1 := Lib.hid (stays_any (e := e) (HU.out X (Below.refl _ _)).1 ft rk)
  obtain ⟨R, hR⟩ : ∃ R, R = staysS major low ⟨e.dat, ft, rk⟩ := ⟨_, rfl⟩
  rw [← hR] at HC1
  have HR := Lib.hid hR
  have HX := Lib.hid hX
  have HH := Lib.hid h
  have HL : Hid (e.row.length ≤ 256 ∧ e.qual.length ≤ 256 ∧ e.val.length ≤ 4096) := ⟨hf.row, hf.qual, hf.val⟩
  have HQ := Lib.hid hqb
  have HXx := Lib.hid (And.intro hx hxl)
  have HN := Lib.hid hno
  have HS := Lib.hid hsub
  have hfq : fb ≠ qb := by rw [hqb]; have := hb.lt; omega
  have xv := vb.all
  rw [hX] at xv
  obtain ⟨x0, x1, x2, x3, x4, x5, x6, x7, x8⟩ := xv
  unfold vdV at HC1 ⊢
  clear hX A vb hb hr hx hxl h he hf hqb hR hno hsub
  go_enter Tryz.func70, Tryz.ntmps70
  go_wp2_with fail
  rw [← HX.out]
  (try rw [hqb'])
  refine Calls.mono HC1.out ?_
  rintro z X1 ⟨rfl, b1⟩
  clear x0 x1 x2 x3 x4 x5 x6 x7 x8 HC1 HX hqb'
  have HB1 := Lib.hid b1
  clear b1
  cases R with
  | true =>
    have D1 : Below X1.heap.size X1 X1.drew := (Below.refl _ _).drew
    have E1 := HB1.out.trans (D1.mono HB1.out.size)
    obtain ⟨sb, rw1, vb1, ok1, bw1⟩ := HU.out _ E1
    have HC2 := Lib.hid (add_any sb ⟨by decide, by decide⟩ rw1 (fun i hi => Nat.lt_of_lt_of_le (HH.out.lt i (HS.out i hi)) bw1.size) (Nat.le_trans HH.out.low bw1.size) ok1 HL.out (by have := HXx.out.2; omega))
    have HV1 := Lib.hid vb1
    have HBw := Lib.hid bw1
    obtain ⟨x0, x1, x2, x3, x4, x5, x6, x7, x8⟩ := vb1.all
    unfold EntD.cells at HC2
    clear sb rw1 vb1 ok1 bw1 D1
    go_upto_region 2 with fail
    go_region_held3 (fun Z => Z.cell? ⟨qb, 0, none⟩ = some e.vr ∧ Z.cell? ⟨qb, 1, none⟩ = some (.int .i64 e.fam) ∧ Z.cell? ⟨qb, 2, none⟩ = some e.vq ∧ Z.cell? ⟨qb, 3, none⟩ = some (.int .i64 e.ts) ∧ Z.cell? ⟨qb, 4, none⟩ = some (.int .i64 e.seq) ∧ Z.cell? ⟨qb, 5, none⟩ = some (.int .i64 e.kind) ∧ Z.cell? ⟨qb, 6, none⟩ = some e.vv) (first | exact ⟨v3.all.1, v3.all.2.1, v3.all.2.2.1, v3.all.2.2.2.1, v3.all.2.2.2.2.1, v3.all.2.2.2.2.2.1, v3.all.2.2.2.2.2.2.1⟩ | exact ⟨x0, x1, x2, x3, x4, x5, x6⟩)
      ((go_at_call 105; refine Calls.mono HC2.out ?_; rintro z2 X2 ⟨rfl, u, x, O2, sb2, rw2, dx, own2, lt2, os2, tp2, op2, sz2, bl2⟩; have v3 := HV1.out.keep (bl2 qb HV1.out.lt (Ne.symm hfq) (fun k => by have := HH.out.lt qb (HS.out _ k); have := HQ.out; omega))))
    have HF := Lib.hid (And.intro sb2 (And.intro rw2 (And.intro dx (And.intro own2 (And.intro lt2 (And.intro os2 (And.intro tp2 (And.intro op2 (And.intro sz2 bl2)))))))))
    clear sb2 rw2 dx own2 lt2 os2 tp2 op2 sz2 bl2 v3 x0 x1 x2 x3 x4 x5 x6 x7 x8
    go_wp2
    refine bodyPost_ret (results_none rfl _ _ _) rfl ?_
    obtain ⟨sb2, rw2, dx, own2, lt2, os2, tp2, op2, sz2, bl2⟩ := HF.out
    have bw := HBw.out
    have e1 := cntS_snoc major low vs ⟨e.dat, ft, rk⟩
    have e2 := outS_snoc major low vs ⟨e.dat, ft, rk⟩
    rw [← HR.out] at e1 e2
    simp only [if_true] at e1 e2
    have lf : fb < W.heap.size := HH.out.lt fb HH.out.of
    refine ⟨rfl, fun i => O2 i ∨ i = fb, ⟨⟨xs ++ [x], u, O2, by rw [e1]; exact sb2, rw2, fun k => ?_, fun i hi => .inl hi, by rw [e2, List.map_append, HXx.out.1, ← dx]; rfl⟩, by rw [e1]; exact HH.out.ok.mono (by simp), .inr rfl, fun i hi => ?_, ?_⟩, ⟨os2.trans bw.os, tp2.trans bw.tape, op2.trans bw.output, Nat.le_trans bw.size sz2, fun i hi hn => ?_, fun i hi => ?_⟩⟩
    · rcases own2 fb k with k | k
      · exact HN.out k
      · have := bw.size; omega
    · rcases hi with hi | rfl
      · exact lt2 i hi
      · exact Nat.lt_of_lt_of_le lf (Nat.le_trans bw.size sz2)
    · exact Nat.le_trans HH.out.low (Nat.le_trans bw.size sz2)
    · rw [bl2 i (Nat.lt_of_lt_of_le hi bw.size) (fun z => hn (by rw [z]; exact HH.out.of)) (fun z => hn (HS.out i z))]
      exact bw.block i hi
    · rcases hi with hi | rfl
      · rcases own2 i hi with k | k
        · exact .inl (HS.out i k)
        · exact .inr (Nat.le_trans bw.size k)
      · exact .inl HH.out.of
  | false =>
    obtain ⟨sb, rw1, vb1, ok1, bw1⟩ := HU.out _ HB1.out
    have HC2 := Lib.hid (count_any sb HH.out.ok hv ft)
    have HBw := Lib.hid bw1
    have HRw := Lib.hid rw1
    obtain ⟨x0, x1, x2, x3, x4, x5, x6, x7, x8⟩ := vb1.all
    clear sb rw1 vb1 ok1 bw1
    go_wp2_with fail
    refine Calls.mono HC2.out ?_
    rintro z2 X2 ⟨rfl, sb2, gr2⟩
    have HF := Lib.hid (And.intro sb2 gr2)
    clear sb2 gr2 x0 x1 x2 x3 x4 x5 x6 x7 x8
    go_wp2
    go_end0
    obtain ⟨sb2, gr2⟩ := HF.out
    have bw := HBw.out
    have e1 := cntS_snoc major low vs ⟨e.dat, ft, rk⟩
    have e2 := outS_snoc major low vs ⟨e.dat, ft, rk⟩
    rw [← HR.out] at e1 e2
    simp only [Bool.false_eq_true, if_false] at e1 e2
    have lf : fb < W.heap.size := HH.out.lt fb HH.out.of
    have sz := Nat.le_trans bw.size gr2.size
    refine ⟨rfl, O, ⟨⟨xs, ov, Or, by rw [e1]; exact sb2, HRw.out.keep (fun i hi => gr2.block i (Nat.lt_of_lt_of_le (HH.out.lt i (HS.out i hi)) bw.size) (fun z => by cases z; exact HN.out hi)), HN.out, HS.out, by rw [e2]; exact HXx.out.1⟩, ?_, HH.out.of, fun i hi => Nat.lt_of_lt_of_le (HH.out.lt i hi) sz, Nat.le_trans HH.out.low sz⟩, ⟨gr2.os.trans bw.os, gr2.tape.trans bw.tape, gr2.output.trans bw.output, sz, fun i hi hn => ?_, fun i hi => .inl hi⟩⟩
    · rw [e1, List.length_append]
      exact HH.out.ok.inc ft
    · rw [gr2.block i (Nat.lt_of_lt_of_le hi bw.size) (fun z => by cases z; exact hn HH.out.of)]
      exact bw.block i hi
theorem filter_teller (fb N : Nat) (c0 : Value) (major : Bool) (low : Int) : Teller 70 fb (TF fb N c0 major low) where
  enters := enters_of Tryz.func70 (by kernel_rfl) rfl
  keep := fun {W W' O vs} h k sz => by
    obtain ⟨xs, ov, Or, hb, hr, hno, hsub, hx⟩ := h.st
    exact ⟨⟨xs, ov, Or, hb.keep (k fb h.of), hr.keep (fun i hi => k i (hsub i hi)), hno, hsub, hx⟩, h.ok, h.of, fun i hi => Nat.lt_of_lt_of_le (h.lt i hi) sz, Nat.le_trans h.low sz⟩
  lt := fun h hi => h.lt _ hi
  say := fun {W O vs e} ft rk {n} h he hf hv => keep_any3 ft rk h he hf hv
end Go.Proofs.YtganmnckdmkcbaaGreat

namespace Go.Proofs.YtganmnckdmkcbaaGreat
open Go.RowKit
set_option linter.unusedVariables false

def topS (vs : List Vd) : Int := vs.foldl (fun m v => if 0 < v.rank then max m v.e.ts else m) 0
theorem topS_snoc (vs : List Vd) (v : Vd) : topS (vs ++ [v]) = if 0 < v.rank then max (topS vs) v.e.ts else topS vs := by
  unfold topS
  rw [List.foldl_append]
  rfl
def PBx (w : World) (b : Nat) (m : Int) : Prop := w.heap[b]? = some (.cells #[.int .i64 m] 112 (0, 0))
section
variable {w w' : World} {b : Nat} {m : Int}
theorem PBx.c0 (h : PBx w b m) : w.cell? ⟨b, 0, none⟩ = some (.int .i64 m) := by unfold PBx at h; simp [World.cell?, h]
theorem PBx.fz (h : PBx w b m) : w.frozen? ⟨b, 0, none⟩ = false := by unfold PBx at h; simp [World.frozen?, h]
theorem PBx.lt (h : PBx w b m) : b < w.heap.size := (Array.getElem?_eq_some_iff.1 h).1
theorem PBx.keep (h : PBx w b m) (k : w'.heap[b]? = w.heap[b]?) : PBx w' b m := k.trans h
theorem PBx.set (h : PBx w b m) (x : Int) : PBx (w.setCell ⟨b, 0, none⟩ (.int .i64 x)) b x := by
  unfold PBx at *
  simp [World.setCell, Array.getElem?_modify, h]
end
structure TP (pb : Nat) (W : World) (O : Nat → Prop) (vs : List Vd) : Prop where
  st : PBx W pb (topS vs)
  of : ∀ i, O i ↔ i = pb

set_option maxRecDepth 100000 in
set_option maxHeartbeats 4000000 in
theorem rise_any {W : World} {pb : Nat} {O : Nat → Prop} {vs : List Vd} {e : EntD} (ft rk : Int) (h : TP pb W O vs) (he : EntD.Ok W e) :
    Calls Tryz.prog 59 #[.pointer (some ⟨pb, 0, none⟩), vdV e ft rk] W fun r W' => r = .returned (.tuple #[]) ∧ ∃ O', TP pb W' O' (vs ++ [⟨e.dat, ft, rk⟩]) ∧ Tf W W' O O' := by
  have e1 := topS_snoc vs ⟨e.dat, ft, rk⟩
  have A := (Below.refl W.heap.size W).alloc (Nat.le_refl _) (.cells #[e.vr, .int .i64 e.fam, e.vq, .int .i64 e.ts, .int .i64 e.seq, .int .i64 e.kind, e.vv, .int .i64 ft, .int .i64 rk] 152)
  have vb : VBx (W.alloc (.cells #[e.vr, .int .i64 e.fam, e.vq, .int .i64 e.ts, .int .i64 e.seq, .int .i64 e.kind, e.vv, .int .i64 ft, .int .i64 rk] 152)) W.heap.size e ft rk := heap_new W _
  obtain ⟨X, hX⟩ : ∃ X, X = W.alloc (.cells #[e.vr, .int .i64 e.fam, e.vq, .int .i64 e.ts, .int .i64 e.seq, .int .i64 e.kind, e.vv, .int .i64 ft, .int .i64 rk] 152) := ⟨_, rfl⟩
  rw [← hX] at A vb
  obtain ⟨qb, hqb⟩ : ∃ q, q = W.heap.size := ⟨_, rfl⟩
  have hqb' := hqb.symm
  rw [← hqb] at vb
  have pb1 := h.st.keep (A.block pb h.st.lt)
  have hlt := h.st.lt
  obtain ⟨M, hM⟩ : ∃ M, M = topS vs := ⟨_, rfl⟩
  rw [← hM] at e1 pb1
  have HH : Hid (∀ i, O i ↔ i = pb) := h.of
  have HX := Lib.hid hX
  have HA := Lib.hid A
  have HP := Lib.hid pb1
  have HE := Lib.hid e1
  have HL := Lib.hid hlt
  have p0 := pb1.c0
  have f0 := pb1.fz
  have x3 := vb.all.2.2.2.1
  have x8 := vb.all.2.2.2.2.2.2.2.2
  rw [hX] at p0 f0 x3 x8
  unfold vdV
  clear hX A vb h he hqb pb1 e1 hlt hM
  go_enter Tryz.func59, Tryz.ntmps59
  by_cases hk : 0 < rk
  · have HK := Lib.hid hk
    go_wp2_with fail
    go_region
    go_end0
    rw [← HX.out]
    have st : PBx ((X.setCell ⟨pb, 0, none⟩ (.int .i64 (max M e.ts))).drew) pb (topS (vs ++ [⟨e.dat, ft, rk⟩])) := by
      rw [HE.out, if_pos HK.out]
      exact (HP.out.set (max M e.ts)).keep (drew_heap _ _)
    exact ⟨rfl, O, ⟨st, HH.out⟩, HA.out.os, HA.out.tape, HA.out.output, by simpa using HA.out.size, fun i hi hn => by
      rw [drew_heap, Below.heap_setCell _ _ _ _ (fun z => hn ((HH.out i).2 z))]
      exact HA.out.block i hi, fun i hi => .inl hi⟩
  · have HK := Lib.hid hk
    go_wp2
    go_end0
    rw [← HX.out]
    have st : PBx X pb (topS (vs ++ [⟨e.dat, ft, rk⟩])) := by
      rw [HE.out, if_neg (Int.not_lt.2 HK.out)]
      exact HP.out
    exact ⟨rfl, O, ⟨st, HH.out⟩, HA.out.os, HA.out.tape, HA.out.output, HA.out.size, fun i hi hn => HA.out.block i hi, fun i hi => .inl hi⟩
theorem peak_teller (pb : Nat) : Teller 59 pb (TP pb) where
  enters := enters_of Tryz.func59 (by kernel_rfl) rfl
  keep := fun {W W' O vs} h k sz => ⟨h.st.keep (k pb ((h.of pb).2 rfl)), h.of⟩
  lt := fun {W O vs i} h hi => by rw [(h.of i).1 hi]; exact h.st.lt
  say := fun {W O vs e} ft rk {n} h he hf hv => rise_any ft rk h he
end Go.Proofs.YtganmnckdmkcbaaGreat

namespace Go.Proofs.YtganmnckdmkcbaaGreat
open Go.RowKit
set_option linter.unusedVariables false

def showStep (tm n : Int) (s : Int × List En) (v : Vd) : Int × List En :=
  if v.fate = 5 ∧ v.e.kind = 1 ∧ v.e.ts ≤ tm ∧ (if v.rank = 1 then 0 else s.1) ≠ n then ((if v.rank = 1 then 0 else s.1) + 1, s.2 ++ [v.e]) else ((if v.rank = 1 then 0 else s.1), s.2)
def showS (tm n : Int) (vs : List Vd) : Int × List En := vs.foldl (showStep tm n) (0, [])
theorem showS_snoc (tm n : Int) (vs : List Vd) (v : Vd) : showS tm n (vs ++ [v]) = showStep tm n (showS tm n vs) v := by
  unfold showS
  rw [List.foldl_append]
  rfl
def rBc (tm n sh : Int) : List Value := [.int .i64 tm, .int .i64 n, .int .i64 sh]
theorem Rd.grown {W W' : World} {x : Value} {bs : List Nat} {q : Nat} (r : Rd W x bs) (hg : W.grownBy W' (some q)) (hn : ∀ i k, W.cell? ⟨q, i, none⟩ ≠ some (.int .u8 k)) : Rd W' x bs := by
  obtain ⟨h1, a, cap, rfl, h3, h4, h5, h6, h7⟩ := r
  refine ⟨h1, a, cap, rfl, h3, h4, h5, h6, ?_⟩
  rcases h7 with h7 | ⟨b, off, rfl, hc⟩
  · exact .inl h7
  · refine .inr ⟨b, off, rfl, fun i hi => hg.cell (hc i hi) (fun e => ?_)⟩
    cases e
    exact hn _ _ (hc i hi)
theorem EntD.grown {W W' : World} {e : EntD} {q : Nat} (r : EntD.Ok W e) (hg : W.grownBy W' (some q)) (hn : ∀ i k, W.cell? ⟨q, i, none⟩ ≠ some (.int .u8 k)) : EntD.Ok W' e := ⟨r.1.grown hg hn, r.2.1.grown hg hn, r.2.2.grown hg hn⟩
theorem reader_noByte {w : World} {b : Nat} {p : Option Addr} {v : Value} {tm n sh : Int} {ty : TypeId} (h : SBx w b (.pointer p) v (rBc tm n sh) ty) (hv : ∃ a m c, v = .slice a m c) (i : Nat) (k : Int) : w.cell? ⟨b, i, none⟩ ≠ some (.int .u8 k) := fun z => by
  obtain ⟨a, m, c, rfl⟩ := hv
  unfold SBx rBc at h
  simp only [World.cell?, h] at z
  by_cases hi : i < 5
  · have : i = 0 ∨ i = 1 ∨ i = 2 ∨ i = 3 ∨ i = 4 := by omega
    rcases this with rfl | rfl | rfl | rfl | rfl <;> simp at z
  · rw [Array.getElem?_eq_none (by simp; omega)] at z
    simp at z
structure TR (fb N : Nat) (cp : Option Addr) (tm n : Int) (W : World) (O : Nat → Prop) (vs : List Vd) : Prop where
  st : ∃ xs ov Or, SBx W fb (.pointer cp) ov (rBc tm n (showS tm n vs).1) 103 ∧ Rw W N ov xs Or ∧ ¬ Or fb ∧ (∀ i, Or i → O i) ∧ xs.map EntD.dat = (showS tm n vs).2
  ok : 0 ≤ (showS tm n vs).1 ∧ (showS tm n vs).1 ≤ vs.length ∧ (showS tm n vs).2.length ≤ vs.length
  of : O fb
  lt : ∀ i, O i → i < W.heap.size
  low : N ≤ W.heap.size

set_option maxRecDepth 100000 in
set_option maxHeartbeats 4000000 in
theorem show_any3 {W : World} {fb N : Nat} {cp : Option Addr} {tm n : Int} {O : Nat → Prop} {vs : List Vd} {e : EntD} {nf : Nat} (ft rk : Int) (h : TR fb N cp tm n W O vs) (he : EntD.Ok W e) (hf : Fit nf e.dat) (hv : vs.length < 1353245080339) :
    Calls Tryz.prog 71 #[.pointer (some ⟨fb, 0, none⟩), vdV e ft rk] W fun r W' => r = .returned (.tuple #[]) ∧ ∃ O', TR fb N cp tm n W' O' (vs ++ [⟨e.dat, ft, rk⟩]) ∧ Tf W W' O O' := by
  have e1 := showS_snoc tm n vs ⟨e.dat, ft, rk⟩
  obtain ⟨xs, ov, Or, hb, hr, hno, hsub, hx⟩ := h.st
  obtain ⟨k0, k1, k2⟩ := h.ok
  obtain ⟨sh, hsh⟩ : ∃ sh, sh = (showS tm n vs).1 := ⟨_, rfl⟩
  obtain ⟨out, hout⟩ : ∃ out, out = (showS tm n vs).2 := ⟨_, rfl⟩
  rw [← hsh] at hb k0 k1
  rw [← hout] at hx k2
  have hso : showS tm n vs = (sh, out) := by rw [hsh, hout]
  rw [hso] at e1
  have hxl : xs.length ≤ vs.length := by
    have := congrArg List.length hx
    simp only [List.length_map] at this
    omega
  obtain ⟨s1, hs1⟩ : ∃ s1 : Int, s1 = if rk = 1 then 0 else sh := ⟨_, rfl⟩
  have hs1b : 0 ≤ s1 ∧ s1 ≤ vs.length := by rw [hs1]; split <;> omega
  have e2 : showS tm n (vs ++ [⟨e.dat, ft, rk⟩]) = if ft = 5 ∧ e.kind = 1 ∧ e.ts ≤ tm ∧ s1 ≠ n then (s1 + 1, out ++ [e.dat]) else (s1, out) := by
    rw [e1, hs1]
    rfl
  have A := (Below.refl W.heap.size W).alloc (Nat.le_refl _) (.cells #[e.vr, .int .i64 e.fam, e.vq, .int .i64 e.ts, .int .i64 e.seq, .int .i64 e.kind, e.vv, .int .i64 ft, .int .i64 rk] 152)
  have vb : VBx (W.alloc (.cells #[e.vr, .int .i64 e.fam, e.vq, .int .i64 e.ts, .int .i64 e.seq, .int .i64 e.kind, e.vv, .int .i64 ft, .int .i64 rk] 152)) W.heap.size e ft rk := heap_new W _
  obtain ⟨X, hX⟩ : ∃ X, X = W.alloc (.cells #[e.vr, .int .i64 e.fam, e.vq, .int .i64 e.ts, .int .i64 e.seq, .int .i64 e.kind, e.vv, .int .i64 ft, .int .i64 rk] 152) := ⟨_, rfl⟩
  rw [← hX] at A vb
  obtain ⟨qb, hqb⟩ : ∃ q, q = W.heap.size := ⟨_, rfl⟩
  have hqb' := hqb.symm
  rw [← hqb] at vb
  have hfq : fb ≠ qb := by rw [hqb]; have := hb.lt; omega
  have H0 : Hid (SBx X fb (.pointer cp) ov (rBc tm n sh) 103 ∧ Rw X N ov xs Or ∧ VBx X qb e ft rk ∧ EntD.Ok X e) := ⟨hb.later A, hr.keep (fun i hi => A.block i (h.lt i (hsub i hi))), vb, he.later A⟩
  have HA := Lib.hid A
  have HE := Lib.hid e2
  have HX := Lib.hid hX
  have HH := Lib.hid h
  have HL : Hid (e.row.length ≤ 256 ∧ e.qual.length ≤ 256 ∧ e.val.length ≤ 4096) := ⟨hf.row, hf.qual, hf.val⟩
  have HQ := Lib.hid hqb
  have HXx := Lib.hid (And.intro hx (And.intro hxl k2))
  have HN := Lib.hid hno
  have HS := Lib.hid hsub
  have HS1 := Lib.hid (And.intro hs1 hs1b)
  have HV := Lib.hid hv
  have xv := vb.all
  rw [hX] at xv
  obtain ⟨x0, x1, x2, x3, x4, x5, x6, x7, x8⟩ := xv
  unfold vdV
  clear hX A vb hb hr hx hxl h he hf hqb hno hsub hs1 hs1b e1 e2 hso hout hsh k0 k1 k2 hv
  go_enter Tryz.func71, Tryz.ntmps71
  go_upto_if 6 with fail
  rw [← HX.out]
  (try rw [hqb'])
  clear hqb' HX x0 x1 x2 x3 x4 x5 x6 x7 x8
  go_cut [7] (fun _ wx => Hid (SBx wx fb (.pointer cp) ov (rBc tm n s1) 103 ∧ Rw wx N ov xs Or ∧ VBx wx qb e ft rk ∧ EntD.Ok wx e ∧ W.grownBy wx (some fb)))
  case first =>
    obtain ⟨sb, rw0, vb, ok⟩ := H0.out
    have y4 := sb.at 2
    have f4 := sb.fz 4
    simp only [rBc, Nat.reduceAdd, List.getElem?_cons_zero, List.getElem?_cons_succ] at y4
    have HSb := Lib.hid sb
    have HRw := Lib.hid rw0
    have HVb := Lib.hid vb
    have HOk := Lib.hid ok
    clear sb rw0 vb ok
    by_cases h1 : rk = 1
    · have b1 : (rk == 1) = true := by simp [h1]
      have H1 := Lib.hid h1
      clear h1
      go_wp2_with fail
      go_meet
      have hG := grown1 X fb 4 (.int .i64 0)
      have q1 : s1 = 0 := by rw [HS1.out.1, if_pos H1.out]
      have A := HA.out
      refine ⟨by rw [q1]; exact HSb.out.setN 2 rfl, HRw.out.keep (fun i hi => hG.block i (Nat.lt_of_lt_of_le (HH.out.lt i (HS.out i hi)) A.size) (fun z => by cases z; exact HN.out hi)), HVb.out.keep (hG.block qb HVb.out.lt (fun z => by cases z; exact hfq rfl)), EntD.grown HOk.out hG (reader_noByte HSb.out (by obtain ⟨a, c, q⟩ := rows_form3 HRw.out.row; exact ⟨_, _, _, q⟩)), ?_⟩
      exact ⟨A.os, A.tape, A.output, Nat.le_trans A.size hG.size, fun i hi hn => (hG.block i (Nat.lt_of_lt_of_le hi A.size) hn).trans (A.block i hi)⟩
    · have b1 : (rk == 1) = false := by simp [h1]
      have H1 := Lib.hid h1
      clear h1
      go_wp2_with fail
      go_meet
      have q1 : s1 = sh := by rw [HS1.out.1, if_neg H1.out]
      have A := HA.out
      exact ⟨by rw [q1]; exact HSb.out, HRw.out, HVb.out, HOk.out, A.os, A.tape, A.output, A.size, fun i hi hn => A.block i hi⟩
  case rest =>
  have HP := hcut
  clear hcut H0 HA
  obtain ⟨X1, hX1⟩ : ∃ X1, X1 = wc := ⟨_, rfl⟩
  subst hX1
  obtain ⟨cB, hcB⟩ : ∃ cB : Bool, cB = !decide (ft = 5 ∧ e.kind = 1 ∧ e.ts ≤ tm ∧ s1 ≠ n) := ⟨_, rfl⟩
  have HcB := Lib.hid hcB
  clear hcB
  go_upto_region 3 with fail
  go_cut [39] (fun c wx => c = .bool cB ∧ Hid (Below X1.heap.size X1 wx))
  case first =>
    obtain ⟨sb, rw0, vb, ok, gr⟩ := HP.out
    have y2 := sb.at 0
    have y3 := sb.at 1
    have y4 := sb.at 2
    simp only [rBc, Nat.zero_add, Nat.reduceAdd, List.getElem?_cons_zero, List.getElem?_cons_succ] at y2 y3 y4
    obtain ⟨-, -, -, x3, -, x5, -, x7, -⟩ := vb.all
    clear sb rw0 vb ok gr
    by_cases h1 : ft = 5
    · have b1 : (ft != 5) = false := by simp [h1]
      have H1 := Lib.hid h1
      clear h1
      by_cases h2 : e.kind = 1
      · have b2 : (e.kind != 1) = false := by simp [h2]
        have H2 := Lib.hid h2
        clear h2
        by_cases h3 : e.ts ≤ tm
        · have H3 := Lib.hid h3
          have h3d : decide (tm < e.ts) = false := by simpa using h3
          by_cases h4 : s1 = n
          · have b4 : (s1 == n) = true := by simp [h4]
            have H4 := Lib.hid h4
            clear h4
            go_quiet (fail)
            go_wp2_with fail
            go_meet
            exact ⟨by rw [HcB.out, decide_eq_false (fun z => z.2.2.2 H4.out)]; rfl, below_rfl rfl rfl rfl rfl⟩
          · have b4 : (s1 == n) = false := by simp [h4]
            have H4 := Lib.hid h4
            clear h4
            go_quiet (fail)
            go_wp2_with fail
            go_meet
            exact ⟨by rw [HcB.out, decide_eq_true ⟨H1.out, H2.out, H3.out, H4.out⟩]; rfl, below_rfl rfl rfl rfl rfl⟩
        · have H3 : Hid (tm < e.ts) := Int.not_le.1 h3
          have h3' : tm < e.ts := Int.not_le.1 h3
          clear h3
          go_quiet (fail)
          go_wp2_with fail
          go_meet
          exact ⟨by rw [HcB.out, decide_eq_false (fun z => by have := z.2.2.1; have := H3.out; omega)]; rfl, below_rfl rfl rfl rfl rfl⟩
      · have b2 : (e.kind != 1) = true := by simp [h2]
        have H2 := Lib.hid h2
        clear h2
        go_quiet (fail)
        go_wp2_with fail
        go_meet
        exact ⟨by rw [HcB.out, decide_eq_false (fun z => H2.out z.2.1)]; rfl, below_rfl rfl rfl rfl rfl⟩
    · have b1 : (ft != 5) = true := by simp [h1]
      have H1 := Lib.hid h1
      clear h1
      go_quiet (fail)
      go_wp2_with fail
      go_meet
      exact ⟨by rw [HcB.out, decide_eq_false (fun z => H1.out z.1)]; rfl, below_rfl rfl rfl rfl rfl⟩
  case rest =>
  obtain ⟨rfl, HD⟩ := hcut
  obtain ⟨X2, hX2⟩ : ∃ X2, X2 = wc := ⟨_, rfl⟩
  subst hX2
  have HP2 : Hid (SBx X2 fb (.pointer cp) ov (rBc tm n s1) 103 ∧ Rw X2 N ov xs Or ∧ VBx X2 qb e ft rk ∧ EntD.Ok X2 e ∧ W.grownBy X2 (some fb)) := by
    obtain ⟨sb, rw0, vb, ok, gr⟩ := HP.out
    have b := HD.out
    exact ⟨sb.later b, rw0.keep (fun i hi => b.block i (Nat.lt_of_lt_of_le (HH.out.lt i (HS.out i hi)) gr.size)), vb.keep (b.block _ vb.lt), ok.later b, b.os.trans gr.os, b.tape.trans gr.tape, b.output.trans gr.output, Nat.le_trans gr.size b.size, fun i hi hn => (b.block i (Nat.lt_of_lt_of_le hi gr.size)).trans (gr.block i hi hn)⟩
  clear HP HD
  cases cB with
  | true =>
    have hno : ¬ (ft = 5 ∧ e.kind = 1 ∧ e.ts ≤ tm ∧ s1 ≠ n) := fun z => by have := HcB.out; rw [decide_eq_true z] at this; cases this
    have e2 := HE.out
    rw [if_neg hno] at e2
    have HE2 := Lib.hid e2
    clear e2 hno HcB
    go_wp2
    refine bodyPost_ret (results_none rfl _ _ _) rfl ?_
    obtain ⟨sb, rw0, vb, ok, gr⟩ := HP2.out
    obtain ⟨z0, z1⟩ := HS1.out.2
    have lf : fb < W.heap.size := HH.out.lt fb HH.out.of
    refine ⟨rfl, O, ⟨⟨xs, ov, Or, by rw [HE2.out]; exact sb, rw0, HN.out, HS.out, by rw [HE2.out]; exact HXx.out.1⟩, ?_, HH.out.of, fun i hi => Nat.lt_of_lt_of_le (HH.out.lt i hi) gr.size, Nat.le_trans HH.out.low gr.size⟩, gr.os, gr.tape, gr.output, gr.size, fun i hi hn => gr.block i hi (fun z => by cases z; exact hn HH.out.of), fun i hi => .inl hi⟩
    rw [HE2.out, List.length_append]
    have := HXx.out.2.2
    exact ⟨z0, by simp only [List.length_cons, List.length_nil]; omega, by simp only [List.length_cons, List.length_nil]; omega⟩
  | false =>
    have hyes : ft = 5 ∧ e.kind = 1 ∧ e.ts ≤ tm ∧ s1 ≠ n := by have := HcB.out; simpa using this
    have e2 := HE.out
    rw [if_pos hyes] at e2
    have HE2 := Lib.hid e2
    clear e2 hyes HcB
    obtain ⟨sb, rw0, vb, ok, gr⟩ := HP2.out
    have y4 := sb.at 2
    have f4 := sb.fz 4
    simp only [rBc, Nat.reduceAdd, List.getElem?_cons_zero, List.getElem?_cons_succ] at y4
    obtain ⟨z0, z1⟩ := HS1.out.2
    have z2 := HV.out
    clear sb rw0 vb ok gr
    go_upto_region 5 with fail
    obtain ⟨X3, hX3⟩ : ∃ X3, X3 = X2.setCell ⟨fb, 4, none⟩ (.int .i64 (s1 + 1)) := ⟨_, rfl⟩
    rw [← hX3]
    have HP3 : Hid (SBx X3.drew fb (.pointer cp) ov (rBc tm n (s1 + 1)) 103 ∧ Rw X3.drew N ov xs Or ∧ VBx X3.drew qb e ft rk ∧ EntD.Ok X3.drew e ∧ W.grownBy X3.drew (some fb)) := by
      obtain ⟨sb, rw0, vb, ok, gr⟩ := HP2.out
      have hG : X2.grownBy X3.drew (some fb) := by rw [hX3]; exact (grown1 _ _ _ _).drew
      refine ⟨?_, rw0.keep (fun i hi => hG.block i (Nat.lt_of_lt_of_le (HH.out.lt i (HS.out i hi)) gr.size) (fun z => by cases z; exact HN.out hi)), vb.keep (hG.block qb vb.lt (fun z => by cases z; exact hfq rfl)), EntD.grown ok hG (reader_noByte sb (by obtain ⟨a, c, q⟩ := rows_form3 rw0.row; exact ⟨_, _, _, q⟩)), ?_⟩
      · rw [hX3]
        exact (sb.setN (u := .int .i64 (s1 + 1)) 2 rfl).keep (drew_heap _ _)
      · exact ⟨hG.os.trans gr.os, hG.tape.trans gr.tape, hG.output.trans gr.output, Nat.le_trans gr.size hG.size, fun i hi hn => (hG.block i (Nat.lt_of_lt_of_le hi gr.size) hn).trans (gr.block i hi hn)⟩
    clear hX3 HP2 y4 f4
    obtain ⟨sb, rw1, vb1, ok1, gr1⟩ := HP3.out
    have HC2 := Lib.hid (add_any sb ⟨by decide, by decide⟩ rw1 (fun i hi => Nat.lt_of_lt_of_le (HH.out.lt i (HS.out i hi)) gr1.size) (Nat.le_trans HH.out.low gr1.size) ok1 HL.out (by have := HXx.out.2; omega))
    have HV1 := Lib.hid vb1
    have HGr := Lib.hid gr1
    obtain ⟨x0, x1, x2, x3, x4, x5, x6, x7, x8⟩ := vb1.all
    unfold EntD.cells at HC2
    clear sb rw1 vb1 ok1 gr1 z0 z1 z2
    go_region_held3 (fun Z => Z.cell? ⟨qb, 0, none⟩ = some e.vr ∧ Z.cell? ⟨qb, 1, none⟩ = some (.int .i64 e.fam) ∧ Z.cell? ⟨qb, 2, none⟩ = some e.vq ∧ Z.cell? ⟨qb, 3, none⟩ = some (.int .i64 e.ts) ∧ Z.cell? ⟨qb, 4, none⟩ = some (.int .i64 e.seq) ∧ Z.cell? ⟨qb, 5, none⟩ = some (.int .i64 e.kind) ∧ Z.cell? ⟨qb, 6, none⟩ = some e.vv) (first | exact ⟨v3.all.1, v3.all.2.1, v3.all.2.2.1, v3.all.2.2.2.1, v3.all.2.2.2.2.1, v3.all.2.2.2.2.2.1, v3.all.2.2.2.2.2.2.1⟩ | exact ⟨x0, x1, x2, x3, x4, x5, x6⟩)
      ((go_at_call 105; refine Calls.mono HC2.out ?_; rintro z2 X4 ⟨rfl, u, x, O2, sb2, rw2, dx, own2, lt2, os2, tp2, op2, sz2, bl2⟩; have v3 := HV1.out.keep (bl2 qb HV1.out.lt (Ne.symm hfq) (fun k => by have := HH.out.lt qb (HS.out _ k); have := HQ.out; omega))))
    have HF := Lib.hid (And.intro sb2 (And.intro rw2 (And.intro dx (And.intro own2 (And.intro lt2 (And.intro os2 (And.intro tp2 (And.intro op2 (And.intro sz2 bl2)))))))))
    clear sb2 rw2 dx own2 lt2 os2 tp2 op2 sz2 bl2 v3 x0 x1 x2 x3 x4 x5 x6 x7 x8
    go_end0
    obtain ⟨sb2, rw2, dx, own2, lt2, os2, tp2, op2, sz2, bl2⟩ := HF.out
    have gr := HGr.out
    obtain ⟨z0, z1⟩ := HS1.out.2
    have lf : fb < W.heap.size := HH.out.lt fb HH.out.of
    refine ⟨rfl, fun i => O2 i ∨ i = fb, ⟨⟨xs ++ [x], u, O2, by rw [HE2.out]; exact sb2, rw2, fun k => ?_, fun i hi => .inl hi, by rw [HE2.out, List.map_append, HXx.out.1, ← dx]; rfl⟩, ?_, .inr rfl, fun i hi => ?_, ?_⟩, ⟨os2.trans gr.os, tp2.trans gr.tape, op2.trans gr.output, Nat.le_trans gr.size sz2, fun i hi hn => ?_, fun i hi => ?_⟩⟩
    · rcases own2 fb k with k | k
      · exact HN.out k
      · have := gr.size; omega
    · rw [HE2.out, List.length_append]
      have := HXx.out.2.2
      exact ⟨by simp only []; omega, by simp only [List.length_cons, List.length_nil]; omega, by simp only [List.length_append, List.length_cons, List.length_nil]; omega⟩
    · rcases hi with hi | rfl
      · exact lt2 i hi
      · exact Nat.lt_of_lt_of_le lf (Nat.le_trans gr.size sz2)
    · exact Nat.le_trans HH.out.low (Nat.le_trans gr.size sz2)
    · have nf : i ≠ fb := fun z => hn (by rw [z]; exact HH.out.of)
      rw [bl2 i (Nat.lt_of_lt_of_le hi gr.size) nf (fun z => hn (HS.out i z))]
      exact gr.block i hi (fun z => by cases z; exact nf rfl)
    · rcases hi with hi | rfl
      · rcases own2 i hi with k | k
        · exact .inl (HS.out i k)
        · exact .inr (Nat.le_trans gr.size k)
      · exact .inl HH.out.of
theorem reader_teller (fb N : Nat) (cp : Option Addr) (tm n : Int) : Teller 71 fb (TR fb N cp tm n) where
  enters := enters_of Tryz.func71 (by kernel_rfl) rfl
  keep := fun {W W' O vs} h k sz => by
    obtain ⟨xs, ov, Or, hb, hr, hno, hsub, hx⟩ := h.st
    exact ⟨⟨xs, ov, Or, hb.keep (k fb h.of), hr.keep (fun i hi => k i (hsub i hi)), hno, hsub, hx⟩, h.ok, h.of, fun i hi => Nat.lt_of_lt_of_le (h.lt i hi) sz, Nat.le_trans h.low sz⟩
  lt := fun {W O vs i} h hi => h.lt _ hi
  say := fun {W O vs e} ft rk {n} h he hf hv => show_any3 ft rk h he hf hv
end Go.Proofs.YtganmnckdmkcbaaGreat
