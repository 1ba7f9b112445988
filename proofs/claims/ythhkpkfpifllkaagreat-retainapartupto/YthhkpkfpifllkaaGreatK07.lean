import Derived.Test.YthhkpkfpifllkaaGreatK06
namespace Go.Proofs.YthhkpkfpifllkaaGreat
open Go.RowKit
set_option linter.unusedVariables false

def showStep (tm n : Int) (s : Int × List En) (v : Vd) : Int × List En :=
  if v.fate = 5 ∧ v.e.kind = 1 ∧ v.e.ts ≤ tm ∧ (if v.rank = 1 then 0 else s.1) ≠ n then ((if v.rank = 1 then 0 else s.1) + 1, s.2 ++ [v.e]) else ((if v.rank = 1 then 0 else s.1), s.2)
def showS (tm n : Int) (vs : List Vd) : Int × List En := vs.foldl (showStep tm n) (0, [])
theorem showS_snoc (tm n : Int) (vs : List Vd) (v : Vd) : showS tm n (vs ++ [v]) = showStep tm n (showS tm n vs) v := by
  unfold showS
  rw [List.foldl_append]
  rfl
def rBc (tm n sh : Int) : List Value := [.int .i64 tm, .int .i64 n, .int .i64 sh]
theorem Rd.grown {W W' : World} {x : Value} {bs : List Nat} {q : Nat} (r : Rd W x bs) (hg : W.grownBy W' (some q)) (hn : ∀ i k, W.cell? ⟨q, i, none⟩ ≠ some (.int .u8 k)) : Rd W' x bs := by
  obtain ⟨h1, a, cap, rfl, h3, h4, h5, h6, h7⟩ := r
  refine ⟨h1, a, cap, rfl, h3, h4, h5, h6, ?_⟩
  rcases h7 with h7 | ⟨b, off, rfl, hc⟩
  · exact .inl h7
  · refine .inr ⟨b, off, rfl, fun i hi => hg.cell (hc i hi) (fun e => ?_)⟩
    cases e
    exact hn _ _ (hc i hi)
theorem EntD.grown {W W' : World} {e : EntD} {q : Nat} (r : EntD.Ok W e) (hg : W.grownBy W' (some q)) (hn : ∀ i k, W.cell? ⟨q, i, none⟩ ≠ some (.int .u8 k)) : EntD.Ok W' e := ⟨r.1.grown hg hn, r.2.1.grown hg hn, r.2.2.grown hg hn⟩
theorem reader_noByte {w : World} {b : Nat} {p : Option Addr} {v : Value} {tm n sh : Int} {ty : TypeId} (h : SBx w b (.pointer p) v (rBc tm n sh) ty) (hv : ∃ a m c, v = .slice a m c) (i : Nat) (k : Int) : w.cell? ⟨b, i, none⟩ ≠ some (.int .u8 k) := fun z => by
  obtain ⟨a, m, c, rfl⟩ := hv
  unfold SBx rBc at h
  simp only [World.cell?, h] at z
  by_cases hi : i < 5
  · have : i = 0 ∨ i = 1 ∨ i = 2 ∨ i = 3 ∨ i = 4 := by omega
    rcases this with rfl | rfl | rfl | rfl | rfl <;> simp at z
  · rw [Array.getElem?_eq_none (by simp; omega)] at z
    simp at z
structure TR (hd : List En) (fb N : Nat) (cp : Option Addr) (tm n : Int) (W : World) (O : Nat → Prop) (vs : List Vd) : Prop where
  st : ∃ xs ov Or, SBx W fb (.pointer cp) ov (rBc tm n (showS tm n vs).1) 103 ∧ Rw W N ov xs Or ∧ ¬ Or fb ∧ (∀ i, Or i → O i) ∧ hd ++ xs.map EntD.dat = (showS tm n vs).2
  ok : 0 ≤ (showS tm n vs).1 ∧ (showS tm n vs).1 ≤ vs.length ∧ (showS tm n vs).2.length ≤ vs.length
  of : O fb
  lt : ∀ i, O i → i < W.heap.size
  low : N ≤ W.heap.size

set_option maxRecDepth 100000 in
set_option maxHeartbeats 4000000 in
theorem show_any3 {W : World} {hd : List En} {fb N : Nat} {cp : Option Addr} {tm n : Int} {O : Nat → Prop} {vs : List Vd} {e : EntD} {nf : Nat} (ft rk : Int) (h : TR hd fb N cp tm n W O vs) (he : EntD.Ok W e) (hf : Fit nf e.dat) (hv : vs.length < 1353245080339) :
    Calls Tryz.prog 71 #[.pointer (some ⟨fb, 0, none⟩), vdV e ft rk] W fun r W' => r = .returned (.tuple #[]) ∧ ∃ O', TR hd fb N cp tm n W' O' (vs ++ [⟨e.dat, ft, rk⟩]) ∧ Tf W W' O O' := by
  have e1 := showS_snoc tm n vs ⟨e.dat, ft, rk⟩
  obtain ⟨xs, ov, Or, hb, hr, hno, hsub, hx⟩ := h.st
  obtain ⟨k0, k1, k2⟩ := h.ok
  obtain ⟨sh, hsh⟩ : ∃ sh, sh = (showS tm n vs).1 := ⟨_, rfl⟩
  obtain ⟨out, hout⟩ : ∃ out, out = (showS tm n vs).2 := ⟨_, rfl⟩
  rw [← hsh] at hb k0 k1
  rw [← hout] at hx k2
  have hso : showS tm n vs = (sh, out) := by rw [hsh, hout]
  rw [hso] at e1
  have hxl : xs.length ≤ vs.length := by
    have := congrArg List.length hx
    simp only [List.length_append, List.length_map] at this
    omega
  obtain ⟨s1, hs1⟩ : ∃ s1 : Int, s1 = if rk = 1 then 0 else sh := ⟨_, rfl⟩
  have hs1b : 0 ≤ s1 ∧ s1 ≤ vs.length := by rw [hs1]; split <;> omega
  have e2 : showS tm n (vs ++ [⟨e.dat, ft, rk⟩]) = if ft = 5 ∧ e.kind = 1 ∧ e.ts ≤ tm ∧ s1 ≠ n then (s1 + 1, out ++ [e.dat]) else (s1, out) := by
    rw [e1, hs1]
    rfl
  have A := (Below.refl W.heap.size W).alloc (Nat.le_refl _) (.cells #[e.vr, .int .i64 e.fam, e.vq, .int .i64 e.ts, .int .i64 e.seq, .int .i64 e.kind, e.vv, .int .i64 ft, .int .i64 rk] 152)
  have vb : VBx (W.alloc (.cells #[e.vr, .int .i64 e.fam, e.vq, .int .i64 e.ts, .int .i64 e.seq, .int .i64 e.kind, e.vv, .int .i64 ft, .int .i64 rk] 152)) W.heap.size e ft rk := heap_new W _
  obtain ⟨X, hX⟩ : ∃ X, X = W.alloc (.cells #[e.vr, .int .i64 e.fam, e.vq, .int .i64 e.ts, .int .i64 e.seq, .int .i64 e.kind, e.vv, .int .i64 ft, .int .i64 rk] 152) := ⟨_, rfl⟩
  rw [← hX] at A vb
  obtain ⟨qb, hqb⟩ : ∃ q, q = W.heap.size := ⟨_, rfl⟩
  have hqb' := hqb.symm
  rw [← hqb] at vb
  have hfq : fb ≠ qb := by rw [hqb]; have := hb.lt; omega
  have H0 : Hid (SBx X fb (.pointer cp) ov (rBc tm n sh) 103 ∧ Rw X N ov xs Or ∧ VBx X qb e ft rk ∧ EntD.Ok X e) := ⟨hb.later A, hr.keep (fun i hi => A.block i (h.lt i (hsub i hi))), vb, he.later A⟩
  have HA := Lib.hid A
  have HE := Lib.hid e2
  have HX := Lib.hid hX
  have HH := Lib.hid h
  have HL : Hid (e.row.length ≤ 256 ∧ e.qual.length ≤ 256 ∧ e.val.length ≤ 4096) := ⟨hf.row, hf.qual, hf.val⟩
  have HQ := Lib.hid hqb
  have HXx := Lib.hid (And.intro hx (And.intro hxl k2))
  have HN := Lib.hid hno
  have HS := Lib.hid hsub
  have HS1 := Lib.hid (And.intro hs1 hs1b)
  have HV := Lib.hid hv
  have xv := vb.all
  rw [hX] at xv
  obtain ⟨x0, x1, x2, x3, x4, x5, x6, x7, x8⟩ := xv
  unfold vdV
  clear hX A vb hb hr hx hxl h he hf hqb hno hsub hs1 hs1b e1 e2 hso hout hsh k0 k1 k2 hv
  go_enter Tryz.func71, Tryz.ntmps71
  go_upto_if 6 with fail
  rw [← HX.out]
  (try rw [hqb'])
  clear hqb' HX x0 x1 x2 x3 x4 x5 x6 x7 x8
  go_cut [7] (fun _ wx => Hid (SBx wx fb (.pointer cp) ov (rBc tm n s1) 103 ∧ Rw wx N ov xs Or ∧ VBx wx qb e ft rk ∧ EntD.Ok wx e ∧ W.grownBy wx (some fb)))
  case first =>
    obtain ⟨sb, rw0, vb, ok⟩ := H0.out
    have y4 := sb.at 2
    have f4 := sb.fz 4
    simp only [rBc, Nat.reduceAdd, List.getElem?_cons_zero, List.getElem?_cons_succ] at y4
    have HSb := Lib.hid sb
    have HRw := Lib.hid rw0
    have HVb := Lib.hid vb
    have HOk := Lib.hid ok
    clear sb rw0 vb ok
    by_cases h1 : rk = 1
    · have b1 : (rk == 1) = true := by simp [h1]
      have H1 := Lib.hid h1
      clear h1
      go_wp2_with fail
      go_meet
      have hG := grown1 X fb 4 (.int .i64 0)
      have q1 : s1 = 0 := by rw [HS1.out.1, if_pos H1.out]
      have A := HA.out
      refine ⟨by rw [q1]; exact HSb.out.setN 2 rfl, HRw.out.keep (fun i hi => hG.block i (Nat.lt_of_lt_of_le (HH.out.lt i (HS.out i hi)) A.size) (fun z => by cases z; exact HN.out hi)), HVb.out.keep (hG.block qb HVb.out.lt (fun z => by cases z; exact hfq rfl)), EntD.grown HOk.out hG (reader_noByte HSb.out (by obtain ⟨a, c, q⟩ := rows_form3 HRw.out.row; exact ⟨_, _, _, q⟩)), ?_⟩
      exact ⟨A.os, A.tape, A.output, Nat.le_trans A.size hG.size, fun i hi hn => (hG.block i (Nat.lt_of_lt_of_le hi A.size) hn).trans (A.block i hi)⟩
    · have b1 : (rk == 1) = false := by simp [h1]
      have H1 := Lib.hid h1
      clear h1
      go_wp2_with fail
      go_meet
      have q1 : s1 = sh := by rw [HS1.out.1, if_neg H1.out]
      have A := HA.out
      exact ⟨by rw [q1]; exact HSb.out, HRw.out, HVb.out, HOk.out, A.os, A.tape, A.output, A.size, fun i hi hn => A.block i hi⟩
  case rest =>
  have HP := hcut
  clear hcut H0 HA
  obtain ⟨X1, hX1⟩ : ∃ X1, X1 = wc := ⟨_, rfl⟩
  subst hX1
  obtain ⟨cB, hcB⟩ : ∃ cB : Bool, cB = !decide (ft = 5 ∧ e.kind = 1 ∧ e.ts ≤ tm ∧ s1 ≠ n) := ⟨_, rfl⟩
  have HcB := Lib.hid hcB
  clear hcB
  go_upto_region 3 with fail
  go_cut [39] (fun c wx => c = .bool cB ∧ Hid (Below X1.heap.size X1 wx))
  case first =>
    obtain ⟨sb, rw0, vb, ok, gr⟩ := HP.out
    have y2 := sb.at 0
    have y3 := sb.at 1
    have y4 := sb.at 2
    simp only [rBc, Nat.zero_add, Nat.reduceAdd, List.getElem?_cons_zero, List.getElem?_cons_succ] at y2 y3 y4
    obtain ⟨-, -, -, x3, -, x5, -, x7, -⟩ := vb.all
    clear sb rw0 vb ok gr
    by_cases h1 : ft = 5
    · have b1 : (ft != 5) = false := by simp [h1]
      have H1 := Lib.hid h1
      clear h1
      by_cases h2 : e.kind = 1
      · have b2 : (e.kind != 1) = false := by simp [h2]
        have H2 := Lib.hid h2
        clear h2
        by_cases h3 : e.ts ≤ tm
        · have H3 := Lib.hid h3
          have h3d : decide (tm < e.ts) = false := by simpa using h3
          by_cases h4 : s1 = n
          · have b4 : (s1 == n) = true := by simp [h4]
            have H4 := Lib.hid h4
            clear h4
            go_quiet (fail)
            go_wp2_with fail
            go_meet
            exact ⟨by rw [HcB.out, decide_eq_false (fun z => z.2.2.2 H4.out)]; rfl, below_rfl rfl rfl rfl rfl⟩
          · have b4 : (s1 == n) = false := by simp [h4]
            have H4 := Lib.hid h4
            clear h4
            go_quiet (fail)
            go_wp2_with fail
            go_meet
            exact ⟨by rw [HcB.out, decide_eq_true ⟨H1.out, H2.out, H3.out, H4.out⟩]; rfl, below_rfl rfl rfl rfl rfl⟩
        · have H3 : Hid (tm < e.ts) := Int.not_le.1 h3
          have h3' : tm < e.ts := Int.not_le.1 h3
          clear h3
          go_quiet (fail)
          go_wp2_with fail
          go_meet
          exact ⟨by rw [HcB.out, decide_eq_false (fun z => by have := z.2.2.1; have := H3.out; omega)]; rfl, below_rfl rfl rfl rfl rfl⟩
      · have b2 : (e.kind != 1) = true := by simp [h2]
        have H2 := Lib.hid h2
        clear h2
        go_quiet (fail)
        go_wp2_with fail
        go_meet
        exact ⟨by rw [HcB.out, decide_eq_false (fun z => H2.out z.2.1)]; rfl, below_rfl rfl rfl rfl rfl⟩
    · have b1 : (ft != 5) = true := by simp [h1]
      have H1 := Lib.hid h1
      clear h1
      go_quiet (fail)
      go_wp2_with fail
      go_meet
      exact ⟨by rw [HcB.out, decide_eq_false (fun z => H1.out z.1)]; rfl, below_rfl rfl rfl rfl rfl⟩
  case rest =>
  obtain ⟨rfl, HD⟩ := hcut
  obtain ⟨X2, hX2⟩ : ∃ X2, X2 = wc := ⟨_, rfl⟩
  subst hX2
  have HP2 : Hid (SBx X2 fb (.pointer cp) ov (rBc tm n s1) 103 ∧ Rw X2 N ov xs Or ∧ VBx X2 qb e ft rk ∧ EntD.Ok X2 e ∧ W.grownBy X2 (some fb)) := by
    obtain ⟨sb, rw0, vb, ok, gr⟩ := HP.out
    have b := HD.out
    exact ⟨sb.later b, rw0.keep (fun i hi => b.block i (Nat.lt_of_lt_of_le (HH.out.lt i (HS.out i hi)) gr.size)), vb.keep (b.block _ vb.lt), ok.later b, b.os.trans gr.os, b.tape.trans gr.tape, b.output.trans gr.output, Nat.le_trans gr.size b.size, fun i hi hn => (b.block i (Nat.lt_of_lt_of_le hi gr.size)).trans (gr.block i hi hn)⟩
  clear HP HD
  cases cB with
  | true =>
    have hno : ¬ (ft = 5 ∧ e.kind = 1 ∧ e.ts ≤ tm ∧ s1 ≠ n) := fun z => by have := HcB.out; rw [decide_eq_true z] at this; cases this
    have e2 := HE.out
    rw [if_neg hno] at e2
    have HE2 := Lib.hid e2
    clear e2 hno HcB
    go_wp2
    refine bodyPost_ret (results_none rfl _ _ _) rfl ?_
    obtain ⟨sb, rw0, vb, ok, gr⟩ := HP2.out
    obtain ⟨z0, z1⟩ := HS1.out.2
    have lf : fb < W.heap.size := HH.out.lt fb HH.out.of
    refine ⟨rfl, O, ⟨⟨xs, ov, Or, by rw [HE2.out]; exact sb, rw0, HN.out, HS.out, by rw [HE2.out]; exact HXx.out.1⟩, ?_, HH.out.of, fun i hi => Nat.lt_of_lt_of_le (HH.out.lt i hi) gr.size, Nat.le_trans HH.out.low gr.size⟩, gr.os, gr.tape, gr.output, gr.size, fun i hi hn => gr.block i hi (fun z => by cases z; exact hn HH.out.of), fun i hi => .inl hi⟩
    rw [HE2.out, List.length_append]
    have := HXx.out.2.2
    exact ⟨z0, by simp only [List.length_cons, List.length_nil]; omega, by simp only [List.length_cons, List.length_nil]; omega⟩
  | false =>
    have hyes : ft = 5 ∧ e.kind = 1 ∧ e.ts ≤ tm ∧ s1 ≠ n := by have := HcB.out; simpa using this
    have e2 := HE.out
    rw [if_pos hyes] at e2
    have HE2 := Lib.hid e2
    clear e2 hyes HcB
    obtain ⟨sb, rw0, vb, ok, gr⟩ := HP2.out
    have y4 := sb.at 2
    have f4 := sb.fz 4
    simp only [rBc, Nat.reduceAdd, List.getElem?_cons_zero, List.getElem?_cons_succ] at y4
    obtain ⟨z0, z1⟩ := HS1.out.2
    have z2 := HV.out
    clear sb rw0 vb ok gr
    go_upto_region 5 with fail
    obtain ⟨X3, hX3⟩ : ∃ X3, X3 = X2.setCell ⟨fb, 4, none⟩ (.int .i64 (s1 + 1)) := ⟨_, rfl⟩
    rw [← hX3]
    have HP3 : Hid (SBx X3.drew fb (.pointer cp) ov (rBc tm n (s1 + 1)) 103 ∧ Rw X3.drew N ov xs Or ∧ VBx X3.drew qb e ft rk ∧ EntD.Ok X3.drew e ∧ W.grownBy X3.drew (some fb)) := by
      obtain ⟨sb, rw0, vb, ok, gr⟩ := HP2.out
      have hG : X2.grownBy X3.drew (some fb) := by rw [hX3]; exact (grown1 _ _ _ _).drew
      refine ⟨?_, rw0.keep (fun i hi => hG.block i (Nat.lt_of_lt_of_le (HH.out.lt i (HS.out i hi)) gr.size) (fun z => by cases z; exact HN.out hi)), vb.keep (hG.block qb vb.lt (fun z => by cases z; exact hfq rfl)), EntD.grown ok hG (reader_noByte sb (by obtain ⟨a, c, q⟩ := rows_form3 rw0.row; exact ⟨_, _, _, q⟩)), ?_⟩
      · rw [hX3]
        exact (sb.setN (u := .int .i64 (s1 + 1)) 2 rfl).keep (drew_heap _ _)
      · exact ⟨hG.os.trans gr.os, hG.tape.trans gr.tape, hG.output.trans gr.output, Nat.le_trans gr.size hG.size, fun i hi hn => (hG.block i (Nat.lt_of_lt_of_le hi gr.size) hn).trans (gr.block i hi hn)⟩
    clear hX3 HP2 y4 f4
    obtain ⟨sb, rw1, vb1, ok1, gr1⟩ := HP3.out
    have HC2 := Lib.hid (add_any sb ⟨by decide, by decide⟩ rw1 (fun i hi => Nat.lt_of_lt_of_le (HH.out.lt i (HS.out i hi)) gr1.size) (Nat.le_trans HH.out.low gr1.size) ok1 HL.out (by have := HXx.out.2; omega))
    have HV1 := Lib.hid vb1
    have HGr := Lib.hid gr1
    obtain ⟨x0, x1, x2, x3, x4, x5, x6, x7, x8⟩ := vb1.all
    unfold EntD.cells at HC2
    clear sb rw1 vb1 ok1 gr1 z0 z1 z2
    go_region_held3 (fun Z => Z.cell? ⟨qb, 0, none⟩ = some e.vr ∧ Z.cell? ⟨qb, 1, none⟩ = some (.int .i64 e.fam) ∧ Z.cell? ⟨qb, 2, none⟩ = some e.vq ∧ Z.cell? ⟨qb, 3, none⟩ = some (.int .i64 e.ts) ∧ Z.cell? ⟨qb, 4, none⟩ = some (.int .i64 e.seq) ∧ Z.cell? ⟨qb, 5, none⟩ = some (.int .i64 e.kind) ∧ Z.cell? ⟨qb, 6, none⟩ = some e.vv) (first | exact ⟨v3.all.1, v3.all.2.1, v3.all.2.2.1, v3.all.2.2.2.1, v3.all.2.2.2.2.1, v3.all.2.2.2.2.2.1, v3.all.2.2.2.2.2.2.1⟩ | exact ⟨x0, x1, x2, x3, x4, x5, x6⟩)
      ((go_at_call 105; refine Calls.mono HC2.out ?_; rintro z2 X4 ⟨rfl, u, x, O2, sb2, rw2, dx, own2, lt2, os2, tp2, op2, sz2, bl2⟩; have v3 := HV1.out.keep (bl2 qb HV1.out.lt (Ne.symm hfq) (fun k => by have := HH.out.lt qb (HS.out _ k); have := HQ.out; omega))))
    have HF := Lib.hid (And.intro sb2 (And.intro rw2 (And.intro dx (And.intro own2 (And.intro lt2 (And.intro os2 (And.intro tp2 (And.intro op2 (And.intro sz2 bl2)))))))))
    clear sb2 rw2 dx own2 lt2 os2 tp2 op2 sz2 bl2 v3 x0 x1 x2 x3 x4 x5 x6 x7 x8
    go_end0
    obtain ⟨sb2, rw2, dx, own2, lt2, os2, tp2, op2, sz2, bl2⟩ := HF.out
    have gr := HGr.out
    obtain ⟨z0, z1⟩ := HS1.out.2
    have lf : fb < W.heap.size := HH.out.lt fb HH.out.of
    refine ⟨rfl, fun i => O2 i ∨ i = fb, ⟨⟨xs ++ [x], u, O2, by rw [HE2.out]; exact sb2, rw2, fun k => ?_, fun i hi => .inl hi, by rw [HE2.out, List.map_append, ← List.append_assoc, HXx.out.1, ← dx]; rfl⟩, ?_, .inr rfl, fun i hi => ?_, ?_⟩, ⟨os2.trans gr.os, tp2.trans gr.tape, op2.trans gr.output, Nat.le_trans gr.size sz2, fun i hi hn => ?_, fun i hi => ?_⟩⟩
    · rcases own2 fb k with k | k
      · exact HN.out k
      · have := gr.size; omega
    · rw [HE2.out, List.length_append]
      have := HXx.out.2.2
      exact ⟨by simp only []; omega, by simp only [List.length_cons, List.length_nil]; omega, by simp only [List.length_append, List.length_cons, List.length_nil]; omega⟩
    · rcases hi with hi | rfl
      · exact lt2 i hi
      · exact Nat.lt_of_lt_of_le lf (Nat.le_trans gr.size sz2)
    · exact Nat.le_trans HH.out.low (Nat.le_trans gr.size sz2)
    · have nf : i ≠ fb := fun z => hn (by rw [z]; exact HH.out.of)
      rw [bl2 i (Nat.lt_of_lt_of_le hi gr.size) nf (fun z => hn (HS.out i z))]
      exact gr.block i hi (fun z => by cases z; exact nf rfl)
    · rcases hi with hi | rfl
      · rcases own2 i hi with k | k
        · exact .inl (HS.out i k)
        · exact .inr (Nat.le_trans gr.size k)
      · exact .inl HH.out.of
theorem reader_teller (hd : List En) (fb N : Nat) (cp : Option Addr) (tm n : Int) : Teller 71 fb (TR hd fb N cp tm n) where
  enters := enters_of Tryz.func71 (by kernel_rfl) rfl
  keep := fun {W W' O vs} h k sz => by
    obtain ⟨xs, ov, Or, hb, hr, hno, hsub, hx⟩ := h.st
    exact ⟨⟨xs, ov, Or, hb.keep (k fb h.of), hr.keep (fun i hi => k i (hsub i hi)), hno, hsub, hx⟩, h.ok, h.of, fun i hi => Nat.lt_of_lt_of_le (h.lt i hi) sz, Nat.le_trans h.low sz⟩
  lt := fun {W O vs i} h hi => h.lt _ hi
  say := fun {W O vs e} ft rk {n} h he hf hv => show_any3 ft rk h he hf hv
end Go.Proofs.YthhkpkfpifllkaaGreat

namespace Go.Proofs.YthhkpkfpifllkaaGreat
open Go.RowKit
set_option linter.unusedVariables false

def FamOk (f : FamD) : Prop := NameOk f.nm ∧ (1 ≤ f.mx ∧ f.mx ≤ 16) ∧ 0 ≤ f.tl ∧ f.tl ≤ 1099511627776
open Classical in
theorem name_y {s : ByteArray} (h : NameOk s) (w : World) : Calls Tryz.prog 148 #[.string s] w fun e w' => e = .returned (.bool true) ∧ w' = w := by
  have k := famName_any s w; rw [decide_eq_true h] at k; exact k
open Classical in
theorem name_n {s : ByteArray} (h : ¬ NameOk s) (w : World) : Calls Tryz.prog 148 #[.string s] w fun e w' => e = .returned (.bool false) ∧ w' = w := by
  have k := famName_any s w; rw [decide_eq_false h] at k; exact k
set_option maxRecDepth 100000 in
set_option maxHeartbeats 2000000 in
theorem isFamily_is (f : FamD) (w : World) (R : Bool) (hR : R = true ↔ FamOk f) : Calls Tryz.prog 118 #[.agg #[.string f.nm, .int .i64 f.mx, .int .i64 f.tl]] w fun e w' => e = .returned (.bool R) ∧ Below w.heap.size w w' := by
  have A1 := (Below.refl w.heap.size w).alloc (Nat.le_refl _) (.cells #[.string f.nm, .int .i64 f.mx, .int .i64 f.tl] 132)
  have no : ¬ FamOk f → R = false := fun h => by
    cases hr : R with
    | false => rfl
    | true => exact absurd (hR.1 hr) h
  obtain ⟨nm, mx, tl⟩ := f
  simp only at *
  by_cases hn : NameOk nm
  · have HNM : Hid (NameOk nm) := hn
    clear hn
    by_cases c0 : 1 ≤ mx
    · have d0 : decide ((1 : Int) ≤ mx) = true := decide_eq_true c0
      by_cases c1 : mx ≤ 16
      · have d1 : decide (mx ≤ 16) = true := decide_eq_true c1
        by_cases c2 : 0 ≤ tl
        · have d2 : decide ((0 : Int) ≤ tl) = true := decide_eq_true c2
          by_cases c3 : tl ≤ 1099511627776
          · have d3 : decide (tl ≤ 1099511627776) = true := decide_eq_true c3
            have hRt : R = true := hR.2 ⟨HNM.out, ⟨c0, c1⟩, c2, c3⟩
            subst hRt
            clear no hR
            go_enter Tryz.func118, Tryz.ntmps118
            go_wp2_with fail
            refine (name_y HNM.out _).mono ?_
            rintro e w1 ⟨rfl, rfl⟩
            go_wp2
            go_ret
            exact ⟨rfl, A1⟩
          · have d3 : decide (tl ≤ 1099511627776) = false := decide_eq_false c3
            have hRf := no (fun h => c3 (by have := h.2.1.1; have := h.2.1.2; have := h.2.2.1; have := h.2.2.2; omega))
            subst hRf
            clear no hR
            go_enter Tryz.func118, Tryz.ntmps118
            go_wp2_with fail
            refine (name_y HNM.out _).mono ?_
            rintro e w1 ⟨rfl, rfl⟩
            go_wp2
            go_ret
            exact ⟨rfl, A1⟩
        · have d2 : decide ((0 : Int) ≤ tl) = false := decide_eq_false c2
          have hRf := no (fun h => c2 (by have := h.2.1.1; have := h.2.1.2; have := h.2.2.1; have := h.2.2.2; omega))
          subst hRf
          clear no hR
          go_enter Tryz.func118, Tryz.ntmps118
          go_wp2_with fail
          refine (name_y HNM.out _).mono ?_
          rintro e w1 ⟨rfl, rfl⟩
          go_wp2
          go_ret
          exact ⟨rfl, A1⟩
      · have d1 : decide (mx ≤ 16) = false := decide_eq_false c1
        have hRf := no (fun h => c1 (by have := h.2.1.1; have := h.2.1.2; have := h.2.2.1; have := h.2.2.2; omega))
        subst hRf
        clear no hR
        go_enter Tryz.func118, Tryz.ntmps118
        go_wp2_with fail
        refine (name_y HNM.out _).mono ?_
        rintro e w1 ⟨rfl, rfl⟩
        go_wp2
        go_ret
        exact ⟨rfl, A1⟩
    · have d0 : decide ((1 : Int) ≤ mx) = false := decide_eq_false c0
      have hRf := no (fun h => c0 (by have := h.2.1.1; have := h.2.1.2; have := h.2.2.1; have := h.2.2.2; omega))
      subst hRf
      clear no hR
      go_enter Tryz.func118, Tryz.ntmps118
      go_wp2_with fail
      refine (name_y HNM.out _).mono ?_
      rintro e w1 ⟨rfl, rfl⟩
      go_wp2
      go_ret
      exact ⟨rfl, A1⟩
  · have HNM : Hid (¬ NameOk nm) := hn
    have hRf := no (fun h => hn h.1)
    subst hRf
    clear no hR hn
    go_enter Tryz.func118, Tryz.ntmps118
    go_wp2_with fail
    refine (name_n HNM.out _).mono ?_
    rintro e w1 ⟨rfl, rfl⟩
    go_wp2
    go_ret
    exact ⟨rfl, A1⟩

open Classical in
theorem isFamily_y {f : FamD} (h : FamOk f) (w : World) : Calls Tryz.prog 118 #[.agg #[.string f.nm, .int .i64 f.mx, .int .i64 f.tl]] w fun e w' => e = .returned (.bool true) ∧ Below w.heap.size w w' := isFamily_is f w true ⟨fun _ => h, fun _ => rfl⟩
theorem isFamily_n {f : FamD} (h : ¬ FamOk f) (w : World) : Calls Tryz.prog 118 #[.agg #[.string f.nm, .int .i64 f.mx, .int .i64 f.tl]] w fun e w' => e = .returned (.bool false) ∧ Below w.heap.size w w' := isFamily_is f w false ⟨fun k => (by cases k), fun k => absurd k h⟩

def SchemaOk (fs : List FamD) : Prop := (1 ≤ fs.length ∧ fs.length ≤ 8) ∧ ∀ (i : Nat) f, fs[i]? = some f → FamOk f ∧ famIx fs f.nm 0 = (i : Int)
set_option maxRecDepth 100000 in
set_option maxHeartbeats 8000000 in
theorem checkSchema_is {v : Value} {fs : List FamD} {w : World} (hr : RdF w v fs) (C : Nat) (hC : (C = 0 ↔ SchemaOk fs) ∧ (C = 0 ∨ C = 28)) :
    Calls Tryz.prog 92 #[.agg #[v]] w fun e w' => e = .returned (.int .i64 (C : Int)) ∧ Below w.heap.size w w' := by
  have HRF : Hid (RdF w v fs) := hr
  obtain ⟨a, cap, rfl, h2, h3, h4, h5⟩ := hr
  obtain ⟨k, hk⟩ : ∃ k, k = fs.length := ⟨_, rfl⟩
  rw [← hk] at h2 h4 HRF ⊢
  have HK : Hid (k = fs.length) := hk
  have HC : Hid (fs = [] ∨ ∃ b off, a = some ⟨b, off, none⟩ ∧ ∀ i f, fs[i]? = some f → w.cell? ⟨b, off + i * 3, none⟩ = some (.string f.nm) ∧ w.cell? ⟨b, off + i * 3 + 1, none⟩ = some (.int .i64 f.mx) ∧ w.cell? ⟨b, off + i * 3 + 2, none⟩ = some (.int .i64 f.tl)) := h5
  have A1 := (Below.refl w.heap.size w).alloc (Nat.le_refl _) (.cells #[.slice a k cap] 27)
  have bad : ¬ SchemaOk fs → C = 28 := fun h => by
    rcases hC.2 with e | e
    · exact absurd (hC.1.1 e) h
    · exact e
  have HBAD := Lib.hid bad
  have HGOOD : Hid (SchemaOk fs → C = 0) := hC.1.2
  clear hk h5 hC bad
  by_cases hlen : 1 ≤ k ∧ k ≤ 8
  · have l1 : (1 : Int) ≤ (k : Int) := by omega
    have l2 : (k : Int) ≤ 8 := by omega
    have dl1 : decide ((k : Int) < 1) = false := decide_eq_false (by omega)
    have dl2 : decide ((8 : Int) < (k : Int)) = false := decide_eq_false (by omega)
    go_enter Tryz.func92, Tryz.ntmps92
    go_wp2
    go_loopw [3, 4, 18] (fun _ _ i wr => ∃ t : Nat, t ≤ k ∧ i = .int .i64 (t : Int) ∧ (Below w.heap.size w wr ∧ wr.cell? ⟨w.heap.size, 0, none⟩ = some (.slice a k cap)) ∧ ∀ (j : Nat) g, j < t → fs[j]? = some g → FamOk g ∧ famIx fs g.nm 0 = (j : Int)) (fun _ _ i _ => k - (intOf i).toNat)
    case atStart => exact ⟨0, by omega, rfl, ⟨A1, by simp⟩, fun j g hj _ => absurd hj (by omega)⟩
    case round =>
      obtain ⟨t, ht, rfl, ⟨B1, hbx⟩, hj⟩ := hrel
      have HJ : Hid (∀ (j : Nat) g, j < t → fs[j]? = some g → FamOk g ∧ famIx fs g.nm 0 = (j : Int)) := hj
      clear hj A1
      by_cases hlt : t < k
      · have j1 : (t : Int) < (k : Int) := by omega
        have j2 : (0 : Int) ≤ (t : Int) := by omega
        rcases HC.out with h0 | ⟨b, off, rfl, hc⟩
        · have := HK.out; rw [h0] at this; simp at this; omega
        obtain ⟨f, hf⟩ : ∃ f, fs[t]? = some f := ⟨fs[t]'(by rw [← HK.out]; exact hlt), List.getElem?_eq_getElem _⟩
        obtain ⟨c0, c1, c2⟩ := hc t f hf
        have d0 : wr.cell? ⟨b, off + t * 3, none⟩ = some (.string f.nm) := by rw [B1.cell (p := ⟨b, off + t * 3, none⟩) (World.block_lt_of_cell? w _ c0)]; exact c0
        have d1 : wr.cell? ⟨b, off + t * 3 + 1, none⟩ = some (.int .i64 f.mx) := by rw [B1.cell (p := ⟨b, off + t * 3 + 1, none⟩) (World.block_lt_of_cell? w _ c1)]; exact c1
        have d2 : wr.cell? ⟨b, off + t * 3 + 2, none⟩ = some (.int .i64 f.tl) := by rw [B1.cell (p := ⟨b, off + t * 3 + 2, none⟩) (World.block_lt_of_cell? w _ c2)]; exact c2
        have HF : Hid (fs[t]? = some f) := hf
        have HNO : Hid (¬ (FamOk f ∧ famIx fs f.nm 0 = (t : Int)) → C = 28) := fun h => HBAD.out (fun k => h (k.2 t f HF.out))
        have HST : Hid ((FamOk f ∧ famIx fs f.nm 0 = (t : Int)) → ∀ (j : Nat) g, j < t + 1 → fs[j]? = some g → FamOk g ∧ famIx fs g.nm 0 = (j : Int)) := fun h j g hj hg => by
          by_cases e : j = t
          · subst e
            rw [HF.out] at hg
            simp at hg
            rw [← hg]; exact h
          · exact HJ.out j g (by omega) hg
        have A2 := (Below.refl wr.heap.size wr).alloc (Nat.le_refl _) (.cells #[.string f.nm, .int .i64 f.mx, .int .i64 f.tl] 132)
        have B2 := B1.trans (A2.mono B1.size)
        have x0 : (wr.alloc (.cells #[.string f.nm, .int .i64 f.mx, .int .i64 f.tl] 132)).cell? ⟨w.heap.size, 0, none⟩ = some (.slice (some ⟨b, off, none⟩) k cap) := by rw [A2.cell (p := ⟨w.heap.size, 0, none⟩) (World.block_lt_of_cell? wr _ hbx)]; exact hbx
        have fx := heap_new wr (.cells #[.string f.nm, .int .i64 f.mx, .int .i64 f.tl] 132)
        have HFX : Hid ((wr.alloc (.cells #[.string f.nm, .int .i64 f.mx, .int .i64 f.tl] 132)).heap[wr.heap.size]? = some (.cells #[.string f.nm, .int .i64 f.mx, .int .i64 f.tl] 132) ∧ Below w.heap.size w (wr.alloc (.cells #[.string f.nm, .int .i64 f.mx, .int .i64 f.tl] 132)) ∧ (wr.alloc (.cells #[.string f.nm, .int .i64 f.mx, .int .i64 f.tl] 132)).cell? ⟨w.heap.size, 0, none⟩ = some (.slice (some ⟨b, off, none⟩) k cap)) := ⟨fx, B2, x0⟩
        clear hc c0 c1 c2 hf fx A2 B2 x0
        by_cases hfo : FamOk f
        · have HFO : Hid (FamOk f) := hfo
          clear hfo
          go_wp2_with fail
          refine (isFamily_y HFO.out _).mono ?_
          rintro e w2 ⟨rfl, hb2⟩
          have B2 := HFX.out.2.1.trans (hb2.mono HFX.out.2.1.size)
          have y0 : w2.cell? ⟨w.heap.size, 0, none⟩ = some (.slice (some ⟨b, off, none⟩) k cap) := by rw [hb2.cell (p := ⟨w.heap.size, 0, none⟩) (World.block_lt_of_cell? _ _ HFX.out.2.2)]; exact HFX.out.2.2
          have yh : w2.heap[wr.heap.size]? = some (.cells #[.string f.nm, .int .i64 f.mx, .int .i64 f.tl] 132) := by rw [hb2.block wr.heap.size (Array.getElem?_eq_some_iff.1 HFX.out.1).1]; exact HFX.out.1
          have y1 : w2.cell? ⟨wr.heap.size, 0, none⟩ = some (.string f.nm) := by simp [World.cell?, yh]
          clear hb2 yh
          go_wp2_with fail
          refine (family_any (HRF.out.later B2) f.nm).mono ?_
          rintro e w3 ⟨rfl, hb3⟩
          have B3 := B2.trans (hb3.mono B2.size)
          have y3 : w3.cell? ⟨w.heap.size, 0, none⟩ = some (.slice (some ⟨b, off, none⟩) k cap) := by rw [hb3.cell (p := ⟨w.heap.size, 0, none⟩) (World.block_lt_of_cell? _ _ y0)]; exact y0
          obtain ⟨ix, hix⟩ : ∃ ix, ix = famIx fs f.nm 0 := ⟨_, rfl⟩
          rw [← hix]
          by_cases hi : ix = (t : Int)
          · have HIX : Hid (famIx fs f.nm 0 = (t : Int)) := by unfold Hid; rw [← hix]; exact hi
            clear hix
            subst hi
            go_wp2
            go_roundw
            case rel => exact ⟨t + 1, by omega, by go_num, ⟨B3, y3⟩, HST.out ⟨HFO.out, HIX.out⟩⟩
            case measure => simp [intOf]; omega
          · have HIX : Hid (¬ (famIx fs f.nm 0 = (t : Int))) := by unfold Hid; rw [← hix]; exact hi
            clear hix
            have h28 := HNO.out (fun h => HIX.out h.2)
            subst h28
            go_wp2
            go_ret
            exact ⟨rfl, B3⟩
        · have HFO : Hid (¬ FamOk f) := hfo
          clear hfo
          go_wp2_with fail
          refine (isFamily_n HFO.out _).mono ?_
          rintro e w2 ⟨rfl, hb2⟩
          have B2 := HFX.out.2.1.trans (hb2.mono HFX.out.2.1.size)
          have h28 := HNO.out (fun h => HFO.out h.1)
          subst h28
          go_wp2
          go_ret
          exact ⟨rfl, B2⟩
      · have j1 : (k : Int) ≤ (t : Int) := by omega
        have h0 := HGOOD.out ⟨by rw [← HK.out]; exact hlen, fun i f hf => HJ.out i f (by have := (List.getElem?_eq_some_iff.1 hf).1; have := HK.out; omega) hf⟩
        subst h0
        go_wp2
        go_ret
        exact ⟨rfl, B1⟩
  · have h28 := HBAD.out (fun h => hlen (by rw [HK.out]; exact h.1))
    subst h28
    by_cases h1 : k < 1
    · have dl1 : decide ((k : Int) < 1) = true := decide_eq_true (by omega)
      have l1 : (k : Int) < 1 := by omega
      clear hlen
      go_enter Tryz.func92, Tryz.ntmps92
      go_wp2
      go_ret
      exact ⟨rfl, A1⟩
    · have dl1 : decide ((k : Int) < 1) = false := decide_eq_false (by omega)
      have dl2 : decide ((8 : Int) < (k : Int)) = true := decide_eq_true (by omega)
      have l1 : (1 : Int) ≤ (k : Int) := by omega
      have l2 : (8 : Int) < (k : Int) := by omega
      clear hlen
      go_enter Tryz.func92, Tryz.ntmps92
      go_wp2
      go_ret
      exact ⟨rfl, A1⟩

end Go.Proofs.YthhkpkfpifllkaaGreat

namespace Go.Proofs.YthhkpkfpifllkaaGreat
open Go.RowKit
set_option linter.unusedVariables false

set_option maxRecDepth 100000 in
set_option maxHeartbeats 4000000 in
theorem handOut_any {W : World} {fb m c : Nat} {c0 : Value} {a : Option Addr} {cs : List Value} {ty : TypeId} (hb : SBx W fb c0 (.slice a m c) cs ty) :
    Calls Tryz.prog 89 #[.pointer (some ⟨fb, 0, none⟩)] W fun r W' => r = .returned (.slice a m c) ∧ SBx W' fb c0 (.slice none 0 0) cs ty ∧ W.grownBy W' (some fb) := by
  have HB := Lib.hid hb
  have y1 := hb.c1
  have f1 := hb.fz 1
  clear hb
  go_enter Tryz.func89, Tryz.ntmps89
  go_wp2
  go_ret
  exact ⟨rfl, HB.out.set1 _, grown1 _ _ _ _⟩

def RdI (w : World) (v : Value) (ts : List Int) : Prop := ∃ b off cap, v = .slice (some ⟨b, off, none⟩) ts.length cap ∧ ts.length ≤ 4 ∧ ∀ i t, ts[i]? = some t → w.cell? ⟨b, off + i, none⟩ = some (.int .i64 t)
def badT (t : Int) : Bool := decide (t < 0) || decide (1099511627776 < t)
def boundsS (C : Nat) (ts : List Int) : Int := if C ≠ 0 then (C : Int) else if ts.any badT then 32 else 0

set_option maxRecDepth 100000 in
set_option maxHeartbeats 4000000 in
theorem checkBounds_any {W : World} {v tv : Value} {fs : List FamD} {ts : List Int} (hr : RdF W v fs) (C : Nat) (hC : (C = 0 ↔ SchemaOk fs) ∧ (C = 0 ∨ C = 28)) (ht : RdI W tv ts) :
    Calls Tryz.prog 57 #[.agg #[v], tv] W fun r W' => r = .returned (.int .i64 (boundsS C ts)) ∧ Below W.heap.size W W' := by
  obtain ⟨b, off, cap, rfl, hl, hc⟩ := ht
  have A1 := (Below.refl W.heap.size W).alloc (Nat.le_refl _) (.cells #[v] 27)
  have HC := Lib.hid (checkSchema_is (hr.later A1) C hC)
  obtain ⟨av, cv, rfl, -⟩ := hr
  obtain ⟨k, hk⟩ : ∃ k, k = ts.length := ⟨_, rfl⟩
  have HK := Lib.hid hk
  have HA1 := Lib.hid A1
  rw [← hk] at hl ⊢
  have HCC : Hid (C = 0 ∨ C = 28) := hC.2
  have HT : Hid (∀ Z, Below W.heap.size W Z → ∀ i t, ts[i]? = some t → Z.cell? ⟨b, off + i, none⟩ = some (.int .i64 t)) := fun Z k i t hi => by rw [k.cell (p := ⟨b, off + i, none⟩) (World.block_lt_of_cell? W _ (hc i t hi))]; exact hc i t hi
  obtain ⟨R, hR⟩ : ∃ R, R = boundsS C ts := ⟨_, rfl⟩
  rw [← hR]
  have HR := Lib.hid hR
  clear hR hc hC hk A1
  go_enter Tryz.func57, Tryz.ntmps57
  go_wp2_with fail
  refine Calls.mono HC.out ?_
  rintro z W1 ⟨rfl, b1⟩
  have HB1 := Lib.hid (HA1.out.trans (b1.mono HA1.out.size))
  clear b1 HC HA1
  by_cases h0 : C = 0
  · subst h0
    go_wp2
    go_loopw [7, 15] (fun _ i wr => ∃ t : Nat, t ≤ k ∧ i = .int .i64 (t : Int) ∧ Hid (Below W.heap.size W wr) ∧ Hid ((ts.take t).any badT = false)) (fun _ i _ => k - (intOf i).toNat)
    case atStart => exact ⟨0, by omega, rfl, HB1, rfl⟩
    case round =>
      obtain ⟨t, ht, rfl, HB, HJ⟩ := hrel
      have j2 : (0 : Int) ≤ (t : Int) := by omega
      by_cases hlt : t < k
      · have j1 : (t : Int) < (k : Int) := by omega
        obtain ⟨x, hx⟩ : ∃ x, ts[t]? = some x := ⟨ts[t]'(by rw [← HK.out]; exact hlt), List.getElem?_eq_getElem _⟩
        have c0 := HT.out wr HB.out t x hx
        have HX := Lib.hid hx
        clear hx
        have HTk : Hid ((ts.take (t + 1)).any badT = badT x) := by
          unfold Hid
          rw [List.take_add_one, HX.out, List.any_append, HJ.out]
          simp
        have HBad : Hid (badT x = true → ts.any badT = true) := fun h => List.any_eq_true.2 ⟨x, List.mem_of_getElem? HX.out, h⟩
        by_cases h1 : x < 0
        · have H1 := Lib.hid h1
          go_wp2
          go_ret
          exact ⟨by rw [HR.out, boundsS, if_neg (by simp), if_pos (HBad.out (by unfold badT; rw [decide_eq_true H1.out]; rfl))]; rfl, HB.out⟩
        · have H1 : Hid (¬ x < 0) := h1
          have h1d : decide (x < 0) = false := decide_eq_false h1
          clear h1
          by_cases h2 : 1099511627776 < x
          · have H2 := Lib.hid h2
            go_wp2
            go_ret
            exact ⟨by rw [HR.out, boundsS, if_neg (by simp), if_pos (HBad.out (by unfold badT; rw [decide_eq_true H2.out]; simp))]; rfl, HB.out⟩
          · have h2d : decide (1099511627776 < x) = false := decide_eq_false h2
            have HG : Hid (badT x = false) := by unfold Hid badT; rw [h1d, h2d]; rfl
            clear h2
            go_wp2
            go_roundw
            · exact ⟨t + 1, by omega, by simp, HB, by unfold Hid; rw [HTk.out]; exact HG.out⟩
            · simp only [intOf]; omega
      · have j1 : ¬ (t : Int) < (k : Int) := by omega
        have e : t = k := by omega
        have HEt : Hid (ts.any badT = false) := by have := HJ.out; rw [e, HK.out, List.take_length] at this; exact this
        go_wp2
        go_ret
        exact ⟨by rw [HR.out, boundsS, if_neg (by simp), HEt.out]; rfl, HB.out⟩
  · have h28 : C = 28 := by rcases HCC.out with k | k; exact absurd k h0; exact k
    subst h28
    go_wp2
    go_ret
    exact ⟨by rw [HR.out, boundsS, if_pos (by simp)]; rfl, HB1.out⟩
end Go.Proofs.YthhkpkfpifllkaaGreat

namespace Go.Proofs.YthhkpkfpifllkaaGreat
open Go.RowKit
set_option linter.unusedVariables false

theorem und_fams : Tryz.prog.underlying 25 = some (.slice 132) := by kernel_rfl
theorem info_fam : (Tryz.prog.info? 132).map (fun i => (i.zero, i.size, i.bytes)) = some (some (.agg #[.string ⟨#[]⟩, .int .i64 0, .int .i64 0]), 3, 32) := by kernel_rfl
def fvals : List FamD → List Value
  | [] => []
  | f :: r => .string f.nm :: .int .i64 f.mx :: .int .i64 f.tl :: fvals r
theorem fvals_len (fs : List FamD) : (fvals fs).length = fs.length * 3 := by
  induction fs with
  | nil => rfl
  | cons f r ih => simp [fvals, ih]; omega
theorem fvals_app (a b : List FamD) : fvals (a ++ b) = fvals a ++ fvals b := by
  induction a with
  | nil => rfl
  | cons f r ih => simp [fvals, ih]
theorem fvals_one (fs : List FamD) : ∀ u ∈ fvals fs, u.oneCell' = true := by
  induction fs with
  | nil => intro u hu; simp [fvals] at hu
  | cons f r ih =>
    intro u hu
    simp only [fvals, List.mem_cons] at hu
    rcases hu with rfl | rfl | rfl | hu
    · rfl
    · rfl
    · rfl
    · exact ih u hu
theorem fvals_at {fs : List FamD} : ∀ {i : Nat} {f : FamD}, fs[i]? = some f → (fvals fs)[i * 3]? = some (.string f.nm) ∧ (fvals fs)[i * 3 + 1]? = some (.int .i64 f.mx) ∧ (fvals fs)[i * 3 + 2]? = some (.int .i64 f.tl) := by
  induction fs with
  | nil => intro i f h; simp at h
  | cons x r ih =>
    intro i f h
    cases i with
    | zero => simp at h; subst h; exact ⟨rfl, rfl, rfl⟩
    | succ i =>
      obtain ⟨h0, h1, h2⟩ := ih (i := i) (f := f) (by simpa using h)
      have e : (i + 1) * 3 = i * 3 + 3 := by omega
      rw [e]
      exact ⟨by simpa [fvals] using h0, by simpa [fvals] using h1, by simpa [fvals] using h2⟩
theorem fvals_get {fs : List FamD} : ∀ {j : Nat} {u : Value}, (fvals fs)[j]? = some u → ∃ i f, fs[i]? = some f ∧ ((j = i * 3 ∧ u = .string f.nm) ∨ (j = i * 3 + 1 ∧ u = .int .i64 f.mx) ∨ (j = i * 3 + 2 ∧ u = .int .i64 f.tl)) := by
  induction fs with
  | nil => intro j u h; simp [fvals] at h
  | cons x r ih =>
    intro j u h
    match j with
    | 0 => simp [fvals] at h; exact ⟨0, x, rfl, .inl ⟨rfl, h.symm⟩⟩
    | 1 => simp [fvals] at h; exact ⟨0, x, rfl, .inr (.inl ⟨rfl, h.symm⟩)⟩
    | 2 => simp [fvals] at h; exact ⟨0, x, rfl, .inr (.inr ⟨rfl, h.symm⟩)⟩
    | j + 3 =>
      obtain ⟨i, f, hf, hx⟩ := ih (j := j) (u := u) (by simpa [fvals] using h)
      refine ⟨i + 1, f, by simpa using hf, ?_⟩
      rcases hx with ⟨e, hu⟩ | ⟨e, hu⟩ | ⟨e, hu⟩
      · exact .inl ⟨by omega, hu⟩
      · exact .inr (.inl ⟨by omega, hu⟩)
      · exact .inr (.inr ⟨by omega, hu⟩)
def OwnF (w : World) (B : Nat) (v : Value) (n : Nat) (fs : List FamD) : Prop := n = fs.length ∧ w.ownsRow B 132 3 v n (fvals fs)
theorem ownF_form {w : World} {B n : Nat} {v : Value} {xs : List Value} (h : w.ownsRow B 132 3 v n xs) : ∃ a c, v = .slice a n c := by
  rcases h.2 with ⟨rfl, rfl⟩ | ⟨g, cap, cur, rfl, _⟩
  · exact ⟨_, _, rfl⟩
  · exact ⟨_, _, rfl⟩
theorem OwnF.nil (w : World) (B : Nat) : OwnF w B (.slice none 0 0) 0 [] := ⟨rfl, rfl, .inl ⟨rfl, rfl⟩⟩

theorem wpList_append_fams {w : World} {ops : Array Oper} {rest : List Oper} {o : Oper} {a : Act} {Q : Exit → Act → World → Prop} (hgd : o.guard = none) (s x : Operand)
    (ho : o.op = .call { callee := .builtin .append, args := #[s, x], argTypes := #[25, 25] })
    (B : Nat) (a0 : Option Addr) (m0 c0 : Nat) (acc : List FamD) (hs : a.eval s = .slice a0 m0 c0) (hown : OwnF w B (.slice a0 m0 c0) m0 acc)
    (ao : Option Addr) (m c : Nat) (fs : List FamD) (hx : a.eval x = .slice ao m c) (hrd : RdF w (.slice ao m c) fs) (hc0 : ao = none → c = 0)
    (hbytes : m0 + m ≤ 1000000) (hB : B ≤ w.heap.size)
    (h : ∀ a' m' c' w', Hid (m' = m0 + m) → OwnF w' B (.slice a' m' c') m' (acc ++ fs) → Below B w w' → wpList Tryz.prog ops Q rest (a.put o.dst (.slice a' m' c')) w') : wpList Tryz.prog ops Q (o :: rest) a w := by
  obtain ⟨i0, hi, hz0, hz1, hz2⟩ := info_parts info_fam
  obtain ⟨a1, c1, h2, hle, hm, hl48, hat⟩ := hrd
  simp only [Value.slice.injEq] at h2
  obtain ⟨rfl, rfl, rfl⟩ := h2
  cases ao with
  | none =>
    have hb0 : fs = [] := by
      rcases hat with h | ⟨b, off, h, _⟩
      · exact h
      · cases h
    subst hb0
    have hcc := hc0 rfl
    subst hcc
    refine wpList_append_own_none hgd s x 25 ho B 132 i0 3 und_fams hi _ _ _ hs hown.2 (by simpa using hx) ?_
    exact h _ _ _ _ (by unfold Hid; simp) (by simpa using hown) (Below.refl _ _)
  | some ad =>
    have hnews : ∀ j u, (fvals fs)[j]? = some u → w.cell? (ad.add j) = some u := by
      intro j u hj
      obtain ⟨i, f, hf, hxx⟩ := fvals_get hj
      rcases hat with h | ⟨b, off, h, hc⟩
      · rw [h] at hf; simp at hf
      · simp only [Option.some.injEq] at h
        subst h
        obtain ⟨k0, k1, k2⟩ := hc i f hf
        have e : (⟨b, off, none⟩ : Addr).add j = ⟨b, off + j, none⟩ := by unfold Addr.add; split <;> simp_all
        rw [e]
        rcases hxx with ⟨rfl, rfl⟩ | ⟨rfl, rfl⟩ | ⟨rfl, rfl⟩
        · exact k0
        · exact k1
        · exact k2
    refine wpList_append_own _ hgd s x 25 ho B 132 i0 (.agg #[.string ⟨#[]⟩, .int .i64 0, .int .i64 0]) 3 32 und_fams hi hz0 hz1 hz2 rfl (by decide) _ m0 (fvals acc) hs hown.2 ad fs.length c (fvals fs) hx (fvals_len fs) hnews (fvals_one fs) (by unfold maxLen; omega) (by omega) hB ?_
    intro v' w' h1 h2 _
    obtain ⟨a', c', rfl⟩ := ownF_form h1
    refine h a' _ c' w' (by unfold Hid; rfl) ⟨by rw [hown.1]; simp, by rw [fvals_app]; exact h1⟩ ((Below.refl B w).grown h2 hB (fun k hk => (hown.2.lt k hk).1))

def markF : FamD := ⟨⟨#[109, 97, 114, 107]⟩, -1, 0⟩
def LaidF (w : World) (u : Value) (fs : List FamD) : Prop := ∃ g c, u = .slice (some ⟨g, 0, none⟩) fs.length c ∧ fs.length + 9 ≤ c ∧ c ≤ maxLen ∧ ∀ i f, (fs ++ List.replicate 9 markF)[i]? = some f → w.cell? ⟨g, i * 3, none⟩ = some (.string f.nm) ∧ w.cell? ⟨g, i * 3 + 1, none⟩ = some (.int .i64 f.mx) ∧ w.cell? ⟨g, i * 3 + 2, none⟩ = some (.int .i64 f.tl)
theorem OwnF.cells {w : World} {B n c : Nat} {a : Option Addr} {fs : List FamD} (h : OwnF w B (.slice a n c) n fs) (hp : 0 < n) : ∃ g, a = some ⟨g, 0, none⟩ ∧ n ≤ c ∧ c ≤ maxLen ∧ ∀ i f, fs[i]? = some f → w.cell? ⟨g, i * 3, none⟩ = some (.string f.nm) ∧ w.cell? ⟨g, i * 3 + 1, none⟩ = some (.int .i64 f.mx) ∧ w.cell? ⟨g, i * 3 + 2, none⟩ = some (.int .i64 f.tl) := by
  rcases h.2.2 with ⟨_, h2⟩ | ⟨g, cap, cur, h1, h2, h3, h4, h5, h6, h7⟩
  · omega
  · simp only [Value.slice.injEq] at h1
    obtain ⟨rfl, _, rfl⟩ := h1
    refine ⟨g, rfl, h4, h5, fun i f hf => ?_⟩
    have key : ∀ j u, (fvals fs)[j]? = some u → w.cell? ⟨g, j, none⟩ = some u := by
      intro j u hj
      have hlt : j < n * 3 := by
        have := (List.getElem?_eq_some_iff.1 hj).1
        rw [fvals_len, ← h.1] at this
        exact this
      rw [← h7, List.getElem?_take_of_lt hlt] at hj
      have e : cur[j]? = some u := by simpa using hj
      simp [World.cell?, h3, e]
    obtain ⟨q0, q1, q2⟩ := fvals_at hf
    exact ⟨key _ _ q0, key _ _ q1, key _ _ q2⟩

end Go.Proofs.YthhkpkfpifllkaaGreat

namespace Go.Proofs.YthhkpkfpifllkaaGreat
open Go.RowKit
set_option linter.unusedVariables false

set_option maxRecDepth 100000 in
set_option maxHeartbeats 4000000 in
theorem cloneF_any {W : World} {a : Option Addr} {c : Nat} {fs : List FamD} (hr : RdF W (.slice a fs.length c) fs) (hn : a = none → c = 0) (hl : fs.length ≤ 8) :
    Calls Tryz.prog 93 #[.slice a fs.length c] W fun r W' => ∃ a' c', r = .returned (.slice a' fs.length c') ∧ OwnF W' W.heap.size (.slice a' fs.length c') fs.length fs ∧ Below W.heap.size W W' := by
  have HR := Lib.hid hr
  obtain ⟨k, hk⟩ : ∃ k, k = fs.length := ⟨_, rfl⟩
  have HK := Lib.hid hk
  have HNn := Lib.hid hn
  rw [← hk] at hl hr HR ⊢
  clear hk hn
  go_enter Tryz.func93, Tryz.ntmps93
  have heq := fun w => Lib.run_eql_slice_nil (P := Tryz.prog) w 25 132 a k c 0 0 und_fams
  cases a with
  | none =>
    obtain ⟨a1, c1, h1, -, -, -, h5⟩ := hr
    simp only [Value.slice.injEq] at h1
    obtain ⟨rfl, e1, rfl⟩ := h1
    have hc := HNn.out rfl
    have hfs : fs = [] := by
      rcases h5 with h | ⟨b, off, h, _⟩
      · exact h
      · cases h
    have hk0 : k = 0 := by rw [HK.out, hfs]; rfl
    subst hk0
    subst hc
    have HF := Lib.hid hfs
    clear hfs h5 e1
    simp only [Option.isNone_none] at heq
    go_wp2
    go_ret
    refine ⟨none, 0, rfl, ?_, Below.refl _ _⟩
    rw [HF.out]
    exact OwnF.nil _ _
  | some ad =>
    clear hr
    simp only [Option.isNone_some] at heq
    have A1 := (Below.refl W.heap.size W).alloc (Nat.le_refl _) (.cells #[] 132)
    have HRA := Lib.hid (HR.out.later A1)
    have HA1 := Lib.hid A1
    clear A1
    go_wp2_with (at_builtin; refine wpList_append_fams rfl _ _ rfl W.heap.size _ 0 _ [] rfl ⟨rfl, World.ownsRow_made W #[] 0 (Nat.le_refl _) (Nat.zero_le _) rfl⟩ (some ad) k c fs rfl HRA.out (fun z => by cases z) (by omega) HA1.out.size ?_)
    intro a' m' c' w1 hm hown hb1
    have e : m' = k := by have := hm.out; omega
    subst e
    have HO := Lib.hid hown
    have HB1 := Lib.hid hb1
    clear hown hb1 heq hm
    go_wp2
    go_ret
    exact ⟨a', c', rfl, by simpa using HO.out, HA1.out.trans HB1.out⟩

theorem row_low {B B' s n : Nat} {e : TypeId} {v : Value} {xs : List Value} {w : World} (h : w.ownsRow B e s v n xs) (hB : B' ≤ B) : w.ownsRow B' e s v n xs := by
  refine ⟨h.1, ?_⟩
  rcases h.2 with h2 | ⟨g, cap, cur, h3, h4, h5, h6⟩
  · exact .inl h2
  · exact .inr ⟨g, cap, cur, h3, by omega, h5, h6⟩
theorem OwnF.rd {w : World} {B n c : Nat} {a : Option Addr} {fs : List FamD} (h : OwnF w B (.slice a n c) n fs) (hl : fs.length ≤ 8) : RdF w (.slice a n c) fs := by
  have e := h.1
  by_cases hp : 0 < n
  · obtain ⟨g, rfl, h1, h2, h3⟩ := h.cells hp
    exact ⟨_, c, by rw [e], by omega, h2, by omega, .inr ⟨g, 0, rfl, fun i f hf => by simpa using h3 i f hf⟩⟩
  · have hf : fs = [] := List.eq_nil_of_length_eq_zero (by omega)
    rcases h.2.2 with ⟨h1, h2⟩ | ⟨g, cap, cur, h1, h2, h3, h4⟩
    · simp only [Value.slice.injEq] at h1
      exact ⟨a, c, by rw [e], by omega, by rw [h1.2.2]; unfold maxLen; omega, by omega, .inl hf⟩
    · simp only [Value.slice.injEq] at h1
      have := h4.1
      have := h4.2.1
      exact ⟨a, c, by rw [e], by omega, by omega, by omega, .inl hf⟩

set_option maxRecDepth 100000 in
set_option maxHeartbeats 4000000 in
theorem newWalk_any {W : World} {a : Option Addr} {c : Nat} {fs : List FamD} (hr : RdF W (.slice a fs.length c) fs) (hn : a = none → c = 0) (hl : fs.length ≤ 8) (clock : Int) (tv : Value) (h1 : ∃ f xs ys, tv = .func f xs ys) :
    Calls Tryz.prog 58 #[.agg #[.slice a fs.length c], .int .i64 clock, tv] W fun r W' => ∃ wb a' c', r = .returned (.pointer (some ⟨wb, 0, none⟩)) ∧ W.heap.size ≤ wb ∧ WBx W' wb (.slice a' fs.length c') clock tv spZ ∧ OwnF W' W.heap.size (.slice a' fs.length c') fs.length fs ∧ Below W.heap.size W W' := by
  obtain ⟨f, xs, ys, rfl⟩ := h1
  have A1 := (Below.refl W.heap.size W).alloc (Nat.le_refl _) (.cells #[.slice a fs.length c] 27)
  have HC := Lib.hid (cloneF_any (hr.later A1) hn hl)
  have HA1 := Lib.hid A1
  obtain ⟨k, hk⟩ : ∃ k, k = fs.length := ⟨_, rfl⟩
  rw [← hk] at HC HA1 ⊢
  clear hr hn hl A1 hk
  go_enter Tryz.func58, Tryz.ntmps58
  go_wp2_with fail
  refine Calls.mono HC.out ?_
  rintro z W1 ⟨a', c', rfl, hown, hb1⟩
  have HO := Lib.hid hown
  have HB1 := Lib.hid hb1
  clear hown hb1 HC
  go_wp2
  go_ret
  have A2 := (Below.refl W1.heap.size W1).alloc (Nat.le_refl _) (.cells (WCells (.slice a' k c') clock (.func f xs ys) spZ) 148)
  have sz : W.heap.size + 1 = (W.alloc (.cells #[.slice a k c] 27)).heap.size := by simp
  have h1 := HA1.out.trans (HB1.out.mono HA1.out.size)
  refine ⟨W1.heap.size, a', c', rfl, h1.size, heap_new W1 _, ?_, h1.trans (A2.mono h1.size)⟩
  obtain ⟨o1, o2⟩ := HO.out
  exact ⟨o1, row_low (row_same o2 (fun g hg => A2.block g (o2.lt g hg).2)) (by rw [← sz]; omega)⟩
end Go.Proofs.YthhkpkfpifllkaaGreat

namespace Go.Proofs.YthhkpkfpifllkaaGreat
open Go.RowKit
set_option linter.unusedVariables false

theorem SBx.set0 {w : World} {b : Nat} {c0 v : Value} {cs : List Value} {ty : TypeId} (h : SBx w b c0 v cs ty) (u : Value) : SBx (w.setCell ⟨b, 0, none⟩ u) b u v cs ty := by
  unfold SBx at *
  simp [World.setCell, Array.getElem?_modify, h]
theorem SBx.c00 {w : World} {b : Nat} {c0 v : Value} {cs : List Value} {ty : TypeId} (h : SBx w b c0 v cs ty) : w.cell? ⟨b, 0, none⟩ = some c0 := by unfold SBx at h; simp [World.cell?, h]
theorem bounds_ok {C : Nat} {ts : List Int} (h : boundsS C ts = 0) : C = 0 ∧ ts.any badT = false := by
  unfold boundsS at h
  by_cases hc : C = 0
  · rw [if_neg (by simpa using hc)] at h
    by_cases hb : ts.any badT = true
    · rw [if_pos hb] at h; cases h
    · exact ⟨hc, by simpa using hb⟩
  · rw [if_pos hc] at h
    omega
theorem cell_of {w : World} {b i : Nat} {cs : Array Value} {ty : TypeId} {v : Value} (h : w.heap[b]? = some (.cells cs ty (0, 0))) (e : cs[i]? = some v) : w.cell? ⟨b, i, none⟩ = some v := by simp only [World.cell?, h]; exact e

set_option maxRecDepth 100000 in
set_option maxHeartbeats 4000000 in
theorem newFilter_any {W : World} {a : Option Addr} {c : Nat} {fs : List FamD} (hr : RdF W (.slice a fs.length c) fs) (hn : a = none → c = 0) (C : Nat) (hC : (C = 0 ↔ SchemaOk fs) ∧ (C = 0 ∨ C = 28)) (clock low : Int) (major : Bool) :
    Calls Tryz.prog 31 #[.agg #[.slice a fs.length c], .int .i64 clock, .bool major, .int .i64 low] W fun r W' => Below W.heap.size W W' ∧ (boundsS C [clock, low] ≠ 0 → r = .returned (.tuple #[.pointer none, .int .i64 (boundsS C [clock, low])])) ∧ (boundsS C [clock, low] = 0 → ∃ fb wb a' c', r = .returned (.tuple #[.pointer (some ⟨fb, 0, none⟩), .int .i64 0]) ∧ W.heap.size ≤ fb ∧ W.heap.size ≤ wb ∧ fb ≠ wb ∧ SBx W' fb (.pointer (some ⟨wb, 0, none⟩)) (.slice none 0 0) (fBc major low ⟨0, 0, 0, 0, 0⟩) 107 ∧ WBx W' wb (.slice a' fs.length c') clock (.func (.func 70) #[.pointer (some ⟨fb, 0, none⟩)] #[]) spZ ∧ OwnF W' W.heap.size (.slice a' fs.length c') fs.length fs) := by
  have A1 := (Below.refl W.heap.size W).alloc (Nat.le_refl _) (.cells #[.slice a fs.length c] 27)
  have A2 := A1.alloc A1.size (.cells #[.int .i64 clock, .int .i64 low] 3)
  obtain ⟨k, hk⟩ : ∃ k, k = fs.length := ⟨_, rfl⟩
  have HR : Hid (∀ Z, Below W.heap.size W Z → RdF Z (.slice a k c) fs) := fun Z b => by rw [hk]; exact hr.later b
  obtain ⟨R, hR⟩ : ∃ R, R = boundsS C [clock, low] := ⟨_, rfl⟩
  have HRR := Lib.hid hR
  have HN := Lib.hid hn
  have HC := Lib.hid hC
  have HK := Lib.hid hk
  rw [← hk] at A1 A2 ⊢
  rw [← hR]
  have HA2 := Lib.hid A2
  clear hr hn hC A1 A2 hR hk
  go_enter Tryz.func31, Tryz.ntmps31
  go_wp2_with fail
  have HI : Hid (RdI ((W.alloc (.cells #[.slice a k c] 27)).alloc (.cells #[.int .i64 clock, .int .i64 low] 3)) (.slice (some ⟨W.heap.size + 1, 0, none⟩) 2 2) [clock, low]) := by
    refine ⟨W.heap.size + 1, 0, 2, rfl, by simp, fun i t hi => ?_⟩
    have hw : ((W.alloc (.cells #[.slice a k c] 27)).alloc (.cells #[.int .i64 clock, .int .i64 low] 3)).heap[W.heap.size + 1]? = some (.cells #[.int .i64 clock, .int .i64 low] 3 (0, 0)) := by
      have := heap_new (W.alloc (.cells #[.slice a k c] 27)) (.cells #[.int .i64 clock, .int .i64 low] 3)
      simpa using this
    match i, hi with
    | 0, hi => simp only [List.getElem?_cons_zero, Option.some.injEq] at hi; subst hi; exact cell_of hw rfl
    | 1, hi => simp only [List.getElem?_cons_succ, List.getElem?_cons_zero, Option.some.injEq] at hi; subst hi; exact cell_of hw rfl
    | i + 2, hi => simp at hi
  refine Calls.mono (checkBounds_any (HR.out _ HA2.out) C HC.out HI.out) ?_
  rintro z W1 ⟨rfl, b1⟩
  rw [← HRR.out]
  have B1 := HA2.out.trans (b1.mono HA2.out.size)
  have s0 : W1.cell? ⟨W.heap.size, 0, none⟩ = some (.slice a k c) := by
    rw [b1.cell (p := ⟨W.heap.size, 0, none⟩) (by simp; omega)]
    simp
  have HB1 := Lib.hid B1
  have HCz : Hid (R = 0 → fs.length ≤ 8) := fun z => ((HC.out.1.1 (bounds_ok (HRR.out.symm.trans z)).1).1).2
  clear b1 B1 HI HA2 HRR
  by_cases h0 : R = 0
  · have b0 : (R != 0) = false := by simp [h0]
    have H0 := Lib.hid h0
    clear h0
    have A3 := (Below.refl W1.heap.size W1).alloc (Nat.le_refl _) (.cells #[.pointer none, .slice none 0 0, .bool major, .int .i64 low, .int .i64 0, .int .i64 0, .int .i64 0, .int .i64 0, .int .i64 0] 107)
    have sb : SBx (W1.alloc (.cells #[.pointer none, .slice none 0 0, .bool major, .int .i64 low, .int .i64 0, .int .i64 0, .int .i64 0, .int .i64 0, .int .i64 0] 107)) W1.heap.size (.pointer none) (.slice none 0 0) (fBc major low ⟨0, 0, 0, 0, 0⟩) 107 := heap_new W1 _
    have s1 : (W1.alloc (.cells #[.pointer none, .slice none 0 0, .bool major, .int .i64 low, .int .i64 0, .int .i64 0, .int .i64 0, .int .i64 0, .int .i64 0] 107)).cell? ⟨W.heap.size, 0, none⟩ = some (.slice a k c) := by rw [A3.cell (p := ⟨W.heap.size, 0, none⟩) (World.block_lt_of_cell? W1 _ s0)]; exact s0
    have HA3 := Lib.hid A3
    have HSB := Lib.hid sb
    clear A3 sb s0
    go_wp2_with fail
    have hB3 := HB1.out.trans (HA3.out.mono HB1.out.size)
    have hnw := newWalk_any (by have := HR.out _ hB3; rw [HK.out] at this; exact this) HN.out (HCz.out H0.out) clock (.func (.func 70) #[.pointer (some ⟨W1.heap.size, 0, none⟩)] #[]) ⟨_, _, _, rfl⟩
    rw [← HK.out] at hnw
    refine Calls.mono hnw ?_
    rintro z W2 ⟨wb, a', c', rfl, hwb, hwx, hof, hb2⟩
    clear hnw
    have szX : (W1.alloc (.cells #[.pointer none, .slice none 0 0, .bool major, .int .i64 low, .int .i64 0, .int .i64 0, .int .i64 0, .int .i64 0, .int .i64 0] 107)).heap.size = W1.heap.size + 1 := by simp
    have sb2 := HSB.out.keep (hb2.block W1.heap.size HSB.out.lt)
    rw [szX] at hwb
    have hof2 : OwnF W2 (W1.heap.size + 1) (.slice a' k c') k fs := by rw [← szX]; exact hof
    have HB2 := Lib.hid (hB3.trans (hb2.mono hB3.size))
    have HW := Lib.hid hwx
    have HOf := Lib.hid hof2
    have HSB2 := Lib.hid sb2
    have HWB := Lib.hid hwb
    have p0 := sb2.c00
    have f0 := sb2.fz 0
    clear hb2 hwx hof hof2 sb2 hwb szX hB3 s1 HA3 HSB
    go_wp2
    go_ret2
    have hne : W1.heap.size ≠ wb := by have := HWB.out; omega
    have hG := grown1 W2 W1.heap.size 0 (.pointer (some ⟨wb, 0, none⟩))
    have b2 := HB2.out
    have l1 := HB1.out.size
    refine ⟨⟨b2.os, b2.tape, b2.output, Nat.le_trans b2.size hG.size, fun i hi => (hG.block i (Nat.lt_of_lt_of_le hi b2.size) (fun z => by cases z; omega)).trans (b2.block i hi)⟩, fun z => absurd H0.out z, fun _ => ⟨W1.heap.size, wb, a', c', rfl, l1, by have := HWB.out; omega, hne, HSB2.out.set0 _, HW.out.keep (hG.block wb HW.out.lt (fun z => by cases z; exact hne rfl)), ?_⟩⟩
    obtain ⟨o1, o2⟩ := HOf.out
    exact ⟨o1, row_low (row_same o2 (fun g hg => hG.block g (o2.lt g hg).2 (fun z => by cases z; have := (o2.lt _ hg).1; omega))) (by omega)⟩
  · have b0 : (R != 0) = true := by simp [h0]
    have H0 := Lib.hid h0
    clear h0
    go_wp2
    go_ret2
    exact ⟨HB1.out, fun _ => rfl, fun z => absurd z H0.out⟩
end Go.Proofs.YthhkpkfpifllkaaGreat
