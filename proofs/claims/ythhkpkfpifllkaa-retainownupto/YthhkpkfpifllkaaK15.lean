import Derived.Test.YthhkpkfpifllkaaK14
import Derived.Test.YthhkpkfpifllkaaRows
import Derived.ProofKit
import Derived.OpenShut
import Derived.Deep.DeepHandedRow
import Derived.Lib.LaidTab
import Derived.Deep.Slices
namespace Go.Proofs.Ythhkpkfpifllkaa
open Go.RowKit
set_option linter.unusedVariables false

theorem num_sym (n : Int) (w : World) : Calls Try.prog 17 #[.int .i64 n] w fun e w' => e = .returned (.int .i64 n) ∧ w = w' := Calls.mono (num_any n w) fun e w' h => ⟨h.1, h.2.symm⟩
theorem oneS {k ts seq : Int} {val : List Nat} {w : World} (h : Calls Try.prog 14 #[.int .i64 k, .int .i64 ts, .int .i64 seq] w fun e w' => ∃ vr vq vv, e = .returned (.agg (oneD vr vq vv k ts seq val).cells) ∧ EntD.Ok w' (oneD vr vq vv k ts seq val) ∧ Below w.heap.size w w') :
    Calls Try.prog 14 #[.int .i64 k, .int .i64 ts, .int .i64 seq] w fun e w' => ∃ a1 c1 a2 c2 a3 c3, e = .returned (.agg #[.slice a1 1 c1, .int .i64 0, .slice a2 1 c2, .int .i64 ts, .int .i64 seq, .int .i64 k, .slice a3 val.length c3]) ∧ EntD.Ok w' (oneD (.slice a1 1 c1) (.slice a2 1 c2) (.slice a3 val.length c3) k ts seq val) ∧ Below w.heap.size w w' := by
  refine Calls.mono h ?_
  rintro e w' ⟨vr, vq, vv, he, ok, b⟩
  obtain ⟨_, a1, c1, e1, _⟩ := ok.1
  obtain ⟨_, a2, c2, e2, _⟩ := ok.2.1
  obtain ⟨_, a3, c3, e3, _⟩ := ok.2.2
  have e1 : vr = .slice a1 1 c1 := e1
  have e2 : vq = .slice a2 1 c2 := e2
  have e3 : vv = .slice a3 val.length c3 := e3
  rw [e1, e2, e3] at he ok
  exact ⟨a1, c1, a2, c2, a3, c3, he, ok, b⟩
theorem rowC {X : World} {g : Nat} {C : Array Value} {ty : TypeId} {fr : Nat × Nat} {L : List EntD} (h : X.heap[g]? = some (.cells C ty fr)) (hC : C.toList = evals L) : ∀ (i : Nat) x, L[i]? = some x → ∀ (j : Nat) u, x.cells.toList[j]? = some u → X.cell? ⟨g, 0 + i * 7 + j, none⟩ = some u := by
  intro i x hi j u hj
  have := evals_at hi hj
  rw [← hC, Array.getElem?_toList] at this
  rw [Nat.zero_add]
  exact cell_at9 h this
theorem same_yes {a b : EntD} {w : World} (ha : EntD.Ok w a) (hb : EntD.Ok w b) (h : a.dat = b.dat) : Calls Try.prog 18 #[.agg a.cells, .agg b.cells] w fun r w' => r = .returned (.bool true) ∧ Below w.heap.size w w' := by
  refine Calls.mono (same3r_any ha hb) ?_
  rintro r w' ⟨rfl, hb⟩
  exact ⟨by rw [decide_eq_true (EntD.dat_same.1 h)], hb⟩
theorem same_one {x : EntD} {Z : World} {p1 p2 p3 : Option Addr} {q1 q2 q3 n : Nat} {k ts seq : Int} {val : List Nat} (hx : EntD.Ok Z x) (ho : EntD.Ok Z (oneD (.slice p1 1 q1) (.slice p2 1 q2) (.slice p3 n q3) k ts seq val)) (hd : x.dat = oE k ts seq val) : Calls Try.prog 18 #[.agg #[x.vr, .int .i64 x.fam, x.vq, .int .i64 x.ts, .int .i64 x.seq, .int .i64 x.kind, x.vv], .agg #[.slice p1 1 q1, .int .i64 0, .slice p2 1 q2, .int .i64 ts, .int .i64 seq, .int .i64 k, .slice p3 n q3]] Z fun r w' => r = .returned (.bool true) ∧ Below Z.heap.size Z w' := same_yes (a := x) (b := oneD (.slice p1 1 q1) (.slice p2 1 q2) (.slice p3 n q3) k ts seq val) hx ho hd
set_option maxRecDepth 100000 in
set_option maxHeartbeats 4000000 in
theorem started3 (w : World) : Calls Try.prog 4 #[] w fun e w' => e = .returned (.bool true) ∧ Below w.heap.size w w' := by
  go_enter Try.func4, Try.ntmps4
  go_wp2_with fail
  refine Calls.mono (oneS (one1_any 5 3 _)) ?_
  rintro e1 w1 ⟨a1, b1, a2, b2, a3, b3, rfl, ok1, B1⟩
  have H1 := Lib.hid (And.intro ok1 B1)
  clear ok1 B1
  simp only [List.length_cons, List.length_nil, Nat.zero_add]
  go_wp2_with fail
  refine Calls.mono (oneS (one1_any 9 1 _)) ?_
  rintro e1 w2 ⟨a4, b4, a5, b5, a6, b6, rfl, ok2, B2⟩
  have H2 := Lib.hid (And.intro ok2 B2)
  clear ok2 B2
  simp only [List.length_cons, List.length_nil, Nat.zero_add]
  go_wp2_with fail
  refine Calls.mono (oneS (one3_any 7 4 _)) ?_
  rintro e1 w3 ⟨a7, b7, a8, b8, a9, b9, rfl, ok3, B3⟩
  have H3 := Lib.hid (And.intro ok3 B3)
  clear ok3 B3
  simp only [List.length_nil]
  go_wp2_with fail
  refine Calls.mono (oneS (one1_any 7 2 _)) ?_
  rintro e1 w4 ⟨a10, b10, a11, b11, a12, b12, rfl, ok4, B4⟩
  have H4 := Lib.hid (And.intro ok4 B4)
  clear ok4 B4
  simp only [List.length_cons, List.length_nil, Nat.zero_add]
  go_wp2_with fail
  generalize hX : World.alloc w4 _ = X
  have hbk := hX ▸ heap_new9 w4 _ rfl
  have BX : Below w4.heap.size w4 X := hX ▸ (Below.refl w4.heap.size w4).alloc (Nat.le_refl _) _
  have HL : Hid (∃ l, LS X (some ⟨w4.heap.size, 0, none⟩) 4 l ∧ Below w.heap.size w X) := by
    obtain ⟨ok1, B1⟩ := H1.out
    obtain ⟨ok2, B2⟩ := H2.out
    obtain ⟨ok3, B3⟩ := H3.out
    obtain ⟨ok4, B4⟩ := H4.out
    refine ⟨[oneD (.slice a1 1 b1) (.slice a2 1 b2) (.slice a3 1 b3) 1 5 3 [118], oneD (.slice a4 1 b4) (.slice a5 1 b5) (.slice a6 1 b6) 1 9 1 [118], oneD (.slice a7 1 b7) (.slice a8 1 b8) (.slice a9 0 b9) 3 7 4 [], oneD (.slice a10 1 b10) (.slice a11 1 b11) (.slice a12 1 b12) 1 7 2 [118]], ⟨⟨⟨Nat.le_refl _, by decide⟩, .inr ⟨_, 0, rfl, rowC (L := [oneD (.slice a1 1 b1) (.slice a2 1 b2) (.slice a3 1 b3) 1 5 3 [118], oneD (.slice a4 1 b4) (.slice a5 1 b5) (.slice a6 1 b6) 1 9 1 [118], oneD (.slice a7 1 b7) (.slice a8 1 b8) (.slice a9 0 b9) 3 7 4 [], oneD (.slice a10 1 b10) (.slice a11 1 b11) (.slice a12 1 b12) 1 7 2 [118]]) hbk rfl⟩, fun x hx => ?_⟩, rfl⟩, ((((B1.trans (B2.mono B1.size)).trans (B3.mono (Nat.le_trans B1.size B2.size))).trans (B4.mono (Nat.le_trans B1.size (Nat.le_trans B2.size B3.size)))).trans (BX.mono (Nat.le_trans B1.size (Nat.le_trans B2.size (Nat.le_trans B3.size B4.size)))))⟩
    simp only [List.mem_cons, List.not_mem_nil, or_false] at hx
    rcases hx with rfl | rfl | rfl | rfl
    · exact (((ok1.later B2).later B3).later B4).later BX
    · exact ((ok2.later B3).later B4).later BX
    · exact (ok3.later B4).later BX
    · exact ok4.later BX
  clear hX hbk BX H1 H2 H3 H4
  obtain ⟨gl, hgl⟩ : ∃ gl, gl = w4.heap.size := ⟨_, rfl⟩
  rw [← hgl] at HL ⊢
  clear hgl
  refine Calls.mono (family3_any 2 10 _) ?_
  rintro e1 w5 ⟨f1, rfl, rf1, B5⟩
  have HV := Lib.hid (fun l (h : LS X (some ⟨gl, 0, none⟩) 4 l) => vis_st rf1 (h.later B5))
  have HB5 := Lib.hid B5
  clear rf1 B5
  go_wp2_with fail
  refine Calls.mono (HV.out _ HL.out.choose_spec.1) ?_
  rintro e1 w6 ⟨B6, g1, o1, c1, x1, rfl, rd1, dx1⟩
  have H6 := Lib.hid (And.intro (HB5.out.trans (B6.mono HB5.out.size)) (And.intro rd1 dx1))
  clear HV HB5 B6 rd1 dx1
  go_wp2_with fail
  refine Calls.mono (family3_any 2 10 _) ?_
  rintro e1 w7 ⟨f2, rfl, rf2, B7⟩
  have HV := Lib.hid (fun l (h : LS X (some ⟨gl, 0, none⟩) 4 l) => squash_st rf2 (h.later (H6.out.1.trans (B7.mono H6.out.1.size))))
  have HB7 := Lib.hid B7
  clear rf2 B7
  go_wp2_with fail
  refine Calls.mono (HV.out _ HL.out.choose_spec.1) ?_
  rintro e1 w8 ⟨B8, g2, o2, c2, x2, y2, rfl, rd2, dx2, dy2⟩
  have H8 := Lib.hid (And.intro (HB7.out.trans (B8.mono HB7.out.size)) (And.intro rd2 (And.intro dx2 dy2)))
  clear HV HB7 B8 rd2 dx2 dy2
  go_wp2_with fail
  refine Calls.mono (family3_any 2 10 _) ?_
  rintro e1 w9 ⟨f3, rfl, rf3, B9⟩
  have K8 := Lib.hid (H6.out.1.trans (H8.out.1.mono H6.out.1.size))
  have HV := Lib.hid (fun l (h : LS X (some ⟨gl, 0, none⟩) 4 l) => read_st rf3 (h.later (K8.out.trans (B9.mono K8.out.size))))
  have HB9 := Lib.hid B9
  clear rf3 B9
  go_wp2_with fail
  refine Calls.mono (HV.out _ HL.out.choose_spec.1) ?_
  rintro e1 w10 ⟨B10, g3, o3, c3, x3, rfl, rd3, dx3⟩
  have H10 := Lib.hid (And.intro (HB9.out.trans (B10.mono HB9.out.size)) (And.intro rd3 dx3))
  clear HV HB9 B10 rd3 dx3
  go_wp2_with fail
  refine Calls.mono (family3_any 2 10 _) ?_
  rintro e1 w11 ⟨f4, rfl, rf4, B11⟩
  have K10 := Lib.hid (K8.out.trans (H10.out.1.mono K8.out.size))
  have HV := Lib.hid (fun l (h : LS X (some ⟨gl, 0, none⟩) 4 l) => top_st rf4 (h.later (K10.out.trans (B11.mono K10.out.size))))
  have HB11 := Lib.hid B11
  clear rf4 B11
  go_wp2_with fail
  refine Calls.mono (HV.out _ HL.out.choose_spec.1) ?_
  rintro e1 w12 ⟨B12, rfl⟩
  have H12 := Lib.hid (HB11.out.trans (B12.mono HB11.out.size))
  clear HV HB11 B12
  go_wp2_with (go_at_call 17; refine (num_sym _ _).mono ?_; rintro e1 wn ⟨rfl, rfl⟩)
  have K12 := Lib.hid (K10.out.trans (H12.out.mono K10.out.size))
  have R1 := Lib.hid (H6.out.2.1.later (H8.out.1.trans ((H10.out.1.trans (H12.out.mono H10.out.1.size)).mono H8.out.1.size)))
  have R2 := Lib.hid (H8.out.2.1.later (H10.out.1.trans (H12.out.mono H10.out.1.size)))
  have R3 := Lib.hid (H10.out.2.1.later H12.out)
  have KS : Hid (∀ wx, Below w12.heap.size w12 wx → (wx.cell? ⟨g1, o1, none⟩ = some x1.vr ∧ wx.cell? ⟨g1, o1 + 1, none⟩ = some (.int .i64 x1.fam) ∧ wx.cell? ⟨g1, o1 + 2, none⟩ = some x1.vq ∧ wx.cell? ⟨g1, o1 + 3, none⟩ = some (.int .i64 x1.ts) ∧ wx.cell? ⟨g1, o1 + 4, none⟩ = some (.int .i64 x1.seq) ∧ wx.cell? ⟨g1, o1 + 5, none⟩ = some (.int .i64 x1.kind) ∧ wx.cell? ⟨g1, o1 + 6, none⟩ = some x1.vv) ∧ (wx.cell? ⟨g2, o2, none⟩ = some x2.vr ∧ wx.cell? ⟨g2, o2 + 1, none⟩ = some (.int .i64 x2.fam) ∧ wx.cell? ⟨g2, o2 + 2, none⟩ = some x2.vq ∧ wx.cell? ⟨g2, o2 + 3, none⟩ = some (.int .i64 x2.ts) ∧ wx.cell? ⟨g2, o2 + 4, none⟩ = some (.int .i64 x2.seq) ∧ wx.cell? ⟨g2, o2 + 5, none⟩ = some (.int .i64 x2.kind) ∧ wx.cell? ⟨g2, o2 + 6, none⟩ = some x2.vv) ∧ (wx.cell? ⟨g2, o2 + 7, none⟩ = some y2.vr ∧ wx.cell? ⟨g2, o2 + 7 + 1, none⟩ = some (.int .i64 y2.fam) ∧ wx.cell? ⟨g2, o2 + 7 + 2, none⟩ = some y2.vq ∧ wx.cell? ⟨g2, o2 + 7 + 3, none⟩ = some (.int .i64 y2.ts) ∧ wx.cell? ⟨g2, o2 + 7 + 4, none⟩ = some (.int .i64 y2.seq) ∧ wx.cell? ⟨g2, o2 + 7 + 5, none⟩ = some (.int .i64 y2.kind) ∧ wx.cell? ⟨g2, o2 + 7 + 6, none⟩ = some y2.vv) ∧ (wx.cell? ⟨g3, o3, none⟩ = some x3.vr ∧ wx.cell? ⟨g3, o3 + 1, none⟩ = some (.int .i64 x3.fam) ∧ wx.cell? ⟨g3, o3 + 2, none⟩ = some x3.vq ∧ wx.cell? ⟨g3, o3 + 3, none⟩ = some (.int .i64 x3.ts) ∧ wx.cell? ⟨g3, o3 + 4, none⟩ = some (.int .i64 x3.seq) ∧ wx.cell? ⟨g3, o3 + 5, none⟩ = some (.int .i64 x3.kind) ∧ wx.cell? ⟨g3, o3 + 6, none⟩ = some x3.vv)) := fun wx b => by
    have c1 := R1.out.cells b (t := 0) rfl
    have c2 := R2.out.cells b (t := 0) rfl
    have c3 := R2.out.cells b (t := 1) rfl
    have c4 := R3.out.cells b (t := 0) rfl
    exact ⟨⟨c1 0 _ rfl, c1 1 _ rfl, c1 2 _ rfl, c1 3 _ rfl, c1 4 _ rfl, c1 5 _ rfl, c1 6 _ rfl⟩, ⟨c2 0 _ rfl, c2 1 _ rfl, c2 2 _ rfl, c2 3 _ rfl, c2 4 _ rfl, c2 5 _ rfl, c2 6 _ rfl⟩, ⟨c3 0 _ rfl, c3 1 _ rfl, c3 2 _ rfl, c3 3 _ rfl, c3 4 _ rfl, c3 5 _ rfl, c3 6 _ rfl⟩, ⟨c4 0 _ rfl, c4 1 _ rfl, c4 2 _ rfl, c4 3 _ rfl, c4 4 _ rfl, c4 5 _ rfl, c4 6 _ rfl⟩⟩
  have HO1 : Hid (∀ Z, Calls Try.prog 14 #[.int .i64 1, .int .i64 9, .int .i64 1] Z fun e w' => ∃ p1 q1 p2 q2 p3 q3, e = .returned (.agg #[.slice p1 1 q1, .int .i64 0, .slice p2 1 q2, .int .i64 9, .int .i64 1, .int .i64 1, .slice p3 1 q3]) ∧ EntD.Ok w' (oneD (.slice p1 1 q1) (.slice p2 1 q2) (.slice p3 1 q3) 1 9 1 [118]) ∧ Below Z.heap.size Z w') := fun Z => oneS (one1_any 9 1 Z)
  have HO2 : Hid (∀ Z, Calls Try.prog 14 #[.int .i64 2, .int .i64 7, .int .i64 4] Z fun e w' => ∃ p1 q1 p2 q2 p3 q3, e = .returned (.agg #[.slice p1 1 q1, .int .i64 0, .slice p2 1 q2, .int .i64 7, .int .i64 4, .int .i64 2, .slice p3 0 q3]) ∧ EntD.Ok w' (oneD (.slice p1 1 q1) (.slice p2 1 q2) (.slice p3 0 q3) 2 7 4 []) ∧ Below Z.heap.size Z w') := fun Z => oneS (one2_any 7 4 Z)
  have HS1 : Hid (∀ Z, Below w12.heap.size w12 Z → ∀ p1 q1 p2 q2 p3 q3, EntD.Ok Z (oneD (.slice p1 1 q1) (.slice p2 1 q2) (.slice p3 1 q3) 1 9 1 [118]) → Calls Try.prog 18 #[.agg #[x1.vr, .int .i64 x1.fam, x1.vq, .int .i64 x1.ts, .int .i64 x1.seq, .int .i64 x1.kind, x1.vv], .agg #[.slice p1 1 q1, .int .i64 0, .slice p2 1 q2, .int .i64 9, .int .i64 1, .int .i64 1, .slice p3 1 q3]] Z fun r w' => r = .returned (.bool true) ∧ Below Z.heap.size Z w') := fun Z b p1 q1 p2 q2 p3 q3 ho => same_one ((R1.out.later b).ok x1 (List.mem_singleton.2 rfl)) ho H6.out.2.2
  have HS2 : Hid (∀ Z, Below w12.heap.size w12 Z → ∀ p1 q1 p2 q2 p3 q3, EntD.Ok Z (oneD (.slice p1 1 q1) (.slice p2 1 q2) (.slice p3 1 q3) 1 9 1 [118]) → Calls Try.prog 18 #[.agg #[x2.vr, .int .i64 x2.fam, x2.vq, .int .i64 x2.ts, .int .i64 x2.seq, .int .i64 x2.kind, x2.vv], .agg #[.slice p1 1 q1, .int .i64 0, .slice p2 1 q2, .int .i64 9, .int .i64 1, .int .i64 1, .slice p3 1 q3]] Z fun r w' => r = .returned (.bool true) ∧ Below Z.heap.size Z w') := fun Z b p1 q1 p2 q2 p3 q3 ho => same_one ((R2.out.later b).ok x2 List.mem_cons_self) ho H8.out.2.2.1
  have HS3 : Hid (∀ Z, Below w12.heap.size w12 Z → ∀ p1 q1 p2 q2 p3 q3, EntD.Ok Z (oneD (.slice p1 1 q1) (.slice p2 1 q2) (.slice p3 0 q3) 2 7 4 []) → Calls Try.prog 18 #[.agg #[y2.vr, .int .i64 y2.fam, y2.vq, .int .i64 y2.ts, .int .i64 y2.seq, .int .i64 y2.kind, y2.vv], .agg #[.slice p1 1 q1, .int .i64 0, .slice p2 1 q2, .int .i64 7, .int .i64 4, .int .i64 2, .slice p3 0 q3]] Z fun r w' => r = .returned (.bool true) ∧ Below Z.heap.size Z w') := fun Z b p1 q1 p2 q2 p3 q3 ho => same_one ((R2.out.later b).ok y2 (List.mem_cons_of_mem _ List.mem_cons_self)) ho H8.out.2.2.2
  have HS4 : Hid (∀ Z, Below w12.heap.size w12 Z → ∀ p1 q1 p2 q2 p3 q3, EntD.Ok Z (oneD (.slice p1 1 q1) (.slice p2 1 q2) (.slice p3 1 q3) 1 9 1 [118]) → Calls Try.prog 18 #[.agg #[x3.vr, .int .i64 x3.fam, x3.vq, .int .i64 x3.ts, .int .i64 x3.seq, .int .i64 x3.kind, x3.vv], .agg #[.slice p1 1 q1, .int .i64 0, .slice p2 1 q2, .int .i64 9, .int .i64 1, .int .i64 1, .slice p3 1 q3]] Z fun r w' => r = .returned (.bool true) ∧ Below Z.heap.size Z w') := fun Z b p1 q1 p2 q2 p3 q3 ho => same_one ((R3.out.later b).ok x3 (List.mem_singleton.2 rfl)) ho H10.out.2.2
  have D0 : Below w12.heap.size w12 w12.drew := (Below.refl _ _).drew
  have hmx : Try.prog.follows .mixedOrders = true := by kernel_rfl
  have c1w : 1 ≤ c1 := R1.out.cap.1
  have c2w : 2 ≤ c2 := R2.out.cap.1
  have c3w : 1 ≤ c3 := R3.out.cap.1
  have KW := Lib.hid (HL.out.choose_spec.2.trans (K12.out.mono HL.out.choose_spec.2.size))
  clear H6 H8 H10 H12 K8 K10 HL K12
  go_region_held3 (fun wx => (wx.cell? ⟨g1, o1, none⟩ = some x1.vr ∧ wx.cell? ⟨g1, o1 + 1, none⟩ = some (.int .i64 x1.fam) ∧ wx.cell? ⟨g1, o1 + 2, none⟩ = some x1.vq ∧ wx.cell? ⟨g1, o1 + 3, none⟩ = some (.int .i64 x1.ts) ∧ wx.cell? ⟨g1, o1 + 4, none⟩ = some (.int .i64 x1.seq) ∧ wx.cell? ⟨g1, o1 + 5, none⟩ = some (.int .i64 x1.kind) ∧ wx.cell? ⟨g1, o1 + 6, none⟩ = some x1.vv) ∧ (wx.cell? ⟨g2, o2, none⟩ = some x2.vr ∧ wx.cell? ⟨g2, o2 + 1, none⟩ = some (.int .i64 x2.fam) ∧ wx.cell? ⟨g2, o2 + 2, none⟩ = some x2.vq ∧ wx.cell? ⟨g2, o2 + 3, none⟩ = some (.int .i64 x2.ts) ∧ wx.cell? ⟨g2, o2 + 4, none⟩ = some (.int .i64 x2.seq) ∧ wx.cell? ⟨g2, o2 + 5, none⟩ = some (.int .i64 x2.kind) ∧ wx.cell? ⟨g2, o2 + 6, none⟩ = some x2.vv) ∧ (wx.cell? ⟨g2, o2 + 7, none⟩ = some y2.vr ∧ wx.cell? ⟨g2, o2 + 7 + 1, none⟩ = some (.int .i64 y2.fam) ∧ wx.cell? ⟨g2, o2 + 7 + 2, none⟩ = some y2.vq ∧ wx.cell? ⟨g2, o2 + 7 + 3, none⟩ = some (.int .i64 y2.ts) ∧ wx.cell? ⟨g2, o2 + 7 + 4, none⟩ = some (.int .i64 y2.seq) ∧ wx.cell? ⟨g2, o2 + 7 + 5, none⟩ = some (.int .i64 y2.kind) ∧ wx.cell? ⟨g2, o2 + 7 + 6, none⟩ = some y2.vv) ∧ (wx.cell? ⟨g3, o3, none⟩ = some x3.vr ∧ wx.cell? ⟨g3, o3 + 1, none⟩ = some (.int .i64 x3.fam) ∧ wx.cell? ⟨g3, o3 + 2, none⟩ = some x3.vq ∧ wx.cell? ⟨g3, o3 + 3, none⟩ = some (.int .i64 x3.ts) ∧ wx.cell? ⟨g3, o3 + 4, none⟩ = some (.int .i64 x3.seq) ∧ wx.cell? ⟨g3, o3 + 5, none⟩ = some (.int .i64 x3.kind) ∧ wx.cell? ⟨g3, o3 + 6, none⟩ = some x3.vv)) (first | exact KS.out _ D8 | exact KS.out _ D7 | exact KS.out _ D6 | exact KS.out _ D5 | exact KS.out _ D4 | exact KS.out _ D3 | exact KS.out _ D2 | exact KS.out _ D1 | exact KS.out _ D0) (first | (have hq := D7; clear hq; (go_at_call 18; refine Calls.mono (HS4.out _ D7 _ _ _ _ _ _ k7) ?_; rintro e1 z8 ⟨rfl, m8⟩; have D8 := D7.trans (m8.mono D7.size))) | (have hq := D6; clear hq; (go_at_call 14; refine Calls.mono (HO1.out _) ?_; rintro e1 z7 ⟨i7a, i7b, i7c, i7d, i7e, i7f, rfl, k7, m7⟩; have D7 := D6.trans (m7.mono D6.size))) | (have hq := D5; clear hq; (go_at_call 18; refine Calls.mono (HS3.out _ D5 _ _ _ _ _ _ k5) ?_; rintro e1 z6 ⟨rfl, m6⟩; have D6 := D5.trans (m6.mono D5.size))) | (have hq := D4; clear hq; (go_at_call 14; refine Calls.mono (HO2.out _) ?_; rintro e1 z5 ⟨i5a, i5b, i5c, i5d, i5e, i5f, rfl, k5, m5⟩; have D5 := D4.trans (m5.mono D4.size))) | (have hq := D3; clear hq; (go_at_call 18; refine Calls.mono (HS2.out _ D3 _ _ _ _ _ _ k3) ?_; rintro e1 z4 ⟨rfl, m4⟩; have D4 := D3.trans (m4.mono D3.size))) | (have hq := D2; clear hq; (go_at_call 14; refine Calls.mono (HO1.out _) ?_; rintro e1 z3 ⟨i3a, i3b, i3c, i3d, i3e, i3f, rfl, k3, m3⟩; have D3 := D2.trans (m3.mono D2.size))) | (have hq := D1; clear hq; (go_at_call 18; refine Calls.mono (HS1.out _ D1 _ _ _ _ _ _ k1) ?_; rintro e1 z2 ⟨rfl, m2⟩; have D2 := D1.trans (m2.mono D1.size))) | (have hq := D0; clear hq; (go_at_call 14; refine Calls.mono (HO1.out _) ?_; rintro e1 z1 ⟨i1a, i1b, i1c, i1d, i1e, i1f, rfl, k1, m1⟩; have D1 := D0.trans (m1.mono D0.size))))
  all_goals
    go_wp2
    go_ret
    exact ⟨rfl, KW.out.trans (D8.mono KW.out.size)⟩
end Go.Proofs.Ythhkpkfpifllkaa

namespace Go.Proofs.Ythhkpkfpifllkaa
open Go.RowKit
set_option linter.unusedVariables false

theorem tld_by (m : List En) {e : En} (h : ByE e) : ByE (tld m e) := by
  obtain ⟨a1, a2, a3, a4, a5, a6, a7⟩ := tld_eq m e
  unfold ByE
  rw [a1, a3, a6]
  exact h
theorem by_out {fs : List (Int × Int)} {clock low : Int} {k : Nat} {l m : List En} {major : Bool} (h : IsOrd k l m) (hb : ∀ e ∈ l, ByE e) : ∀ e ∈ outS major low (verdictsS fs clock m), ByE e := by
  rw [out_tld h.ah h.va]
  intro e he
  obtain ⟨x, hx, rfl⟩ := List.mem_map.1 he
  exact tld_by m (hb x ((h.mem x).1 (List.mem_filter.1 hx).1))
theorem RdL3.by {W : World} {a : Option Addr} {cap : Nat} {l : List EntD} (h : RdL3 W a cap l) : ∀ e ∈ l.map EntD.dat, ByE e := fun e he => by
  obtain ⟨x, hx, rfl⟩ := List.mem_map.1 he
  exact (h.ok x hx).by
section
variable {W : World} {cap fc : Nat} {a fa : Option Addr} {fs : List FamD} {l : List EntD}
theorem squash_good (hr : RdF W (.slice fa fs.length fc) fs) (hn : fa = none → fc = 0) (C : Nat) (hC : (C = 0 ↔ SchemaOk fs) ∧ (C = 0 ∨ C = 28)) (clock low : Int) (major : Bool) (h0 : RdL3 W a cap l) (hl : l.length ≤ 1353245080300) (hE : squashE C fs clock low l = 0) :
    Calls Try.prog 9 #[.agg #[.slice fa fs.length fc], .int .i64 clock, .bool major, .int .i64 low, .slice a l.length cap] W fun r W' => Below W.heap.size W W' ∧ ∃ (zs : List EntD) (m : List En) (a' : Option Addr) (c' : Nat), IsOrd fs.length (l.map EntD.dat) m ∧ r = .returned (.tuple #[.slice a' zs.length c', .int .i64 0]) ∧ RdL3 W' a' c' zs ∧ zs.map EntD.dat = outS major low (verdictsS (mt fs) clock m) ∧ zs.length ≤ l.length := by
  refine Calls.mono (squash_all hr hn C hC clock low major h0 hl) ?_
  rintro r W' ⟨h1, h2, h3⟩
  obtain ⟨zs, m, v, O, k1, k2, k3, k4, k5⟩ := h3 hE
  obtain ⟨a', c', hv, _, hrd⟩ := k3.rdl (fun x hx => by
    have : x.dat ∈ zs.map EntD.dat := List.mem_map_of_mem hx
    rw [k4] at this
    exact by_out k1 h0.by _ this)
  exact ⟨h1, zs, m, a', c', k1, by rw [k2, hv], hrd, k4, k5⟩
theorem squash_bad (hr : RdF W (.slice fa fs.length fc) fs) (hn : fa = none → fc = 0) (C : Nat) (hC : (C = 0 ↔ SchemaOk fs) ∧ (C = 0 ∨ C = 28)) (clock low : Int) (major : Bool) (h0 : RdL3 W a cap l) (hl : l.length ≤ 1353245080300) (hE : squashE C fs clock low l ≠ 0) :
    Calls Try.prog 9 #[.agg #[.slice fa fs.length fc], .int .i64 clock, .bool major, .int .i64 low, .slice a l.length cap] W fun r W' => Below W.heap.size W W' ∧ r = .returned (.tuple #[.slice none 0 0, .int .i64 (squashE C fs clock low l)]) := by
  refine Calls.mono (squash_all hr hn C hC clock low major h0 hl) ?_
  rintro r W' ⟨h1, h2, h3⟩
  exact ⟨h1, h2 hE⟩
end
theorem squashE_left {C : Nat} {fs : List FamD} {clock low : Int} {l zs : List EntD} {m : List En} {major : Bool} (hE : squashE C fs clock low l = 0) (ho : IsOrd fs.length (l.map EntD.dat) m) (hz : zs.map EntD.dat = outS major low (verdictsS (mt fs) clock m)) : squashE C fs clock low zs = 0 := by
  unfold squashE at hE ⊢
  by_cases y : boundsS C [clock, low] = 0
  · rw [if_neg (by simpa using y)]
    exact (ho.left major).takes hz
  · rw [if_pos y] at hE; exact absurd hE y
theorem left_ord {fs : List FamD} {clock low : Int} {l zs : List EntD} {m m' : List En} {major : Bool} (ho : IsOrd fs.length (l.map EntD.dat) m) (hz : zs.map EntD.dat = outS major low (verdictsS (mt fs) clock m)) (ho' : IsOrd fs.length (zs.map EntD.dat) m') : m' = outS major low (verdictsS (mt fs) clock m) := by
  rw [hz] at ho'
  exact ho'.unique (ho.left major)
end Go.Proofs.Ythhkpkfpifllkaa

namespace Go.Proofs.Ythhkpkfpifllkaa
open Go.RowKit
set_option linter.unusedVariables false

def shw (tm : Int) (v : Vd) : Bool := decide (v.fate = 5 ∧ v.e.kind = 1 ∧ v.e.ts ≤ tm)
structure SI (tm : Int) (vs : List Vd) (s : Sp) : Prop where
  c : 1 ≤ s.rank → 0 ≤ (showS tm 16 vs).1 ∧ (showS tm 16 vs).1 ≤ s.rank
  r : 0 ≤ s.rank
  out : (showS tm 16 vs).2 = (vs.filter (shw tm)).map Vd.e
section
variable {fs : List (Int × Int)} {clock tm : Int} {vs : List Vd} {s : Sp}
theorem SI.plain (h : SI tm vs s) (v : Vd) (h0 : v.rank = 0) (h5 : v.fate ≠ 5) : SI tm (vs ++ [v]) s := by
  have e : showS tm 16 (vs ++ [v]) = showS tm 16 vs := by
    rw [showS_snoc]
    unfold showStep
    rw [if_neg (by simp [h5]), if_neg (by omega)]
  refine ⟨by rw [e]; exact h.c, h.r, ?_⟩
  rw [e, h.out, List.filter_append, List.map_append]
  have : shw tm v = false := by unfold shw; simp [h5]
  simp [this]
theorem SI.to (h : SI tm vs s) {s' : Sp} (hr : s'.rank = s.rank ∨ s'.rank = 0) : SI tm vs s' := by
  refine ⟨fun z => ?_, ?_, h.out⟩
  · rcases hr with e | e
    · rw [e] at z ⊢; exact h.c z
    · omega
  · rcases hr with e | e
    · rw [e]; exact h.r
    · omega
theorem SI.decide (hM : ∀ i, (famAt fs i).1 ≤ 16) (h : SI tm vs s) (e : En) : SI tm (vs ++ [(decideS fs clock s e).1]) (decideS fs clock s e).2 := by
  unfold decideS
  split
  · exact h.plain _ rfl (by simp)
  · split
    · exact h.plain _ rfl (by simp)
    · split
      · exact h.plain _ rfl (by simp)
      · obtain ⟨v, hv⟩ : ∃ v : Vd, v = ⟨e, if (famAt fs e.fam).1 < s.rank + 1 then 4 else 5, s.rank + 1⟩ := ⟨_, rfl⟩
        simp only
        rw [← hv]
        have hM := hM e.fam
        have h0 := h.r
        have hrk : v.rank = s.rank + 1 := by rw [hv]
        have hft : v.fate = 5 → s.rank + 1 ≤ 16 := fun z => by
          rw [hv] at z
          simp only at z
          split at z
          · cases z
          · omega
        obtain ⟨c', hc'⟩ : ∃ c' : Int, c' = if v.rank = 1 then 0 else (showS tm 16 vs).1 := ⟨_, rfl⟩
        have hb : 0 ≤ c' ∧ c' ≤ s.rank := by
          rw [hc']
          by_cases z : v.rank = 1
          · rw [if_pos z]; omega
          · rw [if_neg z]; exact h.c (by omega)
        have es : showS tm 16 (vs ++ [v]) = if shw tm v = true then (c' + 1, (showS tm 16 vs).2 ++ [v.e]) else (c', (showS tm 16 vs).2) := by
          rw [showS_snoc]
          unfold showStep shw
          rw [← hc']
          by_cases z : v.fate = 5 ∧ v.e.kind = 1 ∧ v.e.ts ≤ tm
          · have := hft z.1
            rw [if_pos ⟨z.1, z.2.1, z.2.2, by omega⟩, if_pos (by simp [z])]
          · rw [if_neg (fun y => z ⟨y.1, y.2.1, y.2.2.1⟩), if_neg (by simpa using z)]
        refine ⟨fun _ => ?_, ?_, ?_⟩
        · rw [es]
          show _ ∧ _ ≤ s.rank + 1
          split
          · simp only; omega
          · simp only; omega
        · show 0 ≤ s.rank + 1; omega
        · rw [es, List.filter_append, List.map_append]
          cases z : shw tm v with
          | true => simp [z, h.out]
          | false => simp [z, h.out]
theorem SI.resolve (hM : ∀ i, (famAt fs i).1 ≤ 16) (h : SI tm vs s) (k : Int) : SI tm (vs ++ (resolveS fs clock s k).1) (resolveS fs clock s k).2 := by
  unfold resolveS
  split
  · exact SI.decide hM (h.to (s' := { s with waiting := false }) (.inl rfl)) _
  · simpa using h
theorem SI.enter (hM : ∀ i, (famAt fs i).1 ≤ 16) (h : SI tm vs s) (e : En) : SI tm (vs ++ (enterS fs clock s e).1) (enterS fs clock s e).2 := by
  unfold enterS
  split
  · simpa using h
  · refine (h.resolve hM 3).to ?_
    unfold leftS
    cases sameFam s e <;> cases sameCol s e <;> simp
theorem SI.step (hM : ∀ i, (famAt fs i).1 ≤ 16) (h : SI tm vs s) (e : En) : SI tm (vs ++ (stepS fs clock s e).1) (stepS fs clock s e).2 := by
  have hE := h.enter (clock := clock) hM e
  unfold stepS
  split
  · rw [← List.append_assoc]
    have : SI tm (vs ++ (enterS fs clock s e).1 ++ [(stretchS (enterS fs clock s e).2 e).1]) (enterS fs clock s e).2 := hE.plain _ (by unfold stretchS; split <;> rfl) (by unfold stretchS; split <;> simp)
    exact this.to (.inl (by unfold stretchS rememberS; split <;> rfl))
  · split
    · split
      · rw [← List.append_assoc, ← List.append_assoc]
        exact ((hE.resolve (clock := clock) hM 2).plain ⟨e, 1, 0⟩ rfl (by simp)).to (.inl rfl)
      · rw [← List.append_assoc]
        exact (hE.plain ⟨e, 1, 0⟩ rfl (by simp)).to (.inl rfl)
    · split
      · exact hE.to (.inl rfl)
      · rw [← List.append_assoc]
        exact (SI.decide hM hE e).to (.inl rfl)
theorem SI.walk (hM : ∀ i, (famAt fs i).1 ≤ 16) : ∀ (l : List En) {vs : List Vd} {s : Sp}, SI tm vs s → SI tm (vs ++ (walkS fs clock s l).1) (walkS fs clock s l).2
  | [], vs, s, h => by simpa [walkS] using h
  | e :: l, vs, s, h => by
    have := SI.walk hM l (h.step (clock := clock) hM e)
    rw [List.append_assoc] at this
    exact this
theorem show_all (hM : ∀ i, (famAt fs i).1 ≤ 16) (l : List En) : (showS tm 16 (verdictsS fs clock l)).2 = ((verdictsS fs clock l).filter (shw tm)).map Vd.e := by
  have h0 : SI tm [] Sp.zero := ⟨fun z => by simp [Sp.zero] at z, by simp [Sp.zero], rfl⟩
  have h1 := (SI.walk (clock := clock) hM l h0).resolve (clock := clock) hM 3
  rw [List.nil_append] at h1
  exact h1.out
theorem shw_kept {v : Vd} (h : shw tm v = true) : kept v = true := by
  unfold shw at h
  unfold kept
  simp only [decide_eq_true_eq] at h ⊢
  omega
theorem show_spec (hM : ∀ i, (famAt fs i).1 ≤ 16) {m : List En} (hs : m.Pairwise Ah) (hv : ∀ e ∈ m, Va e) : (showS tm 16 (verdictsS fs clock m)).2 = (m.filter fun x => shw tm (sv fs clock m x)).map (tld m) := by
  rw [show_all hM]
  have e1 : ∀ l : List Vd, l.filter (shw tm) = (l.filter kept).filter (shw tm) := fun l => by
    rw [List.filter_filter]
    apply List.filter_congr
    intro v _
    cases h : shw tm v with
    | false => rfl
    | true => rw [shw_kept h]; rfl
  rw [e1, verdicts_spec hs hv, ← e1, List.filter_map, List.map_map]
  apply List.map_congr_left
  intro x _
  exact sv_e m x
theorem col_max {m : List En} (hs : m.Pairwise Ah) (hx : ∀ e ∈ m, Va e) (e : En) (hm : 0 ≤ (famAt fs e.fam).1) : ((m.filter fun x => decide ((sv fs clock m x).fate = 5) && decide (x.kind ≤ 3) && mates x e).length : Int) ≤ (famAt fs e.fam).1 := by
  obtain ⟨F, hF⟩ : ∃ F, F = m.filter fun x => decide ((sv fs clock m x).fate = 5) && decide (x.kind ≤ 3) && mates x e := ⟨_, rfl⟩
  rw [← hF]
  rcases List.eq_nil_or_concat F with h0 | ⟨G, y, hG⟩
  · rw [h0]; simpa using hm
  · rw [List.concat_eq_append] at hG
    have hsF : F.Pairwise Ah := hF ▸ hs.filter _
    have hyF : y ∈ F := by rw [hG]; simp
    have hy := List.mem_filter.1 (hF ▸ hyF)
    simp only [Bool.and_eq_true, decide_eq_true_eq] at hy
    obtain ⟨ym, ⟨y5, y3⟩, yM⟩ := hy
    have st : ∀ x, (sv fs clock m x).fate = 5 → staysS false 0 (sv fs clock m x) = true := fun x h => by unfold staysS; rw [if_pos h]
    have k3 : ∀ x, x.kind ≤ 3 → (sv fs clock m x).fate = 5 → kd m x ≠ 3 := fun x h3 h5 z => by
      have s := stays_ver h3 (st x h5)
      rw [sv_ver h3 s.1 s.2.1 s.2.2.1, if_pos z] at h5
      cases h5
    have sy := stays_ver y3 (st y y5)
    have hab := sy.2.2.2 (k3 y y3 y5)
    have yf : (famAt fs y.fam).1 = (famAt fs e.fam).1 := by rw [(mates_iff.1 yM).2.1]
    have hle : (G.length : Int) ≤ above fs clock m y := by
      unfold above
      have : G.Sublist (m.filter fun x => counts fs clock m x && mates x y && decide (y.ts < x.ts)) := by
        have hGF : G.Sublist F := by rw [hG]; exact List.sublist_append_left _ _
        have hGm : G.Sublist m := hGF.trans (hF ▸ List.filter_sublist)
        have hGall : ∀ x ∈ G, (counts fs clock m x && mates x y && decide (y.ts < x.ts)) = true := fun x hxG => by
          have hxF : x ∈ F := hGF.subset hxG
          have h1 := List.mem_filter.1 (hF ▸ hxF)
          simp only [Bool.and_eq_true, decide_eq_true_eq] at h1
          obtain ⟨xm, ⟨x5, x3⟩, xM⟩ := h1
          have sx := stays_ver x3 (st x x5)
          have a1 := mates_iff.1 xM
          have a2 := mates_iff.1 yM
          have hxy : Ah x y := by
            rw [hG] at hsF
            exact (List.pairwise_append.1 hsF).2.2 x hxG y (by simp)
          have mm : mates x y = true := mates_iff.2 ⟨a1.1.trans a2.1.symm, a1.2.1.trans a2.2.1.symm, a1.2.2.trans a2.2.2.symm⟩
          have m3 := mates_iff.1 mm
          have t1 := hxy.ts m3.1 m3.2.1 (by omega) m3.2.2 (by omega)
          have t2 : x.ts ≠ y.ts := fun z => by
            have hg : gpE x y = true := gpE_iff.2 ⟨x3, y3, m3.1, m3.2.1, m3.2.2, z⟩
            have := one_decides hs xm ym hg sx.1 sy.1
            subst this
            exact ah_irrefl hxy
          simp only [Bool.and_eq_true, decide_eq_true_eq]
          exact ⟨⟨counts_iff.2 ⟨x3, sx.1, k3 x x3 x5, sx.2.1, sx.2.2.1⟩, mm⟩, by omega⟩
        have := hGm.filter (fun x => counts fs clock m x && mates x y && decide (y.ts < x.ts))
        rwa [List.filter_eq_self.2 hGall] at this
      exact Int.ofNat_le.2 this.length_le
    rw [hG, List.length_append, List.length_singleton]
    omega
end
end Go.Proofs.Ythhkpkfpifllkaa

namespace Go.Proofs.Ythhkpkfpifllkaa
open Go.RowKit
set_option linter.unusedVariables false

def hit (x e : En) : Prop := x.fam = e.fam ∧ x.ts = e.ts ∧ x.seq = e.seq ∧ x.row = e.row ∧ x.qual = e.qual ∧ x.kind = e.kind
theorem alikeS {a b : Value} {xs ys : List Nat} {w : World} (ha : Rd w a xs) (hb : Rd w b ys) : Calls Try.prog 31 #[a, b] w fun e w' => e = .returned (.bool (decide (xs = ys))) ∧ w = w' := Calls.mono (alike_any ha hb) fun e w' h => ⟨h.1, h.2.symm⟩
end Go.Proofs.Ythhkpkfpifllkaa

namespace Go.Proofs.Ythhkpkfpifllkaa
open Go.ChangeShapes Go.WideShapes Go.ChangeAt Go.RowKit
set_option linter.unusedVariables false

theorem own_knob : ownKnob Try.prog.godebug = none := by kernel_rfl
theorem laid_out : laidOutB Try.prog = true := by kernel_rfl
theorem und_int : Try.prog.underlying 3 = some (.int .i64) := by kernel_rfl
theorem und_u64 : Try.prog.underlying 122 = some (.int .u64) := by kernel_rfl
theorem und_bool : Try.prog.underlying 4 = some .bool := by kernel_rfl
theorem cells_byte : Try.prog.cellsOf 5 = 1 := by kernel_rfl
theorem cells_bytes : Try.prog.cellsOf 43 = 1 := by kernel_rfl

theorem bulk_pos {H : Type} (d : DataW H) : 1 ≤ Rows.uptoBulk d := by
  cases d with
  | lit l => cases l <;> simp [Rows.uptoBulk]
  | nil => simp [Rows.uptoBulk]
  | ptr d => simp [Rows.uptoBulk]
  | slice elems spare => simp [Rows.uptoBulk]
  | agg parts => simp [Rows.uptoBulk]
  | iface t d => simp [Rows.uptoBulk]
  | map entries => simp [Rows.uptoBulk]
  | held h => simp [Rows.uptoBulk]
theorem bulk_len {H : Type} (l : List (DataW H)) : l.length ≤ Rows.uptoBulkAll l := by
  induction l with
  | nil => simp [Rows.uptoBulkAll]
  | cons x r ih => have := bulk_pos x; simp only [Rows.uptoBulkAll, List.length_cons]; omega

theorem open_bytes {H : Type} {enc : TypeId × Value → H} {W : World} {v : Value} {d : DataW H} {p : List MemPlace} {base : Nat} {held : Bool} (h : DataW.Trod enc Try.prog W base (fun _ => true) held 43 v d p) (hs : ∃ a n c, v = .slice a n c) :
    ∃ bs : List Nat, (bs.length ≤ 281474976710656 → Rd W v bs) ∧ bs.length + 1 ≤ Rows.uptoBulk d ∧ (bs = [] ∨ ∃ elems spare, d = .slice elems spare ∧ elems.length = bs.length) := by
  obtain ⟨a, n, c, rfl⟩ := hs
  obtain ⟨fuel, hf⟩ := h
  rcases open_ints und_bytes und_byte cells_byte hf with ⟨hcs, hx⟩ | ⟨x, l, c', zs, hcs, _, hl, hm, hz, hx, hcell, hwz⟩
  · simp [Value.cells] at hcs
    obtain ⟨rfl, rfl, rfl⟩ := hcs
    refine ⟨[], fun _ => Rd.nil W, ?_, .inl rfl⟩
    have := bulk_pos d
    simpa using this
  · simp [Value.cells] at hcs
    obtain ⟨rfl, rfl, rfl⟩ := hcs
    simp only [if_true] at hz
    simp only [Prod.mk.injEq] at hx
    obtain ⟨rfl, _⟩ := hx
    have hby : ∀ i, i < zs.length → 0 ≤ zs.getD i 0 ∧ zs.getD i 0 < 256 := by
      intro i hi
      have hmem : zs.getD i 0 ∈ zs := by simp [List.getD, List.getElem?_eq_getElem hi]
      have := bounds_u8 (hwz _ hmem)
      omega
    refine ⟨(zs.take n).map Int.toNat, fun hlen => ⟨?_, some x, c, ?_, ?_, hm, hlen, ?_, ?_⟩, ?_, .inr ⟨_, _, rfl, by simp [lits]⟩⟩
    · intro y hy
      simp only [List.mem_map] at hy
      obtain ⟨z, hz1, rfl⟩ := hy
      have := bounds_u8 (hwz z (List.mem_of_mem_take hz1))
      omega
    · simp; omega
    · simp; omega
    · by_cases hc0 : c = 0
      · exact .inl hc0
      · right
        obtain ⟨b, off, spot⟩ := x
        have hc := hcell 0 (by omega)
        have hspot : spot = none := by simpa [Addr.add] using World.cell?_spot hc
        subst hspot
        exact ⟨b, off, rfl⟩
    · by_cases hn0 : n = 0
      · left; simp [hn0]
      · right
        obtain ⟨b, off, spot⟩ := x
        have hc := hcell 0 (by omega)
        have hspot : spot = none := by simpa [Addr.add] using World.cell?_spot hc
        subst hspot
        refine ⟨b, off, rfl, fun i hi => ?_⟩
        have hin : i < n := by simp at hi; omega
        have hc := hcell i (by omega)
        have e : (⟨b, off, none⟩ : Addr).add i = ⟨b, off + i, none⟩ := by unfold Addr.add; split <;> simp_all
        rw [e] at hc
        rw [hc]
        have hb := hby i (by omega)
        have e2 : ((zs.take n).map Int.toNat).getD i 0 = (zs.getD i 0).toNat := by
          simp [List.getElem?_take_of_lt hin, List.getElem?_eq_getElem (show i < zs.length by omega)]
        rw [e2, Int.toNat_of_nonneg hb.1]
    · have h1 := bulk_len (H := H) (lits .u8 (zs.take n))
      simp only [Rows.uptoBulk]
      simp [lits] at h1 ⊢
      omega

theorem reach_bytes {H : Type} {ts : List TypeId} {ds gs : List (DataW H)} (h : (DataW.weightsEach Try.prog ts (ds ++ gs)).all (fun x => decide (x ≤ reachBytes)) = true) (j : Nat) (ht : ts[j]? = some 43) {d : DataW H} (hd : ds[j]? = some d) {bs : List Nat} (hx : bs = [] ∨ ∃ elems spare, d = .slice elems spare ∧ elems.length = bs.length) : bs.length ≤ 140737488351232 := by
  rcases hx with rfl | ⟨elems, spare, rfl, hl⟩
  · simp
  · have hd2 : (ds ++ gs)[j]? = some (.slice elems spare) := by
      rw [List.getElem?_append_left (List.getElem?_eq_some_iff.1 hd).1]
      exact hd
    have := sized_slice h ht hd2 und_bytes
    rw [show Try.prog.bytesOf 5 = 1 by kernel_rfl] at this
    unfold reachBytes at this
    omega

end Go.Proofs.Ythhkpkfpifllkaa

namespace Go.Proofs.Ythhkpkfpifllkaa
open Go.ChangeShapes Go.WideShapes Go.ChangeAt Go.RowKit
set_option linter.unusedVariables false

set_option maxRecDepth 100000 in
theorem und_entry : Try.prog.underlying 45 = some (.struct #[{ name := "Row", type := 43, offset := 0, embedded := false, tag := "", pkgPath := "", byteOffset := 0 }, { name := "Fam", type := 3, offset := 1, embedded := false, tag := "", pkgPath := "", byteOffset := 24 }, { name := "Qual", type := 43, offset := 2, embedded := false, tag := "", pkgPath := "", byteOffset := 32 }, { name := "Ts", type := 3, offset := 3, embedded := false, tag := "", pkgPath := "", byteOffset := 56 }, { name := "Seq", type := 3, offset := 4, embedded := false, tag := "", pkgPath := "", byteOffset := 64 }, { name := "Kind", type := 3, offset := 5, embedded := false, tag := "", pkgPath := "", byteOffset := 72 }, { name := "Value", type := 43, offset := 6, embedded := false, tag := "", pkgPath := "", byteOffset := 80 }]) := by kernel_rfl
theorem cells_entry : Try.prog.cellsOf 45 = 7 := by kernel_rfl
theorem cells_int : Try.prog.cellsOf 3 = 1 := by kernel_rfl

theorem slice_one {H : Type} {enc : TypeId × Value → H} {W : World} {base fuel : Nat} {held : Bool} {t e : TypeId} {c : Value} {x : DataW H × List MemPlace} (hu : Try.prog.underlying t = some (.slice e)) (h : DataW.trod enc Try.prog W base (fun _ => true) held fuel t [c] = some x) : (∃ a n k, c = .slice a n k) ∧ DataW.Trod enc Try.prog W base (fun _ => true) held t c x.1 x.2 := by
  have hsl : ∃ a n k, c = .slice a n k := by
    rcases DataW.trod_slice hu h with ⟨h0, _⟩ | ⟨a, len, cap, _, _, _, _, h0, _⟩
    · simp at h0; exact ⟨_, _, _, h0⟩
    · simp at h0; exact ⟨_, _, _, h0⟩
  refine ⟨hsl, fuel, ?_⟩
  obtain ⟨a, n, k, rfl⟩ := hsl
  simpa [Value.cells] using h

set_option maxRecDepth 100000 in
theorem open_entry {H : Type} {enc : TypeId × Value → H} {W : World} {base : Nat} {held : Bool} {v : Value} {d : DataW H} {p : List MemPlace} (h0 : DataW.Trod enc Try.prog W base (fun _ => true) held 45 v d p) (hv : ∃ cs, v = .agg cs ∧ cs.size = Try.prog.cellsOf 45) :
    ∃ e : EntD, v = .agg e.cells ∧ ((e.row.length ≤ 281474976710656 ∧ e.qual.length ≤ 281474976710656 ∧ e.val.length ≤ 281474976710656) → EntD.Ok W e) ∧ (e.row.length + e.qual.length + e.val.length + 8 ≤ Rows.uptoBulk d) ∧
      ((d.weights Try.prog 45).all (fun x => decide (x ≤ reachBytes)) = true → e.row.length ≤ 140737488351232 ∧ e.qual.length ≤ 140737488351232 ∧ e.val.length ≤ 140737488351232) := by
  obtain ⟨csA, rfl, hcs⟩ := hv
  obtain ⟨fuel, h⟩ := h0
  obtain ⟨cs⟩ := csA
  simp only [Value.cells] at h
  obtain ⟨xs, n, hx, hdp, hcl, hxl, hf⟩ := DataW.trod_struct und_entry h
  simp only [Prod.mk.injEq] at hdp
  obtain ⟨rfl, rfl⟩ := hdp
  rw [cells_entry] at hcl
  obtain ⟨c0, c1, c2, c3, c4, c5, c6, rfl⟩ : ∃ c0 c1 c2 c3 c4 c5 c6, cs = [c0, c1, c2, c3, c4, c5, c6] := by
    match cs, hcl with
    | [c0, c1, c2, c3, c4, c5, c6], _ => exact ⟨_, _, _, _, _, _, _, rfl⟩
  obtain ⟨x0, x1, x2, x3, x4, x5, x6, rfl⟩ : ∃ x0 x1 x2 x3 x4 x5 x6, xs = [x0, x1, x2, x3, x4, x5, x6] := by
    match xs, hxl with
    | [c0, c1, c2, c3, c4, c5, c6], _ => exact ⟨_, _, _, _, _, _, _, rfl⟩
  have f0 := hf 0 _ rfl
  have f1 := hf 1 _ rfl
  have f2 := hf 2 _ rfl
  have f3 := hf 3 _ rfl
  have f4 := hf 4 _ rfl
  have f5 := hf 5 _ rfl
  have f6 := hf 6 _ rfl
  simp [cells_int, cells_bytes] at f0 f1 f2 f3 f4 f5 f6
  obtain ⟨n1, e1, b1, w1⟩ := DataW.trod_int und_int f1
  obtain ⟨n3, e3, b3, w3⟩ := DataW.trod_int und_int f3
  obtain ⟨n4, e4, b4, w4⟩ := DataW.trod_int und_int f4
  obtain ⟨n5, e5, b5, w5⟩ := DataW.trod_int und_int f5
  simp at e1 e3 e4 e5
  subst e1 e3 e4 e5
  obtain ⟨s0, t0⟩ := slice_one und_bytes f0
  obtain ⟨s2, t2⟩ := slice_one und_bytes f2
  obtain ⟨s6, t6⟩ := slice_one und_bytes f6
  obtain ⟨row, hr, hrl, hrd⟩ := open_bytes t0 s0
  obtain ⟨qual, hq, hql, hqd⟩ := open_bytes t2 s2
  obtain ⟨val, hw, hwl, hwd⟩ := open_bytes t6 s6
  refine ⟨⟨c0, n1, c2, n3, n4, n5, c6, row, qual, val⟩, rfl, fun h => ⟨hr h.1, hq h.2.1, hw h.2.2⟩, ?_, fun hs => ?_⟩
  · have q1 := bulk_pos x1.1
    have q3 := bulk_pos x3.1
    have q4 := bulk_pos x4.1
    have q5 := bulk_pos x5.1
    simp only [Rows.uptoBulk, List.map_cons, List.map_nil, Rows.uptoBulkAll]
    omega
  · have hs2 : (DataW.weightsEach Try.prog [43, 3, 43, 3, 3, 3, 43] ([x0.1, x1.1, x2.1, x3.1, x4.1, x5.1, x6.1] ++ [])).all (fun x => decide (x ≤ reachBytes)) = true := by
      simp only [DataW.weights, und_entry] at hs
      simpa using hs
    exact ⟨reach_bytes hs2 0 rfl rfl hrd, reach_bytes hs2 2 rfl rfl hqd, reach_bytes hs2 6 rfl rfl hwd⟩

theorem weight_at {H : Type} : ∀ {ts : List TypeId} {ds : List (DataW H)} (h : (DataW.weightsEach Try.prog ts ds).all (fun x => decide (x ≤ reachBytes)) = true) (j : Nat) {t : TypeId} {d : DataW H} (ht : ts[j]? = some t) (hd : ds[j]? = some d), (d.weights Try.prog t).all (fun x => decide (x ≤ reachBytes)) = true
  | [], _, _, j, _, _, ht, _ => by simp at ht
  | _ :: _, [], _, j, _, _, _, hd => by simp at hd
  | t :: ts, d :: ds, h, 0, _, _, ht, hd => by
    simp only [List.getElem?_cons_zero, Option.some.injEq] at ht hd
    subst ht hd
    simp only [DataW.weightsEach, List.all_append, Bool.and_eq_true] at h
    exact h.1
  | t :: ts, d :: ds, h, j + 1, _, _, ht, hd => by
    simp only [DataW.weightsEach, List.all_append, Bool.and_eq_true] at h
    exact weight_at h.2 j (by simpa using ht) (by simpa using hd)

end Go.Proofs.Ythhkpkfpifllkaa

namespace Go.Proofs.Ythhkpkfpifllkaa
open Go.ChangeShapes Go.WideShapes Go.ChangeAt Go.RowKit
set_option linter.unusedVariables false

theorem und_ents : Try.prog.underlying 25 = some (.slice 45) := by kernel_rfl
def RdE3 (W : World) (v : Value) (xs : List EntD) : Prop := ∃ a c, v = .slice a xs.length c ∧ RdL3 W a c xs ∧ xs.length ≤ 1353245080300

theorem weight_allE {H : Type} {e : TypeId} : ∀ {ds : List (DataW H)} (h : (DataW.weightsAll Try.prog e ds).all (fun x => decide (x ≤ reachBytes)) = true) {d : DataW H} (hd : d ∈ ds), (d.weights Try.prog e).all (fun x => decide (x ≤ reachBytes)) = true
  | [], _, _, hd => by cases hd
  | x :: ds, h, d, hd => by
    simp only [DataW.weightsAll, List.all_append, Bool.and_eq_true] at h
    rcases List.mem_cons.1 hd with rfl | hd
    · exact h.1
    · exact weight_allE h.2 hd

set_option maxRecDepth 100000 in
theorem open_entc {H : Type} {enc : TypeId × Value → H} {W : World} {base fuel : Nat} {held : Bool} {cs : List Value} {x : DataW H × List MemPlace} (h : DataW.trod enc Try.prog W base (fun _ => true) held fuel 45 cs = some x) (hl : cs.length = 7) (hk : (x.1.weights Try.prog 45).all (fun x => decide (x ≤ reachBytes)) = true) :
    ∃ e : EntD, cs = e.cells.toList ∧ EntD.Ok W e := by
  obtain ⟨d, p⟩ := x
  obtain ⟨e, h1, h2, _, h4⟩ := open_entry (v := .agg cs.toArray) (d := d) (p := p) ⟨fuel, by simpa [Value.cells] using h⟩ ⟨cs.toArray, rfl, by rw [cells_entry]; simpa using hl⟩
  have h5 := h4 hk
  refine ⟨e, ?_, h2 ⟨by omega, by omega, by omega⟩⟩
  have : cs.toArray = e.cells := by injection h1
  rw [← this]

set_option maxRecDepth 100000 in
theorem open_ents {H : Type} {enc : TypeId × Value → H} {W : World} {base : Nat} {held : Bool} {v : Value} {d : DataW H} {p : List MemPlace} (h0 : DataW.Trod enc Try.prog W base (fun _ => true) held 25 v d p) (hv : ∃ a n c, v = .slice a n c)
    (hk : (d.weights Try.prog 25).all (fun x => decide (x ≤ reachBytes)) = true) :
    ∃ xs, RdE3 W v xs := by
  obtain ⟨a, n, c, rfl⟩ := hv
  obtain ⟨fuel2, hf2⟩ := h0
  have hs2 : (DataW.weightsEach Try.prog [25] ([d] ++ [])).all (fun x => decide (x ≤ reachBytes)) = true := by
    simpa [DataW.weightsEach] using hk
  rcases Deep.open_slice und_ents hf2 with ⟨hcs, hx⟩ | ⟨x, l, c', m, k, D, Pl, hcs, _, hl, hm, hmm, hx, hel⟩
  · simp [Value.cells] at hcs
    obtain ⟨rfl, rfl, rfl⟩ := hcs
    exact ⟨[], none, 0, rfl, ⟨⟨Nat.le_refl _, Nat.zero_le _⟩, .inl rfl, fun x hx => by cases hx⟩, by simp⟩
  · simp [Value.cells] at hcs
    obtain ⟨rfl, rfl, rfl⟩ := hcs
    simp only [if_true] at hmm
    simp only [Prod.mk.injEq] at hx
    obtain ⟨hx1, _⟩ := hx
    have hn : n ≤ 1353245080300 := by
      rw [hx1] at hs2
      have := sized_slice hs2 (j := 0) (t := 25) rfl rfl und_ents
      rw [show Try.prog.bytesOf 45 = 104 by kernel_rfl] at this
      simp at this
      unfold reachBytes at this
      omega
    have hwt : ∀ j, j < n → ((D j).weights Try.prog 45).all (fun x => decide (x ≤ reachBytes)) = true := by
      intro j hj
      rw [hx1] at hk
      simp only [DataW.weights, und_ents, List.all_cons, List.all_append, Bool.and_eq_true] at hk
      exact weight_allE hk.2.1 (by simp only [List.mem_map, List.mem_range]; exact ⟨j, hj, rfl⟩)
    rw [cells_entry] at hel
    have hop : ∀ i, i < n → ∃ e : EntD, (∀ j y, e.cells.toList[j]? = some y → W.cell? ((x.add (i * 7)).add j) = some y) ∧ EntD.Ok W e := by
      intro i hi
      obtain ⟨cs', hc1, hc2⟩ := hel i (by omega)
      obtain ⟨_, hlen, hget⟩ := World.cells?_some hc1
      obtain ⟨e, rfl, hok⟩ := open_entc hc2 hlen (hwt i hi)
      refine ⟨e, fun j y hj => ?_, hok⟩
      have hj7 : j < 7 := by
        have := (List.getElem?_eq_some_iff.1 hj).1
        simpa [EntD.cells] using this
      rw [hget j hj7]
      exact hj
    have build : ∀ q, q ≤ n → ∃ fs : List EntD, fs.length = q ∧ ∀ i f, fs[i]? = some f → (∀ j y, f.cells.toList[j]? = some y → W.cell? ((x.add (i * 7)).add j) = some y) ∧ EntD.Ok W f := by
      intro q
      induction q with
      | zero => intro _; exact ⟨[], rfl, fun i o h => by simp at h⟩
      | succ q ih =>
        intro hq
        obtain ⟨os, hol, hos⟩ := ih (by omega)
        obtain ⟨o, ho⟩ := hop q (by omega)
        refine ⟨os ++ [o], by simp [hol], fun i o' h => ?_⟩
        by_cases hi : i < os.length
        · rw [List.getElem?_append_left hi] at h
          exact hos i o' h
        · rw [List.getElem?_append_right (by omega)] at h
          have hi2 : i = q := by
            by_cases h9 : i - os.length = 0
            · omega
            · rw [List.getElem?_eq_none (by simp; omega)] at h; cases h
          subst hi2
          rw [hol, Nat.sub_self] at h
          simp at h
          subst h
          exact ho
    obtain ⟨fs, hol, hos⟩ := build n (Nat.le_refl _)
    refine ⟨fs, some x, c, by rw [hol], ⟨⟨by omega, hm⟩, ?_, fun f hf => ?_⟩, by omega⟩
    · by_cases h0 : fs = []
      · exact .inl h0
      · have hin : 0 < fs.length := List.length_pos_iff.2 h0
        obtain ⟨b, off, spot⟩ := x
        obtain ⟨o, hc, _⟩ := hop 0 (by omega)
        have hc0 := hc 0 _ rfl
        have hspot : spot = none := by simpa [Addr.add] using World.cell?_spot hc0
        subst hspot
        have e : ∀ q r : Nat, ((⟨b, q, none⟩ : Addr).add r) = ⟨b, q + r, none⟩ := fun q r => by unfold Addr.add; split <;> simp_all
        refine .inr ⟨b, off, rfl, fun i f hi j u hj => ?_⟩
        have := (hos i f hi).1 j u hj
        rw [e, e] at this
        exact this
    · obtain ⟨i, hi⟩ := List.getElem?_of_mem hf
      exact (hos i f hi).2
end Go.Proofs.Ythhkpkfpifllkaa

namespace Go.Proofs.Ythhkpkfpifllkaa
open Go.RowKit
set_option linter.unusedVariables false

theorem famAt_mt {fs : List FamD} (h : SchemaOk fs) (i : Int) : (famAt (mt fs) i).1 ≤ 16 := by
  unfold famAt mt
  rw [List.getD_eq_getElem?_getD, List.getElem?_map]
  cases hf : fs[i.toNat]? with
  | none => simp
  | some f => simpa using (h.2 i.toNat f hf).1.2.1.2
section
variable {W : World} {cap fc : Nat} {a fa : Option Addr} {fs : List FamD} {l : List EntD}
def visE (C : Nat) (fs : List FamD) (clock : Int) (l : List EntD) : Int := readE C fs clock 1099511627776 16 l
theorem vis_zero {C : Nat} {clock : Int} (hz : visE C fs clock l = 0) : C = 0 ∧ inOrderE (check3S fs.length) l = 0 := by
  unfold visE readE at hz
  by_cases y : readerS C clock 1099511627776 16 = 0
  · rw [if_neg (by simpa using y)] at hz
    refine ⟨?_, hz⟩
    unfold readerS at y
    by_cases b : boundsS C [clock, 1099511627776] = 0
    · unfold boundsS at b
      by_cases c : C = 0
      · exact c
      · rw [if_pos c] at b; omega
    · rw [if_pos b] at y; exact absurd y b
  · rw [if_pos y] at hz; exact absurd hz y
theorem vis_good (hr : RdF W (.slice fa fs.length fc) fs) (hn : fa = none → fc = 0) (C : Nat) (hC : (C = 0 ↔ SchemaOk fs) ∧ (C = 0 ∨ C = 28)) (clock : Int) (h0 : RdL3 W a cap l) (hl : l.length ≤ 1353245080300) (hE : visE C fs clock l = 0) :
    Calls Try.prog 7 #[.agg #[.slice fa fs.length fc], .int .i64 clock, .slice a l.length cap] W fun r W' => Below W.heap.size W W' ∧ ∃ (zs : List EntD) (m : List En) (a' : Option Addr) (c' : Nat), IsOrd fs.length (l.map EntD.dat) m ∧ r = .returned (.tuple #[.slice a' zs.length c', .int .i64 0]) ∧ RdL3 W' a' c' zs ∧ zs.map EntD.dat = (m.filter fun x => shw 1099511627776 (sv (mt fs) clock m x)).map (tld m) ∧ zs.length ≤ l.length := by
  refine Calls.mono (vis_any sort_ok hr hn C hC clock h0 hl) ?_
  rintro r W' ⟨h1, h2, h3⟩
  obtain ⟨xs, ys, zs, v, O, k1, k2, k3, k4, k5, k6⟩ := h3 hE
  obtain ⟨hc0, hi⟩ := vis_zero hE
  have ho := isOrd_of hi k1 k2 k3
  have e6 : zs.map EntD.dat = _ := k6.trans (show_spec (fun i => famAt_mt (hC.1.1 hc0) i) ho.ah ho.va)
  obtain ⟨a', c', hv, _, hrd⟩ := k5.rdl (fun x hx => by
    have : x.dat ∈ zs.map EntD.dat := List.mem_map_of_mem hx
    rw [e6] at this
    obtain ⟨y, hy, e⟩ := List.mem_map.1 this
    rw [← e]
    exact tld_by _ (h0.by y ((ho.mem y).1 (List.mem_filter.1 hy).1)))
  refine ⟨h1, zs, _, a', c', ho, by rw [k4, hv], hrd, e6, ?_⟩
  have e : zs.length = ((ys.map EntD.dat).filter fun x => shw 1099511627776 (sv (mt fs) clock (ys.map EntD.dat) x)).length := by
    have := congrArg List.length e6
    simpa using this
  rw [e]
  refine Nat.le_trans (List.length_filter_le _ _) ?_
  rw [List.length_map, k2.length_eq]
  exact onceS_len k1
theorem vis_bad (hr : RdF W (.slice fa fs.length fc) fs) (hn : fa = none → fc = 0) (C : Nat) (hC : (C = 0 ↔ SchemaOk fs) ∧ (C = 0 ∨ C = 28)) (clock : Int) (h0 : RdL3 W a cap l) (hl : l.length ≤ 1353245080300) (hE : visE C fs clock l ≠ 0) :
    Calls Try.prog 7 #[.agg #[.slice fa fs.length fc], .int .i64 clock, .slice a l.length cap] W fun r W' => Below W.heap.size W W' ∧ r = .returned (.tuple #[.slice none 0 0, .int .i64 (visE C fs clock l)]) := by
  refine Calls.mono (vis_any sort_ok hr hn C hC clock h0 hl) ?_
  rintro r W' ⟨h1, h2, h3⟩
  exact ⟨h1, h2 hE⟩
end
end Go.Proofs.Ythhkpkfpifllkaa

namespace Go.Proofs.Ythhkpkfpifllkaa
open Go.RowKit
set_option linter.unusedVariables false

section
variable {fs : List (Int × Int)} {clock low : Int} {m : List En}
theorem major_five {x : En} (h3 : x.kind ≤ 3) (hp : staysS true low (sv fs clock m x) = true) : (sv fs clock m x).fate = 5 := by
  have s := stays_ver h3 hp
  rw [sv_ver h3 s.1 s.2.1 s.2.2.1] at hp ⊢
  by_cases k : kd m x = 3
  · rw [if_pos k] at hp; simp [staysS] at hp
  · rw [if_neg k] at hp ⊢
    by_cases z : (famAt fs x.fam).1 < above fs clock m x + 1
    · rw [if_pos z] at hp; simp [staysS] at hp
    · rw [if_neg z]
theorem five_stays {x : En} (h : (sv fs clock m x).fate = 5) (major : Bool) : staysS major low (sv fs clock m x) = true := by unfold staysS; rw [if_pos h]
theorem five_kd {x : En} (h3 : x.kind ≤ 3) (h : (sv fs clock m x).fate = 5) : kd m x ≠ 3 ∧ (tld m x).kind = kd m x := by
  have s := stays_ver h3 (five_stays (low := 0) h true)
  refine ⟨fun k => ?_, by rw [tld_ver h3 s.1]⟩
  rw [sv_ver h3 s.1 s.2.1 s.2.2.1, if_pos k] at h
  cases h
theorem mark_seven {x : En} (h4 : 4 ≤ x.kind) : (sv fs clock m x).fate ≠ 5 := by
  rw [sv_mark h4]
  split <;> simp
theorem collects_kind (hv : ∀ e ∈ m, Va e) {z : En} (hz : z ∈ leftL fs clock m true low) : z.kind ≠ 3 ∧ (z.kind = 2 → z.val = []) ∧ (4 ≤ z.kind → low < z.ts) := by
  obtain ⟨x, hx, hp, rfl⟩ := left_mem.1 hz
  have v := tld_va m (hv x hx)
  refine ⟨fun k => ?_, fun k => v.val (by omega), fun k => ?_⟩
  · obtain ⟨_, _, _, _, _, _, a7⟩ := tld_eq m x
    have h3 : x.kind ≤ 3 := by omega
    have := five_kd h3 (major_five h3 hp)
    omega
  · obtain ⟨_, _, _, a4, _, _, a7⟩ := tld_eq m x
    have h4 : 4 ≤ x.kind := by omega
    have hsh := stays_mark h4 hp
    rw [sv_mark h4, hsh] at hp
    simp [staysS] at hp
    rw [a4]
    exact hp
theorem shw_iff (hts : ∀ e ∈ m, e.ts ≤ 1099511627776) {x : En} (hx : x ∈ m) : shw 1099511627776 (sv fs clock m x) = (staysS true low (sv fs clock m x) && decide ((tld m x).kind = 1)) := by
  obtain ⟨_, _, _, a4, _, _, a7⟩ := tld_eq m x
  rw [Bool.eq_iff_iff]
  unfold shw
  simp only [Bool.and_eq_true, decide_eq_true_eq, sv_e]
  constructor
  · rintro ⟨h5, k, _⟩
    exact ⟨five_stays h5 true, k⟩
  · rintro ⟨hp, k⟩
    have h3 : x.kind ≤ 3 := by omega
    exact ⟨major_five h3 hp, k, by rw [a4]; exact hts x hx⟩
theorem collects_puts (hts : ∀ e ∈ m, e.ts ≤ 1099511627776) : (leftL fs clock m true low).filter (fun z => decide (z.kind = 1)) = (m.filter fun x => shw 1099511627776 (sv fs clock m x)).map (tld m) := by
  unfold leftL
  rw [List.filter_map, List.filter_filter]
  congr 1
  apply List.filter_congr
  intro x hx
  rw [shw_iff (low := low) hts hx, Bool.and_comm]
  rfl
theorem collects_col (hs : m.Pairwise Ah) (hv : ∀ e ∈ m, Va e) (z : En) (hm : 0 ≤ (famAt fs z.fam).1) : (((leftL fs clock m true low).filter fun y => decide (y.kind ≤ 2) && mates y z).length : Int) ≤ (famAt fs z.fam).1 := by
  refine Int.le_trans ?_ (col_max hs hv z hm (clock := clock))
  unfold leftL
  rw [List.filter_map, List.length_map, List.filter_filter, ← List.countP_eq_length_filter, ← List.countP_eq_length_filter]
  refine Int.ofNat_le.2 (List.countP_mono_left fun x hx hp => ?_)
  simp only [Function.comp, Bool.and_eq_true, decide_eq_true_eq] at hp ⊢
  obtain ⟨⟨k, mt⟩, hp⟩ := hp
  obtain ⟨a1, a2, a3, a4, _, _, a7⟩ := tld_eq m x
  have h3 : x.kind ≤ 3 := by omega
  have mm := mates_iff.1 mt
  exact ⟨⟨major_five h3 hp, h3⟩, mates_iff.2 ⟨a1 ▸ mm.1, a2 ▸ mm.2.1, a3 ▸ mm.2.2⟩⟩
end
end Go.Proofs.Ythhkpkfpifllkaa

namespace Go.Proofs.Ythhkpkfpifllkaa
open Go.RowKit
set_option linter.unusedVariables false

structure CF (fs : List FamD) (low : Int) (zs vs : List EntD) (x : EntD) : Prop where
  f0 : 0 ≤ x.fam
  fK : x.fam < fs.length
  k1 : 1 ≤ x.kind
  k5 : x.kind ≤ 5
  k3 : x.kind ≠ 3
  v2 : x.kind = 2 → x.val = []
  t4 : 4 ≤ x.kind → low < x.ts
  put : x.kind = 1 → ∃ y ∈ vs, hit y.dat x.dat
  col : ((zs.filter fun y => decide (y.kind ≤ 2) && mates y.dat x.dat).length : Int) ≤ (famAt (mt fs) x.fam).1
theorem famAt_nn {fs : List FamD} (h : SchemaOk fs) (i : Int) : 0 ≤ (famAt (mt fs) i).1 := by
  unfold famAt mt
  rw [List.getD_eq_getElem?_getD, List.getElem?_map]
  cases hf : fs[i.toNat]? with
  | none => simp
  | some f =>
    have := (h.2 i.toNat f hf).1.2.1.1
    simp
    omega
theorem filter_dat (zs : List EntD) (P : En → Bool) : (zs.filter fun y => P y.dat).map EntD.dat = (zs.map EntD.dat).filter P := by
  rw [List.filter_map]
  rfl
theorem cf_of {fs : List FamD} {clock low : Int} {l zs vs : List EntD} {m : List En} (hC : SchemaOk fs) (ho : IsOrd fs.length (l.map EntD.dat) m) (dz : zs.map EntD.dat = outS true low (verdictsS (mt fs) clock m)) (dv : vs.map EntD.dat = (m.filter fun x => shw 1099511627776 (sv (mt fs) clock m x)).map (tld m)) :
    (∀ x ∈ zs, CF fs low zs vs x) ∧ (zs.filter fun y => decide (y.kind = 1)).length = vs.length := by
  have hL := ho.left (fs := mt fs) (clock := clock) (low := low) true
  have e0 : zs.map EntD.dat = leftL (mt fs) clock m true low := dz.trans (out_tld ho.ah ho.va true low)
  have hts : ∀ e ∈ m, e.ts ≤ 1099511627776 := fun e he => by
    have := (check_zero.1 (ho.ck e he)).1.2.2.2.1
    simp only [EntD.ofEn] at this
    omega
  have hp := collects_puts (fs := mt fs) (clock := clock) (low := low) hts
  rw [← dv, ← e0, ← filter_dat] at hp
  refine ⟨fun x hx => ?_, ?_⟩
  · have xm : x.dat ∈ zs.map EntD.dat := List.mem_map_of_mem hx
    have xL : x.dat ∈ leftL (mt fs) clock m true low := e0 ▸ xm
    have ck := check_zero.1 (hL.ck x.dat (dz ▸ xm))
    simp only [EntD.ofEn, EntD.dat] at ck
    have kk := collects_kind ho.va xL
    refine ⟨?_, ?_, ?_, ?_, kk.1, kk.2.1, kk.2.2, fun z => ?_, ?_⟩
    · have := ck.1.2.1; omega
    · have := ck.2; omega
    · have := ck.1.2.2.2.2.2.1; omega
    · have := ck.1.2.2.2.2.2.1; omega
    · have : x ∈ zs.filter fun y => decide (y.kind = 1) := List.mem_filter.2 ⟨hx, by simpa using z⟩
      have hm : x.dat ∈ vs.map EntD.dat := by
        rw [← hp]
        exact List.mem_map_of_mem this
      obtain ⟨y, hy, e⟩ := List.mem_map.1 hm
      exact ⟨y, hy, by rw [e]; exact ⟨rfl, rfl, rfl, rfl, rfl, rfl⟩⟩
    · have := collects_col (low := low) ho.ah ho.va x.dat (famAt_nn hC x.fam) (clock := clock)
      rw [← e0, ← filter_dat, List.length_map] at this
      exact this
  · have := congrArg List.length hp
    rw [List.length_map, List.length_map] at this
    exact this
end Go.Proofs.Ythhkpkfpifllkaa
