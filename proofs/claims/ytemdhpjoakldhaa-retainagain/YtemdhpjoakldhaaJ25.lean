import Derived.Test.YtemdhpjoakldhaaJ24
import Derived.Test.YtemdhpjoakldhaaJ09
import Derived.Test.YtemdhpjoakldhaaChecked
namespace Go.Proofs.Ytemdhpjoakldhaa
open Go.RowKit
set_option linter.unusedVariables false

theorem mu_self {m2 : Bool} {low : Int} : ∀ v, staysS m2 low v = true → staysS m2 low v = true := fun _ h => h
theorem mu_minor {low : Int} : ∀ v, staysS true low v = true → staysS false low v = true := fun v h => by
  unfold staysS at h ⊢
  by_cases h5 : v.fate = 5
  · simp [h5]
  · by_cases h6 : v.fate = 6
    · simp [h6]
    · by_cases h7 : v.fate = 7
      · simp [h7]
      · simp [h5, h6, h7] at h
set_option maxRecDepth 100000 in
set_option maxHeartbeats 4000000 in
theorem retainAgain_walk {W : World} {fa : Option Addr} {n fc : Nat} {fs : List FamD} (hr : RdF W (.slice fa n fc) fs) (hn : fa = none → fc = 0) (clock low : Int) {v : Value} {l : List EntD} (h0 : RdE3 W v l) :
    Calls Try.prog 5 #[.agg #[.slice fa n fc], .int .i64 clock, .int .i64 low, v] W fun e w' => e = .returned (.bool true) ∧ Below W.heap.size W w' := by
  obtain ⟨a, cap, rfl, h0, hl⟩ := h0
  obtain ⟨C, hC⟩ : ∃ C : Nat, (C = 0 ↔ SchemaOk fs) ∧ (C = 0 ∨ C = 28) := by
    by_cases h : SchemaOk fs
    · exact ⟨0, ⟨fun _ => h, fun _ => rfl⟩, .inl rfl⟩
    · exact ⟨28, ⟨(fun z => by cases z), fun z => absurd z h⟩, .inr rfl⟩
  obtain rfl : n = fs.length := by
    obtain ⟨_, _, e, _⟩ := hr
    simp only [Value.slice.injEq] at e
    exact e.2.1
  have HR := Lib.hid hr
  have H0 := Lib.hid h0
  have HC := Lib.hid hC
  clear hr h0 hC
  obtain ⟨N, hN⟩ : ∃ N, N = l.length := ⟨_, rfl⟩
  obtain ⟨K, hK⟩ : ∃ K, K = fs.length := ⟨_, rfl⟩
  have HL : Hid (l.length ≤ 1353245080300) := hl
  rw [← hN, ← hK]
  obtain ⟨X0, hX0⟩ : ∃ X0, X0 = W.alloc (.cells #[.slice fa K fc] 24) := ⟨_, rfl⟩
  have A1 : Below W.heap.size W X0 := by rw [hX0]; exact (Below.refl _ _).alloc (Nat.le_refl _) _
  have hcell : X0.cell? ⟨W.heap.size, 0, none⟩ = some (.slice fa K fc) := by rw [hX0]; exact cell_at9 (heap_new9 _ _ rfl) rfl
  have HCell : Hid (∀ Z, Below X0.heap.size X0 Z → Z.cell? ⟨W.heap.size, 0, none⟩ = some (.slice fa K fc)) := fun Z b => (b.cell (p := ⟨W.heap.size, 0, none⟩) (World.block_lt_of_cell? _ _ hcell)).trans hcell
  have HA1 := Lib.hid A1
  have HX0 := Lib.hid hX0
  clear hX0 A1 hcell
  have HG := Lib.hid (fun (Z : World) (b : Below X0.heap.size X0 Z) major (hE : squashE C fs clock low l = 0) => squash_good (HR.out.later (HA1.out.trans (b.mono HA1.out.size))) hn C HC.out clock low major (H0.out.later (HA1.out.trans (b.mono HA1.out.size))) HL.out hE)
  have HBd := Lib.hid (fun (Z : World) (b : Below X0.heap.size X0 Z) major (hE : squashE C fs clock low l ≠ 0) => squash_bad (HR.out.later (HA1.out.trans (b.mono HA1.out.size))) hn C HC.out clock low major (H0.out.later (HA1.out.trans (b.mono HA1.out.size))) HL.out hE)
  rw [← hN, ← hK] at HG HBd
  have HK := Lib.hid hK
  have HL2 : Hid (N ≤ 1353245080300) := by unfold Hid; rw [hN]; exact HL.out
  clear hl hN hK
  go_enter Try.func5, Try.ntmps5
  go_wp2_with fail
  rw [← HX0.out]
  refine Calls.mono (started3 _) ?_
  rintro e1 w1 ⟨rfl, b1⟩
  have B1 := Lib.hid b1
  have s1 := HCell.out _ b1
  clear b1
  by_cases hE : squashE C fs clock low l = 0
  · have HE := Lib.hid hE
    clear hE
    go_wp2_with fail
    refine Calls.mono (HG.out _ B1.out false HE.out) ?_
    rintro e1 w2 ⟨b2, zs, m, a2, c2, ho, rfl, rd2, dz, ln2⟩
    rw [HK.out] at ho
    have B2 := Lib.hid (B1.out.trans (b2.mono B1.out.size))
    have s2 := HCell.out _ B2.out
    have F2 := Lib.hid (And.intro ho (And.intro rd2 (And.intro dz ln2)))
    clear b2 ho rd2 dz ln2
    go_wp2_with fail
    refine Calls.mono (HG.out _ B2.out true HE.out) ?_
    rintro e1 w3 ⟨b3, ys, m', a3, c3, ho3, rfl, rd3, dy, ln3⟩
    rw [HK.out] at ho3
    have em := ho3.unique F2.out.1
    subst em
    have B3 := Lib.hid (B2.out.trans (b3.mono B2.out.size))
    have s3 := HCell.out _ B3.out
    have F3 := Lib.hid (And.intro (F2.out.2.1.later b3) (And.intro rd3 (And.intro dy ln3)))
    clear b3 ho3 rd3 dy ln3
    have HZ := Lib.hid (fun (Z : World) (b : Below w3.heap.size w3 Z) major => squash_good (HR.out.later (HA1.out.trans ((B3.out.trans (b.mono B3.out.size)).mono HA1.out.size))) hn C HC.out clock low major (F3.out.1.later b) (Nat.le_trans F2.out.2.2.2 HL2.out) (squashE_left HE.out F2.out.1 F2.out.2.2.1))
    have HY := Lib.hid (fun (Z : World) (b : Below w3.heap.size w3 Z) major => squash_good (HR.out.later (HA1.out.trans ((B3.out.trans (b.mono B3.out.size)).mono HA1.out.size))) hn C HC.out clock low major (F3.out.2.1.later b) (Nat.le_trans F3.out.2.2.2 HL2.out) (squashE_left HE.out F2.out.1 F3.out.2.2.1))
    rw [← HK.out] at HZ HY
    go_wp2_with (go_at_call 15; refine (num_sym _ _).mono ?_; rintro e1 wn ⟨rfl, rfl⟩)
    refine Calls.mono (HZ.out _ (Below.refl _ _) false) ?_
    rintro e1 w4 ⟨b4, cs, mc, a4, c4, ho4, rfl, rd4, dc, ln4⟩
    rw [HK.out] at ho4
    have ec : cs.map EntD.dat = zs.map EntD.dat := by rw [dc, left_ord F2.out.1 F2.out.2.2.1 ho4, again F2.out.1.ah F2.out.1.va mu_self, F2.out.2.2.1]
    have B4 := Lib.hid b4
    have s4 := HCell.out _ (B3.out.trans (b4.mono B3.out.size))
    have F4 := Lib.hid (And.intro rd4 (And.intro ec ln4))
    clear b4 ho4 rd4 dc ln4 ec
    go_wp2_with fail
    refine Calls.mono (HZ.out _ B4.out true) ?_
    rintro e1 w5 ⟨b5, ds, md, a5, c5, ho5, rfl, rd5, dd, ln5⟩
    rw [HK.out] at ho5
    have ed : ds.map EntD.dat = ys.map EntD.dat := by rw [dd, left_ord F2.out.1 F2.out.2.2.1 ho5, again F2.out.1.ah F2.out.1.va mu_minor, F3.out.2.2.1]
    have B5 := Lib.hid (B4.out.trans (b5.mono B4.out.size))
    have s5 := HCell.out _ (B3.out.trans (B5.out.mono B3.out.size))
    have F5 := Lib.hid (And.intro rd5 (And.intro ed (And.intro ln5 b5)))
    clear b5 ho5 rd5 dd ln5 ed
    go_wp2_with fail
    refine Calls.mono (HY.out _ B5.out true) ?_
    rintro e1 w6 ⟨b6, xs, mx, a6, c6, ho6, rfl, rd6, dx, ln6⟩
    rw [HK.out] at ho6
    have ex : xs.map EntD.dat = ys.map EntD.dat := by rw [dx, left_ord F2.out.1 F3.out.2.2.1 ho6, again F2.out.1.ah F2.out.1.va mu_self, F3.out.2.2.1]
    have B6 := Lib.hid (B5.out.trans (b6.mono B5.out.size))
    have HS1 : Hid (∀ Z, Below w6.heap.size w6 Z → Calls Try.prog 17 #[.slice a4 cs.length c4, .slice a2 zs.length c2] Z fun e w' => e = .returned (.bool true) ∧ Below Z.heap.size Z w') := fun Z b => sameAll_ok (((F4.out.1.later F5.out.2.2.2).later b6).later b) ((F3.out.1.later B6.out).later b) F4.out.2.1 (Nat.le_trans F4.out.2.2 (Nat.le_trans F2.out.2.2.2 HL2.out))
    have HS2 : Hid (∀ Z, Below w6.heap.size w6 Z → Calls Try.prog 17 #[.slice a5 ds.length c5, .slice a3 ys.length c3] Z fun e w' => e = .returned (.bool true) ∧ Below Z.heap.size Z w') := fun Z b => sameAll_ok ((F5.out.1.later b6).later b) ((F3.out.2.1.later B6.out).later b) F5.out.2.1 (Nat.le_trans F5.out.2.2.1 (Nat.le_trans F2.out.2.2.2 HL2.out))
    have HS3 : Hid (∀ Z, Below w6.heap.size w6 Z → Calls Try.prog 17 #[.slice a6 xs.length c6, .slice a3 ys.length c3] Z fun e w' => e = .returned (.bool true) ∧ Below Z.heap.size Z w') := fun Z b => sameAll_ok (rd6.later b) ((F3.out.2.1.later B6.out).later b) ex (Nat.le_trans ln6 (Nat.le_trans F3.out.2.2.2 HL2.out))
    have KW := Lib.hid (HA1.out.trans ((B3.out.trans (B6.out.mono B3.out.size)).mono HA1.out.size))
    have T0 : Below w6.heap.size w6 w6 := Below.refl _ _
    clear b6 ho6 rd6 dx ln6 ex F2 F3 F4 F5 B1 B2 B3 B4 B5 B6 s1 s2 s3 s4 s5 HZ HY HG HBd HE
    go_wp2_with (first | (go_at_call 15; refine (num_sym _ _).mono ?_; rintro e1 wn ⟨rfl, rfl⟩) | (have hq := T2; clear hq; (go_at_call 17; refine Calls.mono (HS3.out _ T2) ?_; rintro e1 z3 ⟨rfl, t3⟩; have T3 := T2.trans (t3.mono T2.size))) | (have hq := T1; clear hq; (go_at_call 17; refine Calls.mono (HS2.out _ T1) ?_; rintro e1 z2 ⟨rfl, t2⟩; have T2 := T1.trans (t2.mono T1.size))) | (go_at_call 17; refine Calls.mono (HS1.out _ T0) ?_; rintro e1 z1 ⟨rfl, t1⟩; have T1 := T0.trans (t1.mono T0.size)))
    go_ret
    exact ⟨rfl, KW.out.trans (T3.mono KW.out.size)⟩
  · have HE := Lib.hid hE
    go_wp2_with fail
    refine Calls.mono (HBd.out _ B1.out false hE) ?_
    rintro e1 w2 ⟨b2, rfl⟩
    have B2 := Lib.hid (B1.out.trans (b2.mono B1.out.size))
    have s2 := HCell.out _ B2.out
    clear b2
    go_wp2_with fail
    refine Calls.mono (HBd.out _ B2.out true HE.out) ?_
    rintro e1 w3 ⟨b3, rfl⟩
    have B3 := Lib.hid (HA1.out.trans ((B2.out.trans (b3.mono B2.out.size)).mono HA1.out.size))
    have b0 : (squashE C fs clock low l != 0) = true := by simpa using hE
    clear b3 hE
    go_wp2_with (go_at_call 15; refine (num_sym _ _).mono ?_; rintro e1 wn ⟨rfl, rfl⟩)
    go_ret
    exact ⟨rfl, B3.out⟩
end Go.Proofs.Ytemdhpjoakldhaa

namespace Go.Proofs.Ytemdhpjoakldhaa
open Go.ChangeShapes Go.WideShapes Go.ChangeAt Go.RowKit
set_option linter.unusedVariables false

set_option maxRecDepth 100000 in
theorem und_family : Try.prog.underlying 47 = some (.struct #[{ name := "Name", type := 9, offset := 0, embedded := false, tag := "", pkgPath := "", byteOffset := 0 }, { name := "Max", type := 3, offset := 1, embedded := false, tag := "", pkgPath := "", byteOffset := 16 }, { name := "TTL", type := 3, offset := 2, embedded := false, tag := "", pkgPath := "", byteOffset := 24 }]) := by kernel_rfl
theorem und_schema : Try.prog.underlying 24 = some (.struct #[{ name := "Fams", type := 22, offset := 0, embedded := false, tag := "", pkgPath := "", byteOffset := 0 }]) := by kernel_rfl
theorem und_families : Try.prog.underlying 22 = some (.slice 47) := by kernel_rfl
theorem cells_family : Try.prog.cellsOf 47 = 3 := by kernel_rfl
theorem cells_families : Try.prog.cellsOf 22 = 1 := by kernel_rfl
theorem cells_schema : Try.prog.cellsOf 24 = 1 := by kernel_rfl
theorem cells_string : Try.prog.cellsOf 9 = 1 := by kernel_rfl

set_option maxRecDepth 100000 in
theorem open_family {H : Type} {enc : TypeId × Value → H} {W : World} {base fuel : Nat} {held : Bool} {cs : List Value} {x : DataW H × List MemPlace} (h : DataW.trod enc Try.prog W base (fun _ => true) held fuel 47 cs = some x) :
    ∃ f : FamD, cs = [.string f.nm, .int .i64 f.mx, .int .i64 f.tl] := by
  obtain ⟨xs, n, rfl, rfl, hcl, hxl, hf⟩ := DataW.trod_struct und_family h
  rw [cells_family] at hcl
  obtain ⟨c0, c1, c2, rfl⟩ : ∃ c0 c1 c2, cs = [c0, c1, c2] := by
    match cs, hcl with
    | [c0, c1, c2], _ => exact ⟨_, _, _, rfl⟩
  obtain ⟨x0, x1, x2, rfl⟩ : ∃ x0 x1 x2, xs = [x0, x1, x2] := by
    match xs, hxl with
    | [c0, c1, c2], _ => exact ⟨_, _, _, rfl⟩
  have f0 := hf 0 _ rfl
  have f1 := hf 1 _ rfl
  have f2 := hf 2 _ rfl
  simp [cells_int, cells_string] at f0 f1 f2
  obtain ⟨n1, e1, _, w1⟩ := DataW.trod_int und_int f1
  obtain ⟨n2, e2, _, w2⟩ := DataW.trod_int und_int f2
  obtain ⟨s0, e0, _, w0⟩ := DataW.trod_string und_string f0
  simp at e0 e1 e2
  subst e0 e1 e2
  exact ⟨⟨s0, n1, n2⟩, rfl⟩

set_option maxRecDepth 100000 in
/-- A schema that came in. -/
theorem open_schema {H : Type} {enc : TypeId × Value → H} {W : World} {base : Nat} {held : Bool} {v : Value} {d : DataW H} {p : List MemPlace} (h0 : DataW.Trod enc Try.prog W base (fun _ => true) held 24 v d p) (hv : ∃ cs, v = .agg cs ∧ cs.size = Try.prog.cellsOf 24)
    (hs : (d.weights Try.prog 24).all (fun x => decide (x ≤ reachBytes)) = true) :
    ∃ a n c fs, v = .agg #[.slice a n c] ∧ (a = none → c = 0) ∧ RdF W (.slice a n c) fs := by
  obtain ⟨csA, rfl, hcs⟩ := hv
  obtain ⟨fuel, h⟩ := h0
  obtain ⟨cs⟩ := csA
  simp only [Value.cells] at h
  obtain ⟨xs, n, hx, hdp, hcl, hxl, hf⟩ := DataW.trod_struct und_schema h
  simp only [Prod.mk.injEq] at hdp
  obtain ⟨rfl, rfl⟩ := hdp
  rw [cells_schema] at hcl
  obtain ⟨c0, rfl⟩ : ∃ c0, cs = [c0] := by
    match cs, hcl with
    | [c0], _ => exact ⟨_, rfl⟩
  obtain ⟨x0, rfl⟩ : ∃ x0, xs = [x0] := by
    match xs, hxl with
    | [c0], _ => exact ⟨_, rfl⟩
  have f0 := hf 0 _ rfl
  simp [cells_families] at f0
  obtain ⟨⟨a, n, c, rfl⟩, t0⟩ := slice_one und_families f0
  have hs2 : (DataW.weightsEach Try.prog [22] ([x0.1] ++ [])).all (fun x => decide (x ≤ reachBytes)) = true := by
    simp only [DataW.weights, und_schema] at hs
    simpa using hs
  obtain ⟨fuel2, hf2⟩ := t0
  rcases Deep.open_slice und_families hf2 with ⟨hcs, hx⟩ | ⟨x, l, c', m, k, D, Pl, hcs, _, hl, hm, hmm, hx, hel⟩
  · simp [Value.cells] at hcs
    obtain ⟨rfl, rfl, rfl⟩ := hcs
    exact ⟨none, 0, 0, [], rfl, fun _ => rfl, none, 0, rfl, by simp, by decide, by simp, .inl rfl⟩
  · simp [Value.cells] at hcs
    obtain ⟨rfl, rfl, rfl⟩ := hcs
    simp only [if_true] at hmm
    simp only [Prod.mk.injEq] at hx
    obtain ⟨hx1, _⟩ := hx
    have hn : n ≤ 281474976710656 := by
      rw [hx1] at hs2
      have := sized_slice hs2 (j := 0) (t := 22) rfl rfl und_families
      rw [show Try.prog.bytesOf 47 = 32 by kernel_rfl] at this
      simp at this
      unfold reachBytes at this
      omega
    rw [cells_family] at hel
    have hop : ∀ i, i < n → ∃ f : FamD, W.cell? ((x.add (i * 3)).add 0) = some (.string f.nm) ∧ W.cell? ((x.add (i * 3)).add 1) = some (.int .i64 f.mx) ∧ W.cell? ((x.add (i * 3)).add 2) = some (.int .i64 f.tl) := by
      intro i hi
      obtain ⟨cs', hc1, hc2⟩ := hel i (by omega)
      obtain ⟨f, rfl⟩ := open_family hc2
      obtain ⟨_, hlen, hget⟩ := World.cells?_some hc1
      exact ⟨f, by rw [hget 0 (by omega)]; rfl, by rw [hget 1 (by omega)]; rfl, by rw [hget 2 (by omega)]; rfl⟩
    have build : ∀ q, q ≤ n → ∃ fs : List FamD, fs.length = q ∧ ∀ i f, fs[i]? = some f → W.cell? ((x.add (i * 3)).add 0) = some (.string f.nm) ∧ W.cell? ((x.add (i * 3)).add 1) = some (.int .i64 f.mx) ∧ W.cell? ((x.add (i * 3)).add 2) = some (.int .i64 f.tl) := by
      intro q
      induction q with
      | zero => intro _; exact ⟨[], rfl, fun i o h => by simp at h⟩
      | succ q ih =>
        intro hq
        obtain ⟨os, hol, hos⟩ := ih (by omega)
        obtain ⟨o, ho⟩ := hop q (by omega)
        refine ⟨os ++ [o], by simp [hol], fun i o' h => ?_⟩
        by_cases hi : i < os.length
        · rw [List.getElem?_append_left hi] at h
          exact hos i o' h
        · rw [List.getElem?_append_right (by omega)] at h
          have hi2 : i = q := by
            by_cases h9 : i - os.length = 0
            · omega
            · rw [List.getElem?_eq_none (by simp; omega)] at h; cases h
          subst hi2
          rw [hol, Nat.sub_self] at h
          simp at h
          subst h
          exact ho
    obtain ⟨fs, hol, hos⟩ := build n (Nat.le_refl _)
    refine ⟨some x, n, c, fs, rfl, fun h => (by cases h), some x, c, by rw [hol], by omega, hm, by omega, ?_⟩
    by_cases hn0 : n = 0
    · left; exact List.eq_nil_of_length_eq_zero (by omega)
    · right
      obtain ⟨b, off, spot⟩ := x
      obtain ⟨o, hc0, _⟩ := (hop 0 (by omega))
      have hspot : spot = none := by simpa [Addr.add] using World.cell?_spot hc0
      subst hspot
      refine ⟨b, off, rfl, fun i f hi => ?_⟩
      have := hos i f hi
      have e : ∀ q r : Nat, ((⟨b, q, none⟩ : Addr).add r) = ⟨b, q + r, none⟩ := fun q r => by unfold Addr.add; split <;> simp_all
      simp only [e] at this
      simpa using this

end Go.Proofs.Ytemdhpjoakldhaa

namespace Go.Proofs.Ytemdhpjoakldhaa.retainAgainRow
open Go.ChangeShapes Go.WideShapes Go.ChangeAt Go.RowKit
set_option linter.unusedVariables false

set_option maxRecDepth 100000 in
theorem contract (H : Type) (enc : TypeId × Value → H) (W : World) (base : Nat) (args : Array Value) (ds gs : List (DataW H)) (before : List MemPlace)
    (hval0 : ∀ (j : Nat) t v, Try.f5.params[j]? = some t → args[j]? = some v → Value.okWide Try.prog W .any base t v)
    (hW : DataW.Whole enc Try.prog Try.f5.params.toList Rows.retainAgainSpec.vars false W args.toList ds gs before) (hsz : (DataW.weightsEach Try.prog (Try.f5.params.toList ++ DataSpec.varTypes Try.prog (OpenSpec.ofChange Rows.retainAgainSpec).bare.plain) (ds ++ gs)).all (fun x => decide (x ≤ reachBytes)) = true) :
    Calls Try.prog 5 args W fun e W' => ∃ v, e = .returned v ∧ Rows.retainAgainSpec.post enc Try.prog Try.f5 false true false false W args v W' := by
  have hW' := hW
  obtain ⟨p, q, hA0, hV, rfl, hfz, hnd⟩ := hW
  have hA : DataW.TrodAll enc Try.prog W 0 (fun _ => true) true Try.f5.params.toList args.toList ds p := hA0
  have hval := hval0
  rw [Try.params5] at hA hval
  obtain ⟨v0, vs0, d0, ds0, p0, q0, hargs, rfl, rfl, h0, r0⟩ := trodAll_cons hA
  obtain ⟨v1, vs1, d1, ds1, p1, q1, rfl, rfl, rfl, h1, r1⟩ := trodAll_cons r0
  obtain ⟨v2, vs2, d2, ds2, p2, q2, rfl, rfl, rfl, h2, r2⟩ := trodAll_cons r1
  obtain ⟨v3, vs3, d3, ds3, p3, q3, rfl, rfl, rfl, h3, r3⟩ := trodAll_cons r2
  obtain ⟨rfl, rfl, rfl⟩ := trodAll_nil r3
  obtain rfl : args = #[v0, v1, v2, v3] := by cases args; simp_all
  obtain ⟨rfl, rfl⟩ := trodVars_none hV
  have hsz2 : (DataW.weightsEach Try.prog [24, 3, 3, 25] ([d0, d1, d2, d3] ++ [])).all (fun x => decide (x ≤ reachBytes)) = true := by
    have e : Try.f5.params.toList ++ DataSpec.varTypes Try.prog (OpenSpec.ofChange Rows.retainAgainSpec).bare.plain = [24, 3, 3, 25] := by kernel_rfl
    rw [e] at hsz
    exact hsz
  have s0 := okWide_struct und_schema (hval 0 24 v0 rfl rfl)
  have k0 := h0
  have lt0 : ∀ x ∈ p0, x.block < W.heap.size := by obtain ⟨m, hm⟩ := k0; exact DataW.trod_lt m _ _ _ hm
  obtain ⟨a0, n0, c0, x0, rfl, nn0, rd0⟩ := open_schema h0 s0 (weight_at hsz2 0 rfl rfl)
  obtain ⟨x1, rfl, rfl, rfl, wf1⟩ := open_int und_int (hval 1 3 v1 rfl rfl) h1
  obtain ⟨x2, rfl, rfl, rfl, wf2⟩ := open_int und_int (hval 2 3 v2 rfl rfl) h2
  have s3 := okWide_slice und_ents (hval 3 25 v3 rfl rfl)
  have k3 := h3
  have lt3 : ∀ x ∈ p3, x.block < W.heap.size := by obtain ⟨m, hm⟩ := k3; exact DataW.trod_lt m _ _ _ hm
  obtain ⟨x3, rd3⟩ := open_ents h3 s3 (weight_at hsz2 3 rfl rfl)
  clear hA0 hval0
  refine (retainAgain_walk rd0 nn0 x1 x2 rd3).mono fun e W' ⟨he, bel⟩ => ?_
  subst he
  exact ⟨_, rfl, _, _, _, [], _, [], hW', trodAll_mk1 (shut_bool und_bool _), (trodAll_cons_mk (Below.trod laid_out (by kernel_rfl) (of_decide_eq_true (by kernel_rfl)) k0 bel lt0) (trodAll_cons_mk (shut_int und_int wf1) (trodAll_cons_mk (shut_int und_int wf2) (trodAll_cons_mk (Below.trod laid_out (by kernel_rfl) (of_decide_eq_true (by kernel_rfl)) k3 bel lt3) trodAll_mk0)))), rfl, bel.frame _, fun h => by cases h⟩

theorem laid_met (os : Os) : laidMet Try.prog Rows.retainAgainRow.laid ((World.holding Try.prog os ⟨#[], #[], []⟩ : World).forCall (fun _ _ => 0) ⟨#[], #[.agg #[.slice none 0 0], .int .i64 0, .int .i64 0, .slice none 0 0], []⟩).memory :=
  laidMet_of_run' 8 (by kernel_rfl) (by kernel_rfl)
theorem reads (os : Os) {H : Type} (enc : TypeId × Value → H) : ∃ places, DataW.whole enc Try.prog ((World.holding Try.prog os ⟨#[], #[], []⟩ : World).forCall (fun _ _ => 0) ⟨#[], #[.agg #[.slice none 0 0], .int .i64 0, .int .i64 0, .slice none 0 0], []⟩).memory Try.f5.params.toList Rows.retainAgainSpec.vars false (#[.agg #[.slice none 0 0], .int .i64 0, .int .i64 0, .slice none 0 0] : Array Value).toList 8 = some ([.agg [.nil], .lit (.int .i64 0), .lit (.int .i64 0), .nil], [], places) :=
  ⟨[], by kernel_rfl⟩

set_option maxRecDepth 100000 in
theorem lifted (os : Os) (started : os.Started) (H : Type) (enc : TypeId × Value → H) (F : Stop.Interp) :
    ReturnsInHanded {} Try.checked os 5 .any ((OpenSpec.ofChange Rows.retainAgainSpec).preRow enc Try.prog Try.f5 Rows.retainAgainRow.domain false Rows.retainAgainRow.laid) (((OpenSpec.ofChange Rows.retainAgainSpec).at F).post enc Try.prog Try.f5 false true false false) := by
  obtain ⟨places, hx⟩ := reads os enc
  refine returnsInHanded_of_row (C := Try.checked) (s := OpenSpec.ofChange Rows.retainAgainSpec) own_knob started (by kernel_rfl) Try.func5
    (witness_row_at (enc := enc) (C := Try.checked) false (World.holding Try.prog os ⟨#[], #[], []⟩) #[.agg #[.slice none 0 0], .int .i64 0, .int .i64 0, .slice none 0 0] rfl (by kernel_rfl) (by kernel_rfl) (by kernel_rfl)
      (OpenSpec.preRow_of_cond 8 hx (by kernel_rfl) (fun k hk => by cases hk) (by kernel_rfl) (laid_met os))) ?_
  intro W base args ds gs before hval hW _ hcond hsz hL _ _
  exact contract H enc W base args ds gs before hval hW hsz

end Go.Proofs.Ytemdhpjoakldhaa.retainAgainRow
namespace Go.Proofs.Ytemdhpjoakldhaa
open Go.ChangeShapes Go.WideShapes Go.ChangeAt Go.RowKit

theorem retainAgain_holds : Rows.RetainAgainSaid :=
  OpenClaim.holds_of_cond 5 Try.f5 rfl rfl rfl rfl rfl rfl rfl ⟨rfl, rfl, rfl, rfl, rfl⟩ rfl rfl rfl rfl rfl (by kernel_rfl) Try.func5 (by kernel_rfl)
    (of_decide_eq_true (by kernel_rfl)) (by unfold Func.isWrapper; first | (rw [if_pos (by decide +kernel)]; kernel_rfl) | (rw [if_neg (by decide +kernel)]; exact ⟨rfl, rfl⟩))
    (fun os started H enc _ F => by rw [OpenClaim.pre_eq_preRow]; exact retainAgainRow.lifted os started H enc F)
#print axioms retainAgain_holds
end Go.Proofs.Ytemdhpjoakldhaa
