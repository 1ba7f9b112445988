import Derived.Test.YtieehdhinponcaaJ11
import Derived.Test.YtieehdhinponcaaBQ2
import Derived.OpenShut
import Derived.Test.YtieehdhinponcaaJ00
import Derived.Test.YtieehdhinponcaaChecked
namespace Go.Proofs.Ytieehdhinponcaa
open Go.ChangeShapes Go.WideShapes Go.ChangeAt Go.RowKit
set_option linter.unusedVariables false

theorem und_triple : Try.prog.underlying 49 = some (.array 3 3) := by kernel_rfl
theorem und_triples : Try.prog.underlying 43 = some (.slice 49) := by kernel_rfl
theorem cells_triple : Try.prog.cellsOf 49 = 3 := by kernel_rfl

/-- A call that came in, by itself. -/
theorem open_ask1 {H : Type} {enc : TypeId × Value → H} {W : World} {base : Nat} {held : Bool} {v : Value} {d : DataW H} {p : List MemPlace} (h0 : DataW.Trod enc Try.prog W base (fun _ => true) held 42 v d p) (hv : ∃ cs, v = .agg cs ∧ cs.size = Try.prog.cellsOf 42) (hk : (d.weights Try.prog 42).all (fun x => decide (x ≤ reachBytes)) = true) :
    ∃ o : AskD, v = .agg #[.int .i64 o.k, .int .i64 o.n, o.vk, o.vf, o.vg] ∧ AskD.Ok W o := by
  obtain ⟨csA, rfl, hcs⟩ := hv
  obtain ⟨fuel, h⟩ := h0
  obtain ⟨cs⟩ := csA
  simp only [Value.cells] at h
  obtain ⟨o, e, hok⟩ := open_ask h hk
  refine ⟨o, ?_, hok⟩
  subst e
  rfl
theorem open_triple {H : Type} {enc : TypeId × Value → H} {W : World} {base fuel : Nat} {held : Bool} {cs : List Value} {x : DataW H × List MemPlace} (h : DataW.trod enc Try.prog W base (fun _ => true) held fuel 49 cs = some x) :
    ∃ t : Int × Int × Int, cs = [.int .i64 t.1, .int .i64 t.2.1, .int .i64 t.2.2] ∧ (-9223372036854775808 ≤ t.1 ∧ t.1 ≤ 9223372036854775807) ∧ (-9223372036854775808 ≤ t.2.1 ∧ t.2.1 ≤ 9223372036854775807) ∧ (-9223372036854775808 ≤ t.2.2 ∧ t.2.2 ≤ 9223372036854775807) := by
  obtain ⟨xs, n, _, _, hcl, hxl, hf⟩ := DataW.trod_array und_triple h
  rw [cells_triple] at hcl
  obtain ⟨c0, c1, c2, rfl⟩ : ∃ c0 c1 c2, cs = [c0, c1, c2] := by
    match cs, hcl with
    | [c0, c1, c2], _ => exact ⟨_, _, _, rfl⟩
  obtain ⟨x0, x1, x2, rfl⟩ : ∃ x0 x1 x2, xs = [x0, x1, x2] := by
    match xs, hxl with
    | [c0, c1, c2], _ => exact ⟨_, _, _, rfl⟩
  have f0 := hf 0 (by decide)
  have f1 := hf 1 (by decide)
  have f2 := hf 2 (by decide)
  simp [cells_int] at f0 f1 f2
  obtain ⟨n0, e0, _, w0⟩ := DataW.trod_int und_int f0
  obtain ⟨n1, e1, _, w1⟩ := DataW.trod_int und_int f1
  obtain ⟨n2, e2, _, w2⟩ := DataW.trod_int und_int f2
  simp at e0 e1 e2
  subst e0 e1 e2
  have b0 := bounds_i64 w0
  have b1 := bounds_i64 w1
  have b2 := bounds_i64 w2
  exact ⟨(n0, n1, n2), rfl, b0, b1, b2⟩

set_option maxRecDepth 100000 in
/-- Triples that came in. -/
theorem open_triples {H : Type} {enc : TypeId × Value → H} {W : World} {v : Value} {d : DataW H} {p : List MemPlace} {base : Nat} {held : Bool} (h : DataW.Trod enc Try.prog W base (fun _ => true) held 43 v d p) (hs : ∃ a n c, v = .slice a n c) (hk : (d.weights Try.prog 43).all (fun x => decide (x ≤ reachBytes)) = true) :
    ∃ ts : List (Int × Int × Int), RdT W v ts := by
  obtain ⟨a, n, c, rfl⟩ := hs
  obtain ⟨fuel, hf⟩ := h
  rcases Deep.open_slice und_triples hf with ⟨hcs, hx⟩ | ⟨x, l, c', m, k, D, Pl, hcs, _, hl, hm, hmm, hx, hel⟩
  · simp [Value.cells] at hcs
    obtain ⟨rfl, rfl, rfl⟩ := hcs
    exact ⟨[], by simp, none, 0, rfl, .inl rfl⟩
  · simp [Value.cells] at hcs
    obtain ⟨rfl, rfl, rfl⟩ := hcs
    simp only [if_true] at hmm
    simp only [Prod.mk.injEq] at hx
    obtain ⟨hx1, _⟩ := hx
    have hn : n ≤ 281474976710656 := by
      have hs2 : (DataW.weightsEach Try.prog [43] ([d] ++ [])).all (fun x => decide (x ≤ reachBytes)) = true := by simpa [DataW.weightsEach] using hk
      rw [hx1] at hs2
      have := sized_slice hs2 (j := 0) (t := 43) rfl rfl und_triples
      rw [show Try.prog.bytesOf 49 = 24 by kernel_rfl] at this
      simp at this
      unfold reachBytes at this
      omega
    rw [cells_triple] at hel
    have hop : ∀ i, i < n → ∃ t : Int × Int × Int, (∀ j y, ([.int .i64 t.1, .int .i64 t.2.1, .int .i64 t.2.2] : List Value)[j]? = some y → W.cell? ((x.add (i * 3)).add j) = some y) ∧ (-9223372036854775808 ≤ t.1 ∧ t.1 ≤ 9223372036854775807) ∧ (-9223372036854775808 ≤ t.2.1 ∧ t.2.1 ≤ 9223372036854775807) ∧ (-9223372036854775808 ≤ t.2.2 ∧ t.2.2 ≤ 9223372036854775807) := by
      intro i hi
      obtain ⟨cs', hc1, hc2⟩ := hel i (by omega)
      obtain ⟨t, rfl, hok⟩ := open_triple hc2
      refine ⟨t, fun j y hj => ?_, hok⟩
      obtain ⟨_, hlen, hget⟩ := World.cells?_some hc1
      have hj3 : j < 3 := by
        have := (List.getElem?_eq_some_iff.1 hj).1
        simpa using this
      rw [hget j hj3]
      exact hj
    have build : ∀ q, q ≤ n → ∃ ts : List (Int × Int × Int), ts.length = q ∧ ∀ i t, ts[i]? = some t → (∀ j y, ([.int .i64 t.1, .int .i64 t.2.1, .int .i64 t.2.2] : List Value)[j]? = some y → W.cell? ((x.add (i * 3)).add j) = some y) ∧ (-9223372036854775808 ≤ t.1 ∧ t.1 ≤ 9223372036854775807) ∧ (-9223372036854775808 ≤ t.2.1 ∧ t.2.1 ≤ 9223372036854775807) ∧ (-9223372036854775808 ≤ t.2.2 ∧ t.2.2 ≤ 9223372036854775807) := by
      intro q
      induction q with
      | zero => intro _; exact ⟨[], rfl, fun i o h => by simp at h⟩
      | succ q ih =>
        intro hq
        obtain ⟨os, hol, hos⟩ := ih (by omega)
        obtain ⟨o, ho⟩ := hop q (by omega)
        refine ⟨os ++ [o], by simp [hol], fun i o' h => ?_⟩
        by_cases hi : i < os.length
        · rw [List.getElem?_append_left hi] at h
          exact hos i o' h
        · rw [List.getElem?_append_right (by omega)] at h
          have hi2 : i = q := by
            by_cases h9 : i - os.length = 0
            · omega
            · rw [List.getElem?_eq_none (by simp; omega)] at h; cases h
          subst hi2
          rw [hol, Nat.sub_self] at h
          simp at h
          subst h
          exact ho
    obtain ⟨os, hol, hos⟩ := build n (Nat.le_refl _)
    refine ⟨os, by omega, some x, c, by rw [hol], ?_⟩
    by_cases hn0 : n = 0
    · left; exact List.eq_nil_of_length_eq_zero (by omega)
    · right
      obtain ⟨b, off, spot⟩ := x
      obtain ⟨o, hc, _⟩ := hop 0 (by omega)
      have hc0 := hc 0 _ rfl
      have hspot : spot = none := by simpa [Addr.add] using World.cell?_spot hc0
      subst hspot
      have e : ∀ q r : Nat, ((⟨b, q, none⟩ : Addr).add r) = ⟨b, q + r, none⟩ := fun q r => by unfold Addr.add; split <;> simp_all
      refine ⟨b, off, rfl, fun i t hi => ?_⟩
      obtain ⟨h1, h2⟩ := hos i t hi
      have c0 := h1 0 _ rfl
      have c1 := h1 1 _ rfl
      have c2 := h1 2 _ rfl
      rw [e, e] at c0 c1 c2
      exact ⟨c0, c1, c2, h2⟩
end Go.Proofs.Ytieehdhinponcaa

namespace Go.Proofs.Ytieehdhinponcaa.bloomLentRow
open Go.ChangeShapes Go.WideShapes Go.ChangeAt Go.RowKit
set_option linter.unusedVariables false

set_option maxRecDepth 100000 in
theorem contract (H : Type) (enc : TypeId × Value → H) (W : World) (base : Nat) (args : Array Value) (ds gs : List (DataW H)) (before : List MemPlace)
    (hval0 : ∀ (j : Nat) t v, Try.f8.params[j]? = some t → args[j]? = some v → Value.okWide Try.prog W .any base t v)
    (hW : DataW.Whole enc Try.prog Try.f8.params.toList Rows.bloomLentSpec.vars false W args.toList ds gs before) (hsz : (DataW.weightsEach Try.prog (Try.f8.params.toList ++ DataSpec.varTypes Try.prog (OpenSpec.ofChange Rows.bloomLentSpec).bare.plain) (ds ++ gs)).all (fun x => decide (x ≤ reachBytes)) = true) :
    Calls Try.prog 8 args W fun e W' => ∃ v, e = .returned v ∧ Rows.bloomLentSpec.post enc Try.prog Try.f8 false true false false W args v W' := by
  have hW' := hW
  obtain ⟨p, q, hA0, hV, rfl, hfz, hnd⟩ := hW
  have hA : DataW.TrodAll enc Try.prog W 0 (fun _ => true) true Try.f8.params.toList args.toList ds p := hA0
  have hval := hval0
  rw [Try.params8] at hA hval
  obtain ⟨v0, vs0, d0, ds0, p0, q0, hargs, rfl, rfl, h0, r0⟩ := trodAll_cons hA
  obtain ⟨v1, vs1, d1, ds1, p1, q1, rfl, rfl, rfl, h1, r1⟩ := trodAll_cons r0
  obtain ⟨rfl, rfl, rfl⟩ := trodAll_nil r1
  obtain rfl : args = #[v0, v1] := by cases args; simp_all
  obtain ⟨rfl, rfl⟩ := trodVars_none hV
  have hsz2 : (DataW.weightsEach Try.prog [42, 43] ([d0, d1] ++ [])).all (fun x => decide (x ≤ reachBytes)) = true := by
    have e : Try.f8.params.toList ++ DataSpec.varTypes Try.prog (OpenSpec.ofChange Rows.bloomLentSpec).bare.plain = [42, 43] := by kernel_rfl
    rw [e] at hsz
    exact hsz
  have s0 := okWide_struct und_ask (hval 0 42 v0 rfl rfl)
  have k0 := h0
  have lt0 : ∀ x ∈ p0, x.block < W.heap.size := by obtain ⟨m, hm⟩ := k0; exact DataW.trod_lt m _ _ _ hm
  obtain ⟨x0, rfl, rd0⟩ := open_ask1 h0 s0 (weight_atP hsz2 0 rfl rfl)
  have s1 := okWide_slice und_triples (hval 1 43 v1 rfl rfl)
  have k1 := h1
  have lt1 : ∀ x ∈ p1, x.block < W.heap.size := by obtain ⟨m, hm⟩ := k1; exact DataW.trod_lt m _ _ _ hm
  obtain ⟨x1, rd1⟩ := open_triples h1 s1 (weight_atP hsz2 1 rfl rfl)
  clear hA0 hval0
  refine (lent_walk rd0.1 rd0.2.1 rd0.2.2.1 rd0.2.2.2.1 rd0.2.2.2.2.1 rd0.2.2.2.2.2.2.2.1 rd0.2.2.2.2.2.2.2.2 rd1).mono fun e W' ⟨he, bel⟩ => ?_
  subst he
  exact ⟨_, rfl, _, _, _, [], _, [], hW', trodAll_mk1 (shut_bool und_bool _), (trodAll_cons_mk (Below.trod laid_out (by kernel_rfl) (of_decide_eq_true (by kernel_rfl)) k0 bel lt0) (trodAll_cons_mk (Below.trod laid_out (by kernel_rfl) (of_decide_eq_true (by kernel_rfl)) k1 bel lt1) trodAll_mk0)), rfl, bel.frame _, fun h => by cases h⟩

theorem laid_met (os : Os) : laidMet Try.prog Rows.bloomLentRow.laid ((World.holding Try.prog os ⟨#[], #[], []⟩ : World).forCall (fun _ _ => 0) ⟨#[], #[.agg #[.int .i64 0, .int .i64 0, .slice none 0 0, .slice none 0 0, .slice none 0 0], .slice none 0 0], []⟩).memory :=
  laidMet_of_run' 8 (by kernel_rfl) (by kernel_rfl)
theorem reads (os : Os) {H : Type} (enc : TypeId × Value → H) : ∃ places, DataW.whole enc Try.prog ((World.holding Try.prog os ⟨#[], #[], []⟩ : World).forCall (fun _ _ => 0) ⟨#[], #[.agg #[.int .i64 0, .int .i64 0, .slice none 0 0, .slice none 0 0, .slice none 0 0], .slice none 0 0], []⟩).memory Try.f8.params.toList Rows.bloomLentSpec.vars false (#[.agg #[.int .i64 0, .int .i64 0, .slice none 0 0, .slice none 0 0, .slice none 0 0], .slice none 0 0] : Array Value).toList 8 = some ([.agg [.lit (.int .i64 0), .lit (.int .i64 0), .nil, .nil, .nil], .nil], [], places) :=
  ⟨[], by kernel_rfl⟩

set_option maxRecDepth 100000 in
theorem lifted (os : Os) (started : os.Started) (H : Type) (enc : TypeId × Value → H) (F : Stop.Interp) :
    ReturnsInHanded {} Try.checked os 8 .any ((OpenSpec.ofChange Rows.bloomLentSpec).preRow enc Try.prog Try.f8 Rows.bloomLentRow.domain false Rows.bloomLentRow.laid) (((OpenSpec.ofChange Rows.bloomLentSpec).at F).post enc Try.prog Try.f8 false true false false) := by
  obtain ⟨places, hx⟩ := reads os enc
  refine returnsInHanded_of_row (C := Try.checked) (s := OpenSpec.ofChange Rows.bloomLentSpec) own_knob started (by kernel_rfl) Try.func8
    (witness_row_at (enc := enc) (C := Try.checked) false (World.holding Try.prog os ⟨#[], #[], []⟩) #[.agg #[.int .i64 0, .int .i64 0, .slice none 0 0, .slice none 0 0, .slice none 0 0], .slice none 0 0] rfl (by kernel_rfl) (by kernel_rfl) (by kernel_rfl)
      (OpenSpec.preRow_of_cond 8 hx (by kernel_rfl) (fun k hk => by cases hk) (by kernel_rfl) (laid_met os))) ?_
  intro W base args ds gs before hval hW _ hcond hsz hL _ _
  exact contract H enc W base args ds gs before hval hW hsz

end Go.Proofs.Ytieehdhinponcaa.bloomLentRow
namespace Go.Proofs.Ytieehdhinponcaa
open Go.ChangeShapes Go.WideShapes Go.ChangeAt Go.RowKit

theorem bloomLent_holds : Rows.BloomLentSaid :=
  OpenClaim.holds_of_cond 8 Try.f8 rfl rfl rfl rfl rfl rfl rfl ⟨rfl, rfl, rfl, rfl, rfl⟩ rfl rfl rfl rfl rfl (by kernel_rfl) Try.func8 (by kernel_rfl)
    (of_decide_eq_true (by kernel_rfl)) (by unfold Func.isWrapper; first | (rw [if_pos (by decide +kernel)]; kernel_rfl) | (rw [if_neg (by decide +kernel)]; exact ⟨rfl, rfl⟩))
    (fun os started H enc _ F => by rw [OpenClaim.pre_eq_preRow]; exact bloomLentRow.lifted os started H enc F)
#print axioms bloomLent_holds
end Go.Proofs.Ytieehdhinponcaa
