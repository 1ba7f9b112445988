import Derived.Test.YtiiencopchpajaaOpenEnt
import Derived.Test.YtiiencopchpajaaSch3
namespace Go.Proofs.Ytiiencopchpajaa
open Go.ChangeShapes Go.WideShapes Go.ChangeAt Go.RowKit
set_option linter.unusedVariables false

set_option maxRecDepth 100000 in
theorem und_family : Try.prog.underlying 27 = some (.struct #[{ name := "Name", type := 9, offset := 0, embedded := false, tag := "", pkgPath := "", byteOffset := 0 }, { name := "Max", type := 3, offset := 1, embedded := false, tag := "", pkgPath := "", byteOffset := 16 }, { name := "TTL", type := 3, offset := 2, embedded := false, tag := "", pkgPath := "", byteOffset := 24 }]) := by kernel_rfl
theorem und_schema : Try.prog.underlying 24 = some (.struct #[{ name := "Fams", type := 22, offset := 0, embedded := false, tag := "", pkgPath := "", byteOffset := 0 }]) := by kernel_rfl
theorem und_families : Try.prog.underlying 22 = some (.slice 27) := by kernel_rfl
theorem cells_family : Try.prog.cellsOf 27 = 3 := by kernel_rfl
theorem cells_families : Try.prog.cellsOf 22 = 1 := by kernel_rfl
theorem cells_schema : Try.prog.cellsOf 24 = 1 := by kernel_rfl
theorem cells_string : Try.prog.cellsOf 9 = 1 := by kernel_rfl

set_option maxRecDepth 100000 in
theorem open_family {H : Type} {enc : TypeId × Value → H} {W : World} {base fuel : Nat} {held : Bool} {cs : List Value} {x : DataW H × List MemPlace} (h : DataW.trod enc Try.prog W base (fun _ => true) held fuel 27 cs = some x) :
    ∃ f : FamD, cs = [.string f.nm, .int .i64 f.mx, .int .i64 f.tl] := by
  obtain ⟨xs, n, rfl, rfl, hcl, hxl, hf⟩ := DataW.trod_struct und_family h
  rw [cells_family] at hcl
  obtain ⟨c0, c1, c2, rfl⟩ : ∃ c0 c1 c2, cs = [c0, c1, c2] := by
    match cs, hcl with
    | [c0, c1, c2], _ => exact ⟨_, _, _, rfl⟩
  obtain ⟨x0, x1, x2, rfl⟩ : ∃ x0 x1 x2, xs = [x0, x1, x2] := by
    match xs, hxl with
    | [c0, c1, c2], _ => exact ⟨_, _, _, rfl⟩
  have f0 := hf 0 _ rfl
  have f1 := hf 1 _ rfl
  have f2 := hf 2 _ rfl
  simp [cells_int, cells_string] at f0 f1 f2
  obtain ⟨n1, e1, _, w1⟩ := DataW.trod_int und_int f1
  obtain ⟨n2, e2, _, w2⟩ := DataW.trod_int und_int f2
  obtain ⟨s0, e0, _, w0⟩ := DataW.trod_string und_string f0
  simp at e0 e1 e2
  subst e0 e1 e2
  exact ⟨⟨s0, n1, n2⟩, rfl⟩

set_option maxRecDepth 100000 in
/-- A schema that came in. -/
theorem open_schema {H : Type} {enc : TypeId × Value → H} {W : World} {base : Nat} {held : Bool} {v : Value} {d : DataW H} {p : List MemPlace} (h0 : DataW.Trod enc Try.prog W base (fun _ => true) held 24 v d p) (hv : ∃ cs, v = .agg cs ∧ cs.size = Try.prog.cellsOf 24)
    (hs : (d.weights Try.prog 24).all (fun x => decide (x ≤ reachBytes)) = true) :
    ∃ a n c fs, v = .agg #[.slice a n c] ∧ (a = none → c = 0) ∧ RdF W (.slice a n c) fs := by
  obtain ⟨csA, rfl, hcs⟩ := hv
  obtain ⟨fuel, h⟩ := h0
  obtain ⟨cs⟩ := csA
  simp only [Value.cells] at h
  obtain ⟨xs, n, hx, hdp, hcl, hxl, hf⟩ := DataW.trod_struct und_schema h
  simp only [Prod.mk.injEq] at hdp
  obtain ⟨rfl, rfl⟩ := hdp
  rw [cells_schema] at hcl
  obtain ⟨c0, rfl⟩ : ∃ c0, cs = [c0] := by
    match cs, hcl with
    | [c0], _ => exact ⟨_, rfl⟩
  obtain ⟨x0, rfl⟩ : ∃ x0, xs = [x0] := by
    match xs, hxl with
    | [c0], _ => exact ⟨_, rfl⟩
  have f0 := hf 0 _ rfl
  simp [cells_families] at f0
  obtain ⟨⟨a, n, c, rfl⟩, t0⟩ := slice_one und_families f0
  have hs2 : (DataW.weightsEach Try.prog [22] ([x0.1] ++ [])).all (fun x => decide (x ≤ reachBytes)) = true := by
    simp only [DataW.weights, und_schema] at hs
    simpa using hs
  obtain ⟨fuel2, hf2⟩ := t0
  rcases Deep.open_slice und_families hf2 with ⟨hcs, hx⟩ | ⟨x, l, c', m, k, D, Pl, hcs, _, hl, hm, hmm, hx, hel⟩
  · simp [Value.cells] at hcs
    obtain ⟨rfl, rfl, rfl⟩ := hcs
    exact ⟨none, 0, 0, [], rfl, fun _ => rfl, none, 0, rfl, by simp, by decide, by simp, .inl rfl⟩
  · simp [Value.cells] at hcs
    obtain ⟨rfl, rfl, rfl⟩ := hcs
    simp only [if_true] at hmm
    simp only [Prod.mk.injEq] at hx
    obtain ⟨hx1, _⟩ := hx
    have hn : n ≤ 281474976710656 := by
      rw [hx1] at hs2
      have := sized_slice hs2 (j := 0) (t := 22) rfl rfl und_families
      rw [show Try.prog.bytesOf 27 = 32 by kernel_rfl] at this
      simp at this
      unfold reachBytes at this
      omega
    rw [cells_family] at hel
    have hop : ∀ i, i < n → ∃ f : FamD, W.cell? ((x.add (i * 3)).add 0) = some (.string f.nm) ∧ W.cell? ((x.add (i * 3)).add 1) = some (.int .i64 f.mx) ∧ W.cell? ((x.add (i * 3)).add 2) = some (.int .i64 f.tl) := by
      intro i hi
      obtain ⟨cs', hc1, hc2⟩ := hel i (by omega)
      obtain ⟨f, rfl⟩ := open_family hc2
      obtain ⟨_, hlen, hget⟩ := World.cells?_some hc1
      exact ⟨f, by rw [hget 0 (by omega)]; rfl, by rw [hget 1 (by omega)]; rfl, by rw [hget 2 (by omega)]; rfl⟩
    have build : ∀ q, q ≤ n → ∃ fs : List FamD, fs.length = q ∧ ∀ i f, fs[i]? = some f → W.cell? ((x.add (i * 3)).add 0) = some (.string f.nm) ∧ W.cell? ((x.add (i * 3)).add 1) = some (.int .i64 f.mx) ∧ W.cell? ((x.add (i * 3)).add 2) = some (.int .i64 f.tl) := by
      intro q
      induction q with
      | zero => intro _; exact ⟨[], rfl, fun i o h => by simp at h⟩
      | succ q ih =>
        intro hq
        obtain ⟨os, hol, hos⟩ := ih (by omega)
        obtain ⟨o, ho⟩ := hop q (by omega)
        refine ⟨os ++ [o], by simp [hol], fun i o' h => ?_⟩
        by_cases hi : i < os.length
        · rw [List.getElem?_append_left hi] at h
          exact hos i o' h
        · rw [List.getElem?_append_right (by omega)] at h
          have hi2 : i = q := by
            by_cases h9 : i - os.length = 0
            · omega
            · rw [List.getElem?_eq_none (by simp; omega)] at h; cases h
          subst hi2
          rw [hol, Nat.sub_self] at h
          simp at h
          subst h
          exact ho
    obtain ⟨fs, hol, hos⟩ := build n (Nat.le_refl _)
    refine ⟨some x, n, c, fs, rfl, fun h => (by cases h), some x, c, by rw [hol], by omega, hm, by omega, ?_⟩
    by_cases hn0 : n = 0
    · left; exact List.eq_nil_of_length_eq_zero (by omega)
    · right
      obtain ⟨b, off, spot⟩ := x
      obtain ⟨o, hc0, _⟩ := (hop 0 (by omega))
      have hspot : spot = none := by simpa [Addr.add] using World.cell?_spot hc0
      subst hspot
      refine ⟨b, off, rfl, fun i f hi => ?_⟩
      have := hos i f hi
      have e : ∀ q r : Nat, ((⟨b, q, none⟩ : Addr).add r) = ⟨b, q + r, none⟩ := fun q r => by unfold Addr.add; split <;> simp_all
      simp only [e] at this
      simpa using this

end Go.Proofs.Ytiiencopchpajaa
