import Derived.Test.YtbheifelfeekmaaK14
import Derived.ChangeSlices
namespace Go.Proofs.Ytbheifelfeekmaa
open Go.ChangeShapes Go.WideShapes Go.ChangeAt Go.RowKit
set_option linter.unusedVariables false
set_option linter.unusedSimpArgs false

set_option maxRecDepth 100000 in
theorem und_did : Try.prog.underlying 44 = some (.struct #[{ name := "Kind", type := 3, offset := 0, embedded := false, tag := "", pkgPath := "", byteOffset := 0 }, { name := "File", type := 3, offset := 1, embedded := false, tag := "", pkgPath := "", byteOffset := 8 }, { name := "To", type := 3, offset := 2, embedded := false, tag := "", pkgPath := "", byteOffset := 16 }, { name := "B", type := 29, offset := 3, embedded := false, tag := "", pkgPath := "", byteOffset := 24 }]) := by kernel_rfl
theorem und_dids : Try.prog.underlying 39 = some (.slice 44) := by kernel_rfl
theorem cells_did : Try.prog.cellsOf 44 = 4 := by kernel_rfl
theorem und_ints4 : Try.prog.underlying 40 = some (.slice 3) := by kernel_rfl
theorem cells_int4 : Try.prog.cellsOf 3 = 1 := by kernel_rfl
theorem und_int4 : Try.prog.underlying 3 = some (.int .i64) := by kernel_rfl
theorem slice_one4 {H : Type} {enc : TypeId × Value → H} {W : World} {base fuel : Nat} {held : Bool} {t e : TypeId} {c : Value} {x : DataW H × List MemPlace} (hu : Try.prog.underlying t = some (.slice e)) (h : DataW.trod enc Try.prog W base (fun _ => true) held fuel t [c] = some x) : (∃ a n k, c = .slice a n k) ∧ DataW.Trod enc Try.prog W base (fun _ => true) held t c x.1 x.2 := by
  have hsl : ∃ a n k, c = .slice a n k := by
    rcases DataW.trod_slice hu h with ⟨h0, _⟩ | ⟨a, len, cap, _, _, _, _, h0, _⟩
    · simp at h0; exact ⟨_, _, _, h0⟩
    · simp at h0; exact ⟨_, _, _, h0⟩
  refine ⟨hsl, fuel, ?_⟩
  obtain ⟨a, n, k, rfl⟩ := hsl
  simpa [Value.cells] using h
theorem weight_all4 {H : Type} {e : TypeId} : ∀ {ds : List (DataW H)} (h : (DataW.weightsAll Try.prog e ds).all (fun x => decide (x ≤ reachBytes)) = true) {d : DataW H} (hd : d ∈ ds), (d.weights Try.prog e).all (fun x => decide (x ≤ reachBytes)) = true
  | [], _, _, hd => by cases hd
  | x :: ds, h, d, hd => by
    simp only [DataW.weightsAll, List.all_append, Bool.and_eq_true] at h
    rcases List.mem_cons.1 hd with rfl | hd
    · exact h.1
    · exact weight_all4 h.2 hd
set_option maxRecDepth 100000 in
theorem open_did {H : Type} {enc : TypeId × Value → H} {W : World} {base fuel : Nat} {held : Bool} {cs : List Value} {x : DataW H × List MemPlace} (h : DataW.trod enc Try.prog W base (fun _ => true) held fuel 44 cs = some x) (hk : (x.1.weights Try.prog 44).all (fun x => decide (x ≤ reachBytes)) = true) :
    ∃ f : DidD, cs = [.int .i64 f.kind, .int .i64 f.file, .int .i64 f.too, .slice f.a f.n f.k] ∧ RdA W (fun i => W.heap.size ≤ i) (.slice f.a f.n f.k) f.bs := by
  obtain ⟨d, p⟩ := x
  obtain ⟨xs, n, hx, hdp, hcl, hxl, hf⟩ := DataW.trod_struct und_did h
  simp only [Prod.mk.injEq] at hdp
  obtain ⟨rfl, rfl⟩ := hdp
  rw [cells_did] at hcl
  obtain ⟨c0, c1, c2, c3, rfl⟩ : ∃ c0 c1 c2 c3, cs = [c0, c1, c2, c3] := by
    match cs, hcl with
    | [c0, c1, c2, c3], _ => exact ⟨_, _, _, _, rfl⟩
  obtain ⟨x0, x1, x2, x3, rfl⟩ : ∃ x0 x1 x2 x3, xs = [x0, x1, x2, x3] := by
    match xs, hxl with
    | [c0, c1, c2, c3], _ => exact ⟨_, _, _, _, rfl⟩
  have f0 := hf 0 _ rfl
  have f1 := hf 1 _ rfl
  have f2 := hf 2 _ rfl
  have f3 := hf 3 _ rfl
  simp [cells_int4, cells_bytes] at f0 f1 f2 f3
  obtain ⟨n0, e0, b0, w0⟩ := DataW.trod_int und_int4 f0
  obtain ⟨n1, e1, b1, w1⟩ := DataW.trod_int und_int4 f1
  obtain ⟨n2, e2, b2, w2⟩ := DataW.trod_int und_int4 f2
  simp at e0 e1 e2
  subst e0 e1 e2
  obtain ⟨s3, t3⟩ := slice_one4 und_bytes f3
  obtain ⟨bs, hr, hrl, hrd⟩ := open_bytes t3 s3
  obtain ⟨a, m, k, rfl⟩ := s3
  have hs2 : (DataW.weightsEach Try.prog [3, 3, 3, 29] ([x0.1, x1.1, x2.1, x3.1] ++ [])).all (fun x => decide (x ≤ reachBytes)) = true := by
    simp only [DataW.weights, und_did] at hk
    simpa using hk
  have hlen := reach_bytes hs2 3 rfl rfl hrd
  exact ⟨⟨n0, n1, n2, a, m, k, bs⟩, rfl, RdA.of_rd (hr (by omega))⟩
set_option maxRecDepth 100000 in
theorem open_dids {H : Type} {enc : TypeId × Value → H} {W : World} {base : Nat} {held : Bool} {v : Value} {d : DataW H} {p : List MemPlace} (h0 : DataW.Trod enc Try.prog W base (fun _ => true) held 39 v d p) (hv : ∃ a n c, v = .slice a n c)
    (hk : (d.weights Try.prog 39).all (fun x => decide (x ≤ reachBytes)) = true) :
    ∃ (xs : List DidD) (a : Option Addr) (c : Nat), v = .slice a xs.length c ∧ RdDid W a c xs := by
  obtain ⟨a, n, c, rfl⟩ := hv
  obtain ⟨fuel2, hf2⟩ := h0
  rcases Deep.open_slice und_dids hf2 with ⟨hcs, hx⟩ | ⟨x, l, c', m, k, D, Pl, hcs, _, hl, hm, hmm, hx, hel⟩
  · simp [Value.cells] at hcs
    obtain ⟨rfl, rfl, rfl⟩ := hcs
    exact ⟨[], none, 0, rfl, ⟨by simp, by decide⟩, fun i x h => by simp at h, fun x h => by cases h⟩
  · simp [Value.cells] at hcs
    obtain ⟨rfl, rfl, rfl⟩ := hcs
    simp only [if_true] at hmm
    simp only [Prod.mk.injEq] at hx
    obtain ⟨hx1, _⟩ := hx
    have hwt : ∀ j, j < n → ((D j).weights Try.prog 44).all (fun x => decide (x ≤ reachBytes)) = true := by
      intro j hj
      rw [hx1] at hk
      simp only [DataW.weights, und_dids, List.all_cons, List.all_append, Bool.and_eq_true] at hk
      exact weight_all4 hk.2.1 (by simp only [List.mem_map, List.mem_range]; exact ⟨j, hj, rfl⟩)
    rw [cells_did] at hel
    have hop : ∀ i, i < n → ∃ f : DidD, (W.cell? ((x.add (i * 4)).add 0) = some (.int .i64 f.kind) ∧ W.cell? ((x.add (i * 4)).add 1) = some (.int .i64 f.file) ∧ W.cell? ((x.add (i * 4)).add 2) = some (.int .i64 f.too) ∧ W.cell? ((x.add (i * 4)).add 3) = some (.slice f.a f.n f.k)) ∧ RdA W (fun i => W.heap.size ≤ i) (.slice f.a f.n f.k) f.bs := by
      intro i hi
      obtain ⟨cs', hc1, hc2⟩ := hel i (by omega)
      obtain ⟨f, rfl, hr⟩ := open_did hc2 (hwt i hi)
      obtain ⟨_, hlen, hget⟩ := World.cells?_some hc1
      exact ⟨f, ⟨by rw [hget 0 (by omega)]; rfl, by rw [hget 1 (by omega)]; rfl, by rw [hget 2 (by omega)]; rfl, by rw [hget 3 (by omega)]; rfl⟩, hr⟩
    have build : ∀ q, q ≤ n → ∃ fs : List DidD, fs.length = q ∧ ∀ i f, fs[i]? = some f → (W.cell? ((x.add (i * 4)).add 0) = some (.int .i64 f.kind) ∧ W.cell? ((x.add (i * 4)).add 1) = some (.int .i64 f.file) ∧ W.cell? ((x.add (i * 4)).add 2) = some (.int .i64 f.too) ∧ W.cell? ((x.add (i * 4)).add 3) = some (.slice f.a f.n f.k)) ∧ RdA W (fun i => W.heap.size ≤ i) (.slice f.a f.n f.k) f.bs := by
      intro q
      induction q with
      | zero => intro _; exact ⟨[], rfl, fun i o h => by simp at h⟩
      | succ q ih =>
        intro hq
        obtain ⟨os, hol, hos⟩ := ih (by omega)
        obtain ⟨o, ho⟩ := hop q (by omega)
        refine ⟨os ++ [o], by simp [hol], fun i o' h => ?_⟩
        by_cases hi : i < os.length
        · rw [List.getElem?_append_left hi] at h
          exact hos i o' h
        · rw [List.getElem?_append_right (by omega)] at h
          have hi2 : i = q := by
            by_cases h9 : i - os.length = 0
            · omega
            · rw [List.getElem?_eq_none (by simp; omega)] at h; cases h
          subst hi2
          rw [hol, Nat.sub_self] at h
          simp at h
          subst h
          exact ho
    obtain ⟨fs, hol, hos⟩ := build n (Nat.le_refl _)
    refine ⟨fs, some x, c, by rw [hol], ⟨by omega, hm⟩, fun i f hi => ?_, fun f hf => ?_⟩
    · have hin : i < fs.length := (List.getElem?_eq_some_iff.1 hi).1
      obtain ⟨b, off, spot⟩ := x
      obtain ⟨o, ⟨hc0, _⟩, _⟩ := hop 0 (by omega)
      have hspot : spot = none := by simpa [Addr.add] using World.cell?_spot hc0
      subst hspot
      have h1 := (hos i f hi).1
      have e : ∀ q r : Nat, ((⟨b, q, none⟩ : Addr).add r) = ⟨b, q + r, none⟩ := fun q r => by unfold Addr.add; split <;> simp_all
      simp only [e] at h1
      exact ⟨b, off, rfl, h1.1, h1.2.1, h1.2.2.1, h1.2.2.2⟩
    · obtain ⟨i, hi⟩ := List.getElem?_of_mem hf
      exact (hos i f hi).2
theorem open_nums4 {H : Type} {enc : TypeId × Value → H} {W : World} {v : Value} {d : DataW H} {p : List MemPlace} {base : Nat} {held : Bool} (h : DataW.Trod enc Try.prog W base (fun _ => true) held 40 v d p) (hs : ∃ a n c, v = .slice a n c) : ∃ (js : List Int) (a : Option Addr) (c : Nat), v = .slice a js.length c ∧ RdI4 W (fun i => W.heap.size ≤ i) a c js := by
  obtain ⟨a, n, c, rfl⟩ := hs
  obtain ⟨fuel, hf⟩ := h
  rcases open_ints und_ints4 und_int4 cells_int4 hf with ⟨hcs, hx⟩ | ⟨x, l, c', zs, hcs, _, hl, hm, hz, hx, hcell, hwz⟩
  · simp [Value.cells] at hcs
    obtain ⟨rfl, rfl, rfl⟩ := hcs
    exact ⟨[], none, 0, rfl, ⟨by simp, by decide⟩, fun i j hj => by simp at hj⟩
  · simp [Value.cells] at hcs
    obtain ⟨rfl, rfl, rfl⟩ := hcs
    simp only [if_true] at hz
    have hlen : (zs.take n).length = n := by rw [List.length_take]; omega
    refine ⟨zs.take n, some x, c, by rw [hlen], ⟨by omega, hm⟩, fun i j hj => ?_⟩
    have hin : i < n := by
      have := (List.getElem?_eq_some_iff.1 hj).1
      omega
    obtain ⟨b, off, spot⟩ := x
    have hc := hcell 0 (by omega)
    have hspot : spot = none := by simpa [Addr.add] using World.cell?_spot hc
    subst hspot
    rw [List.getElem?_take_of_lt hin] at hj
    have hc := hcell i (by omega)
    have e : (⟨b, off, none⟩ : Addr).add i = ⟨b, off + i, none⟩ := by unfold Addr.add; split <;> simp_all
    rw [e] at hc
    have hl := World.block_lt_of_cell? _ _ hc
    simp only at hl
    refine ⟨b, off, rfl, fun z => by omega, ?_⟩
    rw [hc]
    simp [List.getD, hj]
theorem wf_max4 {n : Int} (h : (Lit.int .i64 n).wf = true) : n ≤ 9223372036854775807 := by
  have e2 : IntKind.i64.max = 9223372036854775807 := by decide
  simp only [Lit.wf, e2, Bool.and_eq_true, decide_eq_true_eq] at h
  exact h.2
end Go.Proofs.Ytbheifelfeekmaa
