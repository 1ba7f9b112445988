import Derived.Test.YtncbiohmogmcpaaDoorOpenParts
import Derived.Test.YtncbiohmogmcpaaDoorUpTo
namespace Go.Proofs.YtncbiohmogmcpaaDoor
open Go.ChangeShapes Go.WideShapes Go.ChangeAt Go.RowKit
set_option linter.unusedVariables false

set_option maxRecDepth 100000 in
theorem und_op : Tryd.prog.underlying 34 = some (.struct #[{ name := "Kind", type := 3, offset := 0, embedded := false, tag := "", pkgPath := "", byteOffset := 0 }, { name := "B", type := 27, offset := 1, embedded := false, tag := "", pkgPath := "", byteOffset := 8 }, { name := "At", type := 3, offset := 2, embedded := false, tag := "", pkgPath := "", byteOffset := 32 }, { name := "N", type := 3, offset := 3, embedded := false, tag := "", pkgPath := "", byteOffset := 40 }, { name := "V", type := 31, offset := 4, embedded := false, tag := "", pkgPath := "", byteOffset := 48 }, { name := "Parts", type := 32, offset := 5, embedded := false, tag := "", pkgPath := "", byteOffset := 56 }]) := by kernel_rfl
theorem und_ops : Tryd.prog.underlying 22 = some (.slice 34) := by kernel_rfl
theorem cells_op : Tryd.prog.cellsOf 34 = 6 := by kernel_rfl
theorem cells_int : Tryd.prog.cellsOf 3 = 1 := by kernel_rfl
theorem cells_u64 : Tryd.prog.cellsOf 31 = 1 := by kernel_rfl
theorem cells_parts : Tryd.prog.cellsOf 32 = 1 := by kernel_rfl

theorem bulk_mem {H : Type} {d : DataW H} : ∀ {l : List (DataW H)}, d ∈ l → Rows.uptoBulk d ≤ Rows.uptoBulkAll l
  | x :: r, h => by
    rcases List.mem_cons.1 h with rfl | h
    · simp only [Rows.uptoBulkAll]; omega
    · have := bulk_mem h
      simp only [Rows.uptoBulkAll]; omega
theorem flat_mem {ps : List (List Nat)} (i : Nat) : (ps.getD i []).length ≤ ps.flatten.length := by
  by_cases h : i < ps.length
  · have e : ps.getD i [] = ps[i] := by simp [List.getD, List.getElem?_eq_getElem h]
    rw [e]
    have hm : ps[i] ∈ ps := List.getElem_mem h
    obtain ⟨s, t, hst⟩ := List.append_of_mem hm
    have e2 : ps.flatten = (s ++ ps[i] :: t).flatten := congrArg List.flatten hst
    rw [e2]; simp; omega
  · simp [List.getD, List.getElem?_eq_none (by omega : ps.length ≤ i)]

theorem slice_one {H : Type} {enc : TypeId × Value → H} {W : World} {base fuel : Nat} {held : Bool} {t e : TypeId} {c : Value} {x : DataW H × List MemPlace} (hu : Tryd.prog.underlying t = some (.slice e)) (h : DataW.trod enc Tryd.prog W base (fun _ => true) held fuel t [c] = some x) : (∃ a n k, c = .slice a n k) ∧ DataW.Trod enc Tryd.prog W base (fun _ => true) held t c x.1 x.2 := by
  have hsl : ∃ a n k, c = .slice a n k := by
    rcases DataW.trod_slice hu h with ⟨h0, _⟩ | ⟨a, len, cap, _, _, _, _, h0, _⟩
    · simp at h0; exact ⟨_, _, _, h0⟩
    · simp at h0; exact ⟨_, _, _, h0⟩
  refine ⟨hsl, fuel, ?_⟩
  obtain ⟨a, n, k, rfl⟩ := hsl
  simpa [Value.cells] using h

set_option maxRecDepth 100000 in
theorem open_op {H : Type} {enc : TypeId × Value → H} {W : World} {base fuel : Nat} {held : Bool} {cs : List Value} {x : DataW H × List MemPlace} (h : DataW.trod enc Tryd.prog W base (fun _ => true) held fuel 34 cs = some x) (hk : Rows.uptoBulk x.1 ≤ 1048576) :
    ∃ o : OpD, cs = o.cells ∧ OpD.Ok W o := by
  obtain ⟨xs, n, rfl, rfl, hcl, hxl, hf⟩ := DataW.trod_struct und_op h
  rw [cells_op] at hcl
  obtain ⟨c0, c1, c2, c3, c4, c5, rfl⟩ : ∃ c0 c1 c2 c3 c4 c5, cs = [c0, c1, c2, c3, c4, c5] := by
    match cs, hcl with
    | [c0, c1, c2, c3, c4, c5], _ => exact ⟨_, _, _, _, _, _, rfl⟩
  obtain ⟨x0, x1, x2, x3, x4, x5, rfl⟩ : ∃ x0 x1 x2 x3 x4 x5, xs = [x0, x1, x2, x3, x4, x5] := by
    match xs, hxl with
    | [c0, c1, c2, c3, c4, c5], _ => exact ⟨_, _, _, _, _, _, rfl⟩
  have f0 := hf 0 _ rfl
  have f1 := hf 1 _ rfl
  have f2 := hf 2 _ rfl
  have f3 := hf 3 _ rfl
  have f4 := hf 4 _ rfl
  have f5 := hf 5 _ rfl
  simp [cells_int, cells_u64, cells_bytes, cells_parts] at f0 f1 f2 f3 f4 f5
  obtain ⟨n0, e0, _, w0⟩ := DataW.trod_int und_int f0
  obtain ⟨n2, e2, _, w2⟩ := DataW.trod_int und_int f2
  obtain ⟨n3, e3, _, w3⟩ := DataW.trod_int und_int f3
  obtain ⟨n4, e4, _, w4⟩ := DataW.trod_int und_u64 f4
  simp at e0 e2 e3 e4
  subst e0 e2 e3 e4
  simp only [Rows.uptoBulk, List.map_cons, List.map_nil, Rows.uptoBulkAll] at hk
  obtain ⟨s1, t1⟩ := slice_one und_bytes f1
  obtain ⟨s5, t5⟩ := slice_one und_parts f5
  obtain ⟨bs, hbs, hbl, _⟩ := open_bytes t1 s1
  obtain ⟨ps, hps, hpl⟩ := open_parts t5 s5 (by omega)
  have b2 := bounds_i64 w2
  have b3 := bounds_i64 w3
  have b4 := bounds_u64 w4
  refine ⟨⟨n0, c1, n2, n3, n4, c5, bs, ps⟩, rfl, hbs (by omega), hps, by simp only; omega, by simp only; omega, fun i => ?_, by simp only; omega, by simp only; omega, by simp only; omega, by simp only; omega, by simp only; omega, by simp only; omega⟩
  have := flat_mem (ps := ps) i
  simp only
  omega

set_option maxRecDepth 100000 in
/-- A script that came in. -/
theorem open_ops {H : Type} {enc : TypeId × Value → H} {W : World} {v : Value} {d : DataW H} {p : List MemPlace} {base : Nat} {held : Bool} (h : DataW.Trod enc Tryd.prog W base (fun _ => true) held 22 v d p) (hs : ∃ a n c, v = .slice a n c) (hk : Rows.uptoBulk d ≤ 1048576) :
    ∃ os : List OpD, RdO W v os := by
  obtain ⟨a, n, c, rfl⟩ := hs
  obtain ⟨fuel, hf⟩ := h
  rcases Deep.open_slice und_ops hf with ⟨hcs, hx⟩ | ⟨x, l, c', m, k, D, Pl, hcs, _, hl, hm, hmm, hx, hel⟩
  · simp [Value.cells] at hcs
    obtain ⟨rfl, rfl, rfl⟩ := hcs
    exact ⟨[], by simp, none, 0, rfl, .inl rfl⟩
  · simp [Value.cells] at hcs
    obtain ⟨rfl, rfl, rfl⟩ := hcs
    simp only [if_true] at hmm
    simp only [Prod.mk.injEq] at hx
    obtain ⟨rfl, _⟩ := hx
    simp only [Rows.uptoBulk] at hk
    have hn : n ≤ 1048576 := by
      have := bulk_len ((List.range n).map D)
      simp at this
      omega
    rw [cells_op] at hel
    have hop : ∀ i, i < n → ∃ o : OpD, (∀ j y, o.cells[j]? = some y → W.cell? ((x.add (i * 6)).add j) = some y) ∧ OpD.Ok W o := by
      intro i hi
      obtain ⟨cs', hc1, hc2⟩ := hel i (by omega)
      have hd : Rows.uptoBulk (D i) ≤ Rows.uptoBulkAll ((List.range n).map D) := bulk_mem (List.mem_map.2 ⟨i, List.mem_range.2 hi, rfl⟩)
      obtain ⟨o, rfl, hok⟩ := open_op hc2 (by simp only; omega)
      refine ⟨o, fun j y hj => ?_, hok⟩
      obtain ⟨_, hlen, hget⟩ := World.cells?_some hc1
      have hj6 : j < 6 := by
        have := (List.getElem?_eq_some_iff.1 hj).1
        simpa [OpD.cells] using this
      rw [hget j hj6]
      exact hj
    have build : ∀ q, q ≤ n → ∃ os : List OpD, os.length = q ∧ ∀ i o, os[i]? = some o → (∀ j y, o.cells[j]? = some y → W.cell? ((x.add (i * 6)).add j) = some y) ∧ OpD.Ok W o := by
      intro q
      induction q with
      | zero => intro _; exact ⟨[], rfl, fun i o h => by simp at h⟩
      | succ q ih =>
        intro hq
        obtain ⟨os, hol, hos⟩ := ih (by omega)
        obtain ⟨o, ho⟩ := hop q (by omega)
        refine ⟨os ++ [o], by simp [hol], fun i o' h => ?_⟩
        by_cases hi : i < os.length
        · rw [List.getElem?_append_left hi] at h
          exact hos i o' h
        · rw [List.getElem?_append_right (by omega)] at h
          have hi2 : i = q := by
            by_cases h9 : i - os.length = 0
            · omega
            · rw [List.getElem?_eq_none (by simp; omega)] at h; cases h
          subst hi2
          rw [hol, Nat.sub_self] at h
          simp at h
          subst h
          exact ho
    obtain ⟨os, hol, hos⟩ := build n (Nat.le_refl _)
    refine ⟨os, by omega, some x, c, by rw [hol], ?_⟩
    by_cases hn0 : n = 0
    · left; exact List.eq_nil_of_length_eq_zero (by omega)
    · right
      obtain ⟨b, off, spot⟩ := x
      have hc := (hop 0 (by omega))
      obtain ⟨o, hc, _⟩ := hc
      have hc0 := hc 0 _ rfl
      have hspot : spot = none := by simpa [Addr.add] using World.cell?_spot hc0
      subst hspot
      refine ⟨b, off, rfl, fun i o hi => ⟨fun j y hj => ?_, (hos i o hi).2⟩⟩
      have := (hos i o hi).1 j y hj
      have e : ∀ q r : Nat, ((⟨b, q, none⟩ : Addr).add r) = ⟨b, q + r, none⟩ := fun q r => by unfold Addr.add; split <;> simp_all
      rw [e, e] at this
      exact this

end Go.Proofs.YtncbiohmogmcpaaDoor
