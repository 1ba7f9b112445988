import Derived.Test.YthpdlclgiggekaaOpen
import Derived.Test.YthpdlclgiggekaaCell1
namespace Go.Proofs.Ythpdlclgiggekaa
open Go.ChangeShapes Go.WideShapes Go.ChangeAt Go.RowKit
set_option linter.unusedVariables false

set_option maxRecDepth 100000 in
theorem und_entry : Try.prog.underlying 35 = some (.struct #[{ name := "Row", type := 33, offset := 0, embedded := false, tag := "", pkgPath := "", byteOffset := 0 }, { name := "Fam", type := 3, offset := 1, embedded := false, tag := "", pkgPath := "", byteOffset := 24 }, { name := "Qual", type := 33, offset := 2, embedded := false, tag := "", pkgPath := "", byteOffset := 32 }, { name := "Ts", type := 3, offset := 3, embedded := false, tag := "", pkgPath := "", byteOffset := 56 }, { name := "Seq", type := 3, offset := 4, embedded := false, tag := "", pkgPath := "", byteOffset := 64 }, { name := "Kind", type := 3, offset := 5, embedded := false, tag := "", pkgPath := "", byteOffset := 72 }, { name := "Value", type := 33, offset := 6, embedded := false, tag := "", pkgPath := "", byteOffset := 80 }]) := by kernel_rfl
theorem cells_entry : Try.prog.cellsOf 35 = 7 := by kernel_rfl
theorem cells_int : Try.prog.cellsOf 3 = 1 := by kernel_rfl

theorem slice_one {H : Type} {enc : TypeId × Value → H} {W : World} {base fuel : Nat} {held : Bool} {t e : TypeId} {c : Value} {x : DataW H × List MemPlace} (hu : Try.prog.underlying t = some (.slice e)) (h : DataW.trod enc Try.prog W base (fun _ => true) held fuel t [c] = some x) : (∃ a n k, c = .slice a n k) ∧ DataW.Trod enc Try.prog W base (fun _ => true) held t c x.1 x.2 := by
  have hsl : ∃ a n k, c = .slice a n k := by
    rcases DataW.trod_slice hu h with ⟨h0, _⟩ | ⟨a, len, cap, _, _, _, _, h0, _⟩
    · simp at h0; exact ⟨_, _, _, h0⟩
    · simp at h0; exact ⟨_, _, _, h0⟩
  refine ⟨hsl, fuel, ?_⟩
  obtain ⟨a, n, k, rfl⟩ := hsl
  simpa [Value.cells] using h

set_option maxRecDepth 100000 in
/-- An entry that came in. -/
theorem open_entry {H : Type} {enc : TypeId × Value → H} {W : World} {base : Nat} {held : Bool} {v : Value} {d : DataW H} {p : List MemPlace} (h0 : DataW.Trod enc Try.prog W base (fun _ => true) held 35 v d p) (hv : ∃ cs, v = .agg cs ∧ cs.size = Try.prog.cellsOf 35) :
    ∃ e : EntD, v = .agg e.cells ∧ ((e.row.length ≤ 281474976710656 ∧ e.qual.length ≤ 281474976710656 ∧ e.val.length ≤ 281474976710656) → EntD.Ok W e) ∧ (e.row.length + e.qual.length + e.val.length + 8 ≤ Rows.uptoBulk d) ∧
      ((d.weights Try.prog 35).all (fun x => decide (x ≤ reachBytes)) = true → e.row.length ≤ 140737488351232 ∧ e.qual.length ≤ 140737488351232 ∧ e.val.length ≤ 140737488351232) := by
  obtain ⟨csA, rfl, hcs⟩ := hv
  obtain ⟨fuel, h⟩ := h0
  obtain ⟨cs⟩ := csA
  simp only [Value.cells] at h
  obtain ⟨xs, n, hx, hdp, hcl, hxl, hf⟩ := DataW.trod_struct und_entry h
  simp only [Prod.mk.injEq] at hdp
  obtain ⟨rfl, rfl⟩ := hdp
  rw [cells_entry] at hcl
  obtain ⟨c0, c1, c2, c3, c4, c5, c6, rfl⟩ : ∃ c0 c1 c2 c3 c4 c5 c6, cs = [c0, c1, c2, c3, c4, c5, c6] := by
    match cs, hcl with
    | [c0, c1, c2, c3, c4, c5, c6], _ => exact ⟨_, _, _, _, _, _, _, rfl⟩
  obtain ⟨x0, x1, x2, x3, x4, x5, x6, rfl⟩ : ∃ x0 x1 x2 x3 x4 x5 x6, xs = [x0, x1, x2, x3, x4, x5, x6] := by
    match xs, hxl with
    | [c0, c1, c2, c3, c4, c5, c6], _ => exact ⟨_, _, _, _, _, _, _, rfl⟩
  have f0 := hf 0 _ rfl
  have f1 := hf 1 _ rfl
  have f2 := hf 2 _ rfl
  have f3 := hf 3 _ rfl
  have f4 := hf 4 _ rfl
  have f5 := hf 5 _ rfl
  have f6 := hf 6 _ rfl
  simp [cells_int, cells_bytes] at f0 f1 f2 f3 f4 f5 f6
  obtain ⟨n1, e1, b1, w1⟩ := DataW.trod_int und_int f1
  obtain ⟨n3, e3, b3, w3⟩ := DataW.trod_int und_int f3
  obtain ⟨n4, e4, b4, w4⟩ := DataW.trod_int und_int f4
  obtain ⟨n5, e5, b5, w5⟩ := DataW.trod_int und_int f5
  simp at e1 e3 e4 e5
  subst e1 e3 e4 e5
  obtain ⟨s0, t0⟩ := slice_one und_bytes f0
  obtain ⟨s2, t2⟩ := slice_one und_bytes f2
  obtain ⟨s6, t6⟩ := slice_one und_bytes f6
  obtain ⟨row, hr, hrl, hrd⟩ := open_bytes t0 s0
  obtain ⟨qual, hq, hql, hqd⟩ := open_bytes t2 s2
  obtain ⟨val, hw, hwl, hwd⟩ := open_bytes t6 s6
  refine ⟨⟨c0, n1, c2, n3, n4, n5, c6, row, qual, val⟩, rfl, fun h => ⟨hr h.1, hq h.2.1, hw h.2.2⟩, ?_, fun hs => ?_⟩
  · have q1 := bulk_pos x1.1
    have q3 := bulk_pos x3.1
    have q4 := bulk_pos x4.1
    have q5 := bulk_pos x5.1
    simp only [Rows.uptoBulk, List.map_cons, List.map_nil, Rows.uptoBulkAll]
    omega
  · have hs2 : (DataW.weightsEach Try.prog [33, 3, 33, 3, 3, 3, 33] ([x0.1, x1.1, x2.1, x3.1, x4.1, x5.1, x6.1] ++ [])).all (fun x => decide (x ≤ reachBytes)) = true := by
      simp only [DataW.weights, und_entry] at hs
      simpa using hs
    exact ⟨reach_bytes hs2 0 rfl rfl hrd, reach_bytes hs2 2 rfl rfl hqd, reach_bytes hs2 6 rfl rfl hwd⟩

/-- The weights of one argument. -/
theorem weight_at {H : Type} : ∀ {ts : List TypeId} {ds : List (DataW H)} (h : (DataW.weightsEach Try.prog ts ds).all (fun x => decide (x ≤ reachBytes)) = true) (j : Nat) {t : TypeId} {d : DataW H} (ht : ts[j]? = some t) (hd : ds[j]? = some d), (d.weights Try.prog t).all (fun x => decide (x ≤ reachBytes)) = true
  | [], _, _, j, _, _, ht, _ => by simp at ht
  | _ :: _, [], _, j, _, _, _, hd => by simp at hd
  | t :: ts, d :: ds, h, 0, _, _, ht, hd => by
    simp only [List.getElem?_cons_zero, Option.some.injEq] at ht hd
    subst ht hd
    simp only [DataW.weightsEach, List.all_append, Bool.and_eq_true] at h
    exact h.1
  | t :: ts, d :: ds, h, j + 1, _, _, ht, hd => by
    simp only [DataW.weightsEach, List.all_append, Bool.and_eq_true] at h
    exact weight_at h.2 j (by simpa using ht) (by simpa using hd)

end Go.Proofs.Ythpdlclgiggekaa
