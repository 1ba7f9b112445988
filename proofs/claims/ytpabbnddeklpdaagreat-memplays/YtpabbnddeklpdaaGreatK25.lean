import Derived.Test.YtpabbnddeklpdaaGreatK24
import Derived.Test.YtpabbnddeklpdaaGreatRows
import Derived.ProofKit
import Derived.OpenShut
import Derived.Deep.DeepHandedRow
import Derived.Lib.LaidTab
import Derived.Deep.Slices
namespace Go.Proofs.YtpabbnddeklpdaaGreat
open Go.ChangeShapes Go.WideShapes Go.ChangeAt Go.RowKit
set_option linter.unusedVariables false

theorem own_knob : ownKnob Tryz.prog.godebug = none := by kernel_rfl
theorem laid_out : laidOutB Tryz.prog = true := by kernel_rfl
theorem und_int : Tryz.prog.underlying 3 = some (.int .i64) := by kernel_rfl
theorem und_bool : Tryz.prog.underlying 4 = some .bool := by kernel_rfl
theorem cells_byte : Tryz.prog.cellsOf 5 = 1 := by kernel_rfl
theorem cells_bytes : Tryz.prog.cellsOf 34 = 1 := by kernel_rfl

theorem bulk_pos {H : Type} (d : DataW H) : 1 ≤ Rows.uptoBulk d := by
 cases d with
 | lit l => cases l <;> simp [Rows.uptoBulk]
 | nil => simp [Rows.uptoBulk]
 | ptr d => simp [Rows.uptoBulk]
 | slice elems spare => simp [Rows.uptoBulk]
 | agg parts => simp [Rows.uptoBulk]
 | iface t d => simp [Rows.uptoBulk]
 | map entries => simp [Rows.uptoBulk]
 | held h => simp [Rows.uptoBulk]
theorem bulk_len {H : Type} (l : List (DataW H)) : l.length ≤ Rows.uptoBulkAll l := by
 induction l with
 | nil => simp [Rows.uptoBulkAll]
 | cons x r ih => have := bulk_pos x; simp only [Rows.uptoBulkAll, List.length_cons]; omega

theorem open_bytes {H : Type} {enc : TypeId × Value → H} {W : World} {v : Value} {d : DataW H} {p : List MemPlace} {base : Nat} {held : Bool} (h : DataW.Trod enc Tryz.prog W base (fun _ => true) held 34 v d p) (hs : ∃ a n c, v = .slice a n c) :
  ∃ bs : List Nat, (bs.length ≤ 281474976710656 → Rd W v bs) ∧ bs.length + 1 ≤ Rows.uptoBulk d ∧ (bs = [] ∨ ∃ elems spare, d = .slice elems spare ∧ elems.length = bs.length) := by
 obtain ⟨a, n, c, rfl⟩ := hs
 obtain ⟨fuel, hf⟩ := h
 rcases open_ints und_bytes und_byte cells_byte hf with ⟨hcs, hx⟩ | ⟨x, l, c', zs, hcs, _, hl, hm, hz, hx, hcell, hwz⟩
 ·simp [Value.cells] at hcs
  obtain ⟨rfl, rfl, rfl⟩ := hcs
  refine ⟨[], fun _ => Rd.nil W, ?_, .inl rfl⟩
  have := bulk_pos d
  simpa using this
 ·simp [Value.cells] at hcs
  obtain ⟨rfl, rfl, rfl⟩ := hcs
  simp only [if_true] at hz
  simp only [Prod.mk.injEq] at hx
  obtain ⟨rfl, _⟩ := hx
  have hby : ∀ i, i < zs.length → 0 ≤ zs.getD i 0 ∧ zs.getD i 0 < 256 := by
   intro i hi
   have hmem : zs.getD i 0 ∈ zs := by simp [List.getD, List.getElem?_eq_getElem hi]
   have := bounds_u8 (hwz _ hmem)
   omega
  refine ⟨(zs.take n).map Int.toNat, fun hlen => ⟨?_, some x, c, ?_, ?_, hm, hlen, ?_, ?_⟩, ?_, .inr ⟨_, _, rfl, by simp [lits]⟩⟩
  ·intro y hy
   simp only [List.mem_map] at hy
   obtain ⟨z, hz1, rfl⟩ := hy
   have := bounds_u8 (hwz z (List.mem_of_mem_take hz1))
   omega
  ·simp; omega
  ·simp; omega
  ·by_cases hc0 : c = 0
   ·exact .inl hc0
   ·right
    obtain ⟨b, off, spot⟩ := x
    have hc := hcell 0 (by omega)
    have hspot : spot = none := by simpa [Addr.add] using World.cell?_spot hc
    subst hspot
    exact ⟨b, off, rfl⟩
  ·by_cases hn0 : n = 0
   ·left; simp [hn0]
   ·right
    obtain ⟨b, off, spot⟩ := x
    have hc := hcell 0 (by omega)
    have hspot : spot = none := by simpa [Addr.add] using World.cell?_spot hc
    subst hspot
    refine ⟨b, off, rfl, fun i hi => ?_⟩
    have hin : i < n := by simp at hi; omega
    have hc := hcell i (by omega)
    have e : (⟨b, off, none⟩ : Addr).add i = ⟨b, off + i, none⟩ := by unfold Addr.add; split <;> simp_all
    rw [e] at hc
    rw [hc]
    have hb := hby i (by omega)
    have e2 : ((zs.take n).map Int.toNat).getD i 0 = (zs.getD i 0).toNat := by
     simp [List.getElem?_take_of_lt hin, List.getElem?_eq_getElem (show i < zs.length by omega)]
    rw [e2, Int.toNat_of_nonneg hb.1]
  ·have h1 := bulk_len (H := H) (lits .u8 (zs.take n))
   simp only [Rows.uptoBulk]
   simp [lits] at h1 ⊢
   omega

theorem reach_bytes {H : Type} {ts : List TypeId} {ds gs : List (DataW H)} (h : (DataW.weightsEach Tryz.prog ts (ds ++ gs)).all (fun x => decide (x ≤ reachBytes)) = true) (j : Nat) (ht : ts[j]? = some 34) {d : DataW H} (hd : ds[j]? = some d) {bs : List Nat} (hx : bs = [] ∨ ∃ elems spare, d = .slice elems spare ∧ elems.length = bs.length) : bs.length ≤ 140737488351232 := by
 rcases hx with rfl | ⟨elems, spare, rfl, hl⟩
 ·simp
 ·have hd2 : (ds ++ gs)[j]? = some (.slice elems spare) := by
   rw [List.getElem?_append_left (List.getElem?_eq_some_iff.1 hd).1]
   exact hd
  have := sized_slice h ht hd2 und_bytes
  rw [show Tryz.prog.bytesOf 5 = 1 by kernel_rfl] at this
  unfold reachBytes at this
  omega

end Go.Proofs.YtpabbnddeklpdaaGreat

namespace Go.Proofs.YtpabbnddeklpdaaGreat
open Go.ChangeShapes Go.WideShapes Go.ChangeAt Go.RowKit
set_option linter.unusedVariables false

set_option maxRecDepth 100000 in
theorem und_entry : Tryz.prog.underlying 38 = some (.struct #[{ name := "Row", type := 34, offset := 0, embedded := false, tag := "", pkgPath := "", byteOffset := 0 }, { name := "Fam", type := 3, offset := 1, embedded := false, tag := "", pkgPath := "", byteOffset := 24 }, { name := "Qual", type := 34, offset := 2, embedded := false, tag := "", pkgPath := "", byteOffset := 32 }, { name := "Ts", type := 3, offset := 3, embedded := false, tag := "", pkgPath := "", byteOffset := 56 }, { name := "Seq", type := 3, offset := 4, embedded := false, tag := "", pkgPath := "", byteOffset := 64 }, { name := "Kind", type := 3, offset := 5, embedded := false, tag := "", pkgPath := "", byteOffset := 72 }, { name := "Value", type := 34, offset := 6, embedded := false, tag := "", pkgPath := "", byteOffset := 80 }]) := by kernel_rfl
theorem cells_entry : Tryz.prog.cellsOf 38 = 7 := by kernel_rfl
theorem cells_int : Tryz.prog.cellsOf 3 = 1 := by kernel_rfl

theorem slice_one {H : Type} {enc : TypeId × Value → H} {W : World} {base fuel : Nat} {held : Bool} {t e : TypeId} {c : Value} {x : DataW H × List MemPlace} (hu : Tryz.prog.underlying t = some (.slice e)) (h : DataW.trod enc Tryz.prog W base (fun _ => true) held fuel t [c] = some x) : (∃ a n k, c = .slice a n k) ∧ DataW.Trod enc Tryz.prog W base (fun _ => true) held t c x.1 x.2 := by
 have hsl : ∃ a n k, c = .slice a n k := by
  rcases DataW.trod_slice hu h with ⟨h0, _⟩ | ⟨a, len, cap, _, _, _, _, h0, _⟩
  ·simp at h0; exact ⟨_, _, _, h0⟩
  ·simp at h0; exact ⟨_, _, _, h0⟩
 refine ⟨hsl, fuel, ?_⟩
 obtain ⟨a, n, k, rfl⟩ := hsl
 simpa [Value.cells] using h

set_option maxRecDepth 100000 in
theorem open_entry {H : Type} {enc : TypeId × Value → H} {W : World} {base : Nat} {held : Bool} {v : Value} {d : DataW H} {p : List MemPlace} (h0 : DataW.Trod enc Tryz.prog W base (fun _ => true) held 38 v d p) (hv : ∃ cs, v = .agg cs ∧ cs.size = Tryz.prog.cellsOf 38) :
  ∃ e : EntD, v = .agg e.cells ∧ ((e.row.length ≤ 281474976710656 ∧ e.qual.length ≤ 281474976710656 ∧ e.val.length ≤ 281474976710656) → EntD.Ok W e) ∧ (e.row.length + e.qual.length + e.val.length + 8 ≤ Rows.uptoBulk d) ∧
   ((d.weights Tryz.prog 38).all (fun x => decide (x ≤ reachBytes)) = true → e.row.length ≤ 140737488351232 ∧ e.qual.length ≤ 140737488351232 ∧ e.val.length ≤ 140737488351232) := by
 obtain ⟨csA, rfl, hcs⟩ := hv
 obtain ⟨fuel, h⟩ := h0
 obtain ⟨cs⟩ := csA
 simp only [Value.cells] at h
 obtain ⟨xs, n, hx, hdp, hcl, hxl, hf⟩ := DataW.trod_struct und_entry h
 simp only [Prod.mk.injEq] at hdp
 obtain ⟨rfl, rfl⟩ := hdp
 rw [cells_entry] at hcl
 obtain ⟨c0, c1, c2, c3, c4, c5, c6, rfl⟩ : ∃ c0 c1 c2 c3 c4 c5 c6, cs = [c0, c1, c2, c3, c4, c5, c6] := by
  match cs, hcl with
  | [c0, c1, c2, c3, c4, c5, c6], _ => exact ⟨_, _, _, _, _, _, _, rfl⟩
 obtain ⟨x0, x1, x2, x3, x4, x5, x6, rfl⟩ : ∃ x0 x1 x2 x3 x4 x5 x6, xs = [x0, x1, x2, x3, x4, x5, x6] := by
  match xs, hxl with
  | [c0, c1, c2, c3, c4, c5, c6], _ => exact ⟨_, _, _, _, _, _, _, rfl⟩
 have f0 := hf 0 _ rfl
 have f1 := hf 1 _ rfl
 have f2 := hf 2 _ rfl
 have f3 := hf 3 _ rfl
 have f4 := hf 4 _ rfl
 have f5 := hf 5 _ rfl
 have f6 := hf 6 _ rfl
 simp [cells_int, cells_bytes] at f0 f1 f2 f3 f4 f5 f6
 obtain ⟨n1, e1, b1, w1⟩ := DataW.trod_int und_int f1
 obtain ⟨n3, e3, b3, w3⟩ := DataW.trod_int und_int f3
 obtain ⟨n4, e4, b4, w4⟩ := DataW.trod_int und_int f4
 obtain ⟨n5, e5, b5, w5⟩ := DataW.trod_int und_int f5
 simp at e1 e3 e4 e5
 subst e1 e3 e4 e5
 obtain ⟨s0, t0⟩ := slice_one und_bytes f0
 obtain ⟨s2, t2⟩ := slice_one und_bytes f2
 obtain ⟨s6, t6⟩ := slice_one und_bytes f6
 obtain ⟨row, hr, hrl, hrd⟩ := open_bytes t0 s0
 obtain ⟨qual, hq, hql, hqd⟩ := open_bytes t2 s2
 obtain ⟨val, hw, hwl, hwd⟩ := open_bytes t6 s6
 refine ⟨⟨c0, n1, c2, n3, n4, n5, c6, row, qual, val⟩, rfl, fun h => ⟨hr h.1, hq h.2.1, hw h.2.2⟩, ?_, fun hs => ?_⟩
 ·have q1 := bulk_pos x1.1
  have q3 := bulk_pos x3.1
  have q4 := bulk_pos x4.1
  have q5 := bulk_pos x5.1
  simp only [Rows.uptoBulk, List.map_cons, List.map_nil, Rows.uptoBulkAll]
  omega
 ·have hs2 : (DataW.weightsEach Tryz.prog [34, 3, 34, 3, 3, 3, 34] ([x0.1, x1.1, x2.1, x3.1, x4.1, x5.1, x6.1] ++ [])).all (fun x => decide (x ≤ reachBytes)) = true := by
   simp only [DataW.weights, und_entry] at hs
   simpa using hs
  exact ⟨reach_bytes hs2 0 rfl rfl hrd, reach_bytes hs2 2 rfl rfl hqd, reach_bytes hs2 6 rfl rfl hwd⟩

theorem weight_at {H : Type} : ∀ {ts : List TypeId} {ds : List (DataW H)} (h : (DataW.weightsEach Tryz.prog ts ds).all (fun x => decide (x ≤ reachBytes)) = true) (j : Nat) {t : TypeId} {d : DataW H} (ht : ts[j]? = some t) (hd : ds[j]? = some d), (d.weights Tryz.prog t).all (fun x => decide (x ≤ reachBytes)) = true
 | [], _, _, j, _, _, ht, _ => by simp at ht
 | _ :: _, [], _, j, _, _, _, hd => by simp at hd
 | t :: ts, d :: ds, h, 0, _, _, ht, hd => by
  simp only [List.getElem?_cons_zero, Option.some.injEq] at ht hd
  subst ht hd
  simp only [DataW.weightsEach, List.all_append, Bool.and_eq_true] at h
  exact h.1
 | t :: ts, d :: ds, h, j + 1, _, _, ht, hd => by
  simp only [DataW.weightsEach, List.all_append, Bool.and_eq_true] at h
  exact weight_at h.2 j (by simpa using ht) (by simpa using hd)

end Go.Proofs.YtpabbnddeklpdaaGreat

namespace Go.Proofs.YtpabbnddeklpdaaGreat
open Go.ChangeShapes Go.WideShapes Go.ChangeAt Go.RowKit
set_option linter.unusedVariables false

theorem weight_allE {H : Type} {e : TypeId} : ∀ {ds : List (DataW H)} (h : (DataW.weightsAll Tryz.prog e ds).all (fun x => decide (x ≤ reachBytes)) = true) {d : DataW H} (hd : d ∈ ds), (d.weights Tryz.prog e).all (fun x => decide (x ≤ reachBytes)) = true
 | [], _, _, hd => by cases hd
 | x :: ds, h, d, hd => by
  simp only [DataW.weightsAll, List.all_append, Bool.and_eq_true] at h
  rcases List.mem_cons.1 hd with rfl | hd
  ·exact h.1
  ·exact weight_allE h.2 hd

set_option maxRecDepth 100000 in
theorem open_entc {H : Type} {enc : TypeId × Value → H} {W : World} {base fuel : Nat} {held : Bool} {cs : List Value} {x : DataW H × List MemPlace} (h : DataW.trod enc Tryz.prog W base (fun _ => true) held fuel 38 cs = some x) (hl : cs.length = 7) (hk : (x.1.weights Tryz.prog 38).all (fun x => decide (x ≤ reachBytes)) = true) :
  ∃ e : EntD, cs = e.cells.toList ∧ EntD.Ok W e := by
 obtain ⟨d, p⟩ := x
 obtain ⟨e, h1, h2, _, h4⟩ := open_entry (v := .agg cs.toArray) (d := d) (p := p) ⟨fuel, by simpa [Value.cells] using h⟩ ⟨cs.toArray, rfl, by rw [cells_entry]; simpa using hl⟩
 have h5 := h4 hk
 refine ⟨e, ?_, h2 ⟨by omega, by omega, by omega⟩⟩
 have : cs.toArray = e.cells := by injection h1
 rw [← this]

end Go.Proofs.YtpabbnddeklpdaaGreat

namespace Go.Proofs.YtpabbnddeklpdaaGreat
open Go.ChangeShapes Go.WideShapes Go.ChangeAt Go.RowKit
set_option linter.unusedVariables false

set_option maxRecDepth 100000 in
theorem und_step8 : Tryz.prog.underlying 40 = some (.struct #[{ name := "Kind", type := 3, offset := 0, embedded := false, tag := "", pkgPath := "", byteOffset := 0 }, { name := "Other", type := 4, offset := 1, embedded := false, tag := "", pkgPath := "", byteOffset := 8 }, { name := "E", type := 38, offset := 2, embedded := false, tag := "", pkgPath := "", byteOffset := 16 }, { name := "G", type := 38, offset := 9, embedded := false, tag := "", pkgPath := "", byteOffset := 120 }, { name := "N", type := 3, offset := 16, embedded := false, tag := "", pkgPath := "", byteOffset := 224 }]) := by kernel_rfl
theorem und_steps8 : Tryz.prog.underlying 22 = some (.slice 40) := by kernel_rfl
theorem cells_step8 : Tryz.prog.cellsOf 40 = 17 := by kernel_rfl
theorem cells_bool8 : Tryz.prog.cellsOf 4 = 1 := by kernel_rfl
set_option maxRecDepth 100000 in
theorem open_step8 {H : Type} {enc : TypeId × Value → H} {W : World} {base fuel : Nat} {held : Bool} {cs : List Value} {x : DataW H × List MemPlace} (h : DataW.trod enc Tryz.prog W base (fun _ => true) held fuel 40 cs = some x) (hk : (x.1.weights Tryz.prog 40).all (fun x => decide (x ≤ reachBytes)) = true) :
  ∃ s : StepD, cs = s.cells.toList ∧ EntD.Ok W s.e ∧ EntD.Ok W s.g := by
 obtain ⟨d, p⟩ := x
 obtain ⟨xs, n, rfl, e, hcl, hxl, hf⟩ := DataW.trod_struct und_step8 h
 simp only [Prod.mk.injEq] at e
 obtain ⟨rfl, -⟩ := e
 rw [cells_step8] at hcl
 obtain ⟨c0, c1, c2, c3, c4, c5, c6, c7, c8, c9, c10, c11, c12, c13, c14, c15, c16, rfl⟩ : ∃ c0 c1 c2 c3 c4 c5 c6 c7 c8 c9 c10 c11 c12 c13 c14 c15 c16, cs = [c0, c1, c2, c3, c4, c5, c6, c7, c8, c9, c10, c11, c12, c13, c14, c15, c16] := by
  match cs, hcl with
  | [c0, c1, c2, c3, c4, c5, c6, c7, c8, c9, c10, c11, c12, c13, c14, c15, c16], _ => exact ⟨_, _, _, _, _, _, _, _, _, _, _, _, _, _, _, _, _, rfl⟩
 obtain ⟨x0, x1, x2, x3, x4, rfl⟩ : ∃ x0 x1 x2 x3 x4, xs = [x0, x1, x2, x3, x4] := by
  match xs, hxl with
  | [c0, c1, c2, c3, c4], _ => exact ⟨_, _, _, _, _, rfl⟩
 have f0 := hf 0 _ rfl
 have f1 := hf 1 _ rfl
 have f2 := hf 2 _ rfl
 have f3 := hf 3 _ rfl
 have f4 := hf 4 _ rfl
 simp [cells_int, cells_entry, cells_bool8] at f0 f1 f2 f3 f4
 obtain ⟨n0, e0, _, w0⟩ := DataW.trod_int und_int f0
 obtain ⟨n1, e1, _⟩ := DataW.trod_bool und_bool f1
 obtain ⟨n4, e4, _, w4⟩ := DataW.trod_int und_int f4
 simp at e0 e1 e4
 subst e0 e1 e4
 have hs2 : (DataW.weightsEach Tryz.prog [3, 4, 38, 38, 3] ([x0.1, x1.1, x2.1, x3.1, x4.1] ++ [])).all (fun x => decide (x ≤ reachBytes)) = true := by
  simp only [DataW.weights, und_step8] at hk
  simpa using hk
 obtain ⟨e, he, hoe⟩ := open_entc f2 rfl (weight_at hs2 2 rfl rfl)
 obtain ⟨g, hg, hog⟩ := open_entc f3 rfl (weight_at hs2 3 rfl rfl)
 simp [EntD.cells] at he hg
 obtain ⟨rfl, rfl, rfl, rfl, rfl, rfl, rfl⟩ := he
 obtain ⟨rfl, rfl, rfl, rfl, rfl, rfl, rfl⟩ := hg
 exact ⟨⟨n0, n1, e, g, n4⟩, rfl, hoe, hog⟩

set_option maxRecDepth 100000 in
theorem open_steps8 {H : Type} {enc : TypeId × Value → H} {W : World} {base : Nat} {held : Bool} {v : Value} {d : DataW H} {p : List MemPlace} (h0 : DataW.Trod enc Tryz.prog W base (fun _ => true) held 22 v d p) (hv : ∃ a n c, v = .slice a n c)
  (hk : (d.weights Tryz.prog 22).all (fun x => decide (x ≤ reachBytes)) = true) :
  ∃ a c xs, v = .slice a xs.length c ∧ RdS (fun k => k < W.heap.size) W a c xs := by
 obtain ⟨a, n, c, rfl⟩ := hv
 obtain ⟨fuel2, hf2⟩ := h0
 have hs2 : (DataW.weightsEach Tryz.prog [22] ([d] ++ [])).all (fun x => decide (x ≤ reachBytes)) = true := by
  simpa [DataW.weightsEach] using hk
 rcases Deep.open_slice und_steps8 hf2 with ⟨hcs, hx⟩ | ⟨x, l, c', m, k, D, Pl, hcs, _, hl, hm, hmm, hx, hel⟩
 ·simp [Value.cells] at hcs
  obtain ⟨rfl, rfl, rfl⟩ := hcs
  exact ⟨none, 0, [], rfl, ⟨⟨by simp, by decide⟩, fun i x h => by simp at h, fun s h => by simp at h, fun h => absurd rfl h⟩⟩
 ·simp [Value.cells] at hcs
  obtain ⟨rfl, rfl, rfl⟩ := hcs
  simp only [if_true] at hmm
  simp only [Prod.mk.injEq] at hx
  obtain ⟨hx1, _⟩ := hx
  have hn : n ≤ 281474976710656 := by
   rw [hx1] at hs2
   have := sized_slice hs2 (j := 0) (t := 22) rfl rfl und_steps8
   rw [show Tryz.prog.bytesOf 40 = 232 by kernel_rfl] at this
   simp at this
   unfold reachBytes at this
   omega
  have hwt : ∀ j, j < n → ((D j).weights Tryz.prog 40).all (fun x => decide (x ≤ reachBytes)) = true := by
   intro j hj
   rw [hx1] at hk
   simp only [DataW.weights, und_steps8, List.all_cons, List.all_append, Bool.and_eq_true] at hk
   exact weight_allE hk.2.1 (by simp only [List.mem_map, List.mem_range]; exact ⟨j, hj, rfl⟩)
  rw [cells_step8] at hel
  have hop : ∀ i, i < n → ∃ e : StepD, (∀ j y, e.cells.toList[j]? = some y → W.cell? ((x.add (i * 17)).add j) = some y) ∧ EntD.Ok W e.e ∧ EntD.Ok W e.g := by
   intro i hi
   obtain ⟨cs', hc1, hc2⟩ := hel i (by omega)
   obtain ⟨_, hlen, hget⟩ := World.cells?_some hc1
   obtain ⟨e, rfl, hok⟩ := open_step8 hc2 (hwt i hi)
   refine ⟨e, fun j y hj => ?_, hok⟩
   have hj7 : j < 17 := by
    have := (List.getElem?_eq_some_iff.1 hj).1
    simpa [StepD.cells] using this
   rw [hget j hj7]
   exact hj
  have build : ∀ q, q ≤ n → ∃ fs : List StepD, fs.length = q ∧ ∀ i f, fs[i]? = some f → (∀ j y, f.cells.toList[j]? = some y → W.cell? ((x.add (i * 17)).add j) = some y) ∧ EntD.Ok W f.e ∧ EntD.Ok W f.g := by
   intro q
   induction q with
   | zero => intro _; exact ⟨[], rfl, fun i o h => by simp at h⟩
   | succ q ih =>
    intro hq
    obtain ⟨os, hol, hos⟩ := ih (by omega)
    obtain ⟨o, ho⟩ := hop q (by omega)
    refine ⟨os ++ [o], by simp [hol], fun i o' h => ?_⟩
    by_cases hi : i < os.length
    ·rw [List.getElem?_append_left hi] at h
     exact hos i o' h
    ·rw [List.getElem?_append_right (by omega)] at h
     have hi2 : i = q := by
      by_cases h9 : i - os.length = 0
      ·omega
      ·rw [List.getElem?_eq_none (by simp; omega)] at h; cases h
     subst hi2
     rw [hol, Nat.sub_self] at h
     simp at h
     subst h
     exact ho
  obtain ⟨fs, hol, hos⟩ := build n (Nat.le_refl _)
  have hok : ∀ s ∈ fs, OkG (fun k => k < W.heap.size) W s.e ∧ OkG (fun k => k < W.heap.size) W s.g := fun s hs => by
   obtain ⟨i, hi⟩ := List.getElem?_of_mem hs
   have h := (hos i s hi).2
   exact ⟨⟨h.1, h.1.ltN⟩, ⟨h.2, h.2.ltN⟩⟩
  have key : 0 < n → ∃ b off, x = ⟨b, off, none⟩ ∧ b < W.heap.size := fun h0 => by
   obtain ⟨b, off, spot⟩ := x
   obtain ⟨o, hc, _⟩ := hop 0 h0
   have hc0 := hc 0 _ rfl
   have hspot : spot = none := by simpa [Addr.add] using World.cell?_spot hc0
   subst hspot
   refine ⟨b, off, rfl, ?_⟩
   have e : ∀ q r : Nat, ((⟨b, q, none⟩ : Addr).add r) = ⟨b, q + r, none⟩ := fun q r => by unfold Addr.add; split <;> simp_all
   simp only [e] at hc0
   exact World.block_lt_of_cell? _ _ hc0
  refine ⟨some x, c, fs, by rw [hol], ⟨⟨by omega, hm⟩, fun i f hi => ?_, hok, fun hne => ?_⟩⟩
  ·have hin : i < fs.length := (List.getElem?_eq_some_iff.1 hi).1
   obtain ⟨b, off, rfl, hb⟩ := key (by omega)
   refine ⟨b, off, rfl, hb, fun j u hu => ?_⟩
   have := (hos i f hi).1 j u (by rw [Array.getElem?_toList]; exact hu)
   have e : ∀ q r : Nat, ((⟨b, q, none⟩ : Addr).add r) = ⟨b, q + r, none⟩ := fun q r => by unfold Addr.add; split <;> simp_all
   simp only [e] at this
   exact this
  ·have : 0 < fs.length := List.length_pos_iff.2 hne
   obtain ⟨b, off, rfl, hb⟩ := key (by omega)
   exact ⟨b, off, rfl⟩

end Go.Proofs.YtpabbnddeklpdaaGreat
