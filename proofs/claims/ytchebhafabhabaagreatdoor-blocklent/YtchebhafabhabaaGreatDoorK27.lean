import Derived.Test.YtchebhafabhabaaGreatDoorK26
namespace Go.Proofs.YtchebhafabhabaaGreatDoor
open Go.ChangeShapes Go.WideShapes Go.ChangeAt Go.RowKit
set_option linter.unusedVariables false

set_option maxRecDepth 100000 in
theorem und_entry : Tryz.prog.underlying 40 = some (.struct #[{ name := "Row", type := 36, offset := 0, embedded := false, tag := "", pkgPath := "", byteOffset := 0 }, { name := "Fam", type := 3, offset := 1, embedded := false, tag := "", pkgPath := "", byteOffset := 24 }, { name := "Qual", type := 36, offset := 2, embedded := false, tag := "", pkgPath := "", byteOffset := 32 }, { name := "Ts", type := 3, offset := 3, embedded := false, tag := "", pkgPath := "", byteOffset := 56 }, { name := "Seq", type := 3, offset := 4, embedded := false, tag := "", pkgPath := "", byteOffset := 64 }, { name := "Kind", type := 3, offset := 5, embedded := false, tag := "", pkgPath := "", byteOffset := 72 }, { name := "Value", type := 36, offset := 6, embedded := false, tag := "", pkgPath := "", byteOffset := 80 }]) := by kernel_rfl
theorem cells_entry : Tryz.prog.cellsOf 40 = 7 := by kernel_rfl
theorem cells_int : Tryz.prog.cellsOf 3 = 1 := by kernel_rfl

theorem slice_one {H : Type} {enc : TypeId × Value → H} {W : World} {base fuel : Nat} {held : Bool} {t e : TypeId} {c : Value} {x : DataW H × List MemPlace} (hu : Tryz.prog.underlying t = some (.slice e)) (h : DataW.trod enc Tryz.prog W base (fun _ => true) held fuel t [c] = some x) : (∃ a n k, c = .slice a n k) ∧ DataW.Trod enc Tryz.prog W base (fun _ => true) held t c x.1 x.2 := by
 have hsl : ∃ a n k, c = .slice a n k := by
  rcases DataW.trod_slice hu h with ⟨h0, _⟩ | ⟨a, len, cap, _, _, _, _, h0, _⟩
  ·simp at h0; exact ⟨_, _, _, h0⟩
  ·simp at h0; exact ⟨_, _, _, h0⟩
 refine ⟨hsl, fuel, ?_⟩
 obtain ⟨a, n, k, rfl⟩ := hsl
 simpa [Value.cells] using h

set_option maxRecDepth 100000 in
theorem open_entry {H : Type} {enc : TypeId × Value → H} {W : World} {base : Nat} {held : Bool} {v : Value} {d : DataW H} {p : List MemPlace} (h0 : DataW.Trod enc Tryz.prog W base (fun _ => true) held 40 v d p) (hv : ∃ cs, v = .agg cs ∧ cs.size = Tryz.prog.cellsOf 40) :
  ∃ e : EntD, v = .agg e.cells ∧ ((e.row.length ≤ 281474976710656 ∧ e.qual.length ≤ 281474976710656 ∧ e.val.length ≤ 281474976710656) → EntD.Ok W e) ∧ (e.row.length + e.qual.length + e.val.length + 8 ≤ Rows.uptoBulk d) ∧
   ((d.weights Tryz.prog 40).all (fun x => decide (x ≤ reachBytes)) = true → e.row.length ≤ 140737488351232 ∧ e.qual.length ≤ 140737488351232 ∧ e.val.length ≤ 140737488351232) := by
 obtain ⟨csA, rfl, hcs⟩ := hv
 obtain ⟨fuel, h⟩ := h0
 obtain ⟨cs⟩ := csA
 simp only [Value.cells] at h
 obtain ⟨xs, n, hx, hdp, hcl, hxl, hf⟩ := DataW.trod_struct und_entry h
 simp only [Prod.mk.injEq] at hdp
 obtain ⟨rfl, rfl⟩ := hdp
 rw [cells_entry] at hcl
 obtain ⟨c0, c1, c2, c3, c4, c5, c6, rfl⟩ : ∃ c0 c1 c2 c3 c4 c5 c6, cs = [c0, c1, c2, c3, c4, c5, c6] := by
  match cs, hcl with
  | [c0, c1, c2, c3, c4, c5, c6], _ => exact ⟨_, _, _, _, _, _, _, rfl⟩
 obtain ⟨x0, x1, x2, x3, x4, x5, x6, rfl⟩ : ∃ x0 x1 x2 x3 x4 x5 x6, xs = [x0, x1, x2, x3, x4, x5, x6] := by
  match xs, hxl with
  | [c0, c1, c2, c3, c4, c5, c6], _ => exact ⟨_, _, _, _, _, _, _, rfl⟩
 have f0 := hf 0 _ rfl
 have f1 := hf 1 _ rfl
 have f2 := hf 2 _ rfl
 have f3 := hf 3 _ rfl
 have f4 := hf 4 _ rfl
 have f5 := hf 5 _ rfl
 have f6 := hf 6 _ rfl
 simp [cells_int, cells_bytes] at f0 f1 f2 f3 f4 f5 f6
 obtain ⟨n1, e1, b1, w1⟩ := DataW.trod_int und_int f1
 obtain ⟨n3, e3, b3, w3⟩ := DataW.trod_int und_int f3
 obtain ⟨n4, e4, b4, w4⟩ := DataW.trod_int und_int f4
 obtain ⟨n5, e5, b5, w5⟩ := DataW.trod_int und_int f5
 simp at e1 e3 e4 e5
 subst e1 e3 e4 e5
 obtain ⟨s0, t0⟩ := slice_one und_bytes f0
 obtain ⟨s2, t2⟩ := slice_one und_bytes f2
 obtain ⟨s6, t6⟩ := slice_one und_bytes f6
 obtain ⟨row, hr, hrl, hrd⟩ := open_bytes t0 s0
 obtain ⟨qual, hq, hql, hqd⟩ := open_bytes t2 s2
 obtain ⟨val, hw, hwl, hwd⟩ := open_bytes t6 s6
 refine ⟨⟨c0, n1, c2, n3, n4, n5, c6, row, qual, val⟩, rfl, fun h => ⟨hr h.1, hq h.2.1, hw h.2.2⟩, ?_, fun hs => ?_⟩
 ·have q1 := bulk_pos x1.1
  have q3 := bulk_pos x3.1
  have q4 := bulk_pos x4.1
  have q5 := bulk_pos x5.1
  simp only [Rows.uptoBulk, List.map_cons, List.map_nil, Rows.uptoBulkAll]
  omega
 ·have hs2 : (DataW.weightsEach Tryz.prog [36, 3, 36, 3, 3, 3, 36] ([x0.1, x1.1, x2.1, x3.1, x4.1, x5.1, x6.1] ++ [])).all (fun x => decide (x ≤ reachBytes)) = true := by
   simp only [DataW.weights, und_entry] at hs
   simpa using hs
  exact ⟨reach_bytes hs2 0 rfl rfl hrd, reach_bytes hs2 2 rfl rfl hqd, reach_bytes hs2 6 rfl rfl hwd⟩

theorem weight_at {H : Type} : ∀ {ts : List TypeId} {ds : List (DataW H)} (h : (DataW.weightsEach Tryz.prog ts ds).all (fun x => decide (x ≤ reachBytes)) = true) (j : Nat) {t : TypeId} {d : DataW H} (ht : ts[j]? = some t) (hd : ds[j]? = some d), (d.weights Tryz.prog t).all (fun x => decide (x ≤ reachBytes)) = true
 | [], _, _, j, _, _, ht, _ => by simp at ht
 | _ :: _, [], _, j, _, _, _, hd => by simp at hd
 | t :: ts, d :: ds, h, 0, _, _, ht, hd => by
  simp only [List.getElem?_cons_zero, Option.some.injEq] at ht hd
  subst ht hd
  simp only [DataW.weightsEach, List.all_append, Bool.and_eq_true] at h
  exact h.1
 | t :: ts, d :: ds, h, j + 1, _, _, ht, hd => by
  simp only [DataW.weightsEach, List.all_append, Bool.and_eq_true] at h
  exact weight_at h.2 j (by simpa using ht) (by simpa using hd)

end Go.Proofs.YtchebhafabhabaaGreatDoor

namespace Go.Proofs.YtchebhafabhabaaGreatDoor
open Go.ChangeShapes Go.WideShapes Go.ChangeAt Go.RowKit
set_option linter.unusedVariables false

theorem weight_allE5 {H : Type} {e : TypeId} : ∀ {ds : List (DataW H)} (h : (DataW.weightsAll Tryz.prog e ds).all (fun x => decide (x ≤ reachBytes)) = true) {d : DataW H} (hd : d ∈ ds), (d.weights Tryz.prog e).all (fun x => decide (x ≤ reachBytes)) = true
 | [], _, _, hd => by cases hd
 | x :: ds, h, d, hd => by
  simp only [DataW.weightsAll, List.all_append, Bool.and_eq_true] at h
  rcases List.mem_cons.1 hd with rfl | hd
  ·exact h.1
  ·exact weight_allE5 h.2 hd

set_option maxRecDepth 100000 in
theorem open_entc5 {H : Type} {enc : TypeId × Value → H} {W : World} {base fuel : Nat} {held : Bool} {cs : List Value} {x : DataW H × List MemPlace} (h : DataW.trod enc Tryz.prog W base (fun _ => true) held fuel 40 cs = some x) (hl : cs.length = 7) (hk : (x.1.weights Tryz.prog 40).all (fun x => decide (x ≤ reachBytes)) = true) :
  ∃ e : EntD, cs = e.cells.toList ∧ EntD.Ok W e := by
 obtain ⟨d, p⟩ := x
 obtain ⟨e, h1, h2, _, h4⟩ := open_entry (v := .agg cs.toArray) (d := d) (p := p) ⟨fuel, by simpa [Value.cells] using h⟩ ⟨cs.toArray, rfl, by rw [cells_entry]; simpa using hl⟩
 have h5 := h4 hk
 refine ⟨e, ?_, h2 ⟨by omega, by omega, by omega⟩⟩
 have : cs.toArray = e.cells := by injection h1
 rw [← this]

set_option maxRecDepth 100000 in
theorem open_ents5 {H : Type} {enc : TypeId × Value → H} {W : World} {base : Nat} {held : Bool} {v : Value} {d : DataW H} {p : List MemPlace} (h0 : DataW.Trod enc Tryz.prog W base (fun _ => true) held 22 v d p) (hv : ∃ a n c, v = .slice a n c)
  (hk : (d.weights Tryz.prog 22).all (fun x => decide (x ≤ reachBytes)) = true) :
  ∃ a cap xs, v = .slice a xs.length cap ∧ RdL5 W a cap xs := by
 obtain ⟨a, n, c, rfl⟩ := hv
 obtain ⟨fuel2, hf2⟩ := h0
 have hs2 : (DataW.weightsEach Tryz.prog [22] ([d] ++ [])).all (fun x => decide (x ≤ reachBytes)) = true := by
  simpa [DataW.weightsEach] using hk
 rcases Deep.open_slice und_ents5 hf2 with ⟨hcs, hx⟩ | ⟨x, l, c', m, k, D, Pl, hcs, _, hl, hm, hmm, hx, hel⟩
 ·simp [Value.cells] at hcs
  obtain ⟨rfl, rfl, rfl⟩ := hcs
  exact ⟨none, 0, [], rfl, ⟨by simp, Nat.zero_le _⟩, .inl rfl, (fun x hx => by cases hx), fun _ => rfl⟩
 ·simp [Value.cells] at hcs
  obtain ⟨rfl, rfl, rfl⟩ := hcs
  simp only [if_true] at hmm
  simp only [Prod.mk.injEq] at hx
  obtain ⟨hx1, _⟩ := hx
  have hn : n ≤ 281474976710656 := by
   rw [hx1] at hs2
   have := sized_slice hs2 (j := 0) (t := 22) rfl rfl und_ents5
   rw [show Tryz.prog.bytesOf 40 = 104 by kernel_rfl] at this
   simp at this
   unfold reachBytes at this
   omega
  have hwt : ∀ j, j < n → ((D j).weights Tryz.prog 40).all (fun x => decide (x ≤ reachBytes)) = true := by
   intro j hj
   rw [hx1] at hk
   simp only [DataW.weights, und_ents5, List.all_cons, List.all_append, Bool.and_eq_true] at hk
   exact weight_allE5 hk.2.1 (by simp only [List.mem_map, List.mem_range]; exact ⟨j, hj, rfl⟩)
  rw [cells_entry] at hel
  have hop : ∀ i, i < n → ∃ e : EntD, (∀ j y, e.cells.toList[j]? = some y → W.cell? ((x.add (i * 7)).add j) = some y) ∧ EntD.Ok W e := by
   intro i hi
   obtain ⟨cs', hc1, hc2⟩ := hel i (by omega)
   obtain ⟨_, hlen, hget⟩ := World.cells?_some hc1
   obtain ⟨e, rfl, hok⟩ := open_entc5 hc2 hlen (hwt i hi)
   refine ⟨e, fun j y hj => ?_, hok⟩
   have hj7 : j < 7 := by
    have := (List.getElem?_eq_some_iff.1 hj).1
    simpa [EntD.cells] using this
   rw [hget j hj7]
   exact hj
  have build : ∀ q, q ≤ n → ∃ fs : List EntD, fs.length = q ∧ ∀ i f, fs[i]? = some f → (∀ j y, f.cells.toList[j]? = some y → W.cell? ((x.add (i * 7)).add j) = some y) ∧ EntD.Ok W f := by
   intro q
   induction q with
   | zero => intro _; exact ⟨[], rfl, fun i o h => by simp at h⟩
   | succ q ih =>
    intro hq
    obtain ⟨os, hol, hos⟩ := ih (by omega)
    obtain ⟨o, ho⟩ := hop q (by omega)
    refine ⟨os ++ [o], by simp [hol], fun i o' h => ?_⟩
    by_cases hi : i < os.length
    ·rw [List.getElem?_append_left hi] at h
     exact hos i o' h
    ·rw [List.getElem?_append_right (by omega)] at h
     have hi2 : i = q := by
      by_cases h9 : i - os.length = 0
      ·omega
      ·rw [List.getElem?_eq_none (by simp; omega)] at h; cases h
     subst hi2
     rw [hol, Nat.sub_self] at h
     simp at h
     subst h
     exact ho
  obtain ⟨fs, hol, hos⟩ := build n (Nat.le_refl _)
  refine ⟨some x, c, fs, by rw [hol], ⟨by omega, hm⟩, ?_, fun f hf => ?_, fun h => by cases h⟩
  ·by_cases hn0 : n = 0
   ·exact .inl (List.eq_nil_of_length_eq_zero (by omega))
   ·right
    obtain ⟨b, off, spot⟩ := x
    obtain ⟨o, hc, _⟩ := hop 0 (by omega)
    have hc0 := hc 0 _ rfl
    have hspot : spot = none := by simpa [Addr.add] using World.cell?_spot hc0
    subst hspot
    have e : ∀ q r : Nat, ((⟨b, q, none⟩ : Addr).add r) = ⟨b, q + r, none⟩ := fun q r => by unfold Addr.add; split <;> simp_all
    refine ⟨b, off, rfl, fun i f hi j u hj => ?_⟩
    have h1 := (hos i f hi).1 j u hj
    rw [e, e] at h1
    exact h1
  ·obtain ⟨i, hi⟩ := List.getElem?_of_mem hf
   exact (hos i f hi).2
end Go.Proofs.YtchebhafabhabaaGreatDoor
