import Derived.Test.YtlkhphhmhffdjaaK28
namespace Go.Proofs.Ytlkhphhmhffdjaa
open Go.ChangeShapes Go.WideShapes Go.ChangeAt Go.RowKit
set_option linter.unusedVariables false
set_option linter.unusedSimpArgs false

theorem und_string5 : Try.prog.underlying 9 = some .string := by kernel_rfl
set_option maxRecDepth 100000 in
theorem und_file5 : Try.prog.underlying 60 = some (.struct #[{ name := "Name", type := 9, offset := 0, embedded := false, tag := "", pkgPath := "", byteOffset := 0 }, { name := "Data", type := 27, offset := 1, embedded := false, tag := "", pkgPath := "", byteOffset := 16 }, { name := "Synced", type := 3, offset := 2, embedded := false, tag := "", pkgPath := "", byteOffset := 40 }]) := by kernel_rfl
set_option maxRecDepth 100000 in
theorem und_op5 : Try.prog.underlying 30 = some (.struct #[{ name := "Kind", type := 3, offset := 0, embedded := false, tag := "", pkgPath := "", byteOffset := 0 }, { name := "Obj", type := 3, offset := 1, embedded := false, tag := "", pkgPath := "", byteOffset := 8 }, { name := "Name", type := 9, offset := 2, embedded := false, tag := "", pkgPath := "", byteOffset := 16 }, { name := "To", type := 9, offset := 3, embedded := false, tag := "", pkgPath := "", byteOffset := 32 }, { name := "B", type := 27, offset := 4, embedded := false, tag := "", pkgPath := "", byteOffset := 48 }, { name := "At", type := 3, offset := 5, embedded := false, tag := "", pkgPath := "", byteOffset := 72 }, { name := "N", type := 3, offset := 6, embedded := false, tag := "", pkgPath := "", byteOffset := 80 }, { name := "Cuts", type := 28, offset := 7, embedded := false, tag := "", pkgPath := "", byteOffset := 88 }, { name := "Files", type := 22, offset := 8, embedded := false, tag := "", pkgPath := "", byteOffset := 112 }]) := by kernel_rfl
theorem und_ops5 : Try.prog.underlying 44 = some (.slice 30) := by kernel_rfl
theorem cells_file5 : Try.prog.cellsOf 60 = 3 := by kernel_rfl
theorem cells_op5 : Try.prog.cellsOf 30 = 9 := by kernel_rfl
theorem cells_ints5 : Try.prog.cellsOf 28 = 1 := by kernel_rfl
theorem cells_files5 : Try.prog.cellsOf 22 = 1 := by kernel_rfl
theorem bulk_memL {H : Type} : ∀ {l : List (DataW H)} {d : DataW H}, d ∈ l → Rows.uptoBulk d ≤ Rows.uptoBulkAll l
 | x :: xs, d, h => by
  simp only [Rows.uptoBulkAll]
  rcases List.mem_cons.1 h with rfl | h
  ·omega
  ·have := bulk_memL h; omega
theorem bulk_least {H : Type} {k : Nat} : ∀ {l : List (DataW H)}, (∀ d ∈ l, k ≤ Rows.uptoBulk d) → l.length * k ≤ Rows.uptoBulkAll l
 | [], _ => by simp [Rows.uptoBulkAll]
 | x :: xs, h => by
  have h1 := h x (List.mem_cons_self ..)
  have h2 := bulk_least (fun d hd => h d (List.mem_cons_of_mem _ hd))
  simp only [Rows.uptoBulkAll, List.length_cons]
  rw [Nat.succ_mul]
  omega
theorem open_nums5 {H : Type} {enc : TypeId × Value → H} {W : World} {v : Value} {d : DataW H} {p : List MemPlace} {base : Nat} {held : Bool} (h : DataW.Trod enc Try.prog W base (fun _ => true) held 28 v d p) (hs : ∃ a n c, v = .slice a n c) : ∃ (js : List Int) (a : Option Addr) (c : Nat), v = .slice a js.length c ∧ RdI4 W (fun i => W.heap.size ≤ i) a c js ∧ js.length ≤ Rows.uptoBulk d ∧ (a = none → c = 0) := by
 obtain ⟨js, a, c, rfl, hr⟩ := open_nums4 h hs
 obtain ⟨fuel, hf⟩ := h
 rcases open_ints und_ints4 und_int4 cells_int4 hf with ⟨hcs, hx⟩ | ⟨x, l, c', zs, hcs, _, hl, hm, hz, hx, hcell, hwz⟩
 ·simp [Value.cells] at hcs
  obtain ⟨rfl, h0, rfl⟩ := hcs
  have hj : js.length = 0 := by first | exact h0 | (rw [h0]; rfl) | simp_all
  exact ⟨js, none, 0, rfl, hr, by omega, fun _ => rfl⟩
 ·simp [Value.cells] at hcs
  obtain ⟨rfl, h0, rfl⟩ := hcs
  simp only [if_true] at hz
  refine ⟨js, some x, c, rfl, hr, ?_, fun e => by cases e⟩
  have hx1 := congrArg Prod.fst hx
  simp only at hx1
  rw [hx1]
  simp only [Rows.uptoBulk]
  have h1 := bulk_len (lits IntKind.i64 (zs.take l) : List (DataW H))
  have h2 : (lits IntKind.i64 (zs.take l) : List (DataW H)).length = l := by unfold lits; rw [List.length_map, List.length_take]; omega
  have h3 : js.length = l := by first | exact h0.symm | exact h0 | simp_all
  omega
set_option maxRecDepth 100000 in
theorem open_file5 {H : Type} {enc : TypeId × Value → H} {W : World} {base fuel : Nat} {held : Bool} {cs : List Value} {x : DataW H × List MemPlace} (h : DataW.trod enc Try.prog W base (fun _ => true) held fuel 60 cs = some x) :
  ∃ f : GF × Value, cs = [.string f.1.1, f.2, .int .i64 f.1.2.2] ∧ (f.1.2.1.length ≤ 281474976710656 → ∃ ap cp, f.2 = .slice ap f.1.2.1.length cp ∧ Rd W f.2 f.1.2.1) ∧ f.1.2.1.length + 4 ≤ Rows.uptoBulk x.1 := by
 obtain ⟨d, p⟩ := x
 obtain ⟨xs, n, hx, hdp, hcl, hxl, hf⟩ := DataW.trod_struct und_file5 h
 simp only [Prod.mk.injEq] at hdp
 obtain ⟨rfl, rfl⟩ := hdp
 rw [cells_file5] at hcl
 obtain ⟨c0, c1, c2, rfl⟩ : ∃ c0 c1 c2, cs = [c0, c1, c2] := by
  match cs, hcl with
  | [c0, c1, c2], _ => exact ⟨_, _, _, rfl⟩
 obtain ⟨x0, x1, x2, rfl⟩ : ∃ x0 x1 x2, xs = [x0, x1, x2] := by
  match xs, hxl with
  | [c0, c1, c2], _ => exact ⟨_, _, _, rfl⟩
 have f0 := hf 0 _ rfl
 have f1 := hf 1 _ rfl
 have f2 := hf 2 _ rfl
 simp [cells_int4, cells_bytes, cells_strN] at f0 f1 f2
 obtain ⟨s0, e0, b0, w0⟩ := DataW.trod_string und_string5 f0
 obtain ⟨n2, e2, b2, w2⟩ := DataW.trod_int und_int4 f2
 simp at e0 e2
 subst e0 e2
 obtain ⟨s1, t1⟩ := slice_one4 und_bytes f1
 obtain ⟨bs, hr, hrl, hrd⟩ := open_bytes t1 s1
 refine ⟨((s0, bs, n2), c1), rfl, fun hb => ?_, ?_⟩
 ·have hr2 := hr hb
  obtain ⟨_, a1, k1, e1, _⟩ := id hr2
  exact ⟨a1, k1, e1, hr2⟩
 ·simp only [List.map, Rows.uptoBulk, Rows.uptoBulkAll]
  have h0 := bulk_pos x0.1
  have h2 := bulk_pos x2.1
  omega
set_option maxRecDepth 100000 in
theorem open_files5 {H : Type} {enc : TypeId × Value → H} {W : World} {base : Nat} {held : Bool} {v : Value} {d : DataW H} {p : List MemPlace} (h0 : DataW.Trod enc Try.prog W base (fun _ => true) held 22 v d p) (hv : ∃ a n c, v = .slice a n c) (hu : Rows.uptoBulk d ≤ 1048576) :
  ∃ (fs : List (GF × Value)) (a : Option Addr) (c : Nat), v = .slice a fs.length c ∧ RdGA W (fun i => W.heap.size ≤ i) a c fs ∧ fs.length ≤ 300000 ∧ ∀ x ∈ fs, x.1.2.1.length ≤ 1048576 := by
 obtain ⟨a, n, c, rfl⟩ := hv
 obtain ⟨fuel2, hf2⟩ := h0
 rcases Deep.open_slice und_files4 hf2 with ⟨hcs, hx⟩ | ⟨x, l, c', m, k, D, Pl, hcs, _, hl, hm, hmm, hx, hel⟩
 ·simp [Value.cells] at hcs
  obtain ⟨rfl, rfl, rfl⟩ := hcs
  exact ⟨[], none, 0, rfl, ⟨⟨⟨by simp, by decide⟩, fun i x h => by simp at h, fun x h => by cases h⟩, fun g off e ne => absurd rfl ne, fun x h => by cases h⟩, by simp, fun x h => by cases h⟩
 ·simp [Value.cells] at hcs
  obtain ⟨rfl, rfl, rfl⟩ := hcs
  simp only [if_true] at hmm
  simp only [Prod.mk.injEq] at hx
  obtain ⟨hx1, _⟩ := hx
  rw [hx1] at hu
  simp only [Rows.uptoBulk] at hu
  rw [cells_file5] at hel
  have hop : ∀ i, i < n → ∃ f : GF × Value, (W.cell? ((x.add (i * 3)).add 0) = some (.string f.1.1) ∧ W.cell? ((x.add (i * 3)).add 1) = some f.2 ∧ W.cell? ((x.add (i * 3)).add 2) = some (.int .i64 f.1.2.2)) ∧ (f.1.2.1.length ≤ 281474976710656 → ∃ ap cp, f.2 = .slice ap f.1.2.1.length cp ∧ Rd W f.2 f.1.2.1) ∧ f.1.2.1.length + 4 ≤ Rows.uptoBulk (D i) := by
   intro i hi
   obtain ⟨cs', hc1, hc2⟩ := hel i (by omega)
   obtain ⟨f, rfl, hr⟩ := open_file5 hc2
   obtain ⟨_, hlen, hget⟩ := World.cells?_some hc1
   exact ⟨f, ⟨by rw [hget 0 (by omega)]; rfl, by rw [hget 1 (by omega)]; rfl, by rw [hget 2 (by omega)]; rfl⟩, hr⟩
  have hmem : ∀ i, i < n → D i ∈ (List.range n).map D := fun i hi => List.mem_map.2 ⟨i, List.mem_range.2 hi, rfl⟩
  have hcnt : n * 4 ≤ Rows.uptoBulkAll ((List.range n).map D) := by
   have := bulk_least (k := 4) (l := (List.range n).map D) (fun d hd => by
    obtain ⟨i, hi, rfl⟩ := List.mem_map.1 hd
    obtain ⟨f, _, _, h4⟩ := hop i (List.mem_range.1 hi)
    omega)
   simpa using this
  have build : ∀ q, q ≤ n → ∃ fs : List (GF × Value), fs.length = q ∧ ∀ i f, fs[i]? = some f → (W.cell? ((x.add (i * 3)).add 0) = some (.string f.1.1) ∧ W.cell? ((x.add (i * 3)).add 1) = some f.2 ∧ W.cell? ((x.add (i * 3)).add 2) = some (.int .i64 f.1.2.2)) ∧ (f.1.2.1.length ≤ 281474976710656 → ∃ ap cp, f.2 = .slice ap f.1.2.1.length cp ∧ Rd W f.2 f.1.2.1) ∧ f.1.2.1.length + 4 ≤ Rows.uptoBulk (D i) := by
   intro q
   induction q with
   | zero => intro _; exact ⟨[], rfl, fun i o h => by simp at h⟩
   | succ q ih =>
    intro hq
    obtain ⟨os, hol, hos⟩ := ih (by omega)
    obtain ⟨o, ho⟩ := hop q (by omega)
    refine ⟨os ++ [o], by simp [hol], fun i o' h => ?_⟩
    by_cases hi : i < os.length
    ·rw [List.getElem?_append_left hi] at h
     exact hos i o' h
    ·rw [List.getElem?_append_right (by omega)] at h
     have hi2 : i = q := by
      by_cases h9 : i - os.length = 0
      ·omega
      ·rw [List.getElem?_eq_none (by simp; omega)] at h; cases h
     subst hi2
     rw [hol, Nat.sub_self] at h
     simp at h
     subst h
     exact ho
  obtain ⟨fs, hol, hos⟩ := build n (Nat.le_refl _)
  have hlen : ∀ (i : Nat) (f : GF × Value), fs[i]? = some f → f.1.2.1.length ≤ 1048576 := fun i f hi => by
   have h1 := (hos i f hi).2.2
   have hin : i < n := by have := (List.getElem?_eq_some_iff.1 hi).1; omega
   have h2 := bulk_memL (hmem i hin)
   omega
  have spot0 : ∀ (i : Nat) (f : GF × Value), fs[i]? = some f → ∃ b off, x = ⟨b, off, none⟩ := fun i f hi => by
   obtain ⟨b, off, spot⟩ := x
   obtain ⟨o, ⟨hc0, _⟩, _⟩ := hop 0 (by have := (List.getElem?_eq_some_iff.1 hi).1; omega)
   have hspot : spot = none := by simpa [Addr.add] using World.cell?_spot hc0
   exact ⟨b, off, by rw [hspot]⟩
  have e : ∀ b q r : Nat, ((⟨b, q, none⟩ : Addr).add r) = ⟨b, q + r, none⟩ := fun b q r => by unfold Addr.add; split <;> simp_all
  refine ⟨fs, some x, c, by rw [hol], ⟨⟨⟨by omega, hm⟩, fun i f hi => ?_, fun f hf => ?_⟩, fun g off ea ne hg => ?_, fun f hf b off n2 c2 ef hn hb => ?_⟩, by omega, fun f hf => ?_⟩
  ·obtain ⟨b, off, rfl⟩ := spot0 i f hi
   have h1 := (hos i f hi).1
   simp only [e] at h1
   exact ⟨b, off, rfl, by simpa using h1.1, h1.2.1, h1.2.2⟩
  ·obtain ⟨i, hi⟩ := List.getElem?_of_mem hf
   have h5 := hlen i f hi
   exact (hos i f hi).2.1 (by omega)
  ·cases hfs : fs with
   | nil => exact ne hfs
   | cons y ys =>
    have h1 := (hos 0 y (by rw [hfs]; rfl)).1.1
    have := World.block_lt_of_cell? _ _ h1
    cases ea
    simp only [e] at this
    omega
  ·obtain ⟨i, hi⟩ := List.getElem?_of_mem hf
   have h5 := hlen i f hi
   obtain ⟨ap, cp, _, hr⟩ := (hos i f hi).2.1 (by omega)
   rw [ef] at hr
   have := hr.blk_lt hn
   omega
  ·obtain ⟨i, hi⟩ := List.getElem?_of_mem hf
   exact hlen i f hi
theorem wf_min5 {n : Int} (h : (Lit.int .i64 n).wf = true) : -9223372036854775808 ≤ n ∧ n ≤ 9223372036854775807 := by
 have e1 : IntKind.i64.min = -9223372036854775808 := by decide
 have e2 : IntKind.i64.max = 9223372036854775807 := by decide
 simp only [Lit.wf, e1, e2, Bool.and_eq_true, decide_eq_true_eq] at h
 exact h
set_option maxRecDepth 100000 in
theorem open_op5 {H : Type} {enc : TypeId × Value → H} {W : World} {base fuel : Nat} {held : Bool} {cs : List Value} {x : DataW H × List MemPlace} (h : DataW.trod enc Try.prog W base (fun _ => true) held fuel 30 cs = some x) (hu : Rows.uptoBulk x.1 ≤ 1048576) :
  ∃ f : OpD, cs = f.vals ∧ RdOp W (fun i => W.heap.size ≤ i) f := by
 obtain ⟨d, p⟩ := x
 obtain ⟨xs, n, hx, hdp, hcl, hxl, hf⟩ := DataW.trod_struct und_op5 h
 simp only [Prod.mk.injEq] at hdp
 obtain ⟨rfl, rfl⟩ := hdp
 rw [cells_op5] at hcl
 obtain ⟨c0, c1, c2, c3, c4, c5, c6, c7, c8, rfl⟩ : ∃ c0 c1 c2 c3 c4 c5 c6 c7 c8, cs = [c0, c1, c2, c3, c4, c5, c6, c7, c8] := by
  match cs, hcl with
  | [c0, c1, c2, c3, c4, c5, c6, c7, c8], _ => exact ⟨_, _, _, _, _, _, _, _, _, rfl⟩
 obtain ⟨x0, x1, x2, x3, x4, x5, x6, x7, x8, rfl⟩ : ∃ x0 x1 x2 x3 x4 x5 x6 x7 x8, xs = [x0, x1, x2, x3, x4, x5, x6, x7, x8] := by
  match xs, hxl with
  | [x0, x1, x2, x3, x4, x5, x6, x7, x8], _ => exact ⟨_, _, _, _, _, _, _, _, _, rfl⟩
 have f0 := hf 0 _ rfl
 have f1 := hf 1 _ rfl
 have f2 := hf 2 _ rfl
 have f3 := hf 3 _ rfl
 have f4 := hf 4 _ rfl
 have f5 := hf 5 _ rfl
 have f6 := hf 6 _ rfl
 have f7 := hf 7 _ rfl
 have f8 := hf 8 _ rfl
 simp [cells_int4, cells_bytes, cells_strN, cells_ints5, cells_files5] at f0 f1 f2 f3 f4 f5 f6 f7 f8
 obtain ⟨n0, e0, b0, w0⟩ := DataW.trod_int und_int4 f0
 obtain ⟨n1, e1, b1, w1⟩ := DataW.trod_int und_int4 f1
 obtain ⟨s2, e2, b2, w2⟩ := DataW.trod_string und_string5 f2
 obtain ⟨s3, e3, b3, w3⟩ := DataW.trod_string und_string5 f3
 obtain ⟨n5, e5, b5, w5⟩ := DataW.trod_int und_int4 f5
 obtain ⟨n6, e6, b6, w6⟩ := DataW.trod_int und_int4 f6
 simp at e0 e1 e2 e3 e5 e6
 subst e0 e1 e2 e3 e5 e6
 obtain ⟨s4, t4⟩ := slice_one4 und_bytes f4
 obtain ⟨s7, t7⟩ := slice_one4 und_ints4 f7
 obtain ⟨s8, t8⟩ := slice_one4 und_files4 f8
 simp only [List.map, Rows.uptoBulk, Rows.uptoBulkAll] at hu
 obtain ⟨bs, hr, hrl, hrd⟩ := open_bytes t4 s4
 obtain ⟨js, a7, k7, e7, r7, l7, nn7⟩ := open_nums5 t7 s7
 obtain ⟨fs, a8, k8, e8, r8, l8, d8⟩ := open_files5 t8 s8 (by omega)
 subst e7 e8
 obtain ⟨a4, n4, k4, e4⟩ := s4
 subst e4
 exact ⟨⟨n0, n1, s2, s3, a4, n4, k4, bs, n5, n6, a7, js.length, k7, js, a8, fs.length, k8, fs⟩, rfl, ⟨RdA.of_rd (hr (by omega)), by simp only; omega, r7, rfl, nn7, by simp only; omega, r8, rfl, l8, d8, wf_min5 w5, wf_min5 w6, wf_min5 w1⟩⟩
set_option maxRecDepth 100000 in
theorem open_ops5 {H : Type} {enc : TypeId × Value → H} {W : World} {base : Nat} {held : Bool} {v : Value} {d : DataW H} {p : List MemPlace} (h0 : DataW.Trod enc Try.prog W base (fun _ => true) held 44 v d p) (hv : ∃ a n c, v = .slice a n c) (hu : Rows.uptoBulk d ≤ 1048576) :
  ∃ (xs : List OpD) (a : Option Addr) (c : Nat), v = .slice a xs.length c ∧ RdOps W a c xs := by
 obtain ⟨a, n, c, rfl⟩ := hv
 obtain ⟨fuel2, hf2⟩ := h0
 rcases Deep.open_slice und_ops5 hf2 with ⟨hcs, hx⟩ | ⟨x, l, c', m, k, D, Pl, hcs, _, hl, hm, hmm, hx, hel⟩
 ·simp [Value.cells] at hcs
  obtain ⟨rfl, rfl, rfl⟩ := hcs
  exact ⟨[], none, 0, rfl, ⟨by simp, by decide⟩, fun i x h => by simp at h, fun x h => by cases h⟩
 ·simp [Value.cells] at hcs
  obtain ⟨rfl, rfl, rfl⟩ := hcs
  simp only [if_true] at hmm
  simp only [Prod.mk.injEq] at hx
  obtain ⟨hx1, _⟩ := hx
  rw [hx1] at hu
  simp only [Rows.uptoBulk] at hu
  rw [cells_op5] at hel
  have hop : ∀ i, i < n → ∃ f : OpD, (∀ j u, f.vals[j]? = some u → W.cell? ((x.add (i * 9)).add j) = some u) ∧ RdOp W (fun i => W.heap.size ≤ i) f := by
   intro i hi
   obtain ⟨cs', hc1, hc2⟩ := hel i (by omega)
   have h2 := bulk_memL (List.mem_map.2 ⟨i, List.mem_range.2 hi, rfl⟩ : D i ∈ (List.range n).map D)
   obtain ⟨f, rfl, hr⟩ := open_op5 hc2 (by simp only; omega)
   obtain ⟨_, hlen, hget⟩ := World.cells?_some hc1
   refine ⟨f, fun j u hj => ?_, hr⟩
   have hj9 : j < 9 := by
    have := (List.getElem?_eq_some_iff.1 hj).1
    simpa [OpD.vals] using this
   rw [hget j hj9]
   exact hj
  have build : ∀ q, q ≤ n → ∃ fs : List (OpD), fs.length = q ∧ ∀ i f, fs[i]? = some f → (∀ j u, f.vals[j]? = some u → W.cell? ((x.add (i * 9)).add j) = some u) ∧ RdOp W (fun i => W.heap.size ≤ i) f := by
   intro q
   induction q with
   | zero => intro _; exact ⟨[], rfl, fun i o h => by simp at h⟩
   | succ q ih =>
    intro hq
    obtain ⟨os, hol, hos⟩ := ih (by omega)
    obtain ⟨o, ho⟩ := hop q (by omega)
    refine ⟨os ++ [o], by simp [hol], fun i o' h => ?_⟩
    by_cases hi : i < os.length
    ·rw [List.getElem?_append_left hi] at h
     exact hos i o' h
    ·rw [List.getElem?_append_right (by omega)] at h
     have hi2 : i = q := by
      by_cases h9 : i - os.length = 0
      ·omega
      ·rw [List.getElem?_eq_none (by simp; omega)] at h; cases h
     subst hi2
     rw [hol, Nat.sub_self] at h
     simp at h
     subst h
     exact ho
  obtain ⟨fs, hol, hos⟩ := build n (Nat.le_refl _)
  have e : ∀ b q r : Nat, ((⟨b, q, none⟩ : Addr).add r) = ⟨b, q + r, none⟩ := fun b q r => by unfold Addr.add; split <;> simp_all
  refine ⟨fs, some x, c, by rw [hol], ⟨by omega, hm⟩, fun i f hi => ?_, fun f hf => ?_⟩
  ·obtain ⟨b, off, spot⟩ := x
   obtain ⟨o, hc, _⟩ := hop 0 (by have := (List.getElem?_eq_some_iff.1 hi).1; omega)
   have hc0 := hc 0 _ rfl
   have hspot : spot = none := by simpa [Addr.add] using World.cell?_spot hc0
   subst hspot
   refine ⟨b, off, rfl, fun j u hj => ?_⟩
   have := (hos i f hi).1 j u hj
   rw [e, e] at this
   exact this
  ·obtain ⟨i, hi⟩ := List.getElem?_of_mem hf
   exact (hos i f hi).2
end Go.Proofs.Ytlkhphhmhffdjaa
