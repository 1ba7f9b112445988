import Derived.Test.YtledfniedoapiaaDoorRows
import Derived.Test.YtledfniedoapiaaDoorJ01
import Derived.ProofKit
import Derived.OpenShut
import Derived.Deep.DeepHandedRow
import Derived.Lib.LaidTab
import Derived.Deep.Slices
import Derived.Test.YtledfniedoapiaaDoorJ09
import Derived.Test.YtledfniedoapiaaDoorWD6
import Derived.Test.YtledfniedoapiaaDoorJ02
import Derived.Lib.Hide
namespace Go.Proofs.YtledfniedoapiaaDoor
open Go.ChangeShapes Go.WideShapes Go.ChangeAt Go.RowKit
set_option linter.unusedVariables false

theorem own_knob : ownKnob Tryd.prog.godebug = none := by kernel_rfl
theorem laid_out : laidOutB Tryd.prog = true := by kernel_rfl
theorem g_tab : Tryd.prog.globalNamed "strata/wire.halves" = some 0 := by kernel_rfl
theorem g_tab_type : (Tryd.prog.globals[0]?).map (·.type) = some 93 := by kernel_rfl
theorem und_tab : Tryd.prog.underlying 93 = some (.array 16 77) := by kernel_rfl
theorem und_u32 : Tryd.prog.underlying 77 = some (.int .u32) := by kernel_rfl
theorem und_int : Tryd.prog.underlying 3 = some (.int .i64) := by kernel_rfl
theorem und_u64 : Tryd.prog.underlying 22 = some (.int .u64) := by kernel_rfl
theorem und_bool : Tryd.prog.underlying 4 = some .bool := by kernel_rfl
theorem cells_tab : Tryd.prog.cellsOf 93 = 16 := by kernel_rfl
theorem cells_u32 : Tryd.prog.cellsOf 77 = 1 := by kernel_rfl
theorem cells_byte : Tryd.prog.cellsOf 5 = 1 := by kernel_rfl
theorem cells_bytes : Tryd.prog.cellsOf 23 = 1 := by kernel_rfl

/-- What the list of a row gives: the table lies in memory. -/
theorem tab_of {W : World} (h : laidMetH Tryd.prog Rows.wireOwnRow.laid W) : Tab W := by
  have t : Lib.TabIs Tryd.prog W "strata/wire.halves" .u32 [0, 274646895, 549293790, 820201905, 1098587580, 1361435347, 1640403810, 1905808397, 2197175160, 2460548119, 2722870694, 2987750089, 3280807620, 3553878443, 3811616794, 4084100981] :=
    Lib.tabIs_of_head (rest := []) g_tab g_tab_type und_tab und_u32 cells_u32 cells_tab h
  intro i hi
  have := t.cell g_tab i (by simpa using hi)
  rw [this]
  have key : ∀ j, j < 16 → ([0, 274646895, 549293790, 820201905, 1098587580, 1361435347, 1640403810, 1905808397, 2197175160, 2460548119, 2722870694, 2987750089, 3280807620, 3553878443, 3811616794, 4084100981] : List Int).getD j 0 = ((tab.getD j 0 : Nat) : Int) := by decide
  rw [key i hi]

theorem bulk_pos {H : Type} (d : DataW H) : 1 ≤ Rows.uptoBulk d := by
  cases d with
  | lit l => cases l <;> simp [Rows.uptoBulk]
  | nil => simp [Rows.uptoBulk]
  | ptr d => simp [Rows.uptoBulk]
  | slice elems spare => simp [Rows.uptoBulk]
  | agg parts => simp [Rows.uptoBulk]
  | iface t d => simp [Rows.uptoBulk]
  | map entries => simp [Rows.uptoBulk]
  | held h => simp [Rows.uptoBulk]
theorem bulk_len {H : Type} (l : List (DataW H)) : l.length ≤ Rows.uptoBulkAll l := by
  induction l with
  | nil => simp [Rows.uptoBulkAll]
  | cons x r ih => have := bulk_pos x; simp only [Rows.uptoBulkAll, List.length_cons]; omega

/-- A slice of bytes that came in. -/
theorem open_bytes {H : Type} {enc : TypeId × Value → H} {W : World} {v : Value} {d : DataW H} {p : List MemPlace} {base : Nat} {held : Bool} (h : DataW.Trod enc Tryd.prog W base (fun _ => true) held 23 v d p) (hs : ∃ a n c, v = .slice a n c) :
    ∃ bs : List Nat, (bs.length ≤ 281474976710656 → Rd W v bs) ∧ bs.length + 1 ≤ Rows.uptoBulk d ∧ (bs = [] ∨ ∃ elems spare, d = .slice elems spare ∧ elems.length = bs.length) := by
  obtain ⟨a, n, c, rfl⟩ := hs
  obtain ⟨fuel, hf⟩ := h
  rcases open_ints und_bytes und_byte cells_byte hf with ⟨hcs, hx⟩ | ⟨x, l, c', zs, hcs, _, hl, hm, hz, hx, hcell, hwz⟩
  · simp [Value.cells] at hcs
    obtain ⟨rfl, rfl, rfl⟩ := hcs
    refine ⟨[], fun _ => Rd.nil W, ?_, .inl rfl⟩
    have := bulk_pos d
    simpa using this
  · simp [Value.cells] at hcs
    obtain ⟨rfl, rfl, rfl⟩ := hcs
    simp only [if_true] at hz
    simp only [Prod.mk.injEq] at hx
    obtain ⟨rfl, _⟩ := hx
    have hby : ∀ i, i < zs.length → 0 ≤ zs.getD i 0 ∧ zs.getD i 0 < 256 := by
      intro i hi
      have hmem : zs.getD i 0 ∈ zs := by simp [List.getD, List.getElem?_eq_getElem hi]
      have := bounds_u8 (hwz _ hmem)
      omega
    refine ⟨(zs.take n).map Int.toNat, fun hlen => ⟨?_, some x, c, ?_, ?_, hm, hlen, ?_, ?_⟩, ?_, .inr ⟨_, _, rfl, by simp [lits]⟩⟩
    · intro y hy
      simp only [List.mem_map] at hy
      obtain ⟨z, hz1, rfl⟩ := hy
      have := bounds_u8 (hwz z (List.mem_of_mem_take hz1))
      omega
    · simp; omega
    · simp; omega
    · by_cases hc0 : c = 0
      · exact .inl hc0
      · right
        obtain ⟨b, off, spot⟩ := x
        have hc := hcell 0 (by omega)
        have hspot : spot = none := by simpa [Addr.add] using World.cell?_spot hc
        subst hspot
        exact ⟨b, off, rfl⟩
    · by_cases hn0 : n = 0
      · left; simp [hn0]
      · right
        obtain ⟨b, off, spot⟩ := x
        have hc := hcell 0 (by omega)
        have hspot : spot = none := by simpa [Addr.add] using World.cell?_spot hc
        subst hspot
        refine ⟨b, off, rfl, fun i hi => ?_⟩
        have hin : i < n := by simp at hi; omega
        have hc := hcell i (by omega)
        have e : (⟨b, off, none⟩ : Addr).add i = ⟨b, off + i, none⟩ := by unfold Addr.add; split <;> simp_all
        rw [e] at hc
        rw [hc]
        have hb := hby i (by omega)
        have e2 : ((zs.take n).map Int.toNat).getD i 0 = (zs.getD i 0).toNat := by
          simp [List.getElem?_take_of_lt hin, List.getElem?_eq_getElem (show i < zs.length by omega)]
        rw [e2, Int.toNat_of_nonneg hb.1]
    · have h1 := bulk_len (H := H) (lits .u8 (zs.take n))
      simp only [Rows.uptoBulk]
      simp [lits] at h1 ⊢
      omega

/-- What the reach gives of a slice of bytes. -/
theorem reach_bytes {H : Type} {ts : List TypeId} {ds gs : List (DataW H)} (h : (DataW.weightsEach Tryd.prog ts (ds ++ gs)).all (fun x => decide (x ≤ reachBytes)) = true) (j : Nat) (ht : ts[j]? = some 23) {d : DataW H} (hd : ds[j]? = some d) {bs : List Nat} (hx : bs = [] ∨ ∃ elems spare, d = .slice elems spare ∧ elems.length = bs.length) : bs.length ≤ 140737488351232 := by
  rcases hx with rfl | ⟨elems, spare, rfl, hl⟩
  · simp
  · have hd2 : (ds ++ gs)[j]? = some (.slice elems spare) := by
      rw [List.getElem?_append_left (List.getElem?_eq_some_iff.1 hd).1]
      exact hd
    have := sized_slice h ht hd2 und_bytes
    rw [show Tryd.prog.bytesOf 5 = 1 by kernel_rfl] at this
    unfold reachBytes at this
    omega

end Go.Proofs.YtledfniedoapiaaDoor

namespace Go.Proofs.YtledfniedoapiaaDoor
open Go.ChangeShapes Go.WideShapes Go.ChangeAt Go.RowKit
set_option linter.unusedVariables false

theorem rdp_nil0 (w : World) : RdP w (.slice none 0 0) [] := ⟨by simp, none, 0, rfl, .inl rfl⟩
/-- A slice of slices of bytes that came in. -/
theorem open_parts {H : Type} {enc : TypeId × Value → H} {W : World} {v : Value} {d : DataW H} {p : List MemPlace} {base : Nat} {held : Bool} (h : DataW.Trod enc Tryd.prog W base (fun _ => true) held 25 v d p) (hs : ∃ a n c, v = .slice a n c) (hk : Rows.uptoBulk d ≤ 1048576) :
    ∃ ps : List (List Nat), RdP W v ps ∧ ps.length + ps.flatten.length + 1 ≤ Rows.uptoBulk d := by
  obtain ⟨a, n, c, rfl⟩ := hs
  obtain ⟨fuel, hf⟩ := h
  rcases Deep.open_slice1 und_parts cells_bytes hf with ⟨hcs, hx⟩ | ⟨x, l, c', m, k, V, D, Pl, hcs, _, hl, hm, hmm, hx, hel⟩
  · simp [Value.cells] at hcs
    obtain ⟨rfl, rfl, rfl⟩ := hcs
    refine ⟨[], rdp_nil0 W, ?_⟩
    have := bulk_pos d
    simpa using this
  · simp [Value.cells] at hcs
    obtain ⟨rfl, rfl, rfl⟩ := hcs
    simp only [if_true] at hmm
    simp only [Prod.mk.injEq] at hx
    obtain ⟨rfl, _⟩ := hx
    have sum_le : ∀ j, j ≤ n → ∃ ps : List (List Nat), ps.length = j ∧ (∀ i, i < j → Rd W (V i) (ps.getD i [])) ∧ ps.length + ps.flatten.length ≤ Rows.uptoBulkAll ((List.range j).map D) := by
      intro j
      induction j with
      | zero => intro _; exact ⟨[], rfl, fun i hi => by omega, by simp⟩
      | succ j ih =>
        intro hj
        obtain ⟨ps, hpl, hrd, hb⟩ := ih (by omega)
        obtain ⟨hcell, htr⟩ := hel j (by omega)
        have hsl : ∃ a n c, V j = .slice a n c := by
          rcases DataW.trod_slice und_bytes htr with ⟨h0, _⟩ | ⟨a, len, cap, _, _, _, _, h0, _⟩
          · simp at h0; exact ⟨_, _, _, h0⟩
          · simp at h0; exact ⟨_, _, _, h0⟩
        have htr2 : DataW.Trod enc Tryd.prog W base (fun _ => true) held 23 (V j) (D j) (Pl j) := by
          obtain ⟨a, n, c, hv⟩ := hsl
          refine ⟨k, ?_⟩
          rw [hv] at htr ⊢
          simpa [Value.cells] using htr
        obtain ⟨bs, hbs, hbl, _⟩ := open_bytes htr2 hsl
        have happ : Rows.uptoBulkAll ((List.range (j + 1)).map D) = Rows.uptoBulkAll ((List.range j).map D) + Rows.uptoBulk (D j) := by
          rw [List.range_succ, List.map_append]
          have app : ∀ (l r : List (DataW H)), Rows.uptoBulkAll (l ++ r) = Rows.uptoBulkAll l + Rows.uptoBulkAll r := by
            intro l r
            induction l with
            | nil => simp [Rows.uptoBulkAll]
            | cons x l ih => simp only [List.cons_append, Rows.uptoBulkAll, ih]; omega
          rw [app]
          simp [Rows.uptoBulkAll]
        have htot : Rows.uptoBulkAll ((List.range n).map D) ≤ 1048576 := by
          simp only [Rows.uptoBulk] at hk
          omega
        have hmono : ∀ i, i ≤ n → Rows.uptoBulkAll ((List.range i).map D) ≤ Rows.uptoBulkAll ((List.range n).map D) := by
          intro i hi
          have : List.range n = List.range i ++ (List.range (n - i)).map (fun q => i + q) := by
            rw [show n = i + (n - i) by omega, List.range_add]
            simp
          rw [this, List.map_append]
          have app : ∀ (l r : List (DataW H)), Rows.uptoBulkAll (l ++ r) = Rows.uptoBulkAll l + Rows.uptoBulkAll r := by
            intro l r
            induction l with
            | nil => simp [Rows.uptoBulkAll]
            | cons x l ih => simp only [List.cons_append, Rows.uptoBulkAll, ih]; omega
          rw [app]
          omega
        have h1 := hmono (j + 1) hj
        refine ⟨ps ++ [bs], by simp [hpl], ?_, ?_⟩
        · intro i hi
          by_cases hij : i < j
          · have := hrd i hij
            have e : (ps ++ [bs]).getD i [] = ps.getD i [] := by simp [List.getD, List.getElem?_append_left (show i < ps.length by omega)]
            rw [e]
            exact this
          · have hij2 : i = j := by omega
            subst hij2
            have e : (ps ++ [bs]).getD i [] = bs := by simp [List.getD, hpl]
            rw [e]
            exact hbs (by omega)
        · rw [happ]
          simp only [List.length_append, List.length_cons, List.length_nil, List.flatten_append, List.flatten_cons, List.flatten_nil, List.append_nil]
          omega
    obtain ⟨ps, hpl, hrd, hb⟩ := sum_le n (Nat.le_refl _)
    have htot : Rows.uptoBulkAll ((List.range n).map D) ≤ 1048576 := by
      simp only [Rows.uptoBulk] at hk
      omega
    refine ⟨ps, ⟨by omega, some x, c, by rw [hpl], ?_⟩, ?_⟩
    · by_cases hn0 : n = 0
      · left; exact List.eq_nil_of_length_eq_zero (by omega)
      · right
        obtain ⟨b, off, spot⟩ := x
        have hc := (hel 0 (by omega)).1
        have hspot : spot = none := by simpa [Addr.add] using World.cell?_spot hc
        subst hspot
        refine ⟨b, off, rfl, fun i hi => ⟨V i, ?_, hrd i (by omega)⟩⟩
        have hc := (hel i (by omega)).1
        have e : (⟨b, off, none⟩ : Addr).add i = ⟨b, off + i, none⟩ := by unfold Addr.add; split <;> simp_all
        rw [e] at hc
        exact hc
    · simp only [Rows.uptoBulk]
      omega

end Go.Proofs.YtledfniedoapiaaDoor

namespace Go.Proofs.YtledfniedoapiaaDoor
open Go.ChangeShapes Go.WideShapes Go.ChangeAt Go.RowKit
set_option linter.unusedVariables false

set_option maxRecDepth 100000 in
theorem und_op : Tryd.prog.underlying 38 = some (.struct #[{ name := "Kind", type := 3, offset := 0, embedded := false, tag := "", pkgPath := "", byteOffset := 0 }, { name := "B", type := 23, offset := 1, embedded := false, tag := "", pkgPath := "", byteOffset := 8 }, { name := "At", type := 3, offset := 2, embedded := false, tag := "", pkgPath := "", byteOffset := 32 }, { name := "N", type := 3, offset := 3, embedded := false, tag := "", pkgPath := "", byteOffset := 40 }, { name := "V", type := 22, offset := 4, embedded := false, tag := "", pkgPath := "", byteOffset := 48 }, { name := "Parts", type := 25, offset := 5, embedded := false, tag := "", pkgPath := "", byteOffset := 56 }]) := by kernel_rfl
theorem und_ops : Tryd.prog.underlying 32 = some (.slice 38) := by kernel_rfl
theorem cells_op : Tryd.prog.cellsOf 38 = 6 := by kernel_rfl
theorem cells_int : Tryd.prog.cellsOf 3 = 1 := by kernel_rfl
theorem cells_u64 : Tryd.prog.cellsOf 22 = 1 := by kernel_rfl
theorem cells_parts : Tryd.prog.cellsOf 25 = 1 := by kernel_rfl

theorem bulk_mem {H : Type} {d : DataW H} : ∀ {l : List (DataW H)}, d ∈ l → Rows.uptoBulk d ≤ Rows.uptoBulkAll l
  | x :: r, h => by
    rcases List.mem_cons.1 h with rfl | h
    · simp only [Rows.uptoBulkAll]; omega
    · have := bulk_mem h
      simp only [Rows.uptoBulkAll]; omega
theorem flat_mem {ps : List (List Nat)} (i : Nat) : (ps.getD i []).length ≤ ps.flatten.length := by
  by_cases h : i < ps.length
  · have e : ps.getD i [] = ps[i] := by simp [List.getD, List.getElem?_eq_getElem h]
    rw [e]
    have hm : ps[i] ∈ ps := List.getElem_mem h
    obtain ⟨s, t, hst⟩ := List.append_of_mem hm
    have e2 : ps.flatten = (s ++ ps[i] :: t).flatten := congrArg List.flatten hst
    rw [e2]; simp; omega
  · simp [List.getD, List.getElem?_eq_none (by omega : ps.length ≤ i)]

theorem slice_one {H : Type} {enc : TypeId × Value → H} {W : World} {base fuel : Nat} {held : Bool} {t e : TypeId} {c : Value} {x : DataW H × List MemPlace} (hu : Tryd.prog.underlying t = some (.slice e)) (h : DataW.trod enc Tryd.prog W base (fun _ => true) held fuel t [c] = some x) : (∃ a n k, c = .slice a n k) ∧ DataW.Trod enc Tryd.prog W base (fun _ => true) held t c x.1 x.2 := by
  have hsl : ∃ a n k, c = .slice a n k := by
    rcases DataW.trod_slice hu h with ⟨h0, _⟩ | ⟨a, len, cap, _, _, _, _, h0, _⟩
    · simp at h0; exact ⟨_, _, _, h0⟩
    · simp at h0; exact ⟨_, _, _, h0⟩
  refine ⟨hsl, fuel, ?_⟩
  obtain ⟨a, n, k, rfl⟩ := hsl
  simpa [Value.cells] using h

set_option maxRecDepth 100000 in
theorem open_op {H : Type} {enc : TypeId × Value → H} {W : World} {base fuel : Nat} {held : Bool} {cs : List Value} {x : DataW H × List MemPlace} (h : DataW.trod enc Tryd.prog W base (fun _ => true) held fuel 38 cs = some x) (hk : Rows.uptoBulk x.1 ≤ 1048576) :
    ∃ o : OpD, cs = o.cells ∧ OpD.Ok W o := by
  obtain ⟨xs, n, rfl, rfl, hcl, hxl, hf⟩ := DataW.trod_struct und_op h
  rw [cells_op] at hcl
  obtain ⟨c0, c1, c2, c3, c4, c5, rfl⟩ : ∃ c0 c1 c2 c3 c4 c5, cs = [c0, c1, c2, c3, c4, c5] := by
    match cs, hcl with
    | [c0, c1, c2, c3, c4, c5], _ => exact ⟨_, _, _, _, _, _, rfl⟩
  obtain ⟨x0, x1, x2, x3, x4, x5, rfl⟩ : ∃ x0 x1 x2 x3 x4 x5, xs = [x0, x1, x2, x3, x4, x5] := by
    match xs, hxl with
    | [c0, c1, c2, c3, c4, c5], _ => exact ⟨_, _, _, _, _, _, rfl⟩
  have f0 := hf 0 _ rfl
  have f1 := hf 1 _ rfl
  have f2 := hf 2 _ rfl
  have f3 := hf 3 _ rfl
  have f4 := hf 4 _ rfl
  have f5 := hf 5 _ rfl
  simp [cells_int, cells_u64, cells_bytes, cells_parts] at f0 f1 f2 f3 f4 f5
  obtain ⟨n0, e0, _, w0⟩ := DataW.trod_int und_int f0
  obtain ⟨n2, e2, _, w2⟩ := DataW.trod_int und_int f2
  obtain ⟨n3, e3, _, w3⟩ := DataW.trod_int und_int f3
  obtain ⟨n4, e4, _, w4⟩ := DataW.trod_int und_u64 f4
  simp at e0 e2 e3 e4
  subst e0 e2 e3 e4
  simp only [Rows.uptoBulk, List.map_cons, List.map_nil, Rows.uptoBulkAll] at hk
  obtain ⟨s1, t1⟩ := slice_one und_bytes f1
  obtain ⟨s5, t5⟩ := slice_one und_parts f5
  obtain ⟨bs, hbs, hbl, _⟩ := open_bytes t1 s1
  obtain ⟨ps, hps, hpl⟩ := open_parts t5 s5 (by omega)
  have b2 := bounds_i64 w2
  have b3 := bounds_i64 w3
  have b4 := bounds_u64 w4
  refine ⟨⟨n0, c1, n2, n3, n4, c5, bs, ps⟩, rfl, hbs (by omega), hps, by simp only; omega, by simp only; omega, fun i => ?_, by simp only; omega, by simp only; omega, by simp only; omega, by simp only; omega, by simp only; omega, by simp only; omega⟩
  have := flat_mem (ps := ps) i
  simp only
  omega

set_option maxRecDepth 100000 in
/-- A script that came in. -/
theorem open_ops {H : Type} {enc : TypeId × Value → H} {W : World} {v : Value} {d : DataW H} {p : List MemPlace} {base : Nat} {held : Bool} (h : DataW.Trod enc Tryd.prog W base (fun _ => true) held 32 v d p) (hs : ∃ a n c, v = .slice a n c) (hk : Rows.uptoBulk d ≤ 1048576) :
    ∃ os : List OpD, RdO W v os := by
  obtain ⟨a, n, c, rfl⟩ := hs
  obtain ⟨fuel, hf⟩ := h
  rcases Deep.open_slice und_ops hf with ⟨hcs, hx⟩ | ⟨x, l, c', m, k, D, Pl, hcs, _, hl, hm, hmm, hx, hel⟩
  · simp [Value.cells] at hcs
    obtain ⟨rfl, rfl, rfl⟩ := hcs
    exact ⟨[], by simp, none, 0, rfl, .inl rfl⟩
  · simp [Value.cells] at hcs
    obtain ⟨rfl, rfl, rfl⟩ := hcs
    simp only [if_true] at hmm
    simp only [Prod.mk.injEq] at hx
    obtain ⟨rfl, _⟩ := hx
    simp only [Rows.uptoBulk] at hk
    have hn : n ≤ 1048576 := by
      have := bulk_len ((List.range n).map D)
      simp at this
      omega
    rw [cells_op] at hel
    have hop : ∀ i, i < n → ∃ o : OpD, (∀ j y, o.cells[j]? = some y → W.cell? ((x.add (i * 6)).add j) = some y) ∧ OpD.Ok W o := by
      intro i hi
      obtain ⟨cs', hc1, hc2⟩ := hel i (by omega)
      have hd : Rows.uptoBulk (D i) ≤ Rows.uptoBulkAll ((List.range n).map D) := bulk_mem (List.mem_map.2 ⟨i, List.mem_range.2 hi, rfl⟩)
      obtain ⟨o, rfl, hok⟩ := open_op hc2 (by simp only; omega)
      refine ⟨o, fun j y hj => ?_, hok⟩
      obtain ⟨_, hlen, hget⟩ := World.cells?_some hc1
      have hj6 : j < 6 := by
        have := (List.getElem?_eq_some_iff.1 hj).1
        simpa [OpD.cells] using this
      rw [hget j hj6]
      exact hj
    have build : ∀ q, q ≤ n → ∃ os : List OpD, os.length = q ∧ ∀ i o, os[i]? = some o → (∀ j y, o.cells[j]? = some y → W.cell? ((x.add (i * 6)).add j) = some y) ∧ OpD.Ok W o := by
      intro q
      induction q with
      | zero => intro _; exact ⟨[], rfl, fun i o h => by simp at h⟩
      | succ q ih =>
        intro hq
        obtain ⟨os, hol, hos⟩ := ih (by omega)
        obtain ⟨o, ho⟩ := hop q (by omega)
        refine ⟨os ++ [o], by simp [hol], fun i o' h => ?_⟩
        by_cases hi : i < os.length
        · rw [List.getElem?_append_left hi] at h
          exact hos i o' h
        · rw [List.getElem?_append_right (by omega)] at h
          have hi2 : i = q := by
            by_cases h9 : i - os.length = 0
            · omega
            · rw [List.getElem?_eq_none (by simp; omega)] at h; cases h
          subst hi2
          rw [hol, Nat.sub_self] at h
          simp at h
          subst h
          exact ho
    obtain ⟨os, hol, hos⟩ := build n (Nat.le_refl _)
    refine ⟨os, by omega, some x, c, by rw [hol], ?_⟩
    by_cases hn0 : n = 0
    · left; exact List.eq_nil_of_length_eq_zero (by omega)
    · right
      obtain ⟨b, off, spot⟩ := x
      have hc := (hop 0 (by omega))
      obtain ⟨o, hc, _⟩ := hc
      have hc0 := hc 0 _ rfl
      have hspot : spot = none := by simpa [Addr.add] using World.cell?_spot hc0
      subst hspot
      refine ⟨b, off, rfl, fun i o hi => ⟨fun j y hj => ?_, (hos i o hi).2⟩⟩
      have := (hos i o hi).1 j y hj
      have e : ∀ q r : Nat, ((⟨b, q, none⟩ : Addr).add r) = ⟨b, q + r, none⟩ := fun q r => by unfold Addr.add; split <;> simp_all
      rw [e, e] at this
      exact this

end Go.Proofs.YtledfniedoapiaaDoor

namespace Go.Proofs.YtledfniedoapiaaDoor
open Go.RowKit
set_option linter.unusedVariables false

/-- Only blocks of these types may have changed. -/
def KT (l : List TypeId) (w w' : World) : Prop := ∀ (q : Nat) (cs : Array Value) (ty : TypeId) (fz : Nat × Nat), w.heap[q]? = some (Obj.cells cs ty fz) → ty ∉ l → w'.heap[q]? = w.heap[q]?
theorem KT.of_below {l : List TypeId} {w w' : World} (h : Below w.heap.size w w') : KT l w w' := fun q cs ty fz hq _ => h.block q (Array.getElem?_eq_some_iff.1 hq).1
theorem KT.trans {l : List TypeId} {a b c : World} (h : KT l a b) (k : KT l b c) : KT l a c := fun q cs ty fz hq hl => by
  have e := h q cs ty fz hq hl
  rw [k q cs ty fz (by rw [e]; exact hq) hl, e]
theorem KT.box {l : List TypeId} {w w' : World} {g : Nat} {k : Int} {vb : Value} {z nn vv : Int} {vp : Value} (h : KT l w w') (b : Box w g k vb z nn vv vp) (hl : 38 ∉ l) : Box w' g k vb z nn vv vp := by
  unfold Box at *
  rw [h g _ _ _ b hl]; exact b
theorem KT.rowS {l : List TypeId} {w w' : World} {B n : Nat} {v : Value} {vs : List Value} (h : KT l w w') (r : RowS w B v n vs) (hl : 23 ∉ l) : RowS w' B v n vs := by
  refine ⟨r.1, r.2.1, r.2.2.1, ?_⟩
  rcases r.2.2.2 with h2 | ⟨g, cap, cur, h3, h4, h5, h6⟩
  · exact .inl h2
  · exact .inr ⟨g, cap, cur, h3, h4, by rw [h g _ _ _ h5 hl]; exact h5, h6⟩
theorem KT.own {l : List TypeId} {w w' : World} {B n : Nat} {v : Value} {xs : List Nat} (h : KT l w w') (r : Own w B v n xs) (hl : 5 ∉ l) : Own w' B v n xs := by
  refine ⟨r.1, r.2.1, ?_⟩
  rcases r.2.2 with h2 | ⟨g, cap, cur, h3, h4, h5, h6⟩
  · exact .inl h2
  · exact .inr ⟨g, cap, cur, h3, h4, by rw [h g _ _ _ h5 hl]; exact h5, h6⟩
theorem KT.ds {l : List TypeId} {w w' : World} {B : Nat} {dl : List DeskS} (h : KT l w w') (r : Ds w B dl) (h1 : 5 ∉ l) (h2 : 35 ∉ l) : Ds w' B dl := ⟨fun d hd => by
  have k := r.one d hd
  refine ⟨?_, h.own k.own h1, k.bys, k.fit, k.hg⟩
  have b := k.box
  unfold DBox at *
  rw [h _ _ _ _ b h2]; exact b, r.bx, r.rm⟩
/-- The desks of ds: a row of pointers. -/
def RowP (w : World) (B : Nat) (v : Value) (n : Nat) (ls : List DeskS) : Prop := n = ls.length ∧ w.ownsRow B 33 1 v n (ls.map fun d => .pointer (some ⟨d.g, 0, none⟩))
theorem KT.rowP {l : List TypeId} {w w' : World} {B n : Nat} {v : Value} {ls : List DeskS} (h : KT l w w') (r : RowP w B v n ls) (hl : 33 ∉ l) : RowP w' B v n ls := by
  refine ⟨r.1, r.2.1, ?_⟩
  rcases r.2.2 with h2 | ⟨g, cap, cur, h3, h4, h5, h6⟩
  · exact .inl h2
  · exact .inr ⟨g, cap, cur, h3, h4, by rw [h g _ _ _ h5 hl]; exact h5, h6⟩
theorem RowP.at {w : World} {B n k c : Nat} {a : Option Addr} {ls : List DeskS} {d : DeskS} (h : RowP w B (.slice a n c) n ls) (hd : ls[k]? = some d) : ∃ gD, a = some ⟨gD, 0, none⟩ ∧ w.cell? ⟨gD, k, none⟩ = some (.pointer (some ⟨d.g, 0, none⟩)) ∧ k < n := by
  have hk : k < n := by rw [h.1]; exact (List.getElem?_eq_some_iff.1 hd).1
  rcases h.2.2 with ⟨h1, h2⟩ | ⟨g, cap, cur, h3, h4, h5, h6⟩
  · omega
  · simp only [Value.slice.injEq] at h3
    obtain ⟨rfl, _, _⟩ := h3
    refine ⟨g, rfl, ?_, hk⟩
    rw [h.2.cellAt k (by omega)]
    simp [hd]
theorem Fd.kt {w w' : World} {B : Nat} {d : DeskS} (h : Fd w w' d.g d.room.ownBlock) (hd : D1 w B d) : KT [5, 35] w w' := fun q cs ty fz hq hl => by
  simp only [List.mem_cons, List.not_mem_nil, or_false, not_or] at hl
  refine h.block q (Array.getElem?_eq_some_iff.1 hq).1 (fun e => ?_) (fun e => ?_)
  · subst e
    have b := hd.box
    unfold DBox at b
    rw [b] at hq
    simp at hq
    exact hl.2 hq.2.1.symm
  · rcases hd.own.2.2 with ⟨h1, _⟩ | ⟨g, cap, cur, h3, h4, h5, h6⟩
    · rw [h1] at e; cases e
    · rw [h3] at e
      simp only [Value.ownBlock, Option.some.injEq] at e
      subst e
      rw [h5] at hq
      simp at hq
      exact hl.1 hq.2.1.symm
theorem row_kt {w w' : World} {B n : Nat} {v : Value} {vs : List Value} (r : RowS w B v n vs) (k : w.grownBy w' v.ownBlock) : KT [23] w w' := fun q cs ty fz hq hl => by
  simp only [List.mem_cons, List.not_mem_nil, or_false] at hl
  refine k.block q (Array.getElem?_eq_some_iff.1 hq).1 (fun e => ?_)
  rcases r.2.2.2 with ⟨h1, _⟩ | ⟨g, cap, cur, h3, h4, h5, h6⟩
  · rw [h1] at e; cases e
  · rw [h3] at e
    simp only [Value.ownBlock, Option.some.injEq] at e
    subst e
    rw [h5] at hq
    simp at hq
    exact hl hq.2.1.symm
theorem rowp_kt {w w' : World} {B n : Nat} {v : Value} {ls : List DeskS} (r : RowP w B v n ls) (k : w.grownBy w' v.ownBlock) : KT [33] w w' := fun q cs ty fz hq hl => by
  simp only [List.mem_cons, List.not_mem_nil, or_false] at hl
  refine k.block q (Array.getElem?_eq_some_iff.1 hq).1 (fun e => ?_)
  rcases r.2.2 with ⟨h1, _⟩ | ⟨g, cap, cur, h3, h4, h5, h6⟩
  · rw [h1] at e; cases e
  · rw [h3] at e
    simp only [Value.ownBlock, Option.some.injEq] at e
    subst e
    rw [h5] at hq
    simp at hq
    exact hl hq.2.1.symm
theorem box_kt {w : World} {g i : Nat} {k : Int} {vb : Value} {z nn vv : Int} {vp x : Value} (b : Box w g k vb z nn vv vp) : KT [38] w (w.setCell ⟨g, i, none⟩ x) := fun q cs ty fz hq hl => by
  simp only [List.mem_cons, List.not_mem_nil, or_false] at hl
  refine (set_grown w g i x).block q (Array.getElem?_eq_some_iff.1 hq).1 (fun e => ?_)
  simp at e
  subst e
  unfold Box at b
  rw [b] at hq
  simp at hq
  exact hl hq.2.1.symm
theorem Box.setB {w : World} {g : Nat} {k : Int} {vb : Value} {z nn vv : Int} {vp : Value} (h : Box w g k vb z nn vv vp) (x : Value) : Box (w.setCell ⟨g, 1, none⟩ x) g k x z nn vv vp := by
  unfold Box at *; simp [World.setCell, Array.getElem?_modify, h]
theorem Box.setP {w : World} {g : Nat} {k : Int} {vb : Value} {z nn vv : Int} {vp : Value} (h : Box w g k vb z nn vv vp) (x : Value) : Box (w.setCell ⟨g, 5, none⟩ x) g k vb z nn vv x := by
  unfold Box at *; simp [World.setCell, Array.getElem?_modify, h]
theorem Box.other {w : World} {g g2 i : Nat} {k : Int} {vb : Value} {z nn vv : Int} {vp x : Value} (h : Box w g k vb z nn vv vp) (hne : g ≠ g2) : Box (w.setCell ⟨g2, i, none⟩ x) g k vb z nn vv vp := by
  unfold Box at *
  rw [(set_grown w g2 i x).block g (Array.getElem?_eq_some_iff.1 h).1 (fun e => by simp at e; exact hne e)]
  exact h
theorem Box.fz {w : World} {g i : Nat} {k : Int} {vb : Value} {z nn vv : Int} {vp : Value} (h : Box w g k vb z nn vv vp) : w.frozen? ⟨g, i, none⟩ = false := by unfold Box at h; simp [World.frozen?, h]
/-- The parts that are lent. -/
def Pts (us : List Value) (ls : List DeskS) (ps : List (List Nat)) (k : Nat) : Prop := ∀ j, j < k → ∃ d p, ls[j]? = some d ∧ ps[j]? = some p ∧ us[j]? = some (.slice d.a p.length d.c) ∧ Lent d p
/-- What stands while the parts are lent. -/
structure Aw (w wr : World) (B : Nat) (o : OpD) (go gp : Nat) (dd : DeskS) (ls : List DeskS) (aD : Option Addr) (cD nD k : Nat) (aP : Option Addr) (cP : Nat) (us : List Value) : Prop where
  bel : Below B w wr
  ds : Ds wr B (dd :: ls)
  rd : RowP wr B (.slice aD nD cD) nD ls
  bo : Box wr go o.k o.vb o.z o.n o.v o.vp
  bp : Box wr gp o.k (.slice dd.a o.bs.length dd.c) o.z o.n o.v (.slice aP k cP)
  ne : go ≠ gp
  hgo : B ≤ go
  hgp : B ≤ gp
  ld : Lent dd o.bs
  rp : RowS wr B (.slice aP k cP) k us
  pt : Pts us ls o.ps k
  hB : B ≤ wr.heap.size
theorem Aw.later {w wr wx : World} {B : Nat} {o : OpD} {go gp : Nat} {dd : DeskS} {ls : List DeskS} {aD : Option Addr} {cD nD k : Nat} {aP : Option Addr} {cP : Nat} {us : List Value} (h : Aw w wr B o go gp dd ls aD cD nD k aP cP us) (hb : Below wr.heap.size wr wx) : Aw w wx B o go gp dd ls aD cD nD k aP cP us :=
  ⟨h.bel.trans (hb.mono h.hB), h.ds.later hb, (KT.of_below (l := []) hb).rowP h.rd (by simp), h.bo.later hb, h.bp.later hb, h.ne, h.hgo, h.hgp, h.ld, h.rp.later hb, h.pt, Nat.le_trans h.hB hb.size⟩
/-- All parts read as they are. -/
theorem Aw.rdp {w wr : World} {B : Nat} {o : OpD} {go gp : Nat} {dd : DeskS} {ls : List DeskS} {aD : Option Addr} {cD nD : Nat} {aP : Option Addr} {cP : Nat} {us : List Value} (h : Aw w wr B o go gp dd ls aD cD nD o.ps.length aP cP us) (hby : ∀ p ∈ o.ps, Bys p) (hl : o.ps.length ≤ 1048576) : RdP wr (.slice aP o.ps.length cP) o.ps := by
  refine ⟨by omega, aP, cP, rfl, ?_⟩
  by_cases h0 : o.ps = []
  · exact .inl h0
  · have hp : 0 < o.ps.length := by
      rcases hh : o.ps with _ | ⟨x, l⟩
      · exact absurd hh h0
      · simp
    obtain ⟨g, rfl, _⟩ := h.rp.at hp
    refine .inr ⟨g, 0, rfl, fun i hi => ?_⟩
    obtain ⟨d, p, e1, e2, e3, e4⟩ := h.pt i hi
    obtain ⟨g2, hg2, hc⟩ := h.rp.at hi
    simp only [Option.some.injEq, Addr.mk.injEq, and_true] at hg2
    subst hg2
    refine ⟨.slice d.a p.length d.c, by simp only [Nat.zero_add]; rw [hc, e3], ?_⟩
    have eg : o.ps.getD i [] = p := by simp [List.getD, e2]
    rw [eg]
    have d1 := h.ds.one d (List.mem_cons_of_mem _ (List.mem_of_getElem? e1))
    obtain ⟨y1, y2, y3, gR, y4⟩ := e4
    have ow := d1.own
    unfold DeskS.room at ow
    rw [y4, y1] at ow
    rw [y4]
    exact desk_rd ow (hby p (List.mem_of_getElem? e2)) (by omega) (by have := d1.fit; omega)
theorem und_ds : Tryd.prog.underlying 36 = some (.slice 33) := by kernel_rfl
theorem info_ptr : (Tryd.prog.info? 33).map (fun i => (i.zero, i.size, i.bytes)) = some (some (.pointer none), 1, 8) := by kernel_rfl

end Go.Proofs.YtledfniedoapiaaDoor

namespace Go.Proofs.YtledfniedoapiaaDoor
open Go.RowKit
set_option linter.unusedVariables false

theorem rd_far {w : World} {v : Value} {bs : List Nat} (h : Rd w v bs) (hne : bs ≠ []) : ∀ x, v.ownBlock = some x → x < w.heap.size := by
  obtain ⟨_, a, cap, rfl, _, _, _, _, hat⟩ := h
  rcases hat with hat | ⟨b, off, rfl, hc⟩
  · exact absurd hat hne
  · intro x hx
    simp only [Value.ownBlock, Option.some.injEq] at hx
    subst hx
    have hl : 0 < bs.length := by
      rcases bs with _ | ⟨y, l⟩
      · exact absurd rfl hne
      · simp
    exact World.block_lt_of_cell? w _ (hc 0 hl)
theorem ptrs_form {w : World} {B n : Nat} {v : Value} {xs : List Value} (h : w.ownsRow B 33 1 v n xs) : ∃ a c, v = .slice a n c := by
  rcases h.2 with ⟨rfl, rfl⟩ | ⟨g, cap, cur, rfl, _⟩
  · exact ⟨_, _, rfl⟩
  · exact ⟨_, _, rfl⟩
/-- What stands between two calls. -/
structure Bw (w wr : World) (B : Nat) (dd : DeskS) (ls : List DeskS) (aD : Option Addr) (cD nD : Nat) : Prop where
  bel : Below B w wr
  ds : Ds wr B (dd :: ls)
  rd : RowP wr B (.slice aD nD cD) nD ls
  hB : B ≤ wr.heap.size
theorem Bw.later {w wr wx : World} {B : Nat} {dd : DeskS} {ls : List DeskS} {aD : Option Addr} {cD nD : Nat} (h : Bw w wr B dd ls aD cD nD) (hb : Below wr.heap.size wr wx) : Bw w wx B dd ls aD cD nD :=
  ⟨h.bel.trans (hb.mono h.hB), h.ds.later hb, (KT.of_below (l := []) hb).rowP h.rd (by simp), Nat.le_trans h.hB hb.size⟩

/-- What the region that lends a part looks at. -/
structure Sw (w X : World) (B : Nat) (o : OpD) (go : Nat) (ls : List DeskS) (aD : Option Addr) (cD nD : Nat) : Prop where
  bel : Below B w X
  rd : RowP X B (.slice aD nD cD) nD ls
  bo : Box X go o.k o.vb o.z o.n o.v o.vp
theorem Aw.sw {w X : World} {B : Nat} {o : OpD} {go gp : Nat} {dd : DeskS} {ls : List DeskS} {aD : Option Addr} {cD nD k : Nat} {aP : Option Addr} {cP : Nat} {us : List Value} (h : Aw w X B o go gp dd ls aD cD nD k aP cP us) : Sw w X B o go ls aD cD nD := ⟨h.bel, h.rd, h.bo⟩
/-- The call's parts, as they lie in the first world. -/
theorem part_at {w : World} {o : OpD} {k : Nat} (hok : OpD.Ok w o) (hk : k < o.ps.length) : ∃ bO oO zO ab cb p, o.vp = .slice (some ⟨bO, oO, none⟩) o.ps.length zO ∧ o.ps[k]? = some p ∧ w.cell? ⟨bO, oO + k, none⟩ = some (.slice ab p.length cb) ∧ Rd w (.slice ab p.length cb) p ∧ p.length ≤ 1048576 ∧ bO < w.heap.size := by
  obtain ⟨_, ⟨_, a, cap, e, hat⟩, _, _, h5, _⟩ := hok
  rcases hat with h0 | ⟨b, off, rfl, hc⟩
  · rw [h0] at hk; simp at hk
  · obtain ⟨u, h1, h2⟩ := hc k hk
    have e2 : o.ps.getD k [] = o.ps[k] := by simp [hk]
    have h6 := h5 k
    rw [e2] at h2 h6
    have hb := World.block_lt_of_cell? w _ h1
    obtain ⟨_, a2, c2, rfl, _⟩ := id h2
    exact ⟨b, off, cap, a2, c2, o.ps[k], e, List.getElem?_eq_getElem hk, h1, h2, h6, hb⟩
theorem Sw.see {w X : World} {B : Nat} {o : OpD} {go : Nat} {ls : List DeskS} {gD cD nD k bO oO zO nO : Nat} {d : DeskS} {u : Value} (h : Sw w X B o go ls (some ⟨gD, 0, none⟩) cD nD) (hd : ls[k]? = some d) (hv : o.vp = .slice (some ⟨bO, oO, none⟩) nO zO) (hu : w.cell? ⟨bO, oO + k, none⟩ = some u) (hb : bO < B) :
    X.cell? ⟨gD, k, none⟩ = some (.pointer (some ⟨d.g, 0, none⟩)) ∧ X.cell? ⟨go, 5, none⟩ = some (.slice (some ⟨bO, oO, none⟩) nO zO) ∧ X.cell? ⟨bO, oO + k, none⟩ = some u := by
  obtain ⟨g2, e, hc, _⟩ := h.rd.at hd
  cases e
  refine ⟨hc, ?_, ?_⟩
  · rw [← hv]; exact h.bo.p
  · rw [h.bel.cell (p := ⟨bO, oO + k, none⟩) hb]; exact hu
/-- A desk of the row lends: what stands then. -/
theorem Aw.lent {w X w2 : World} {B : Nat} {o : OpD} {go gp : Nat} {dd : DeskS} {ls : List DeskS} {aD : Option Addr} {cD nD k : Nat} {aP : Option Addr} {cP : Nat} {us : List Value} {d d' : DeskS} (h : Aw w X B o go gp dd ls aD cD nD k aP cP us) (hd : ls[k]? = some d) (hg : d'.g = d.g) (hds : Ds w2 B ((dd :: ls).set (k + 1) d')) (f : Fd X w2 d.g d.room.ownBlock) :
    Aw w w2 B o go gp dd (ls.set k d') aD cD nD k aP cP us := by
  have D := h.ds.one d (List.mem_cons_of_mem _ (List.mem_of_getElem? hd))
  have kt := f.kt D
  have e : (ls.set k d').map (fun d => Value.pointer (some ⟨d.g, 0, none⟩)) = ls.map fun d => Value.pointer (some ⟨d.g, 0, none⟩) := by
    apply List.ext_getElem?
    intro i
    by_cases hi : k = i
    · subst hi
      obtain ⟨hl, e1⟩ := List.getElem?_eq_some_iff.1 hd
      simp [hl, e1, hg]
    · simp [hi]
  have r := kt.rowP h.rd (by decide)
  refine ⟨h.bel.trans (f.below D.hg (fun x hx => (D.own.2.lt x hx).1) h.hB), by simpa using hds, ⟨by simpa using r.1, by rw [e]; exact r.2⟩, kt.box h.bo (by decide), kt.box h.bp (by decide), h.ne, h.hgo, h.hgp, h.ld, kt.rowS h.rp (by decide), ?_, Nat.le_trans h.hB f.size⟩
  intro j hj
  obtain ⟨d1, p, q1, q2, q3, q4⟩ := h.pt j hj
  exact ⟨d1, p, by rw [List.getElem?_set]; simp [show k ≠ j by omega, q1], q2, q3, q4⟩
/-- The row of parts has grown. -/
theorem Aw.grown {w w2 w3 : World} {B : Nat} {o : OpD} {go gp : Nat} {dd : DeskS} {ls : List DeskS} {aD : Option Addr} {cD nD k : Nat} {aP : Option Addr} {cP : Nat} {us : List Value} (h : Aw w w2 B o go gp dd ls aD cD nD k aP cP us) (gr : w2.grownBy w3 (Value.slice aP k cP).ownBlock) :
    Sw w w3 B o go ls aD cD nD ∧ Ds w3 B (dd :: ls) ∧ Box w3 gp o.k (.slice dd.a o.bs.length dd.c) o.z o.n o.v (.slice aP k cP) ∧ B ≤ w3.heap.size := by
  have kt := row_kt h.rp gr
  exact ⟨⟨h.bel.grown gr h.hB (fun x hx => (h.rp.2.2.lt x hx).1), kt.rowP h.rd (by decide), kt.box h.bo (by decide)⟩, kt.ds h.ds (by decide) (by decide), kt.box h.bp (by decide), Nat.le_trans h.hB gr.size⟩
/-- And the box has it. -/
theorem Aw.joined {w w2 w3 : World} {B : Nat} {o : OpD} {go gp : Nat} {dd : DeskS} {ls : List DeskS} {aD aP' : Option Addr} {cD nD k cP' : Nat} {aP : Option Addr} {cP : Nat} {us : List Value} {d : DeskS} {p : List Nat} (h : Aw w w2 B o go gp dd ls aD cD nD k aP cP us) (gr : w2.grownBy w3 (Value.slice aP k cP).ownBlock) (hd : ls[k]? = some d) (hp : o.ps[k]? = some p) (hL : Lent d p) (hus : us.length = k)
    (hr : RowS w3 B (.slice aP' (k + 1) cP') (k + 1) (us ++ [.slice d.a p.length d.c])) : Aw w (w3.setCell ⟨gp, 5, none⟩ (.slice aP' (k + 1) cP')) B o go gp dd ls aD cD nD (k + 1) aP' cP' (us ++ [.slice d.a p.length d.c]) := by
  obtain ⟨s, ds, bp, hB⟩ := h.grown gr
  have kt := box_kt (i := 5) (x := .slice aP' (k + 1) cP') bp
  have sg := set_grown w3 gp 5 (.slice aP' (k + 1) cP')
  refine ⟨s.bel.trans ⟨sg.os, sg.tape, sg.output, sg.size, fun i hi => sg.block i (by omega) (fun e => by simp at e; have := h.hgp; omega)⟩, kt.ds ds (by decide) (by decide), kt.rowP s.rd (by decide), s.bo.other h.ne, bp.setP _, h.ne, h.hgo, h.hgp, h.ld, kt.rowS hr (by decide), ?_, Nat.le_trans hB sg.size⟩
  intro j hj
  by_cases hjk : j = k
  · subst hjk
    exact ⟨d, p, hd, hp, by rw [List.getElem?_append_right (by omega), hus]; simp, hL⟩
  · obtain ⟨d1, p1, q1, q2, q3, q4⟩ := h.pt j (by omega)
    exact ⟨d1, p1, q1, q2, by rw [List.getElem?_append_left (by omega)]; exact q3, q4⟩

end Go.Proofs.YtledfniedoapiaaDoor
