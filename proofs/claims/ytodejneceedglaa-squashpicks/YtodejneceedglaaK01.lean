import Derived.Test.YtodejneceedglaaK00
import Derived.Shelf.SlSortCmp.WholeK
import Derived.Shelf.SlSortCmp.NoneTotal
import Derived.Deep.RegionWith
import Derived.BigQuiet
namespace Go.Proofs.Ytodejneceedglaa
open Go.RowKit
set_option linter.unusedVariables false

def laidSort : Go.Shelf.Ren := ⟨fun | 6 => 20 | 14 => 24 | 15 => 25 | 20 => 27 | 21 => 28 | 22 => 29 | 23 => 30 | 24 => 31 | 25 => 32 | 26 => 33 | 27 => 34 | 28 => 35 | 29 => 36 | 46 => 37 | 47 => 38 | 48 => 39 | 49 => 40 | 50 => 41 | 57 => 42 | n => n, fun | 0 => 0 | 3 => 3 | 4 => 4 | 5 => 5 | 9 => 9 | 22 => 24 | 24 => 31 | 25 => 49 | 39 => 52 | 45 => 55 | 46 => 56 | 50 => 43 | 53 => 62 | 55 => 64 | 66 => 65 | 70 => 69 | 76 => 71 | 77 => 72 | n => n, fun n => n⟩
set_option maxRecDepth 100000 in
theorem laysSort : SlLaysF0.n6 Try.prog laidSort := {
  mixed := by kernel_rfl,
  f6 := ⟨ "slices.SortFunc[[]strata/api.RunMeta,strata/api.RunMeta]", by decide, Try.func20.trans (congrArg some (by kernel_rfl))⟩,
  f14 := ⟨ "slices.pdqsortCmpFunc[strata/api.RunMeta]", by decide, Try.func24.trans (congrArg some (by kernel_rfl))⟩,
  f15 := Try.func25.trans (congrArg some (by kernel_rfl)),
  f20 := ⟨ "slices.insertionSortCmpFunc[strata/api.RunMeta]", by decide, Try.func27.trans (congrArg some (by kernel_rfl))⟩,
  f21 := ⟨ "slices.heapSortCmpFunc[strata/api.RunMeta]", by decide, Try.func28.trans (congrArg some (by kernel_rfl))⟩,
  f22 := ⟨ "slices.breakPatternsCmpFunc[strata/api.RunMeta]", by decide, Try.func29.trans (congrArg some (by kernel_rfl))⟩,
  f23 := ⟨ "slices.choosePivotCmpFunc[strata/api.RunMeta]", by decide, Try.func30.trans (congrArg some (by kernel_rfl))⟩,
  f24 := ⟨ "slices.reverseRangeCmpFunc[strata/api.RunMeta]", by decide, Try.func31.trans (congrArg some (by kernel_rfl))⟩,
  f25 := ⟨ "slices.partialInsertionSortCmpFunc[strata/api.RunMeta]", by decide, Try.func32.trans (congrArg some (by kernel_rfl))⟩,
  f26 := ⟨ "slices.partitionEqualCmpFunc[strata/api.RunMeta]", by decide, Try.func33.trans (congrArg some (by kernel_rfl))⟩,
  f27 := ⟨ "slices.partitionCmpFunc[strata/api.RunMeta]", by decide, Try.func34.trans (congrArg some (by kernel_rfl))⟩,
  f28 := Try.func35.trans (congrArg some (by kernel_rfl)),
  f29 := Try.func36.trans (congrArg some (by kernel_rfl)),
  f46 := ⟨ "slices.siftDownCmpFunc[strata/api.RunMeta]", by decide, Try.func37.trans (congrArg some (by kernel_rfl))⟩,
  f47 := Try.func38.trans (congrArg some (by kernel_rfl)),
  f48 := Try.func39.trans (congrArg some (by kernel_rfl)),
  f49 := ⟨ "slices.medianAdjacentCmpFunc[strata/api.RunMeta]", by decide, Try.func40.trans (congrArg some (by kernel_rfl))⟩,
  f50 := ⟨ "slices.medianCmpFunc[strata/api.RunMeta]", by decide, Try.func41.trans (congrArg some (by kernel_rfl))⟩,
  f57 := ⟨ "slices.order2CmpFunc[strata/api.RunMeta]", by decide, Try.func42.trans (congrArg some (by kernel_rfl))⟩,
  t0 := Try.underlying0,
  a0 := Try.isAgg0,
  z0 := Try.sizeOf0,
  v0 := Try.zeroValue0,
  t3 := Try.underlying3,
  a3 := Try.isAgg3,
  z3 := Try.sizeOf3,
  v3 := Try.zeroValue3,
  t4 := Try.underlying4,
  a4 := Try.isAgg4,
  z4 := Try.sizeOf4,
  v4 := Try.zeroValue4,
  t5 := Try.underlying5,
  a5 := Try.isAgg5,
  z5 := Try.sizeOf5,
  v5 := Try.zeroValue5,
  t9 := Try.underlying9,
  a9 := Try.isAgg9,
  z9 := Try.sizeOf9,
  v9 := Try.zeroValue9,
  t22 := Try.underlying24,
  a22 := Try.isAgg24,
  z22 := Try.sizeOf24,
  v22 := Try.zeroValue24,
  t25 := Try.underlying49,
  a25 := Try.isAgg49,
  z25 := Try.sizeOf49,
  v25 := Try.zeroValue49,
  t39 := Try.underlying52,
  a39 := Try.isAgg52,
  z39 := Try.sizeOf52,
  v39 := Try.zeroValue52,
  t45 := Try.underlying55,
  a45 := Try.isAgg55,
  z45 := Try.sizeOf55,
  v45 := Try.zeroValue55,
  t46 := Try.underlying56,
  a46 := Try.isAgg56,
  z46 := Try.sizeOf56,
  v46 := Try.zeroValue56,
  t50 := Try.underlying43,
  a50 := Try.isAgg43,
  z50 := Try.sizeOf43,
  v50 := Try.zeroValue43,
  t53 := Try.underlying62,
  a53 := Try.isAgg62,
  z53 := Try.sizeOf62,
  v53 := Try.zeroValue62,
  t55 := Try.underlying64,
  a55 := Try.isAgg64,
  z55 := Try.sizeOf64,
  v55 := Try.zeroValue64,
  t66 := Try.underlying65,
  a66 := Try.isAgg65,
  z66 := Try.sizeOf65,
  v66 := Try.zeroValue65,
  t70 := Try.underlying69,
  a70 := Try.isAgg69,
  z70 := Try.sizeOf69,
  v70 := Try.zeroValue69,
  t76 := Try.underlying71,
  a76 := Try.isAgg71,
  z76 := Try.sizeOf71,
  v76 := Try.zeroValue71,
  t77 := Try.underlying72,
  a77 := Try.isAgg72,
  z77 := Try.sizeOf72,
  v77 := Try.zeroValue72 }
end Go.Proofs.Ytodejneceedglaa

namespace Go.Proofs.Ytodejneceedglaa
open Go.RowKit
set_option linter.unusedVariables false

instance : Inhabited MtD := ⟨⟨0, 0, 0, 0, 0, 0, none, 0, 0, none, 0, 0⟩⟩
def encA (x : MtD) : List Value := x.cells.toList
theorem swo_cmpM : Go.Sort.SWO (ltOf cmpM) := by
  have hd : ∀ a b, ltOf cmpM a b = decide (ltM a b) := fun a b => decide_eq_decide.2 (cmpM_lt a b)
  refine ⟨fun x => ?_, fun x y z h k => ?_, fun x y z h k => ?_⟩
  · rw [hd]; exact decide_eq_false ltM_irr
  · rw [hd] at *; exact decide_eq_true (ltM_trans (of_decide_eq_true h) (of_decide_eq_true k))
  · rw [hd] at *
    have h1 := of_decide_eq_false h
    have k1 := of_decide_eq_false k
    refine decide_eq_false ?_
    unfold ltM at *
    omega
theorem world_grow {W w' : World} (h : BelowD W.heap.size W w') : ∃ q os', w' = Go.Sort.grow (W.drewN q) os' := by
  refine ⟨w'.drawn - W.drawn, w'.heap.extract W.heap.size w'.heap.size, ?_⟩
  have hd := h.d
  have hsz := h.b.size
  have hh : w'.heap = W.heap ++ w'.heap.extract W.heap.size w'.heap.size := by
    apply Array.ext_getElem?
    intro i
    by_cases hi : i < W.heap.size
    · rw [Array.getElem?_append_left hi]
      exact h.b.block i hi
    · rw [Array.getElem?_append_right (by omega), Array.getElem?_extract]
      by_cases h2 : i < w'.heap.size
      · rw [if_pos (by omega), show W.heap.size + (i - W.heap.size) = i by omega]
      · rw [if_neg (by omega), Array.getElem?_eq_none (by omega)]
  have e1 := h.b.os
  have e2 := h.b.tape
  have e3 := h.b.output
  obtain ⟨hp, tp, dr, os, ou⟩ := w'
  simp only at *
  unfold Go.Sort.grow World.drewN
  simp only [World.mk.injEq]
  exact ⟨hh, e2, by omega, e1, e3⟩
theorem cmp_lays {Z : World} {blk off n : Nat} : CmpLays Try.prog 21 #[] encA 8 cmpM blk off n Z := by
  intro m os dk hs x y
  have e : (#[.agg (encA x).toArray, .agg (encA y).toArray] ++ #[] : Array Value) = #[.agg x.cells, .agg y.cells] := by simp [encA]
  rw [e]
  refine Calls.mono closure_any ?_
  rintro r w' ⟨rfl, hb⟩
  exact ⟨rfl, world_grow hb⟩
theorem flat_mvals (d : Array MtD) : Go.Sort.flatK encA 8 d = (mvals d.toList).toArray := by
  refine Go.Sort.ext_get! (by simp [mvals_len]) fun t ht => ?_
  rw [Go.Sort.size_flatK] at ht
  rw [Go.Sort.get_flatK _ _ _ _ ht]
  have h1 : t / 8 < d.size := by omega
  have h5 : t % 8 < 8 := Nat.mod_lt _ (by omega)
  have e1 : d.toList[t / 8]? = some (d[t / 8]!) := by
    rw [Array.getElem?_toList, Array.getElem?_eq_getElem h1, getElem!_pos d _ h1]
  have e2 : (d[t / 8]!).cells.toList[t % 8]? = some ((encA d[t / 8]!)[t % 8]!) := by
    show (encA d[t / 8]!)[t % 8]? = _
    rw [List.getElem!_eq_getElem?_getD, List.getElem?_eq_getElem (by exact h5)]
    rfl
  have := mvals_at e1 e2
  rw [show t / 8 * 8 + t % 8 = t by omega] at this
  have hl := (List.getElem?_eq_some_iff.1 this)
  rw [getElem!_pos (mvals d.toList).toArray t (by rw [List.size_toArray]; exact hl.1)]
  exact hl.2.symm
theorem heap_sort {Z : World} {g n : Nat} {d' : Array MtD} {os : Array Obj} {cur : Array Value} {ty : TypeId} {fr : Nat × Nat} (hg : Z.heap[g]? = some (.cells cur ty fr)) : (sortWorldK encA 8 Z g 0 n d' os).heap[g]? = some (.cells (Go.Sort.putCells id 0 (Go.Sort.flatK encA 8 d') cur) ty fr) := by
  have lt : g < Z.heap.size := (Array.getElem?_eq_some_iff.1 hg).1
  unfold sortWorldK Go.Sort.putRowK Go.Sort.putRow
  rw [Go.Sort.heap_grow_old _ _ (by show g < (Z.heap.modify g _).size; rw [Array.size_modify]; exact lt)]
  show (Z.heap.modify g _)[g]? = _
  rw [Array.getElem?_modify, if_pos rfl, hg]
  rfl
theorem heap_sort_ne {Z : World} {g n k : Nat} {d' : Array MtD} {os : Array Obj} (hk : k < Z.heap.size) (hne : k ≠ g) : (sortWorldK encA 8 Z g 0 n d' os).heap[k]? = Z.heap[k]? := by
  unfold sortWorldK Go.Sort.putRowK Go.Sort.putRow
  rw [Go.Sort.heap_grow_old _ _ (by show k < (Z.heap.modify g _).size; rw [Array.size_modify]; exact hk)]
  show (Z.heap.modify g _)[k]? = _
  rw [Array.getElem?_modify, if_neg (by omega)]
theorem putCells_take {F cur : Array Value} (h : F.size ≤ cur.size) : (Go.Sort.putCells id 0 F cur).toList.take F.size = F.toList := by
  apply List.ext_getElem?
  intro i
  by_cases hi : i < F.size
  · rw [List.getElem?_take_of_lt hi, Array.getElem?_toList, Array.getElem?_toList]
    unfold Go.Sort.putCells
    rw [Array.getElem?_mapIdx, Array.getElem?_eq_getElem (by omega : i < cur.size), Option.map_some, if_pos ⟨by omega, by omega⟩, Nat.sub_zero, Array.getElem?_eq_getElem hi, getElem!_pos F i hi]
    rfl
  · rw [List.getElem?_eq_none (by simp; omega), List.getElem?_eq_none (by simp; omega)]
theorem holdsA {Z : World} {g : Nat} {xs : List MtD} {cur : Array Value} {ty : TypeId} (hg : Z.heap[g]? = some (.cells cur ty (0, 0))) (hc : cur.toList.take (xs.length * 8) = mvals xs) : Go.Sort.HoldsK encA 8 Z g 0 xs.toArray := by
  unfold Go.Sort.HoldsK
  rw [flat_mvals]
  intro j hj
  rw [List.size_toArray, mvals_len] at hj
  have hj2 : j < xs.length * 8 := by simpa using hj
  refine ⟨?_, ?_⟩
  · have e : cur.toList[j]? = (mvals xs)[j]? := by rw [← hc, List.getElem?_take_of_lt hj2]
    have hl : j < (mvals xs).length := by rw [mvals_len]; exact hj2
    rw [List.getElem?_eq_getElem hl, Array.getElem?_toList] at e
    rw [Nat.zero_add, getElem!_pos _ j (by rw [List.size_toArray]; exact hl)]
    simp [World.cell?, hg, e]
  · simp [World.frozen?, hg]
theorem sort_runs {B : Nat} {Z : World} {a' : Option Addr} {c' : Nat} {xs : List MtD} (hlen : xs.length ≤ 64) (hB : B ≤ Z.heap.size) (hrow : Z.ownsRow B 31 8 (.slice a' xs.length c') xs.length (mvals xs)) :
    Calls Try.prog 20 #[.slice a' xs.length c', .func (.func 21) #[] #[]] Z fun r Z' => r = .returned (.tuple #[]) ∧ ∃ ys, ys.Perm xs ∧ ys.Pairwise (fun x y => ¬ ltM y x) ∧ Z'.ownsRow B 31 8 (.slice a' xs.length c') xs.length (mvals ys) ∧ Below B Z Z' := by
  rcases hrow.2 with ⟨hv, h0⟩ | ⟨g, cap, cur, hv, hBg, hg, hnc, hcm, hcs, htk⟩
  · have hx : xs = [] := List.eq_nil_of_length_eq_zero h0
    subst hx
    simp only [Value.slice.injEq, List.length_nil] at hv
    obtain ⟨rfl, _, rfl⟩ := hv
    refine Calls.mono (AnyF.slices_SortFunc_none (P := Try.prog) (ρ := laidSort) laysSort none 0 _ Z) ?_
    rintro r Z' ⟨rfl, rfl⟩
    exact ⟨rfl, [], List.Perm.nil, List.Pairwise.nil, hrow, Below.refl _ _⟩
  · simp only [Value.slice.injEq] at hv
    obtain ⟨rfl, _, rfl⟩ := hv
    have hH := holdsA hg htk
    have hsz : xs.toArray.size = xs.length := by simp
    have lt : g < Z.heap.size := (Array.getElem?_eq_some_iff.1 hg).1
    have key := AnyQ.slices_SortFunc (P := Try.prog) (ρ := laidSort) laysSort 8 (fun w => Try.isAgg31 w) (fun w => Try.sizeOf31 w) encA (fun x => rfl) (fun x => x.one) cmpM swo_cmpM 21 #[] g 0 c' xs.toArray Z (enters_of Try.func21 (by kernel_rfl) rfl) cmp_lays hH lt (by rw [hsz]; omega)
    rw [hsz] at key
    refine Calls.mono key ?_
    rintro r Z' ⟨rfl, d', n, os, hp, hso, rfl⟩
    obtain ⟨p1, p2, p3⟩ := hp
    have hd' : d'.size = xs.length := by rw [p1, hsz]
    have x1 : d'.extract 0 xs.length = d' := by rw [← hd']; exact Array.extract_size
    have x2 : xs.toArray.extract 0 xs.length = xs.toArray := by rw [← hsz]; exact Array.extract_size
    rw [x1, x2] at p3
    refine ⟨rfl, d'.toList, ?_, ?_, ?_, ?_⟩
    · simpa using p3
    · rw [List.pairwise_iff_getElem]
      intro i j hi hj hij
      rw [Array.length_toList] at hi hj
      have := hso i j (Nat.zero_le _) hij (by omega)
      rw [getElem!_pos d' i hi, getElem!_pos d' j hj] at this
      have h1 : ¬ cmpM d'[j] d'[i] < 0 := of_decide_eq_false this
      rw [cmpM_lt] at h1
      simpa using h1
    · refine ⟨by rw [mvals_len, Array.length_toList, hd'], .inr ⟨g, c', _, rfl, hBg, heap_sort hg, hnc, hcm, ?_, ?_⟩⟩
      · unfold Go.Sort.putCells
        rw [Array.size_mapIdx, hcs]
      · have hF : (Go.Sort.flatK encA 8 d').size = xs.length * 8 := by rw [Go.Sort.size_flatK, hd']
        rw [← hF, putCells_take (by rw [hF, hcs]; exact Nat.mul_le_mul_right 8 hnc), flat_mvals]
    · have hg2 : Z.grownBy (sortWorldK encA 8 Z g 0 n d' os) (some g) := by
        refine ⟨rfl, rfl, rfl, ?_, fun k hk hne => heap_sort_ne hk (fun e => hne (by rw [e]))⟩
        unfold sortWorldK
        rw [Go.Sort.size_grow]
        show Z.heap.size ≤ (Go.Sort.putRowK _ _ _ _ _ _).heap.size + _
        unfold Go.Sort.putRowK
        rw [Go.Sort.size_putRow]
        exact Nat.le_add_right _ _
      exact (Below.refl B Z).grown hg2 hB (fun k hk => by cases hk; exact hBg)
theorem srt_of {ys : List MtD} (h : ys.Pairwise fun x y => ¬ ltM y x) (k : ys.Pairwise fun x y => x.num ≠ y.num) : Srt ys := by
  induction ys with
  | nil => exact List.Pairwise.nil
  | cons y ys ih =>
    obtain ⟨h1, h2⟩ := List.pairwise_cons.1 h
    obtain ⟨k1, k2⟩ := List.pairwise_cons.1 k
    exact List.pairwise_cons.2 ⟨fun z hz => (ltM_total (k1 z hz)).resolve_right (h1 z hz), ih h2 k2⟩
set_option maxRecDepth 100000 in
set_option maxHeartbeats 1000000 in
theorem rising_any {W : World} {a : Option Addr} {c : Nat} {l : List MtD} (hr : RdM W a c l) (hl : l.length ≤ 64) (hk : OkR l) :
    Calls Try.prog 13 #[.slice a l.length c] W fun r W' => ∃ a' c' ys, r = .returned (.slice a' l.length c') ∧ ys.length = l.length ∧ ys.Perm l ∧ Srt ys ∧ RdM W' a' c' ys ∧ Below W.heap.size W W' := by
  have H1 := Lib.hid (clone_any hr hl)
  have HL := Lib.hid hl
  have HK := Lib.hid hk
  have HN := Lib.hid hr.num
  obtain ⟨N, hN⟩ : ∃ N, N = l.length := ⟨_, rfl⟩
  have HNe := Lib.hid hN
  rw [← hN] at H1 ⊢
  clear hr hl hk hN
  go_enter Try.func13, Try.ntmps13
  go_wp2_with fail
  refine Calls.mono H1.out ?_
  rintro z W1 ⟨a', c', rfl, hown, hb1⟩
  have hs := sort_runs HL.out hb1.size (HNe.out ▸ hown)
  rw [← HNe.out] at hs
  have HS := Lib.hid hs
  have HB1 := Lib.hid hb1
  clear hs hown hb1 H1
  go_wp2_with fail
  refine Calls.mono HS.out ?_
  rintro z W2 ⟨rfl, ys, hp, hpw, hrow, hb2⟩
  have hlen : ys.length = l.length := hp.length_eq
  have hsrt : Srt ys := by
    have hsym : ∀ {x y : MtD}, x.num ≠ y.num → y.num ≠ x.num := fun h e => h e.symm
    exact srt_of hpw ((hp.pairwise_iff hsym).2 HK.out.two)
  have hrd : RdM W2 a' c' ys := by
    rw [HNe.out, ← hlen] at hrow
    exact row_rdm hrow fun x hx => HN.out x (hp.subset hx)
  have HE := Lib.hid (And.intro hlen (And.intro hp (And.intro hsrt (And.intro hrd (HB1.out.trans hb2)))))
  clear hp hpw hrow hb2 hlen hsrt hrd HS
  go_wp2
  go_ret
  refine ⟨a', c', ys, rfl, ?_, HE.out.2⟩
  rw [HNe.out]
  exact HE.out.1
end Go.Proofs.Ytodejneceedglaa

namespace Go.Proofs.Ytodejneceedglaa
open Go.RowKit
set_option linter.unusedVariables false

def PBox (w : World) (q : Nat) (x y z : Int) : Prop := w.heap[q]? = some (.cells #[.int .i64 x, .int .i64 y, .int .i64 z] 23 (0, 0))
theorem PBox.new (w : World) (x y z : Int) : PBox (w.alloc (.cells #[.int .i64 x, .int .i64 y, .int .i64 z] 23)) w.heap.size x y z := heap_alloc_new w _
theorem PBox.later {w w' : World} {q : Nat} {x y z : Int} (h : PBox w q x y z) (hb : Below w.heap.size w w') : PBox w' q x y z := by
  unfold PBox at *
  rw [hb.block q (Array.getElem?_eq_some_iff.1 h).1]
  exact h
theorem PBox.c0 {w : World} {q : Nat} {x y z : Int} (h : PBox w q x y z) : w.cell? ⟨q, 0, none⟩ = some (.int .i64 x) := by
  unfold PBox at h; simp [World.cell?, h]
theorem PBox.c1 {w : World} {q : Nat} {x y z : Int} (h : PBox w q x y z) : w.cell? ⟨q, 1, none⟩ = some (.int .i64 y) := by
  unfold PBox at h; simp [World.cell?, h]
theorem PBox.c2 {w : World} {q : Nat} {x y z : Int} (h : PBox w q x y z) : w.cell? ⟨q, 2, none⟩ = some (.int .i64 z) := by
  unfold PBox at h; simp [World.cell?, h]
def slen : Value → Nat
  | .slice _ n _ => n
  | _ => 0
theorem RdM.take {w : World} {a : Option Addr} {kp : Nat} {xs : List MtD} (h : RdM w a kp xs) (n : Nat) : RdM w a kp (xs.take n) := by
  refine ⟨⟨Nat.le_trans (by rw [List.length_take]; omega) h.cap.1, h.cap.2⟩, ?_, fun x hx => h.num x (List.mem_of_mem_take hx), h.nn⟩
  rcases h.at_ with h1 | ⟨b, off, rfl, hc⟩
  · exact .inl (by rw [h1]; simp)
  · refine .inr ⟨b, off, rfl, fun i x hi j u hj => ?_⟩
    have hl : i < n := by
      have := (List.getElem?_eq_some_iff.1 hi).1
      rw [List.length_take] at this
      omega
    rw [List.getElem?_take_of_lt hl] at hi
    exact hc i x hi j u hj
theorem RdM.drop {w : World} {b off kp : Nat} {xs : List MtD} (h : RdM w (some ⟨b, off, none⟩) kp xs) (n : Nat) (hn : n < kp) : RdM w (some ⟨b, off + n * 8, none⟩) (kp - n) (xs.drop n) := by
  refine ⟨⟨by rw [List.length_drop]; have := h.cap.1; omega, by have := h.cap.2; omega⟩, ?_, fun x hx => h.num x (List.mem_of_mem_drop hx), fun z => by cases z⟩
  rcases h.at_ with h1 | ⟨b', off', hb, hc⟩
  · exact .inl (by rw [h1]; simp)
  · cases hb
    refine .inr ⟨b, off + n * 8, rfl, fun i x hi j u hj => ?_⟩
    rw [List.getElem?_drop] at hi
    have := hc (n + i) x hi j u hj
    rwa [show off + (n + i) * 8 + j = off + n * 8 + i * 8 + j by omega] at this
theorem tierS_short {w : Nat} {q : Int} {l : List MtD} (h : l.length < w) : tierS w q l = [] := by
  cases l with
  | nil => rfl
  | cons r t => simp only [tierS]; rw [if_neg (by omega)]
theorem wrap_id {z : Int} (h0 : 0 ≤ z) (h1 : z < 9223372036854775808) : IntKind.i64.wrap z = z := by
  simp only [IntKind.wrap, IntKind.bits, IntKind.signed]
  simp
  omega
set_option maxRecDepth 100000 in
set_option maxHeartbeats 4000000 in
theorem firstTier_any {W : World} {a : Option Addr} {cap wn : Nat} {q m : Int} {l : List MtD} (hw : 2 ≤ wn ∧ wn ≤ 16) (hq : 2 ≤ q ∧ q ≤ 64) (hr : RdM W a cap l) (hb : ∀ x ∈ l, 0 ≤ x.byt) (hl : l.length ≤ 64) :
    Calls Try.prog 12 #[.agg #[.int .i64 (wn : Int), .int .i64 q, .int .i64 m], .slice a l.length cap] W fun r W' => ∃ a' c', r = .returned (.slice a' (tierS wn q l).length c') ∧ RdM W' a' c' (tierS wn q l) ∧ Below W.heap.size W W' := by
  obtain ⟨T, hT⟩ : ∃ T, T = tierS wn q l := ⟨_, rfl⟩
  obtain ⟨N, hN⟩ : ∃ N, N = l.length := ⟨_, rfl⟩
  rw [← hT, ← hN]
  have A1 := (Below.refl W.heap.size W).alloc (Nat.le_refl _) (.cells #[.int .i64 (wn : Int), .int .i64 q, .int .i64 m] 23)
  have pb := PBox.new W (wn : Int) q m
  obtain ⟨X, hX⟩ : ∃ X, X = W.alloc (.cells #[.int .i64 (wn : Int), .int .i64 q, .int .i64 m] 23) := ⟨_, rfl⟩
  rw [← hX] at A1 pb
  have HX := Lib.hid hX
  have HS : Hid (∃ s : List MtD, N = s.length ∧ s.length ≤ 64 ∧ RdM X a cap s ∧ T = tierS wn q s ∧ (∀ x ∈ s, 0 ≤ x.byt) ∧ PBox X W.heap.size (wn : Int) q m ∧ Below W.heap.size W X) := ⟨l, hN, hl, hr.later A1, hT, hb, pb, A1⟩
  obtain ⟨hw1, hw2⟩ := hw
  obtain ⟨hq1, hq2⟩ := hq
  clear hT hN hr hb hX A1 pb
  go_enter Try.func12, Try.ntmps12
  go_wp2
  rw [← HX.out]
  clear HX
  go_loopw [1] (fun r wr => ∃ (n : Nat) (a' : Option Addr) (c' : Nat), n ≤ 64 ∧ r = .slice a' n c' ∧ Hid (∃ s : List MtD, n = s.length ∧ s.length ≤ 64 ∧ RdM wr a' c' s ∧ T = tierS wn q s ∧ (∀ x ∈ s, 0 ≤ x.byt) ∧ PBox wr W.heap.size (wn : Int) q m ∧ Below W.heap.size W wr)) (fun r _ => slen r)
  case atStart =>
    obtain ⟨s, h1, h2⟩ := HS.out
    exact ⟨N, a, cap, by rw [h1]; exact h2.1, rfl, HS⟩
  case round =>
    clear HS
    obtain ⟨n, a', c', hn, rfl, HS⟩ := hrel
    obtain ⟨s, hs1, hs2, hs3, hs4, hs5, hs6, hs7⟩ := HS.out
    have p0 := hs6.c0
    have p1 := hs6.c1
    by_cases hge : wn ≤ n
    · have hge2 : (wn : Int) ≤ (n : Int) := by omega
      have HN := Lib.hid hs1
      obtain ⟨e, he⟩ : ∃ e, s[0]? = some e := ⟨s[0]'(by omega), List.getElem?_eq_getElem _⟩
      obtain ⟨b, off, rfl, cel0⟩ := hs3.cel he
      have hcap := hs3.cap
      have hcn : n ≤ c' := by omega
      have hcm : c' ≤ 9223372036854775807 := by have := hcap.2; unfold maxLen at this; exact this
      have HR := Lib.hid hs3
      have htl : (s.take wn).length = wn := by rw [List.length_take]; omega
      have HF := Lib.hid (fun wx (h : Below wr.heap.size wr wx) => fit_any ((hs3.take wn).later h) (fun x hx => hs5 x (List.mem_of_mem_take hx)))
      rw [htl] at HF
      have HT := Lib.hid hs4
      have HB := Lib.hid hs5
      have HP := Lib.hid hs6
      have HBe := Lib.hid hs7
      clear hs1 hs2 hs3 hs4 hs5 hs6 hs7 HS htl cel0 hcap
      have wn0 : (0 : Int) ≤ (wn : Int) := by omega
      have wc : (wn : Int) ≤ (c' : Int) := by omega
      go_upto_region 4 with fail
      obtain ⟨F, hF⟩ : ∃ F, F = fitS maxB (s.take wn) := ⟨_, rfl⟩
      rw [← hF] at HF
      have HFe := Lib.hid hF
      clear hF
      obtain ⟨z, hz⟩ : ∃ z, s[wn - 1]? = some z := ⟨s[wn - 1]'(by have := HN.out; omega), List.getElem?_eq_getElem _⟩
      have hcons : s = e :: s.drop 1 := by
        cases s with
        | nil => simp at he
        | cons y t => simp at he; rw [he]; rfl
      have HTe : Hid (T = if F = true ∧ z.byt ≤ q * e.byt then s.take wn else tierS wn q (s.drop 1)) := by
        unfold Hid
        rw [HT.out]
        conv => lhs; rw [hcons]
        have hz2 := hz
        rw [hcons] at hz2
        have hFe := HFe.out
        rw [hcons] at hFe
        simp only [tierS]
        rw [if_pos (by have := HN.out; rw [hcons] at this; simp only [List.length_cons] at this ⊢; omega), hz2, ← hFe]
        conv => rhs; rw [hcons]
        rfl
      have HCz : Hid (∀ wx, Below wr.heap.size wr wx → wx.cell? ⟨b, off + 5, none⟩ = some (.int .i64 e.byt) ∧ wx.cell? ⟨b, off + (wn - 1) * 8 + 5, none⟩ = some (.int .i64 z.byt) ∧ PBox wx W.heap.size (wn : Int) q m) := by
        intro wx hx
        have hr := HR.out.later hx
        obtain ⟨b1, o1, eb1, c1⟩ := hr.cel he
        cases eb1
        obtain ⟨b2, o2, eb2, c2⟩ := hr.cel hz
        cases eb2
        refine ⟨?_, c2.c5, HP.out.later hx⟩
        have := c1.c5
        simpa using this
      have HD := Lib.hid ((HR.out).drop 1 (by omega))
      clear hcons
      cases F with
      | false =>
        have BD : Below wr.heap.size wr wr.drew := (Below.refl _ _).drew
        refine wp_region_noPanic ?_
        refine wp_region_held_drew (S := fun wx => Below wr.heap.size wr wx) (by kernel_rfl) BD (fun hHeld => ?_)
        refine wpAnyH_take (i := 0) (oi := { dst := some 17, op := _, type := _, pos := _, after := _, guard := _ }) (v := .slice (some ⟨b, off, none⟩) wn c') rfl (by kernel_rfl) (by kernel_rfl) (by kernel_rfl) (fun _ _ _ h => h) (Or.inl ⟨by kernel_rfl, fun wy hy => by first | (go_simp; done) | (go_simp; simp)⟩) (by assumption) ?_
        try simp only [Act.put, List.setIfInBounds_toArray, List.set_cons_zero, List.set_cons_succ]
        refine wpAnyH_ready (rs := [1]) (by kernel_rfl) (by simp) ?_
        refine AllReadyH.cons (o := { dst := some 18, op := _, type := _, pos := _, after := _, guard := _ }) rfl (fun K hK => ?_) AllReadyH.nil
        go_simp
        go_at_call 10
        refine (HF.out _ BD).mono ?_
        rintro e1 wf ⟨rfl, hbf⟩
        have hbf2 : Below wr.heap.size wr wf := BD.trans (hbf.mono BD.size)
        clear hbf BD
        go_wp2_with fail
        refine hK.out _ _ hbf2 (fun hHeld => ?_)
        clear hK K
        try simp only [Act.put, List.setIfInBounds_toArray, List.set_cons_zero, List.set_cons_succ]
        refine wpAnyH_take (i := 2) (oi := { dst := some 19, op := _, type := _, pos := _, after := _, guard := _ }) (v := .bool false) rfl (by kernel_rfl) (by kernel_rfl) (by kernel_rfl) (fun _ _ _ h => h) (Or.inl ⟨by kernel_rfl, fun wy hy => by first | (go_simp; done) | (go_simp; simp)⟩) (by assumption) ?_
        try simp only [Act.put, List.setIfInBounds_toArray, List.set_cons_zero, List.set_cons_succ]
        refine wpAnyH_take (i := 3) (oi := { dst := some 20, op := _, type := _, pos := _, after := _, guard := _ }) (v := undef) rfl (by kernel_rfl) (by kernel_rfl) (by kernel_rfl) (fun _ _ _ h => h) (Or.inr ⟨by kernel_rfl, rfl⟩) (by assumption) ?_
        try simp only [Act.put, List.setIfInBounds_toArray, List.set_cons_zero, List.set_cons_succ]
        refine wpAnyH_take (i := 4) (oi := { dst := some 21, op := _, type := _, pos := _, after := _, guard := _ }) (v := undef) rfl (by kernel_rfl) (by kernel_rfl) (by kernel_rfl) (fun _ _ _ h => h) (Or.inr ⟨by kernel_rfl, rfl⟩) (by assumption) ?_
        try simp only [Act.put, List.setIfInBounds_toArray, List.set_cons_zero, List.set_cons_succ]
        refine wpAnyH_take (i := 5) (oi := { dst := some 22, op := _, type := _, pos := _, after := _, guard := _ }) (v := undef) rfl (by kernel_rfl) (by kernel_rfl) (by kernel_rfl) (fun _ _ _ h => h) (Or.inr ⟨by kernel_rfl, rfl⟩) (by assumption) ?_
        try simp only [Act.put, List.setIfInBounds_toArray, List.set_cons_zero, List.set_cons_succ]
        refine wpAnyH_take (i := 6) (oi := { dst := some 23, op := _, type := _, pos := _, after := _, guard := _ }) (v := undef) rfl (by kernel_rfl) (by kernel_rfl) (by kernel_rfl) (fun _ _ _ h => h) (Or.inr ⟨by kernel_rfl, rfl⟩) (by assumption) ?_
        try simp only [Act.put, List.setIfInBounds_toArray, List.set_cons_zero, List.set_cons_succ]
        refine wpAnyH_take (i := 7) (oi := { dst := some 24, op := _, type := _, pos := _, after := _, guard := _ }) (v := undef) rfl (by kernel_rfl) (by kernel_rfl) (by kernel_rfl) (fun _ _ _ h => h) (Or.inr ⟨by kernel_rfl, rfl⟩) (by assumption) ?_
        try simp only [Act.put, List.setIfInBounds_toArray, List.set_cons_zero, List.set_cons_succ]
        refine wpAnyH_take (i := 8) (oi := { dst := some 25, op := _, type := _, pos := _, after := _, guard := _ }) (v := undef) rfl (by kernel_rfl) (by kernel_rfl) (by kernel_rfl) (fun _ _ _ h => h) (Or.inr ⟨by kernel_rfl, rfl⟩) (by assumption) ?_
        try simp only [Act.put, List.setIfInBounds_toArray, List.set_cons_zero, List.set_cons_succ]
        refine wpAnyH_take (i := 9) (oi := { dst := some 26, op := _, type := _, pos := _, after := _, guard := _ }) (v := undef) rfl (by kernel_rfl) (by kernel_rfl) (by kernel_rfl) (fun _ _ _ h => h) (Or.inr ⟨by kernel_rfl, rfl⟩) (by assumption) ?_
        try simp only [Act.put, List.setIfInBounds_toArray, List.set_cons_zero, List.set_cons_succ]
        refine wpAnyH_take (i := 10) (oi := { dst := some 27, op := _, type := _, pos := _, after := _, guard := _ }) (v := undef) rfl (by kernel_rfl) (by kernel_rfl) (by kernel_rfl) (fun _ _ _ h => h) (Or.inr ⟨by kernel_rfl, rfl⟩) (by assumption) ?_
        try simp only [Act.put, List.setIfInBounds_toArray, List.set_cons_zero, List.set_cons_succ]
        refine wpAnyH_take (i := 11) (oi := { dst := some 28, op := _, type := _, pos := _, after := _, guard := _ }) (v := undef) rfl (by kernel_rfl) (by kernel_rfl) (by kernel_rfl) (fun _ _ _ h => h) (Or.inr ⟨by kernel_rfl, rfl⟩) (by assumption) ?_
        try simp only [Act.put, List.setIfInBounds_toArray, List.set_cons_zero, List.set_cons_succ]
        refine wpAnyH_take (i := 12) (oi := { dst := some 29, op := _, type := _, pos := _, after := _, guard := _ }) (v := undef) rfl (by kernel_rfl) (by kernel_rfl) (by kernel_rfl) (fun _ _ _ h => h) (Or.inr ⟨by kernel_rfl, rfl⟩) (by assumption) ?_
        try simp only [Act.put, List.setIfInBounds_toArray, List.set_cons_zero, List.set_cons_succ]
        refine wpAnyH_take (i := 13) (oi := { dst := some 30, op := _, type := _, pos := _, after := _, guard := _ }) (v := undef) rfl (by kernel_rfl) (by kernel_rfl) (by kernel_rfl) (fun _ _ _ h => h) (Or.inr ⟨by kernel_rfl, rfl⟩) (by assumption) ?_
        try simp only [Act.put, List.setIfInBounds_toArray, List.set_cons_zero, List.set_cons_succ]
        refine wpAnyH_take (i := 14) (oi := { dst := some 31, op := _, type := _, pos := _, after := _, guard := _ }) (v := undef) rfl (by kernel_rfl) (by kernel_rfl) (by kernel_rfl) (fun _ _ _ h => h) (Or.inr ⟨by kernel_rfl, rfl⟩) (by assumption) ?_
        try simp only [Act.put, List.setIfInBounds_toArray, List.set_cons_zero, List.set_cons_succ]
        refine wpAnyH_take (i := 15) (oi := { dst := some 32, op := _, type := _, pos := _, after := _, guard := _ }) (v := undef) rfl (by kernel_rfl) (by kernel_rfl) (by kernel_rfl) (fun _ _ _ h => h) (Or.inr ⟨by kernel_rfl, rfl⟩) (by assumption) ?_
        try simp only [Act.put, List.setIfInBounds_toArray, List.set_cons_zero, List.set_cons_succ]
        refine wpAnyH_take (i := 16) (oi := { dst := some 33, op := _, type := _, pos := _, after := _, guard := _ }) (v := undef) rfl (by kernel_rfl) (by kernel_rfl) (by kernel_rfl) (fun _ _ _ h => h) (Or.inr ⟨by kernel_rfl, rfl⟩) (by assumption) ?_
        try simp only [Act.put, List.setIfInBounds_toArray, List.set_cons_zero, List.set_cons_succ]
        refine wpAnyH_take (i := 17) (oi := { dst := some 34, op := _, type := _, pos := _, after := _, guard := _ }) (v := undef) rfl (by kernel_rfl) (by kernel_rfl) (by kernel_rfl) (fun _ _ _ h => h) (Or.inr ⟨by kernel_rfl, rfl⟩) (by assumption) ?_
        try simp only [Act.put, List.setIfInBounds_toArray, List.set_cons_zero, List.set_cons_succ]
        refine wpAnyH_take (i := 18) (oi := { dst := some 35, op := _, type := _, pos := _, after := _, guard := _ }) (v := .bool false) rfl (by kernel_rfl) (by kernel_rfl) (by kernel_rfl) (fun _ _ _ h => h) (Or.inl ⟨by kernel_rfl, fun wy hy => by first | (go_simp; done) | (go_simp; simp)⟩) (by assumption) ?_
        try simp only [Act.put, List.setIfInBounds_toArray, List.set_cons_zero, List.set_cons_succ]
        refine wpAnyH_done (by kernel_rfl) (NoPanic.normal ?_) _
        have HS2 : Hid (∃ s : List MtD, n - 1 = s.length ∧ s.length ≤ 64 ∧ RdM wf (some ⟨b, off + 8, none⟩) (c' - 1) s ∧ T = tierS wn q s ∧ (∀ x ∈ s, 0 ≤ x.byt) ∧ PBox wf W.heap.size (wn : Int) q m ∧ Below W.heap.size W wf) := by
          have hN := HN.out
          refine ⟨s.drop 1, by rw [List.length_drop, hN], by rw [List.length_drop]; omega, HD.out.later hbf2, ?_, fun x hx => HB.out x (List.mem_of_mem_drop hx), (HCz.out wf hbf2).2.2, HBe.out.trans (hbf2.mono HBe.out.size)⟩
          have := HTe.out
          simpa using this
        have n1 : (1 : Int) ≤ (n : Int) := by omega
        have c1 : ¬ (c' : Int) = 1 := by omega
        have c2 : (1 : Int) ≤ (c' : Int) := by omega
        have c3 : ¬ c' = 1 := by omega
        clear HF HFe HTe HCz HD HT HB HP HBe HR hHeld hbf2 he hz
        go_simp
        go_step
        go_wp2
        go_roundw
        case rel => exact ⟨n - 1, some ⟨b, off + 8, none⟩, c' - 1, by omega, rfl, HS2⟩
        case measure => simp only [slen]; omega
      | true =>
        have BD : Below wr.heap.size wr wr.drew := (Below.refl _ _).drew
        have hp0 : (0 : Int) ≤ (wn : Int) - 1 := by omega
        have hp1 : (wn : Int) - 1 < (wn : Int) := by omega
        have hp2 : (0 : Int) < (wn : Int) := by omega
        have hfit : sumB (s.take wn) ≤ maxB := by
          have h1 := HFe.out
          rw [fitS_iff (fun x hx => HB.out x (List.mem_of_mem_take hx)) maxB (by decide)] at h1
          exact of_decide_eq_true h1.symm
        have hs : 0 ≤ e.byt ∧ e.byt ≤ 16777216 := by
          refine ⟨HB.out e (List.mem_of_getElem? he), ?_⟩
          have hc : ∃ t, s.take wn = e :: t := by
            cases s with
            | nil => simp at he
            | cons y t =>
              simp at he
              obtain ⟨k, rfl⟩ : ∃ k, wn = k + 1 := ⟨wn - 1, by omega⟩
              exact ⟨t.take k, by rw [List.take_succ_cons, he]⟩
          obtain ⟨t, ht⟩ := hc
          rw [ht] at hfit
          have := sumB_nonneg (l := t) (fun x hx => HB.out x (List.mem_of_mem_take (by rw [ht]; exact List.mem_cons_of_mem _ hx)))
          simp only [sumB] at hfit
          unfold maxB at hfit
          omega
        obtain ⟨hs1, hs2⟩ := hs
        have hm1 : q * e.byt ≤ 64 * 16777216 := Int.mul_le_mul hq2 hs2 hs1 (by omega)
        have hm0 : 0 ≤ q * e.byt := Int.mul_nonneg (by omega) hs1
        obtain ⟨pr, hpr⟩ : ∃ pr, pr = q * e.byt := ⟨_, rfl⟩
        have hwr : IntKind.i64.wrap (q * e.byt) = pr := by
          rw [hpr]
          exact wrap_id (by omega) (by omega)
        have hw1 : IntKind.i64.wrap ((wn : Int) - 1) = (wn : Int) - 1 := wrap_id (by omega) (by omega)
        have HPr := Lib.hid hpr
        clear hpr hfit hm1 hm0
        obtain ⟨D, hD⟩ : ∃ D, decide (z.byt ≤ pr) = D := ⟨_, rfl⟩
        have ht : ((wn : Int) - 1).toNat = wn - 1 := by omega
        refine wp_region_noPanic ?_
        refine wp_region_held_drew (S := fun wx => Below wr.heap.size wr wx) (by kernel_rfl) BD (fun hHeld => ?_)
        refine wpAnyH_take (i := 0) (oi := { dst := some 17, op := _, type := _, pos := _, after := _, guard := _ }) (v := .slice (some ⟨b, off, none⟩) wn c') rfl (by kernel_rfl) (by kernel_rfl) (by kernel_rfl) (fun _ _ _ h => h) (Or.inl ⟨by kernel_rfl, fun wy hy => by first | (go_simp; done) | (go_simp; simp; done)⟩) (by assumption) ?_
        try simp only [Act.put, List.setIfInBounds_toArray, List.set_cons_zero, List.set_cons_succ]
        refine wpAnyH_ready (rs := [1]) (by kernel_rfl) (by simp) ?_
        refine AllReadyH.cons (o := { dst := some 18, op := _, type := _, pos := _, after := _, guard := _ }) rfl (fun K hK => ?_) AllReadyH.nil
        go_simp
        go_at_call 10
        refine (HF.out _ BD).mono ?_
        rintro e1 wf ⟨rfl, hbf⟩
        have hbf2 : Below wr.heap.size wr wf := BD.trans (hbf.mono BD.size)
        clear hbf BD
        go_wp2_with fail
        refine hK.out _ _ hbf2 (fun hHeld => ?_)
        clear hK K
        try simp only [Act.put, List.setIfInBounds_toArray, List.set_cons_zero, List.set_cons_succ]
        refine wpAnyH_take (i := 2) (oi := { dst := some 19, op := _, type := _, pos := _, after := _, guard := _ }) (v := .bool true) rfl (by kernel_rfl) (by kernel_rfl) (by kernel_rfl) (fun _ _ _ h => h) (Or.inl ⟨by kernel_rfl, fun wy hy => by first | (go_simp; done) | (go_simp; simp; done)⟩) (by assumption) ?_
        try simp only [Act.put, List.setIfInBounds_toArray, List.set_cons_zero, List.set_cons_succ]
        refine wpAnyH_take (i := 3) (oi := { dst := some 20, op := _, type := _, pos := _, after := _, guard := _ }) (v := .slice (some ⟨b, off, none⟩) wn c') rfl (by kernel_rfl) (by kernel_rfl) (by kernel_rfl) (fun _ _ _ h => h) (Or.inl ⟨by kernel_rfl, fun wy hy => by first | (go_simp; done) | (go_simp; simp; done)⟩) (by assumption) ?_
        try simp only [Act.put, List.setIfInBounds_toArray, List.set_cons_zero, List.set_cons_succ]
        refine wpAnyH_take (i := 4) (oi := { dst := some 21, op := _, type := _, pos := _, after := _, guard := _ }) (v := .pointer (some ⟨W.heap.size, 0, none⟩)) rfl (by kernel_rfl) (by kernel_rfl) (by kernel_rfl) (fun _ _ _ h => h) (Or.inl ⟨by kernel_rfl, fun wy hy => by first | (go_simp; done) | (go_simp; simp; done)⟩) (by assumption) ?_
        try simp only [Act.put, List.setIfInBounds_toArray, List.set_cons_zero, List.set_cons_succ]
        refine wpAnyH_take (i := 5) (oi := { dst := some 22, op := _, type := _, pos := _, after := _, guard := _ }) (v := .int .i64 (wn : Int)) rfl (by kernel_rfl) (by kernel_rfl) (by kernel_rfl) (fun _ _ _ h => h) (Or.inl ⟨by kernel_rfl, fun wy hy => by (obtain ⟨y0, yz, pbx⟩ := HCz.out wy hy; have x0 := pbx.c0; have x1 := pbx.c1; go_simp; done)⟩) (by assumption) ?_
        try simp only [Act.put, List.setIfInBounds_toArray, List.set_cons_zero, List.set_cons_succ]
        refine wpAnyH_take (i := 6) (oi := { dst := some 23, op := _, type := _, pos := _, after := _, guard := _ }) (v := .int .i64 ((wn : Int) - 1)) rfl (by kernel_rfl) (by kernel_rfl) (by kernel_rfl) (fun _ _ _ h => h) (Or.inl ⟨by kernel_rfl, fun wy hy => by first | (go_simp; done) | (go_simp; simp [hw1]; done)⟩) (by assumption) ?_
        try simp only [Act.put, List.setIfInBounds_toArray, List.set_cons_zero, List.set_cons_succ]
        refine wpAnyH_take (i := 7) (oi := { dst := some 24, op := _, type := _, pos := _, after := _, guard := _ }) (v := .pointer (some ⟨b, off + (wn - 1) * 8, none⟩)) rfl (by kernel_rfl) (by kernel_rfl) (by kernel_rfl) (fun _ _ _ h => h) (Or.inl ⟨by kernel_rfl, fun wy hy => by go_simp; intro h; omega⟩) (by assumption) ?_
        try simp only [Act.put, List.setIfInBounds_toArray, List.set_cons_zero, List.set_cons_succ]
        refine wpAnyH_take (i := 8) (oi := { dst := some 25, op := _, type := _, pos := _, after := _, guard := _ }) (v := .pointer (some ⟨b, off + (wn - 1) * 8 + 5, none⟩)) rfl (by kernel_rfl) (by kernel_rfl) (by kernel_rfl) (fun _ _ _ h => h) (Or.inl ⟨by kernel_rfl, fun wy hy => by first | (go_simp; done) | (go_simp; simp; done)⟩) (by assumption) ?_
        try simp only [Act.put, List.setIfInBounds_toArray, List.set_cons_zero, List.set_cons_succ]
        refine wpAnyH_take (i := 9) (oi := { dst := some 26, op := _, type := _, pos := _, after := _, guard := _ }) (v := .int .i64 z.byt) rfl (by kernel_rfl) (by kernel_rfl) (by kernel_rfl) (fun _ _ _ h => h) (Or.inl ⟨by kernel_rfl, fun wy hy => by (obtain ⟨y0, yz, pbx⟩ := HCz.out wy hy; have x0 := pbx.c0; have x1 := pbx.c1; go_simp; done)⟩) (by assumption) ?_
        try simp only [Act.put, List.setIfInBounds_toArray, List.set_cons_zero, List.set_cons_succ]
        refine wpAnyH_take (i := 10) (oi := { dst := some 27, op := _, type := _, pos := _, after := _, guard := _ }) (v := .pointer (some ⟨W.heap.size, 1, none⟩)) rfl (by kernel_rfl) (by kernel_rfl) (by kernel_rfl) (fun _ _ _ h => h) (Or.inl ⟨by kernel_rfl, fun wy hy => by first | (go_simp; done) | (go_simp; simp; done)⟩) (by assumption) ?_
        try simp only [Act.put, List.setIfInBounds_toArray, List.set_cons_zero, List.set_cons_succ]
        refine wpAnyH_take (i := 11) (oi := { dst := some 28, op := _, type := _, pos := _, after := _, guard := _ }) (v := .int .i64 q) rfl (by kernel_rfl) (by kernel_rfl) (by kernel_rfl) (fun _ _ _ h => h) (Or.inl ⟨by kernel_rfl, fun wy hy => by (obtain ⟨y0, yz, pbx⟩ := HCz.out wy hy; have x0 := pbx.c0; have x1 := pbx.c1; go_simp; done)⟩) (by assumption) ?_
        try simp only [Act.put, List.setIfInBounds_toArray, List.set_cons_zero, List.set_cons_succ]
        refine wpAnyH_take (i := 12) (oi := { dst := some 29, op := _, type := _, pos := _, after := _, guard := _ }) (v := .slice (some ⟨b, off, none⟩) wn c') rfl (by kernel_rfl) (by kernel_rfl) (by kernel_rfl) (fun _ _ _ h => h) (Or.inl ⟨by kernel_rfl, fun wy hy => by first | (go_simp; done) | (go_simp; simp; done)⟩) (by assumption) ?_
        try simp only [Act.put, List.setIfInBounds_toArray, List.set_cons_zero, List.set_cons_succ]
        refine wpAnyH_take (i := 13) (oi := { dst := some 30, op := _, type := _, pos := _, after := _, guard := _ }) (v := .pointer (some ⟨b, off, none⟩)) rfl (by kernel_rfl) (by kernel_rfl) (by kernel_rfl) (fun _ _ _ h => h) (Or.inl ⟨by kernel_rfl, fun wy hy => by go_simp; intro h; omega⟩) (by assumption) ?_
        try simp only [Act.put, List.setIfInBounds_toArray, List.set_cons_zero, List.set_cons_succ]
        refine wpAnyH_take (i := 14) (oi := { dst := some 31, op := _, type := _, pos := _, after := _, guard := _ }) (v := .pointer (some ⟨b, off + 5, none⟩)) rfl (by kernel_rfl) (by kernel_rfl) (by kernel_rfl) (fun _ _ _ h => h) (Or.inl ⟨by kernel_rfl, fun wy hy => by first | (go_simp; done) | (go_simp; simp; done)⟩) (by assumption) ?_
        try simp only [Act.put, List.setIfInBounds_toArray, List.set_cons_zero, List.set_cons_succ]
        refine wpAnyH_take (i := 15) (oi := { dst := some 32, op := _, type := _, pos := _, after := _, guard := _ }) (v := .int .i64 e.byt) rfl (by kernel_rfl) (by kernel_rfl) (by kernel_rfl) (fun _ _ _ h => h) (Or.inl ⟨by kernel_rfl, fun wy hy => by (obtain ⟨y0, yz, pbx⟩ := HCz.out wy hy; have x0 := pbx.c0; have x1 := pbx.c1; go_simp; done)⟩) (by assumption) ?_
        try simp only [Act.put, List.setIfInBounds_toArray, List.set_cons_zero, List.set_cons_succ]
        refine wpAnyH_take (i := 16) (oi := { dst := some 33, op := _, type := _, pos := _, after := _, guard := _ }) (v := .int .i64 pr) rfl (by kernel_rfl) (by kernel_rfl) (by kernel_rfl) (fun _ _ _ h => h) (Or.inl ⟨by kernel_rfl, fun wy hy => by first | (go_simp; done) | (go_simp; simp [hwr]; done)⟩) (by assumption) ?_
        try simp only [Act.put, List.setIfInBounds_toArray, List.set_cons_zero, List.set_cons_succ]
        refine wpAnyH_take (i := 17) (oi := { dst := some 34, op := _, type := _, pos := _, after := _, guard := _ }) (v := .bool D) rfl (by kernel_rfl) (by kernel_rfl) (by kernel_rfl) (fun _ _ _ h => h) (Or.inl ⟨by kernel_rfl, fun wy hy => by first | (go_simp; done) | (go_simp; simp [hD]; done)⟩) (by assumption) ?_
        try simp only [Act.put, List.setIfInBounds_toArray, List.set_cons_zero, List.set_cons_succ]
        refine wpAnyH_take (i := 18) (oi := { dst := some 35, op := _, type := _, pos := _, after := _, guard := _ }) (v := .bool D) rfl (by kernel_rfl) (by kernel_rfl) (by kernel_rfl) (fun _ _ _ h => h) (Or.inl ⟨by kernel_rfl, fun wy hy => by first | (go_simp; done) | (go_simp; simp; done)⟩) (by assumption) ?_
        try simp only [Act.put, List.setIfInBounds_toArray, List.set_cons_zero, List.set_cons_succ]
        refine wpAnyH_done (by kernel_rfl) (NoPanic.normal ?_) _
        have HD2 := Lib.hid hD
        have hRt := HR.out.take wn
        have HS2 : Hid (D = false → ∃ s : List MtD, n - 1 = s.length ∧ s.length ≤ 64 ∧ RdM wf (some ⟨b, off + 8, none⟩) (c' - 1) s ∧ T = tierS wn q s ∧ (∀ x ∈ s, 0 ≤ x.byt) ∧ PBox wf W.heap.size (wn : Int) q m ∧ Below W.heap.size W wf) := by
          intro hDf
          have hN := HN.out
          refine ⟨s.drop 1, by rw [List.length_drop, hN], by rw [List.length_drop]; omega, HD.out.later hbf2, ?_, fun x hx => HB.out x (List.mem_of_mem_drop hx), (HCz.out wf hbf2).2.2, HBe.out.trans (hbf2.mono HBe.out.size)⟩
          have := HTe.out
          rw [if_neg (fun k => by have k2 := k.2; rw [← HPr.out] at k2; rw [hDf] at hD; exact of_decide_eq_false hD k2)] at this
          exact this
        have HS3 : Hid (D = true → T = s.take wn ∧ T.length = wn ∧ RdM wf (some ⟨b, off, none⟩) c' T ∧ Below W.heap.size W wf) := by
          intro hDt
          have hN := HN.out
          have hT : T = s.take wn := by
            have := HTe.out
            rw [if_pos ⟨by trivial, by rw [← HPr.out]; rw [hDt] at hD; exact of_decide_eq_true hD⟩] at this
            exact this
          refine ⟨hT, by rw [hT, List.length_take]; omega, by rw [hT]; exact hRt.later hbf2, HBe.out.trans (hbf2.mono HBe.out.size)⟩
        have n1 : (1 : Int) ≤ (n : Int) := by omega
        have c1 : ¬ (c' : Int) = 1 := by omega
        have c2 : (1 : Int) ≤ (c' : Int) := by omega
        have c3 : ¬ c' = 1 := by omega
        clear HF HFe HTe HCz HD HT HB HP HBe HR hHeld hbf2 he hz hRt hD HD2 hwr HPr hw1 ht hs1 hs2 hp0 hp1 hp2
        go_simp
        go_step
        cases D with
        | true =>
          go_wp2
          go_ret
          obtain ⟨t1, t2, t3, t4⟩ := HS3.out (by trivial)
          exact ⟨some ⟨b, off, none⟩, c', by rw [t2]; rfl, t3, t4⟩
        | false =>
          have HS4 := Lib.hid (HS2.out (by trivial))
          clear HS2 HS3
          go_wp2
          go_roundw
          case rel => exact ⟨n - 1, some ⟨b, off + 8, none⟩, c' - 1, by omega, rfl, HS4⟩
          case measure => simp only [slen]; omega
    · have hge2 : ¬ (wn : Int) ≤ (n : Int) := by omega
      have e1 : T = [] := by rw [hs4, tierS_short (by omega)]
      have HBe := Lib.hid hs7
      clear hs1 hs2 hs3 hs4 hs5 hs6 hs7 HS
      go_wp2
      go_ret
      refine ⟨none, 0, rfl, ?_, HBe.out⟩
      exact ⟨⟨Nat.le_refl _, Nat.zero_le _⟩, .inl rfl, (fun x hx => by cases hx), fun _ => rfl⟩
end Go.Proofs.Ytodejneceedglaa
