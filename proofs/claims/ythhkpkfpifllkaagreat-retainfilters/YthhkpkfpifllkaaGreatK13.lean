import Derived.Test.YthhkpkfpifllkaaGreatK12
import Derived.Shelf.SlSortCmp.NoneTotal
namespace Go.Proofs.YthhkpkfpifllkaaGreat
open Go.RowKit
set_option linter.unusedVariables false

abbrev EA (Z : World) : Type := { x : EntD // EntD.Ok Z x }
def eaZ (Z : World) : EA Z := ⟨⟨.slice none 0 0, 0, .slice none 0 0, 0, 0, 0, .slice none 0 0, [], [], []⟩, by
  have : Rd Z (.slice none 0 0) [] := ⟨(fun x hx => by cases hx), none, 0, rfl, Nat.le_refl _, Nat.zero_le _, Nat.zero_le _, .inl rfl, .inl rfl⟩
  exact ⟨this, this, this⟩⟩
instance (Z : World) : Inhabited (EA Z) := ⟨eaZ Z⟩
def encA (Z : World) (x : EA Z) : List Value := x.1.cells.toList
def cfA (Z : World) (x y : EA Z) : Int := compareS x.1 y.1
theorem swo_cfA (Z : World) : Go.Sort.SWO (ltOf (cfA Z)) := by
  refine ⟨fun x => ?_, fun x y z h k => ?_, fun x y z h k => ?_⟩
  · simp [ltOf, cfA, compareS_self]
  · have h1 : compareS x.1 y.1 < 0 := of_decide_eq_true h
    have k1 : compareS y.1 z.1 < 0 := of_decide_eq_true k
    have := compareS_tri x.1 y.1 z.1
    unfold Tri at this
    exact decide_eq_true (p := compareS x.1 z.1 < 0) (by omega)
  · have h1 : ¬ compareS x.1 y.1 < 0 := of_decide_eq_false h
    have k1 : ¬ compareS y.1 z.1 < 0 := of_decide_eq_false k
    have := compareS_tri x.1 y.1 z.1
    unfold Tri at this
    exact decide_eq_false (p := compareS x.1 z.1 < 0) (by omega)
theorem encA_one (Z : World) (x : EA Z) : ∀ v ∈ encA Z x, v.oneCell' = true := by
  obtain ⟨⟨vr, fam, vq, ts, seq, kind, vv, row, qual, val⟩, r1, r2, r3⟩ := x
  obtain ⟨_, a1, c1, e1, _⟩ := r1
  obtain ⟨_, a2, c2, e2, _⟩ := r2
  obtain ⟨_, a3, c3, e3, _⟩ := r3
  simp only at e1 e2 e3
  subst e1 e2 e3
  intro v hv
  simp only [encA, EntD.cells, List.mem_cons, List.not_mem_nil, or_false] at hv
  rcases hv with rfl | rfl | rfl | rfl | rfl | rfl | rfl <;> rfl
theorem encA_no8 (Z : World) (x : EA Z) (j : Nat) (n : Int) : (encA Z x)[j]? ≠ some (.int .u8 n) := by
  intro h
  have hv := List.mem_of_getElem? h
  obtain ⟨⟨vr, fam, vq, ts, seq, kind, vv, row, qual, val⟩, r1, r2, r3⟩ := x
  obtain ⟨_, a1, c1, e1, _⟩ := r1
  obtain ⟨_, a2, c2, e2, _⟩ := r2
  obtain ⟨_, a3, c3, e3, _⟩ := r3
  simp only at e1 e2 e3
  subst e1 e2 e3
  simp [encA, EntD.cells] at hv
theorem cell_sort {Z : World} {blk off m : Nat} {d dk : Array (EA Z)} {os : Array Obj} (hH : Go.Sort.HoldsK (encA Z) 7 Z blk off d) (hs : dk.size = d.size) {b o : Nat} {n : Int} (hc : Z.cell? ⟨b, o, none⟩ = some (.int .u8 n)) : (sortWorldK (encA Z) 7 Z blk off m dk os).cell? ⟨b, o, none⟩ = some (.int .u8 n) := by
  have lt := World.block_lt_of_cell? Z _ hc
  have hout : b ≠ blk ∨ o < off ∨ off + (Go.Sort.flatK (encA Z) 7 dk).size ≤ o := by
    rw [Go.Sort.size_flatK]
    apply Classical.byContradiction
    intro hn
    have h1 : b = blk := by omega
    have h2 : off ≤ o := by omega
    have h3 : o < off + dk.size * 7 := by omega
    have hj : o - off < d.size * 7 := by omega
    have := (hH (o - off) (by rw [Go.Sort.size_flatK]; exact hj)).1
    rw [Go.Sort.get_flatK _ _ _ _ hj, show off + (o - off) = o by omega, ← h1, hc] at this
    have h4 : (encA Z d[(o - off) / 7]!).length = 7 := rfl
    have h5 : (o - off) % 7 < 7 := Nat.mod_lt _ (by omega)
    refine encA_no8 Z d[(o - off) / 7]! ((o - off) % 7) n ?_
    rw [this]
    show _ = some ((encA Z d[(o - off) / 7]!)[(o - off) % 7]!)
    rw [List.getElem!_eq_getElem?_getD, List.getElem?_eq_getElem (by rw [h4]; exact h5)]
    rfl
  unfold sortWorldK Go.Sort.putRowK
  rw [Go.Sort.cell?_grow _ _ _ (by rw [Go.Sort.size_putRow]; exact lt), Go.Sort.cell?_putRow_other _ _ _ _ _ _ hout]
  exact hc
theorem Rd.sort {Z : World} {blk off m : Nat} {d dk : Array (EA Z)} {os : Array Obj} (hH : Go.Sort.HoldsK (encA Z) 7 Z blk off d) (hs : dk.size = d.size) {x : Value} {bs : List Nat} (r : Rd Z x bs) : Rd (sortWorldK (encA Z) 7 Z blk off m dk os) x bs := by
  obtain ⟨h1, a, cap, rfl, h3, h4, h5, h6, h7⟩ := r
  refine ⟨h1, a, cap, rfl, h3, h4, h5, h6, ?_⟩
  rcases h7 with h7 | ⟨b, o, rfl, hc⟩
  · exact .inl h7
  · exact .inr ⟨b, o, rfl, fun i hi => cell_sort hH hs (hc i hi)⟩
theorem world_grow {W w' : World} (h : BelowD W.heap.size W w') : ∃ q os', w' = Go.Sort.grow (W.drewN q) os' := by
  refine ⟨w'.drawn - W.drawn, w'.heap.extract W.heap.size w'.heap.size, ?_⟩
  have hd := h.d
  have hsz := h.b.size
  have hh : w'.heap = W.heap ++ w'.heap.extract W.heap.size w'.heap.size := by
    apply Array.ext_getElem?
    intro i
    by_cases hi : i < W.heap.size
    · rw [Array.getElem?_append_left hi]
      exact h.b.block i hi
    · rw [Array.getElem?_append_right (by omega), Array.getElem?_extract]
      by_cases h2 : i < w'.heap.size
      · rw [if_pos (by omega), show W.heap.size + (i - W.heap.size) = i by omega]
      · rw [if_neg (by omega), Array.getElem?_eq_none (by omega)]
  have e1 := h.b.os
  have e2 := h.b.tape
  have e3 := h.b.output
  obtain ⟨hp, tp, dr, os, ou⟩ := w'
  simp only at *
  unfold Go.Sort.grow World.drewN
  simp only [World.mk.injEq]
  exact ⟨hh, e2, by omega, e1, e3⟩
theorem cmp_lays {Z : World} {blk off : Nat} {d : Array (EA Z)} (hH : Go.Sort.HoldsK (encA Z) 7 Z blk off d) : CmpLays Tryz.prog 81 #[] (encA Z) 7 (cfA Z) blk off d.size Z := by
  intro m os dk hs x y
  have e : (#[.agg (encA Z x).toArray, .agg (encA Z y).toArray] ++ #[] : Array Value) = #[.agg x.1.cells, .agg y.1.cells] := by simp [encA]
  rw [e]
  refine Calls.mono (compare_d ⟨x.2.1.sort hH hs, x.2.2.1.sort hH hs, x.2.2.2.sort hH hs⟩ ⟨y.2.1.sort hH hs, y.2.2.1.sort hH hs, y.2.2.2.sort hH hs⟩) ?_
  rintro r w' ⟨rfl, hb⟩
  exact ⟨rfl, world_grow hb⟩
end Go.Proofs.YthhkpkfpifllkaaGreat

namespace Go.Proofs.YthhkpkfpifllkaaGreat
open Go.RowKit
set_option linter.unusedVariables false

theorem flat_evals {Z : World} (d : Array (EA Z)) : Go.Sort.flatK (encA Z) 7 d = (evals (d.toList.map Subtype.val)).toArray := by
  refine Go.Sort.ext_get! (by simp [evals_len]) fun t ht => ?_
  rw [Go.Sort.size_flatK] at ht
  rw [Go.Sort.get_flatK _ _ _ _ ht]
  have h1 : t / 7 < d.size := by omega
  have h5 : t % 7 < 7 := Nat.mod_lt _ (by omega)
  have e1 : (d.toList.map Subtype.val)[t / 7]? = some (d[t / 7]!).1 := by
    rw [List.getElem?_map, Array.getElem?_toList, Array.getElem?_eq_getElem h1, getElem!_pos d _ h1]
    rfl
  have e2 : (d[t / 7]!).1.cells.toList[t % 7]? = some ((encA Z d[t / 7]!)[t % 7]!) := by
    show (encA Z d[t / 7]!)[t % 7]? = _
    rw [List.getElem!_eq_getElem?_getD, List.getElem?_eq_getElem (by exact h5)]
    rfl
  have := evals_at e1 e2
  rw [show t / 7 * 7 + t % 7 = t by omega] at this
  have hl := (List.getElem?_eq_some_iff.1 this)
  rw [getElem!_pos (evals (d.toList.map Subtype.val)).toArray t (by rw [List.size_toArray]; exact hl.1)]
  exact hl.2.symm
theorem heap_sort {Z : World} {g n : Nat} {d' : Array (EA Z)} {os : Array Obj} {cur : Array Value} {ty : TypeId} {fr : Nat × Nat} (hg : Z.heap[g]? = some (.cells cur ty fr)) : (sortWorldK (encA Z) 7 Z g 0 n d' os).heap[g]? = some (.cells (Go.Sort.putCells id 0 (Go.Sort.flatK (encA Z) 7 d') cur) ty fr) := by
  have lt : g < Z.heap.size := (Array.getElem?_eq_some_iff.1 hg).1
  unfold sortWorldK Go.Sort.putRowK Go.Sort.putRow
  rw [Go.Sort.heap_grow_old _ _ (by show g < (Z.heap.modify g _).size; rw [Array.size_modify]; exact lt)]
  show (Z.heap.modify g _)[g]? = _
  rw [Array.getElem?_modify, if_pos rfl, hg]
  rfl
theorem heap_sort_ne {Z : World} {g n k : Nat} {d' : Array (EA Z)} {os : Array Obj} (hk : k < Z.heap.size) (hne : k ≠ g) : (sortWorldK (encA Z) 7 Z g 0 n d' os).heap[k]? = Z.heap[k]? := by
  unfold sortWorldK Go.Sort.putRowK Go.Sort.putRow
  rw [Go.Sort.heap_grow_old _ _ (by show k < (Z.heap.modify g _).size; rw [Array.size_modify]; exact hk)]
  show (Z.heap.modify g _)[k]? = _
  rw [Array.getElem?_modify, if_neg (by omega)]
theorem putCells_take {F cur : Array Value} (h : F.size ≤ cur.size) : (Go.Sort.putCells id 0 F cur).toList.take F.size = F.toList := by
  apply List.ext_getElem?
  intro i
  by_cases hi : i < F.size
  · rw [List.getElem?_take_of_lt hi, Array.getElem?_toList, Array.getElem?_toList]
    unfold Go.Sort.putCells
    rw [Array.getElem?_mapIdx, Array.getElem?_eq_getElem (by omega : i < cur.size), Option.map_some, if_pos ⟨by omega, by omega⟩, Nat.sub_zero, Array.getElem?_eq_getElem hi, getElem!_pos F i hi]
    rfl
  · rw [List.getElem?_eq_none (by simp; omega), List.getElem?_eq_none (by simp; omega)]
def toA (Z : World) (xs : List EntD) (h : ∀ x ∈ xs, EntD.Ok Z x) : Array (EA Z) := (xs.attach.map fun x => (⟨x.1, h x.1 x.2⟩ : EA Z)).toArray
theorem toA_val {Z : World} {xs : List EntD} (h : ∀ x ∈ xs, EntD.Ok Z x) : (toA Z xs h).toList.map Subtype.val = xs := by
  unfold toA
  rw [List.map_map]
  exact List.attach_map_subtype_val xs
theorem toA_size {Z : World} {xs : List EntD} (h : ∀ x ∈ xs, EntD.Ok Z x) : (toA Z xs h).size = xs.length := by simp [toA]
theorem holdsA {Z : World} {g : Nat} {xs : List EntD} {cur : Array Value} {ty : TypeId} (h : ∀ x ∈ xs, EntD.Ok Z x) (hg : Z.heap[g]? = some (.cells cur ty (0, 0))) (hc : cur.toList.take (xs.length * 7) = evals xs) : Go.Sort.HoldsK (encA Z) 7 Z g 0 (toA Z xs h) := by
  unfold Go.Sort.HoldsK
  rw [flat_evals, toA_val]
  intro j hj
  rw [List.size_toArray, evals_len] at hj
  refine ⟨?_, ?_⟩
  · have e : cur.toList[j]? = (evals xs)[j]? := by rw [← hc, List.getElem?_take_of_lt hj]
    have hl : j < (evals xs).length := by rw [evals_len]; exact hj
    rw [List.getElem?_eq_getElem hl, Array.getElem?_toList] at e
    rw [Nat.zero_add, getElem!_pos _ j (by rw [List.size_toArray]; exact hl)]
    simp [World.cell?, hg, e]
  · simp [World.frozen?, hg]
theorem sort_holds (hnone : ∀ (c' : Nat) (Z : World), Calls Tryz.prog 80 #[.slice none 0 c', .func (.func 81) #[] #[]] Z fun r Z' => r = .returned (.tuple #[]) ∧ Z' = Z) : SortP := by
  intro B Z a' c' xs hok hlen hB hrow
  rcases hrow.2 with ⟨hv, h0⟩ | ⟨g, cap, cur, hv, hBg, hg, hnc, hcm, hcs, htk⟩
  · have hx : xs = [] := List.eq_nil_of_length_eq_zero h0
    subst hx
    simp only [Value.slice.injEq, List.length_nil] at hv
    obtain ⟨rfl, _, rfl⟩ := hv
    refine Calls.mono (hnone 0 Z) ?_
    rintro r Z' ⟨rfl, rfl⟩
    exact ⟨rfl, [], List.Perm.nil, List.Pairwise.nil, hrow, ⟨rfl, rfl, rfl, Nat.le_refl _, fun _ _ _ => rfl⟩⟩
  · simp only [Value.slice.injEq] at hv
    obtain ⟨rfl, _, rfl⟩ := hv
    have hH := holdsA hok hg htk
    have hsz := toA_size hok
    have lt : g < Z.heap.size := (Array.getElem?_eq_some_iff.1 hg).1
    have key := AnyQ.slices_SortFunc (P := Tryz.prog) (ρ := laidSort) laysSort 7 (fun w => Tryz.isAgg84 w) (fun w => Tryz.sizeOf84 w) (encA Z) (fun x => rfl) (encA_one Z) (cfA Z) (swo_cfA Z) 81 #[] g 0 c' (toA Z xs hok) Z (enters_of Tryz.func81 (by kernel_rfl) rfl) (cmp_lays hH) hH lt (by rw [hsz]; omega)
    rw [hsz] at key
    refine Calls.mono key ?_
    rintro r Z' ⟨rfl, d', n, os, hp, hso, rfl⟩
    obtain ⟨p1, p2, p3⟩ := hp
    have hd' : d'.size = xs.length := by rw [p1, hsz]
    have x1 : d'.extract 0 xs.length = d' := by rw [← hd']; exact Array.extract_size
    have x2 : (toA Z xs hok).extract 0 xs.length = toA Z xs hok := by rw [← hsz]; exact Array.extract_size
    rw [x1, x2] at p3
    refine ⟨rfl, d'.toList.map Subtype.val, ?_, ?_, ?_, ?_⟩
    · have := p3.map Subtype.val
      rwa [toA_val] at this
    · rw [List.pairwise_map, List.pairwise_iff_getElem]
      intro i j hi hj hij
      rw [Array.length_toList] at hi hj
      have := hso i j (Nat.zero_le _) hij (by omega)
      rw [getElem!_pos d' i hi, getElem!_pos d' j hj] at this
      have h1 : ¬ compareS d'[j].1 d'[i].1 < 0 := of_decide_eq_false this
      have h2 := compareS_swap d'[j].1 d'[i].1
      show compareS d'.toList[i].1 d'.toList[j].1 ≤ 0
      rw [Array.getElem_toList, Array.getElem_toList]
      omega
    · refine ⟨by rw [evals_len, List.length_map, Array.length_toList, hd'], .inr ⟨g, c', _, rfl, hBg, heap_sort hg, hnc, hcm, ?_, ?_⟩⟩
      · unfold Go.Sort.putCells
        rw [Array.size_mapIdx, hcs]
      · have hF : (Go.Sort.flatK (encA Z) 7 d').size = xs.length * 7 := by rw [Go.Sort.size_flatK, hd']
        rw [← hF, putCells_take (by rw [hF, hcs]; exact Nat.mul_le_mul_right 7 hnc), flat_evals]
    · refine ⟨rfl, rfl, rfl, ?_, fun k hk hne => heap_sort_ne hk (fun e => hne (by rw [e]; rfl))⟩
      unfold sortWorldK
      rw [Go.Sort.size_grow]
      show Z.heap.size ≤ (Go.Sort.putRowK _ _ _ _ _ _).heap.size + _
      unfold Go.Sort.putRowK
      rw [Go.Sort.size_putRow]
      exact Nat.le_add_right _ _
end Go.Proofs.YthhkpkfpifllkaaGreat

namespace Go.Proofs.YthhkpkfpifllkaaGreat
open Go.RowKit
set_option linter.unusedVariables false

set_option maxRecDepth 100000 in
set_option maxHeartbeats 4000000 in
theorem fover_any (SP : SortP) {W W0 : World} {wb rb B cap fc : Nat} {a fa : Option Addr} {fs : List FamD} {clock low : Int} {major : Bool} {l : List EntD} (hs : SBx W rb (.pointer (some ⟨wb, 0, none⟩)) (.slice none 0 0) (fBc major low ⟨0, 0, 0, 0, 0⟩) 107) (hb : WBx W wb (.slice fa fs.length fc) clock (.func (.func 70) #[.pointer (some ⟨rb, 0, none⟩)] #[]) spZ) (hf : OwnF W B (.slice fa fs.length fc) fs.length fs) (hl8 : fs.length ≤ 8) (hne : wb ≠ rb) (hfs : ∀ f ∈ fs, 0 ≤ f.tl ∧ f.tl ≤ 1099511627776)
    (h0 : RdL3 W0 a cap l) (hB : Below W0.heap.size W0 W) (hw0 : W0.heap.size ≤ wb) (hr0 : W0.heap.size ≤ rb) (hl : l.length ≤ 1353245080300) :
    Calls Tryz.prog 54 #[.pointer (some ⟨rb, 0, none⟩), .slice a l.length cap] W fun r W' => Below W0.heap.size W0 W' ∧ (inOrderE (check3S fs.length) l ≠ 0 → r = .returned (.tuple #[.slice none 0 0, .int .i64 (inOrderE (check3S fs.length) l)])) ∧ (inOrderE (check3S fs.length) l = 0 → ∃ (xs ys zs : List EntD) (v : Value) (O : Nat → Prop), onceS l = some xs ∧ ys.Perm xs ∧ (ys.Pairwise fun x y => compareS x y ≤ 0) ∧ r = .returned (.tuple #[v, .int .i64 0]) ∧ Rw W' W0.heap.size v zs O ∧ zs.map EntD.dat = outS major low (verdictsS (mt fs) clock (ys.map EntD.dat))) := by
  have HO := Lib.hid (over_all SP (T := TF [] rb W0.heap.size (.pointer (some ⟨wb, 0, none⟩)) major low) (filter_teller [] rb W0.heap.size (.pointer (some ⟨wb, 0, none⟩)) major low) hb hf hl8 (TF.start hs hB.size) hne ⟨_, _, hs, by decide, by decide⟩ hfs h0 hB hw0 hr0 hl)
  obtain ⟨E, hE⟩ : ∃ E, E = inOrderE (check3S fs.length) l := ⟨_, rfl⟩
  rw [← hE] at HO ⊢
  have HSb := Lib.hid hs
  have HB := Lib.hid hB
  have c0 := hs.c00
  obtain ⟨n, hn⟩ : ∃ n, n = l.length := ⟨_, rfl⟩
  rw [← hn] at HO ⊢
  have HW := Lib.hid (And.intro hw0 hr0)
  clear hs hb hf hl8 hne hfs h0 hB hl hE hn hw0 hr0
  go_enter Tryz.func54, Tryz.ntmps54
  go_wp2_with fail
  refine Calls.mono HO.out ?_
  rintro z W1 ⟨rfl, h1, h2⟩
  clear HO c0
  by_cases hz : E = 0
  · obtain ⟨xs, ys, W2, O, k1, k2, k3, k4, k5⟩ := h2 hz
    obtain ⟨zs, ov, Or, sb, rw1, hno, hsub, hx⟩ := k5.tell.st
    obtain ⟨av, cv, rfl⟩ := rows_form3 rw1.row
    have HH := Lib.hid (handOut_any sb)
    have HK := Lib.hid (And.intro k1 (And.intro k2 (And.intro k3 (And.intro k4 (And.intro k5 (And.intro rw1 (And.intro hno (And.intro hsub hx))))))))
    subst hz
    clear h1 h2 k1 k2 k3 k4 k5 sb rw1 hno hsub hx
    go_wp2_with fail
    refine Calls.mono HH.out ?_
    rintro z2 X2 ⟨rfl, sb2, gr2⟩
    have HG := Lib.hid gr2
    clear sb2 gr2 HH
    go_wp2
    go_ret2
    obtain ⟨k1, k2, k3, k4, k5, rw1, hno, hsub, hx⟩ := HK.out
    obtain ⟨hw0, hr0⟩ := HW.out
    have gr := HG.out
    have b := HB.out
    have szW : W0.heap.size ≤ W2.heap.size := Nat.le_trans b.size k4.size
    refine ⟨⟨gr.os.trans (k5.os.trans (k4.os.trans b.os)), gr.tape.trans (k5.tape.trans (k4.tape.trans b.tape)), gr.output.trans (k5.output.trans (k4.output.trans b.output)), Nat.le_trans szW (Nat.le_trans k5.fr.1 gr.size), fun i hi => ?_⟩, xs, k1, ys, k2, k3, zs, .slice av zs.length cv, rfl, ⟨Or, rw1.keep (fun i hi => gr.block i (k5.tell.lt i (hsub i hi)) (fun z => by cases z; exact hno hi))⟩, hx⟩
    rw [gr.block i (Nat.lt_of_lt_of_le hi (Nat.le_trans szW k5.fr.1)) (fun z => by cases z; omega), k5.fr.2 i (Nat.lt_of_lt_of_le hi szW) (by omega) (by omega) (fun z => z), k4.block i (Nat.lt_of_lt_of_le hi b.size)]
    exact b.block i hi
  · have b1 := h1 hz
    have HH := Lib.hid (handOut_any (HSb.out.later b1))
    have HB1 := Lib.hid b1
    have HZ := Lib.hid hz
    clear h1 h2 b1 hz
    go_wp2_with fail
    refine Calls.mono HH.out ?_
    rintro z2 X2 ⟨rfl, sb2, gr2⟩
    have HG := Lib.hid gr2
    clear sb2 gr2 HH
    go_wp2
    go_ret2
    obtain ⟨hw0, hr0⟩ := HW.out
    have gr := HG.out
    have b := HB.out
    have b1 := HB1.out
    refine ⟨⟨gr.os.trans (b1.os.trans b.os), gr.tape.trans (b1.tape.trans b.tape), gr.output.trans (b1.output.trans b.output), Nat.le_trans b.size (Nat.le_trans b1.size gr.size), fun i hi => ?_⟩, fun _ => rfl, fun z => absurd z HZ.out⟩
    rw [gr.block i (Nat.lt_of_lt_of_le hi (Nat.le_trans b.size b1.size)) (fun z => by cases z; omega), b1.block i (Nat.lt_of_lt_of_le hi b.size)]
    exact b.block i hi
def squashE (C : Nat) (fs : List FamD) (clock low : Int) (l : List EntD) : Int := if boundsS C [clock, low] ≠ 0 then boundsS C [clock, low] else inOrderE (check3S fs.length) l

set_option maxRecDepth 100000 in
set_option maxHeartbeats 4000000 in
theorem squash_any (SP : SortP) {W : World} {cap fc : Nat} {a fa : Option Addr} {fs : List FamD} {l : List EntD} (hr : RdF W (.slice fa fs.length fc) fs) (hn : fa = none → fc = 0) (C : Nat) (hC : (C = 0 ↔ SchemaOk fs) ∧ (C = 0 ∨ C = 28)) (clock low : Int) (major : Bool) (h0 : RdL3 W a cap l) (hl : l.length ≤ 1353245080300) :
    Calls Tryz.prog 23 #[.agg #[.slice fa fs.length fc], .int .i64 clock, .bool major, .int .i64 low, .slice a l.length cap] W fun r W' => Below W.heap.size W W' ∧ (squashE C fs clock low l ≠ 0 → r = .returned (.tuple #[.slice none 0 0, .int .i64 (squashE C fs clock low l)])) ∧ (squashE C fs clock low l = 0 → ∃ (xs ys zs : List EntD) (v : Value) (O : Nat → Prop), onceS l = some xs ∧ ys.Perm xs ∧ (ys.Pairwise fun x y => compareS x y ≤ 0) ∧ r = .returned (.tuple #[v, .int .i64 0]) ∧ Rw W' W.heap.size v zs O ∧ zs.map EntD.dat = outS major low (verdictsS (mt fs) clock (ys.map EntD.dat))) := by
  have HF : Hid (∀ Z, Below W.heap.size W Z → Calls Tryz.prog 31 #[.agg #[.slice fa fs.length fc], .int .i64 clock, .bool major, .int .i64 low] Z _) := fun Z b => newFilter_any (hr.later b) hn C hC clock low major
  obtain ⟨E, hE⟩ : ∃ E, E = squashE C fs clock low l := ⟨_, rfl⟩
  obtain ⟨R, hR⟩ : ∃ R, R = boundsS C [clock, low] := ⟨_, rfl⟩
  have HE : Hid (E = if R ≠ 0 then R else inOrderE (check3S fs.length) l) := by unfold Hid; rw [hE, hR]; rfl
  rw [← hE]
  have HOk : Hid (R = 0 → fs.length ≤ 8 ∧ ∀ f ∈ fs, 0 ≤ f.tl ∧ f.tl ≤ 1099511627776) := fun z => by
    have hs := hC.1.1 (bounds_ok (hR.symm.trans z)).1
    refine ⟨hs.1.2, fun f hf => ?_⟩
    obtain ⟨i, hi⟩ := List.getElem?_of_mem hf
    exact (hs.2 i f hi).1.2.2
  simp only [← hR] at HF
  have HA := Lib.hid ((Below.refl W.heap.size W).alloc (Nat.le_refl _) (.cells #[.slice fa fs.length fc] 27))
  have H0 := Lib.hid h0
  have HL := Lib.hid hl
  obtain ⟨n, hn2⟩ : ∃ n, n = l.length := ⟨_, rfl⟩
  rw [← hn2]
  have HN := Lib.hid hn2
  obtain ⟨k, hk⟩ : ∃ k, k = fs.length := ⟨_, rfl⟩
  rw [← hk] at HF HA ⊢
  have HK := Lib.hid hk
  clear hr hn hC h0 hl hE hR hn2 hk
  go_enter Tryz.func23, Tryz.ntmps23
  go_wp2_with fail
  refine Calls.mono (HF.out _ HA.out) ?_
  rintro z W1 ⟨b1, h1, h2⟩
  have B1 := HA.out.trans (b1.mono HA.out.size)
  have HB1 := Lib.hid B1
  by_cases hz : R = 0
  · obtain ⟨fb, wb, a', c', rfl, hfb, hwb, hne, sb, wx, of⟩ := h2 hz
    obtain ⟨h8, hfs⟩ := HOk.out hz
    have l1 : W.heap.size ≤ (W.alloc (.cells #[.slice fa k fc] 27)).heap.size := HA.out.size
    have HEq : Hid (E = inOrderE (check3S fs.length) l) := by unfold Hid; rw [HE.out, if_neg (by simpa using hz)]
    have HV := Lib.hid (fover_any SP sb (by rw [HK.out] at wx; exact wx) (by rw [HK.out] at of; exact of) h8 (Ne.symm hne) hfs H0.out B1 (Nat.le_trans l1 hwb) (Nat.le_trans l1 hfb) HL.out)
    rw [← HEq.out, ← HN.out] at HV
    subst hz
    clear h1 h2 b1 B1 sb wx of hfb hwb hne hfs h8 HF HOk l1
    go_wp2_with fail
    refine Calls.mono HV.out ?_
    rintro z2 W2 ⟨q1, q2, q3⟩
    by_cases hz : E = 0
    · obtain ⟨xs, ys, zs, v, O, k1, k2, k3, rfl, k5, k6⟩ := q3 hz
      have HQ := Lib.hid (And.intro q1 (And.intro hz (And.intro k1 (And.intro k2 (And.intro k3 (And.intro k5 k6))))))
      clear q1 q2 q3 hz k1 k2 k3 k5 k6 HV
      go_wp2
      go_ret2
      obtain ⟨q1, hz, k1, k2, k3, k5, k6⟩ := HQ.out
      exact ⟨q1, fun z => absurd hz z, fun _ => ⟨xs, ys, zs, v, O, k1, k2, k3, rfl, k5, k6⟩⟩
    · have hz2 := q2 hz
      subst hz2
      have HQ := Lib.hid (And.intro q1 hz)
      clear q1 q2 q3 hz HV
      go_wp2
      go_ret2
      exact ⟨HQ.out.1, fun _ => rfl, fun z => absurd z HQ.out.2⟩
  · have hz2 := h1 hz
    subst hz2
    have b0 : (R != 0) = true := by simp [hz]
    have HEq : Hid (E = R ∧ R ≠ 0) := ⟨by rw [HE.out, if_pos hz], hz⟩
    clear h1 h2 b1 B1 hz HF HOk
    go_wp2
    go_ret2
    exact ⟨HB1.out, fun _ => by rw [HEq.out.1]; rfl, fun z => absurd (HEq.out.1.symm.trans z) HEq.out.2⟩
end Go.Proofs.YthhkpkfpifllkaaGreat

namespace Go.Proofs.YthhkpkfpifllkaaGreat
open Go.RowKit
set_option linter.unusedVariables false

set_option maxRecDepth 100000 in
set_option maxHeartbeats 4000000 in
theorem rover_any (SP : SortP) {W W0 : World} {wb rb B cap fc : Nat} {a fa : Option Addr} {fs : List FamD} {clock low nv : Int} {l : List EntD} (hs : SBx W rb (.pointer (some ⟨wb, 0, none⟩)) (.slice none 0 0) (rBc low nv 0) 103) (hb : WBx W wb (.slice fa fs.length fc) clock (.func (.func 71) #[.pointer (some ⟨rb, 0, none⟩)] #[]) spZ) (hf : OwnF W B (.slice fa fs.length fc) fs.length fs) (hl8 : fs.length ≤ 8) (hne : wb ≠ rb) (hfs : ∀ f ∈ fs, 0 ≤ f.tl ∧ f.tl ≤ 1099511627776)
    (h0 : RdL3 W0 a cap l) (hB : Below W0.heap.size W0 W) (hw0 : W0.heap.size ≤ wb) (hr0 : W0.heap.size ≤ rb) (hl : l.length ≤ 1353245080300) :
    Calls Tryz.prog 54 #[.pointer (some ⟨rb, 0, none⟩), .slice a l.length cap] W fun r W' => Below W0.heap.size W0 W' ∧ (inOrderE (check3S fs.length) l ≠ 0 → r = .returned (.tuple #[.slice none 0 0, .int .i64 (inOrderE (check3S fs.length) l)])) ∧ (inOrderE (check3S fs.length) l = 0 → ∃ (xs ys zs : List EntD) (v : Value) (O : Nat → Prop), onceS l = some xs ∧ ys.Perm xs ∧ (ys.Pairwise fun x y => compareS x y ≤ 0) ∧ r = .returned (.tuple #[v, .int .i64 0]) ∧ Rw W' W0.heap.size v zs O ∧ zs.map EntD.dat = (showS low nv (verdictsS (mt fs) clock (ys.map EntD.dat))).2) := by
  have HO := Lib.hid (over_all SP (T := TR [] rb W0.heap.size (some ⟨wb, 0, none⟩) low nv) (reader_teller [] rb W0.heap.size (some ⟨wb, 0, none⟩) low nv) hb hf hl8 (TR.start hs hB.size) hne ⟨_, _, hs, by decide, by decide⟩ hfs h0 hB hw0 hr0 hl)
  obtain ⟨E, hE⟩ : ∃ E, E = inOrderE (check3S fs.length) l := ⟨_, rfl⟩
  rw [← hE] at HO ⊢
  have HSb := Lib.hid hs
  have HB := Lib.hid hB
  have c0 := hs.c00
  obtain ⟨n, hn⟩ : ∃ n, n = l.length := ⟨_, rfl⟩
  rw [← hn] at HO ⊢
  have HW := Lib.hid (And.intro hw0 hr0)
  clear hs hb hf hl8 hne hfs h0 hB hl hE hn hw0 hr0
  go_enter Tryz.func54, Tryz.ntmps54
  go_wp2_with fail
  refine Calls.mono HO.out ?_
  rintro z W1 ⟨rfl, h1, h2⟩
  clear HO c0
  by_cases hz : E = 0
  · obtain ⟨xs, ys, W2, O, k1, k2, k3, k4, k5⟩ := h2 hz
    obtain ⟨zs, ov, Or, sb, rw1, hno, hsub, hx⟩ := k5.tell.st
    obtain ⟨av, cv, rfl⟩ := rows_form3 rw1.row
    have HH := Lib.hid (handOut_any sb)
    have HK := Lib.hid (And.intro k1 (And.intro k2 (And.intro k3 (And.intro k4 (And.intro k5 (And.intro rw1 (And.intro hno (And.intro hsub hx))))))))
    subst hz
    clear h1 h2 k1 k2 k3 k4 k5 sb rw1 hno hsub hx
    go_wp2_with fail
    refine Calls.mono HH.out ?_
    rintro z2 X2 ⟨rfl, sb2, gr2⟩
    have HG := Lib.hid gr2
    clear sb2 gr2 HH
    go_wp2
    go_ret2
    obtain ⟨k1, k2, k3, k4, k5, rw1, hno, hsub, hx⟩ := HK.out
    obtain ⟨hw0, hr0⟩ := HW.out
    have gr := HG.out
    have b := HB.out
    have szW : W0.heap.size ≤ W2.heap.size := Nat.le_trans b.size k4.size
    refine ⟨⟨gr.os.trans (k5.os.trans (k4.os.trans b.os)), gr.tape.trans (k5.tape.trans (k4.tape.trans b.tape)), gr.output.trans (k5.output.trans (k4.output.trans b.output)), Nat.le_trans szW (Nat.le_trans k5.fr.1 gr.size), fun i hi => ?_⟩, xs, k1, ys, k2, k3, zs, .slice av zs.length cv, rfl, ⟨Or, rw1.keep (fun i hi => gr.block i (k5.tell.lt i (hsub i hi)) (fun z => by cases z; exact hno hi))⟩, hx⟩
    rw [gr.block i (Nat.lt_of_lt_of_le hi (Nat.le_trans szW k5.fr.1)) (fun z => by cases z; omega), k5.fr.2 i (Nat.lt_of_lt_of_le hi szW) (by omega) (by omega) (fun z => z), k4.block i (Nat.lt_of_lt_of_le hi b.size)]
    exact b.block i hi
  · have b1 := h1 hz
    have HH := Lib.hid (handOut_any (HSb.out.later b1))
    have HB1 := Lib.hid b1
    have HZ := Lib.hid hz
    clear h1 h2 b1 hz
    go_wp2_with fail
    refine Calls.mono HH.out ?_
    rintro z2 X2 ⟨rfl, sb2, gr2⟩
    have HG := Lib.hid gr2
    clear sb2 gr2 HH
    go_wp2
    go_ret2
    obtain ⟨hw0, hr0⟩ := HW.out
    have gr := HG.out
    have b := HB.out
    have b1 := HB1.out
    refine ⟨⟨gr.os.trans (b1.os.trans b.os), gr.tape.trans (b1.tape.trans b.tape), gr.output.trans (b1.output.trans b.output), Nat.le_trans b.size (Nat.le_trans b1.size gr.size), fun i hi => ?_⟩, fun _ => rfl, fun z => absurd z HZ.out⟩
    rw [gr.block i (Nat.lt_of_lt_of_le hi (Nat.le_trans b.size b1.size)) (fun z => by cases z; omega), b1.block i (Nat.lt_of_lt_of_le hi b.size)]
    exact b.block i hi
theorem reader_ok {C : Nat} {clock low nv : Int} (h : readerS C clock low nv = 0) : boundsS C [clock, low] = 0 ∧ 1 ≤ nv ∧ nv ≤ 16 := by
  unfold readerS at h
  by_cases hb : boundsS C [clock, low] = 0
  · rw [if_neg (by simpa using hb)] at h
    by_cases hv : nv < 1 ∨ 16 < nv
    · rw [if_pos hv] at h; cases h
    · exact ⟨hb, by omega, by omega⟩
  · rw [if_pos hb] at h
    exact absurd h hb
def readE (C : Nat) (fs : List FamD) (clock low nv : Int) (l : List EntD) : Int := if readerS C clock low nv ≠ 0 then readerS C clock low nv else inOrderE (check3S fs.length) l

set_option maxRecDepth 100000 in
set_option maxHeartbeats 4000000 in
theorem read_any (SP : SortP) {W : World} {cap fc : Nat} {a fa : Option Addr} {fs : List FamD} {l : List EntD} (hr : RdF W (.slice fa fs.length fc) fs) (hn : fa = none → fc = 0) (C : Nat) (hC : (C = 0 ↔ SchemaOk fs) ∧ (C = 0 ∨ C = 28)) (clock low nv : Int) (h0 : RdL3 W a cap l) (hl : l.length ≤ 1353245080300) :
    Calls Tryz.prog 21 #[.agg #[.slice fa fs.length fc], .int .i64 clock, .int .i64 low, .int .i64 nv, .slice a l.length cap] W fun r W' => Below W.heap.size W W' ∧ (readE C fs clock low nv l ≠ 0 → r = .returned (.tuple #[.slice none 0 0, .int .i64 (readE C fs clock low nv l)])) ∧ (readE C fs clock low nv l = 0 → ∃ (xs ys zs : List EntD) (v : Value) (O : Nat → Prop), onceS l = some xs ∧ ys.Perm xs ∧ (ys.Pairwise fun x y => compareS x y ≤ 0) ∧ r = .returned (.tuple #[v, .int .i64 0]) ∧ Rw W' W.heap.size v zs O ∧ zs.map EntD.dat = (showS low nv (verdictsS (mt fs) clock (ys.map EntD.dat))).2) := by
  have HF : Hid (∀ Z, Below W.heap.size W Z → Calls Tryz.prog 32 #[.agg #[.slice fa fs.length fc], .int .i64 clock, .int .i64 low, .int .i64 nv] Z _) := fun Z b => newReader_any (hr.later b) hn C hC clock low nv
  obtain ⟨E, hE⟩ : ∃ E, E = readE C fs clock low nv l := ⟨_, rfl⟩
  obtain ⟨R, hR⟩ : ∃ R, R = readerS C clock low nv := ⟨_, rfl⟩
  have HE : Hid (E = if R ≠ 0 then R else inOrderE (check3S fs.length) l) := by unfold Hid; rw [hE, hR]; rfl
  rw [← hE]
  have HOk : Hid (R = 0 → fs.length ≤ 8 ∧ ∀ f ∈ fs, 0 ≤ f.tl ∧ f.tl ≤ 1099511627776) := fun z => by
    have hs := hC.1.1 (bounds_ok (reader_ok (hR.symm.trans z)).1).1
    refine ⟨hs.1.2, fun f hf => ?_⟩
    obtain ⟨i, hi⟩ := List.getElem?_of_mem hf
    exact (hs.2 i f hi).1.2.2
  simp only [← hR] at HF
  have HA := Lib.hid ((Below.refl W.heap.size W).alloc (Nat.le_refl _) (.cells #[.slice fa fs.length fc] 27))
  have H0 := Lib.hid h0
  have HL := Lib.hid hl
  obtain ⟨n, hn2⟩ : ∃ n, n = l.length := ⟨_, rfl⟩
  rw [← hn2]
  have HN := Lib.hid hn2
  obtain ⟨k, hk⟩ : ∃ k, k = fs.length := ⟨_, rfl⟩
  rw [← hk] at HF HA ⊢
  have HK := Lib.hid hk
  clear hr hn hC h0 hl hE hR hn2 hk
  go_enter Tryz.func21, Tryz.ntmps21
  go_wp2_with fail
  refine Calls.mono (HF.out _ HA.out) ?_
  rintro z W1 ⟨b1, h1, h2⟩
  have B1 := HA.out.trans (b1.mono HA.out.size)
  have HB1 := Lib.hid B1
  by_cases hz : R = 0
  · obtain ⟨fb, wb, a', c', rfl, hfb, hwb, hne, sb, wx, of⟩ := h2 hz
    obtain ⟨h8, hfs⟩ := HOk.out hz
    have l1 : W.heap.size ≤ (W.alloc (.cells #[.slice fa k fc] 27)).heap.size := HA.out.size
    have HEq : Hid (E = inOrderE (check3S fs.length) l) := by unfold Hid; rw [HE.out, if_neg (by simpa using hz)]
    have HV := Lib.hid (rover_any SP sb (by rw [HK.out] at wx; exact wx) (by rw [HK.out] at of; exact of) h8 (Ne.symm hne) hfs H0.out B1 (Nat.le_trans l1 hwb) (Nat.le_trans l1 hfb) HL.out)
    rw [← HEq.out, ← HN.out] at HV
    subst hz
    clear h1 h2 b1 B1 sb wx of hfb hwb hne hfs h8 HF HOk l1
    go_wp2_with fail
    refine Calls.mono HV.out ?_
    rintro z2 W2 ⟨q1, q2, q3⟩
    by_cases hz : E = 0
    · obtain ⟨xs, ys, zs, v, O, k1, k2, k3, rfl, k5, k6⟩ := q3 hz
      have HQ := Lib.hid (And.intro q1 (And.intro hz (And.intro k1 (And.intro k2 (And.intro k3 (And.intro k5 k6))))))
      clear q1 q2 q3 hz k1 k2 k3 k5 k6 HV
      go_wp2
      go_ret2
      obtain ⟨q1, hz, k1, k2, k3, k5, k6⟩ := HQ.out
      exact ⟨q1, fun z => absurd hz z, fun _ => ⟨xs, ys, zs, v, O, k1, k2, k3, rfl, k5, k6⟩⟩
    · have hz2 := q2 hz
      subst hz2
      have HQ := Lib.hid (And.intro q1 hz)
      clear q1 q2 q3 hz HV
      go_wp2
      go_ret2
      exact ⟨HQ.out.1, fun _ => rfl, fun z => absurd z HQ.out.2⟩
  · have hz2 := h1 hz
    subst hz2
    have b0 : (R != 0) = true := by simp [hz]
    have HEq : Hid (E = R ∧ R ≠ 0) := ⟨by rw [HE.out, if_pos hz], hz⟩
    clear h1 h2 b1 B1 hz HF HOk
    go_wp2
    go_ret2
    exact ⟨HB1.out, fun _ => by rw [HEq.out.1]; rfl, fun z => absurd (HEq.out.1.symm.trans z) HEq.out.2⟩
end Go.Proofs.YthhkpkfpifllkaaGreat

namespace Go.Proofs.YthhkpkfpifllkaaGreat
open Go.RowKit
set_option linter.unusedVariables false

theorem own_low {w : World} {B B' n : Nat} {v : Value} {xs : List Nat} (h : Own w B v n xs) (k : B' ≤ B) : Own w B' v n xs := ⟨h.1, row_low h.2 k⟩
theorem O3.low {w : World} {B B' : Nat} {x : EntD} (h : O3 w B x) (k : B' ≤ B) : O3 w B' x := ⟨own_low h.row k, own_low h.qual k, own_low h.val k, h.arq, h.arv, h.aqv⟩
theorem Rw.low {w : World} {B B' : Nat} {v : Value} {xs : List EntD} {O : Nat → Prop} (h : Rw w B v xs O) (k : B' ≤ B) : Rw w B' v xs O := ⟨row_low h.row k, fun x hx => (h.ents x hx).low k, h.ap, h.rowO, h.entO⟩

set_option maxRecDepth 100000 in
set_option maxHeartbeats 4000000 in
theorem vis_any (SP : SortP) {W : World} {cap fc : Nat} {a fa : Option Addr} {fs : List FamD} {l : List EntD} (hr : RdF W (.slice fa fs.length fc) fs) (hn : fa = none → fc = 0) (C : Nat) (hC : (C = 0 ↔ SchemaOk fs) ∧ (C = 0 ∨ C = 28)) (clock : Int) (h0 : RdL3 W a cap l) (hl : l.length ≤ 1353245080300) :
    Calls Tryz.prog 19 #[.agg #[.slice fa fs.length fc], .int .i64 clock, .slice a l.length cap] W fun r W' => Below W.heap.size W W' ∧ (readE C fs clock 1099511627776 16 l ≠ 0 → r = .returned (.tuple #[.slice none 0 0, .int .i64 (readE C fs clock 1099511627776 16 l)])) ∧ (readE C fs clock 1099511627776 16 l = 0 → ∃ (xs ys zs : List EntD) (v : Value) (O : Nat → Prop), onceS l = some xs ∧ ys.Perm xs ∧ (ys.Pairwise fun x y => compareS x y ≤ 0) ∧ r = .returned (.tuple #[v, .int .i64 0]) ∧ Rw W' W.heap.size v zs O ∧ zs.map EntD.dat = (showS 1099511627776 16 (verdictsS (mt fs) clock (ys.map EntD.dat))).2) := by
  have HA := Lib.hid ((Below.refl W.heap.size W).alloc (Nat.le_refl _) (.cells #[.slice fa fs.length fc] 27))
  have HV := Lib.hid (read_any SP (hr.later HA.out) hn C hC clock 1099511627776 16 (h0.later HA.out) hl)
  obtain ⟨E, hE⟩ : ∃ E, E = readE C fs clock 1099511627776 16 l := ⟨_, rfl⟩
  rw [← hE] at HV ⊢
  obtain ⟨n, hn2⟩ : ∃ n, n = l.length := ⟨_, rfl⟩
  rw [← hn2] at HV ⊢
  obtain ⟨k, hk⟩ : ∃ k, k = fs.length := ⟨_, rfl⟩
  rw [← hk] at HV HA ⊢
  clear hr hn hC h0 hl hE hn2 hk
  go_enter Tryz.func19, Tryz.ntmps19
  go_wp2_with fail
  refine Calls.mono HV.out ?_
  rintro z2 W2 ⟨q1, q2, q3⟩
  by_cases hz : E = 0
  · obtain ⟨xs, ys, zs, v, O, k1, k2, k3, rfl, k5, k6⟩ := q3 hz
    have HQ := Lib.hid (And.intro q1 (And.intro hz (And.intro k1 (And.intro k2 (And.intro k3 (And.intro k5 k6))))))
    clear q1 q2 q3 hz k1 k2 k3 k5 k6 HV
    go_wp2
    go_ret2
    obtain ⟨q1, hz, k1, k2, k3, k5, k6⟩ := HQ.out
    exact ⟨HA.out.trans (q1.mono HA.out.size), fun z => absurd hz z, fun _ => ⟨xs, ys, zs, v, O, k1, k2, k3, rfl, k5.low HA.out.size, k6⟩⟩
  · have hz2 := q2 hz
    subst hz2
    have HQ := Lib.hid (And.intro q1 hz)
    clear q1 q2 q3 hz HV
    go_wp2
    go_ret2
    exact ⟨HA.out.trans (HQ.out.1.mono HA.out.size), fun _ => rfl, fun z => absurd z HQ.out.2⟩
end Go.Proofs.YthhkpkfpifllkaaGreat

namespace Go.Proofs.YthhkpkfpifllkaaGreat
open Go.RowKit
set_option linter.unusedVariables false

def topE (C : Nat) (fs : List FamD) (clock : Int) (l : List EntD) : Int := if boundsS C [clock] ≠ 0 then boundsS C [clock] else inOrderE (check3S fs.length) l

set_option maxRecDepth 100000 in
set_option maxHeartbeats 4000000 in
theorem top_any (SP : SortP) {W : World} {cap fc : Nat} {a fa : Option Addr} {fs : List FamD} {l : List EntD} (hr : RdF W (.slice fa fs.length fc) fs) (hn : fa = none → fc = 0) (C : Nat) (hC : (C = 0 ↔ SchemaOk fs) ∧ (C = 0 ∨ C = 28)) (clock : Int) (h0 : RdL3 W a cap l) (hl : l.length ≤ 1353245080300) :
    Calls Tryz.prog 25 #[.agg #[.slice fa fs.length fc], .int .i64 clock, .slice a l.length cap] W fun r W' => Below W.heap.size W W' ∧ (topE C fs clock l ≠ 0 → r = .returned (.tuple #[.int .i64 0, .int .i64 (topE C fs clock l)])) ∧ (topE C fs clock l = 0 → ∃ (xs ys : List EntD), onceS l = some xs ∧ ys.Perm xs ∧ (ys.Pairwise fun x y => compareS x y ≤ 0) ∧ r = .returned (.tuple #[.int .i64 (topS (verdictsS (mt fs) clock (ys.map EntD.dat))), .int .i64 0])) := by
  have A1 := (Below.refl W.heap.size W).alloc (Nat.le_refl _) (.cells #[.slice fa fs.length fc] 27)
  have A2 := A1.alloc A1.size (.cells #[.int .i64 clock] 3)
  obtain ⟨k, hk⟩ : ∃ k, k = fs.length := ⟨_, rfl⟩
  have HR : Hid (∀ Z, Below W.heap.size W Z → RdF Z (.slice fa k fc) fs) := fun Z b => by rw [hk]; exact hr.later b
  obtain ⟨E, hE⟩ : ∃ E, E = topE C fs clock l := ⟨_, rfl⟩
  obtain ⟨R, hR⟩ : ∃ R, R = boundsS C [clock] := ⟨_, rfl⟩
  have HE : Hid (E = if R ≠ 0 then R else inOrderE (check3S fs.length) l) := by unfold Hid; rw [hE, hR]; rfl
  have HOk : Hid (R = 0 → fs.length ≤ 8 ∧ ∀ f ∈ fs, 0 ≤ f.tl ∧ f.tl ≤ 1099511627776) := fun z => by
    have hs := hC.1.1 (bounds_ok (hR.symm.trans z)).1
    refine ⟨hs.1.2, fun f hf => ?_⟩
    obtain ⟨i, hi⟩ := List.getElem?_of_mem hf
    exact (hs.2 i f hi).1.2.2
  have HRR := Lib.hid hR
  have HN := Lib.hid hn
  have HC := Lib.hid hC
  have HK := Lib.hid hk
  have H0 := Lib.hid h0
  have HL := Lib.hid hl
  obtain ⟨n, hn2⟩ : ∃ n, n = l.length := ⟨_, rfl⟩
  have HN2 := Lib.hid hn2
  rw [← hk] at A1 A2
  rw [← hE, ← hn2, ← hk]
  have HA2 := Lib.hid A2
  clear hr hn hC A1 A2 hR hk hE h0 hl hn2
  go_enter Tryz.func25, Tryz.ntmps25
  go_wp2_with fail
  have HI : Hid (RdI ((W.alloc (.cells #[.slice fa k fc] 27)).alloc (.cells #[.int .i64 clock] 3)) (.slice (some ⟨W.heap.size + 1, 0, none⟩) 1 1) [clock]) := by
    refine ⟨W.heap.size + 1, 0, 1, rfl, by simp, fun i t hi => ?_⟩
    have hw : ((W.alloc (.cells #[.slice fa k fc] 27)).alloc (.cells #[.int .i64 clock] 3)).heap[W.heap.size + 1]? = some (.cells #[.int .i64 clock] 3 (0, 0)) := by
      have := heap_new (W.alloc (.cells #[.slice fa k fc] 27)) (.cells #[.int .i64 clock] 3)
      simpa using this
    match i, hi with
    | 0, hi => simp only [List.getElem?_cons_zero, Option.some.injEq] at hi; subst hi; exact cell_of hw rfl
    | i + 1, hi => simp at hi
  refine Calls.mono (checkBounds_any (HR.out _ HA2.out) C HC.out HI.out) ?_
  rintro z W1 ⟨rfl, b1⟩
  rw [← HRR.out]
  have B1 := HA2.out.trans (b1.mono HA2.out.size)
  have s0 : W1.cell? ⟨W.heap.size, 0, none⟩ = some (.slice fa k fc) := by
    rw [b1.cell (p := ⟨W.heap.size, 0, none⟩) (by simp; omega)]
    simp
  have HB1 := Lib.hid B1
  clear b1 B1 HI HA2 HRR
  by_cases hz : R = 0
  · have b0 : (R != 0) = false := by simp [hz]
    obtain ⟨h8, hfs⟩ := HOk.out hz
    have HEq : Hid (E = inOrderE (check3S fs.length) l) := by unfold Hid; rw [HE.out, if_neg (by simpa using hz)]
    have H8 := Lib.hid (And.intro h8 hfs)
    clear hz h8 hfs HOk HE
    have A3 := (Below.refl W1.heap.size W1).alloc (Nat.le_refl _) (.cells #[.int .i64 0] 112)
    have pb : PBx (W1.alloc (.cells #[.int .i64 0] 112)) W1.heap.size 0 := heap_new W1 _
    have s1 : (W1.alloc (.cells #[.int .i64 0] 112)).cell? ⟨W.heap.size, 0, none⟩ = some (.slice fa k fc) := by rw [A3.cell (p := ⟨W.heap.size, 0, none⟩) (World.block_lt_of_cell? W1 _ s0)]; exact s0
    have HA3 := Lib.hid A3
    have HPb := Lib.hid pb
    clear A3 pb s0
    go_wp2_with fail
    have hB3 := HB1.out.trans (HA3.out.mono HB1.out.size)
    have hnw := newWalk_any (by have := HR.out _ hB3; rw [HK.out] at this; exact this) HN.out H8.out.1 clock (.func (.func 59) #[.pointer (some ⟨W1.heap.size, 0, none⟩)] #[]) ⟨_, _, _, rfl⟩
    rw [← HK.out] at hnw
    refine Calls.mono hnw ?_
    rintro z W2 ⟨wb, a', c', rfl, hwb, hwx, hof, hb2⟩
    clear hnw
    have szX : (W1.alloc (.cells #[.int .i64 0] 112)).heap.size = W1.heap.size + 1 := by simp
    have pb2 := HPb.out.keep (hb2.block W1.heap.size HPb.out.lt)
    rw [szX] at hwb
    have l1 := HB1.out.size
    have hB4 := hB3.trans (hb2.mono hB3.size)
    have HV := Lib.hid (over_all SP (peak_teller W1.heap.size) (by rw [HK.out] at hwx; exact hwx) (by rw [HK.out] at hof; exact hof) H8.out.1 (TP.start pb2) (by omega) ⟨_, _, pb2, by decide, by decide⟩ H8.out.2 H0.out hB4 (by omega) l1 HL.out)
    rw [← HEq.out, ← HN2.out] at HV
    have HB4 := Lib.hid hB4
    have HL1 := Lib.hid (And.intro l1 hwb)
    have HPb2 := Lib.hid pb2
    clear hB4 hB3 hb2 hwx hof pb2 hwb szX l1 s1 HA3 HPb
    go_wp2_with fail
    refine Calls.mono HV.out ?_
    rintro z W3 ⟨rfl, h1, h2⟩
    clear HV
    by_cases hz : E = 0
    · obtain ⟨xs, ys, W4, O, k1, k2, k3, k4, k5⟩ := h2 hz
      have p0 := k5.tell.st.c0
      have HQ := Lib.hid (And.intro k1 (And.intro k2 (And.intro k3 (And.intro k4 k5))))
      subst hz
      clear h1 h2 k1 k2 k3 k4 k5
      go_wp2
      go_ret2
      obtain ⟨k1, k2, k3, k4, k5⟩ := HQ.out
      obtain ⟨l1, l2⟩ := HL1.out
      have b := HB4.out
      have szW : W.heap.size ≤ W4.heap.size := Nat.le_trans b.size k4.size
      refine ⟨⟨k5.os.trans (k4.os.trans b.os), k5.tape.trans (k4.tape.trans b.tape), k5.output.trans (k4.output.trans b.output), Nat.le_trans szW k5.fr.1, fun i hi => ?_⟩, xs, k1, ys, k2, k3, rfl⟩
      rw [k5.fr.2 i (Nat.lt_of_lt_of_le hi szW) (by omega) (by omega) (fun z => z), k4.block i (Nat.lt_of_lt_of_le hi b.size)]
      exact b.block i hi
    · have b1 : (E != 0) = true := by simp [hz]
      have HQ := Lib.hid (And.intro hz (h1 hz))
      clear h1 h2 hz
      go_wp2
      go_ret2
      have b := HB4.out
      have b3 := HQ.out.2
      exact ⟨b.trans (b3.mono b.size), fun _ => rfl, fun z => absurd z HQ.out.1⟩
  · have b0 : (R != 0) = true := by simp [hz]
    have HEq : Hid (E = R ∧ R ≠ 0) := ⟨by rw [HE.out, if_pos hz], hz⟩
    clear hz HOk HE
    go_wp2
    go_ret2
    exact ⟨HB1.out, fun _ => by rw [HEq.out.1]; rfl, fun z => absurd (HEq.out.1.symm.trans z) HEq.out.2⟩
end Go.Proofs.YthhkpkfpifllkaaGreat

namespace Go.Proofs.YthhkpkfpifllkaaGreat
open Go.RowKit
set_option linter.unusedVariables false

theorem sort_ok : SortP := sort_holds fun c' Z => AnyF.slices_SortFunc_none (P := Tryz.prog) (ρ := laidSort) laysSort none c' _ Z
end Go.Proofs.YthhkpkfpifllkaaGreat

namespace Go.Proofs.YthhkpkfpifllkaaGreat
open Go.RowKit
set_option linter.unusedVariables false

instance (a b : EntD) : Decidable (EntD.Same a b) := by unfold EntD.Same; infer_instance
set_option maxRecDepth 100000 in
theorem alike_any {a b : Value} {xs ys : List Nat} {w : World} (ha : Rd w a xs) (hb : Rd w b ys) :
    Calls Tryz.prog 78 #[a, b] w fun e w' => e = .returned (.bool (decide (xs = ys))) ∧ w' = w := by
  have h1 := conv_str ha
  have h2 := conv_str hb
  go_enter Tryz.func78, Tryz.ntmps78
  go_wp2
  go_ret
  exact ⟨by rw [← beq_str ha.1 hb.1]; rfl, rfl⟩
theorem alikeB_any {a b : Value} {xs ys : List Nat} {w : World} (ha : Rd w a xs) (hb : Rd w b ys) :
    Calls Tryz.prog 78 #[a, b] w fun e w' => e = .returned (.bool (decide (xs = ys))) ∧ Below w.heap.size w w' :=
  Calls.mono (alike_any ha hb) fun r w' h => ⟨h.1, by rw [h.2]; exact Below.refl _ _⟩

set_option maxRecDepth 100000 in
set_option maxHeartbeats 8000000 in
theorem same3r_any {a b : EntD} {w : World} (ha : EntD.Ok w a) (hb : EntD.Ok w b) :
    Calls Tryz.prog 45 #[.agg a.cells, .agg b.cells] w fun r w' => r = .returned (.bool (decide (EntD.Same a b))) ∧ Below w.heap.size w w' := by
  have A1 := (Below.refl w.heap.size w).alloc (Nat.le_refl _) (.cells a.cells 84)
  have A2 := A1.alloc A1.size (.cells b.cells 84)
  have bxa0 := (EBox.new w a).later ((Below.refl (w.alloc (.cells a.cells 84)).heap.size (w.alloc (.cells a.cells 84))).alloc (Nat.le_refl _) (.cells b.cells 84))
  have bxb0 := EBox.new (w.alloc (.cells a.cells 84)) b
  rw [World.size_alloc] at bxb0
  obtain ⟨V, hV⟩ : ∃ V, V = (w.alloc (.cells a.cells 84)).alloc (.cells b.cells 84) := ⟨_, rfl⟩
  rw [← hV] at A2 bxa0 bxb0
  have HV : Hid (V = _) := hV
  clear hV A1
  have HX : Hid (EBox V w.heap.size a ∧ EBox V (w.heap.size + 1) b ∧ Below w.heap.size w V) := ⟨bxa0, bxb0, A2⟩
  have HA : Hid (∀ wx, Below V.heap.size V wx → EntD.Ok wx a ∧ EntD.Ok wx b ∧ EBox wx w.heap.size a ∧ EBox wx (w.heap.size + 1) b) := fun wx q => ⟨(ha.later A2).later q, (hb.later A2).later q, bxa0.later q, bxb0.later q⟩
  obtain ⟨c0, c1, c2, c3, c4, c5, c6⟩ := (⟨bxa0.vr, bxa0.fam, bxa0.vq, bxa0.ts, bxa0.seq, bxa0.kind, bxa0.vv⟩ : _ ∧ _ ∧ _ ∧ _ ∧ _ ∧ _ ∧ _)
  obtain ⟨d0, d1, d2, d3, d4, d5, d6⟩ := (⟨bxb0.vr, bxb0.fam, bxb0.vq, bxb0.ts, bxb0.seq, bxb0.kind, bxb0.vv⟩ : _ ∧ _ ∧ _ ∧ _ ∧ _ ∧ _ ∧ _)
  clear A2 bxa0 bxb0 ha hb
  obtain ⟨va, fa, qa, ta, sa, ka, wa, ra, la, ya⟩ := a
  obtain ⟨vb, fb, qb, tb, sb, kb, wb, rb, lb, yb⟩ := b
  simp only [EntD.cells] at *
  by_cases h1 : fa = fb
  · by_cases h2 : ta = tb
    · by_cases h3 : sa = sb
      · by_cases h4 : ka = kb
        · subst h1 h2 h3 h4
          go_enter Tryz.func45, Tryz.ntmps45
          go_wp2_with fail
          rw [← HV.out]
          go_wp2_with fail
          refine (alikeB_any (HA.out _ (Below.refl _ _)).1.1 (HA.out _ (Below.refl _ _)).2.1.1).mono ?_
          rintro e w1 ⟨rfl, hb1⟩
          by_cases e1 : ra = rb
          · rw [decide_eq_true e1]
            have x2 := (HA.out _ hb1).2.2.1.vq
            have y2 := (HA.out _ hb1).2.2.2.vq
            simp only at x2 y2
            go_wp2_with fail
            refine (alikeB_any (HA.out _ hb1).1.2.1 (HA.out _ hb1).2.1.2.1).mono ?_
            rintro e w2 ⟨rfl, hb2⟩
            have B2 := hb1.trans (hb2.mono hb1.size)
            by_cases e2 : la = lb
            · rw [decide_eq_true e2]
              have x6 := (HA.out _ B2).2.2.1.vv
              have y6 := (HA.out _ B2).2.2.2.vv
              simp only at x6 y6
              go_wp2_with fail
              refine (alikeB_any (HA.out _ B2).1.2.2 (HA.out _ B2).2.1.2.2).mono ?_
              rintro e w3 ⟨rfl, hb3⟩
              have B3 := B2.trans (hb3.mono B2.size)
              by_cases e3 : ya = yb
              · rw [decide_eq_true e3]
                go_wp2
                go_ret
                have hd : decide (EntD.Same ⟨va, fa, qa, ta, sa, ka, wa, ra, la, ya⟩ ⟨vb, fa, qb, ta, sa, ka, wb, rb, lb, yb⟩) = true := decide_eq_true ⟨rfl, rfl, rfl, rfl, e1, e2, e3⟩
                rw [hd]
                exact ⟨rfl, HX.out.2.2.trans (B3.mono HX.out.2.2.size)⟩
              · rw [decide_eq_false e3]
                go_wp2
                go_ret
                rw [decide_eq_false (show ¬ EntD.Same _ _ from fun h => e3 h.2.2.2.2.2.2)]
                exact ⟨rfl, HX.out.2.2.trans (B3.mono HX.out.2.2.size)⟩
            · rw [decide_eq_false e2]
              go_wp2
              go_ret
              rw [decide_eq_false (show ¬ EntD.Same _ _ from fun h => e2 h.2.2.2.2.2.1)]
              exact ⟨rfl, HX.out.2.2.trans (B2.mono HX.out.2.2.size)⟩
          · rw [decide_eq_false e1]
            go_wp2
            go_ret
            rw [decide_eq_false (show ¬ EntD.Same _ _ from fun h => e1 h.2.2.2.2.1)]
            exact ⟨rfl, HX.out.2.2.trans (hb1.mono HX.out.2.2.size)⟩
        · subst h1 h2 h3
          go_enter Tryz.func45, Tryz.ntmps45
          go_wp2_with fail
          rw [← HV.out]
          go_wp2
          go_ret
          rw [decide_eq_false (show ¬ EntD.Same _ _ from fun h => h4 h.2.2.2.1)]
          exact ⟨rfl, HX.out.2.2⟩
      · subst h1 h2
        go_enter Tryz.func45, Tryz.ntmps45
        go_wp2_with fail
        rw [← HV.out]
        go_wp2
        go_ret
        rw [decide_eq_false (show ¬ EntD.Same _ _ from fun h => h3 h.2.2.1)]
        exact ⟨rfl, HX.out.2.2⟩
    · subst h1
      go_enter Tryz.func45, Tryz.ntmps45
      go_wp2_with fail
      rw [← HV.out]
      go_wp2
      go_ret
      rw [decide_eq_false (show ¬ EntD.Same _ _ from fun h => h2 h.2.1)]
      exact ⟨rfl, HX.out.2.2⟩
  · go_enter Tryz.func45, Tryz.ntmps45
    go_wp2_with fail
    rw [← HV.out]
    go_wp2
    go_ret
    rw [decide_eq_false (show ¬ EntD.Same _ _ from fun h => h1 h.1)]
    exact ⟨rfl, HX.out.2.2⟩
end Go.Proofs.YthhkpkfpifllkaaGreat

namespace Go.Proofs.YthhkpkfpifllkaaGreat
open Go.RowKit
set_option linter.unusedVariables false

theorem RdL3.cells {w w' : World} {b off cap : Nat} {xs : List EntD} (h : RdL3 w (some ⟨b, off, none⟩) cap xs) (hb : Below w.heap.size w w') {t : Nat} {x : EntD} (hx : xs[t]? = some x) : ∀ (j : Nat) u, x.cells.toList[j]? = some u → w'.cell? ⟨b, off + t * 7 + j, none⟩ = some u := by
  rcases (h.later hb).at_ with h0 | ⟨b2, off2, e, hc⟩
  · rw [h0] at hx; simp at hx
  · cases e
    exact hc t x hx
set_option maxRecDepth 100000 in
set_option maxHeartbeats 4000000 in
theorem sameAll_ok {w : World} {aa ab : Option Addr} {ca cb : Nat} {xs ys : List EntD} (ha : RdL3 w aa ca xs) (hb : RdL3 w ab cb ys) (hs : xs.map EntD.dat = ys.map EntD.dat) (hl : xs.length ≤ 1353245080300) :
    Calls Tryz.prog 18 #[.slice aa xs.length ca, .slice ab ys.length cb] w fun e w' => e = .returned (.bool true) ∧ Below w.heap.size w w' := by
  have HA := Lib.hid ha
  have HB := Lib.hid hb
  have el : ys.length = xs.length := by have := congrArg List.length hs; simpa using this.symm
  have HS := Lib.hid hs
  obtain ⟨n, hn⟩ : ∃ n, n = xs.length := ⟨_, rfl⟩
  rw [el, ← hn]
  rw [← hn] at hl
  have a1 : n ≤ ca := by rw [hn]; exact ha.cap.1
  have b1 : n ≤ cb := by rw [hn, ← el]; exact hb.cap.1
  have HN : Hid (xs.length = n) := hn.symm
  have HEl : Hid (ys.length = n) := el.trans hn.symm
  clear hn hs el ha hb
  have hmx : Tryz.prog.follows .mixedOrders = true := by kernel_rfl
  go_enter Tryz.func18, Tryz.ntmps18
  go_wp2
  go_loopw [5] (fun i wr => ∃ t : Nat, t ≤ n ∧ i = .int .i64 (t : Int) ∧ Below w.heap.size w wr) (fun i _ => n - (intOf i).toNat)
  case atStart => exact ⟨0, by omega, rfl, Below.refl _ _⟩
  case round =>
    obtain ⟨t, htn, rfl, hbk⟩ := hrel
    by_cases h1 : t < n
    · have h1' : (t : Int) < (n : Int) := by omega
      have ht0 : (0 : Int) ≤ (t : Int) := by omega
      have HBK := Lib.hid hbk
      obtain ⟨x, hx⟩ : ∃ x, xs[t]? = some x := ⟨xs[t]'(by rw [HN.out]; exact h1), List.getElem?_eq_getElem _⟩
      obtain ⟨y, hy⟩ : ∃ y, ys[t]? = some y := ⟨ys[t]'(by rw [HEl.out]; exact h1), List.getElem?_eq_getElem _⟩
      have hxy : EntD.Same x y := by
        have e1 : (xs.map EntD.dat)[t]? = some x.dat := by rw [List.getElem?_map, hx]; rfl
        have e2 : (ys.map EntD.dat)[t]? = some y.dat := by rw [List.getElem?_map, hy]; rfl
        rw [HS.out, e2] at e1
        exact EntD.dat_same.1 (Option.some.inj e1).symm
      obtain ⟨ba, oa, rfl⟩ : ∃ b off, aa = some ⟨b, off, none⟩ := by
        rcases HA.out.at_ with h0 | ⟨b, off, e, _⟩
        · rw [h0] at hx; simp at hx
        · exact ⟨b, off, e⟩
      obtain ⟨bb, ob, rfl⟩ : ∃ b off, ab = some ⟨b, off, none⟩ := by
        rcases HB.out.at_ with h0 | ⟨b, off, e, _⟩
        · rw [h0] at hy; simp at hy
        · exact ⟨b, off, e⟩
      have KS : Hid (∀ wx, Below wr.heap.size wr wx → (wx.cell? ⟨ba, oa + t * 7, none⟩ = some x.vr ∧ wx.cell? ⟨ba, oa + t * 7 + 1, none⟩ = some (.int .i64 x.fam) ∧ wx.cell? ⟨ba, oa + t * 7 + 2, none⟩ = some x.vq ∧ wx.cell? ⟨ba, oa + t * 7 + 3, none⟩ = some (.int .i64 x.ts) ∧ wx.cell? ⟨ba, oa + t * 7 + 4, none⟩ = some (.int .i64 x.seq) ∧ wx.cell? ⟨ba, oa + t * 7 + 5, none⟩ = some (.int .i64 x.kind) ∧ wx.cell? ⟨ba, oa + t * 7 + 6, none⟩ = some x.vv) ∧ (wx.cell? ⟨bb, ob + t * 7, none⟩ = some y.vr ∧ wx.cell? ⟨bb, ob + t * 7 + 1, none⟩ = some (.int .i64 y.fam) ∧ wx.cell? ⟨bb, ob + t * 7 + 2, none⟩ = some y.vq ∧ wx.cell? ⟨bb, ob + t * 7 + 3, none⟩ = some (.int .i64 y.ts) ∧ wx.cell? ⟨bb, ob + t * 7 + 4, none⟩ = some (.int .i64 y.seq) ∧ wx.cell? ⟨bb, ob + t * 7 + 5, none⟩ = some (.int .i64 y.kind) ∧ wx.cell? ⟨bb, ob + t * 7 + 6, none⟩ = some y.vv)) := fun wx b => by
        have k := (HBK.out.trans (b.mono HBK.out.size))
        have c1 := HA.out.cells k hx
        have c2 := HB.out.cells k hy
        exact ⟨⟨c1 0 _ rfl, c1 1 _ rfl, c1 2 _ rfl, c1 3 _ rfl, c1 4 _ rfl, c1 5 _ rfl, c1 6 _ rfl⟩, ⟨c2 0 _ rfl, c2 1 _ rfl, c2 2 _ rfl, c2 3 _ rfl, c2 4 _ rfl, c2 5 _ rfl, c2 6 _ rfl⟩⟩
      have HSe : Hid (∀ Z, Below wr.heap.size wr Z → Calls Tryz.prog 45 #[.agg #[x.vr, .int .i64 x.fam, x.vq, .int .i64 x.ts, .int .i64 x.seq, .int .i64 x.kind, x.vv], .agg #[y.vr, .int .i64 y.fam, y.vq, .int .i64 y.ts, .int .i64 y.seq, .int .i64 y.kind, y.vv]] Z fun r w' => r = .returned (.bool true) ∧ Below Z.heap.size Z w') := fun Z hZ => by
        have k := (HBK.out.trans (hZ.mono HBK.out.size))
        refine (same3r_any ((HA.out.later k).ok x (List.mem_of_getElem? hx)) ((HB.out.later k).ok y (List.mem_of_getElem? hy))).mono ?_
        rintro r w' ⟨rfl, hb⟩
        exact ⟨by rw [decide_eq_true hxy], hb⟩
      have D0 : Below wr.heap.size wr wr.drew := (Below.refl _ _).drew
      clear hx hy hxy hbk
      go_wp2_with fail
      go_region_held3 (fun wx => (wx.cell? ⟨ba, oa + t * 7, none⟩ = some x.vr ∧ wx.cell? ⟨ba, oa + t * 7 + 1, none⟩ = some (.int .i64 x.fam) ∧ wx.cell? ⟨ba, oa + t * 7 + 2, none⟩ = some x.vq ∧ wx.cell? ⟨ba, oa + t * 7 + 3, none⟩ = some (.int .i64 x.ts) ∧ wx.cell? ⟨ba, oa + t * 7 + 4, none⟩ = some (.int .i64 x.seq) ∧ wx.cell? ⟨ba, oa + t * 7 + 5, none⟩ = some (.int .i64 x.kind) ∧ wx.cell? ⟨ba, oa + t * 7 + 6, none⟩ = some x.vv) ∧ (wx.cell? ⟨bb, ob + t * 7, none⟩ = some y.vr ∧ wx.cell? ⟨bb, ob + t * 7 + 1, none⟩ = some (.int .i64 y.fam) ∧ wx.cell? ⟨bb, ob + t * 7 + 2, none⟩ = some y.vq ∧ wx.cell? ⟨bb, ob + t * 7 + 3, none⟩ = some (.int .i64 y.ts) ∧ wx.cell? ⟨bb, ob + t * 7 + 4, none⟩ = some (.int .i64 y.seq) ∧ wx.cell? ⟨bb, ob + t * 7 + 5, none⟩ = some (.int .i64 y.kind) ∧ wx.cell? ⟨bb, ob + t * 7 + 6, none⟩ = some y.vv)) (first | exact KS.out _ D1 | exact KS.out _ D0) ((go_at_call 45; refine Calls.mono (HSe.out _ D0) ?_; rintro e1 w1 ⟨rfl, hb1⟩; have D1 := D0.trans (hb1.mono D0.size)))
      go_wp2
      go_roundw
      case rel => exact ⟨t + 1, by omega, by go_num, HBK.out.trans (D1.mono HBK.out.size)⟩
      case measure => simp [intOf]; omega
    · have h1' : (n : Int) ≤ (t : Int) := by omega
      go_wp2
      go_ret
      exact ⟨rfl, hbk⟩
end Go.Proofs.YthhkpkfpifllkaaGreat
