import Derived.Test.YthhkpkfpifllkaaGreatK10
namespace Go.Proofs.YthhkpkfpifllkaaGreat
open Go.RowKit
set_option linter.unusedVariables false

def SortP : Prop := ∀ (B : Nat) (Z : World) (a' : Option Addr) (c' : Nat) (xs : List EntD), (∀ x ∈ xs, EntD.Ok Z x) → xs.length ≤ 1353245080300 → B ≤ Z.heap.size → Z.ownsRow B 84 7 (.slice a' xs.length c') xs.length (evals xs) → Calls Tryz.prog 80 #[.slice a' xs.length c', .func (.func 81) #[] #[]] Z fun r Z' => r = .returned (.tuple #[]) ∧ ∃ ys : List EntD, ys.Perm xs ∧ (ys.Pairwise fun x y => compareS x y ≤ 0) ∧ Z'.ownsRow B 84 7 (.slice a' xs.length c') xs.length (evals ys) ∧ Z.grownBy Z' (Value.slice a' xs.length c').ownBlock
theorem Rd.heap {W Z : World} {x : Value} {bs : List Nat} (r : Rd W x bs) (h : ∀ i, i < W.heap.size → Z.heap[i]? = W.heap[i]?) : Rd Z x bs := by
  obtain ⟨h1, a, cap, rfl, h3, h4, h5, h6, h7⟩ := r
  refine ⟨h1, a, cap, rfl, h3, h4, h5, h6, ?_⟩
  rcases h7 with h7 | ⟨b, off, rfl, hc⟩
  · exact .inl h7
  · refine .inr ⟨b, off, rfl, fun i hi => ?_⟩
    have c := hc i hi
    have lt := World.block_lt_of_cell? W _ c
    simp only [World.cell?, h b lt] at c ⊢
    exact c
theorem EntD.heap {W Z : World} {e : EntD} (r : EntD.Ok W e) (h : ∀ i, i < W.heap.size → Z.heap[i]? = W.heap[i]?) : EntD.Ok Z e := ⟨r.1.heap h, r.2.1.heap h, r.2.2.heap h⟩
theorem once_len (l : List EntD) : ∀ (acc xs : List EntD), l.foldl (fun o e => o.bind fun xs => addO xs e) (some acc) = some xs → xs.length ≤ acc.length + l.length := by
  induction l with
  | nil => intro acc xs h; cases h; simp
  | cons e r ih =>
    intro acc xs h
    have h2 : r.foldl (fun o e => o.bind fun xs => addO xs e) (addO acc e) = some xs := h
    cases ha : addO acc e with
    | none => rw [ha, once_none] at h2; cases h2
    | some ys =>
      rw [ha] at h2
      have := ih ys xs h2
      have hy : ys.length ≤ acc.length + 1 := by
        unfold addO at ha
        split at ha
        · cases ha; simp
        · split at ha
          · cases ha; omega
          · cases ha
      rw [List.length_cons]
      omega
theorem onceS_len {l xs : List EntD} (h : onceS l = some xs) : xs.length ≤ l.length := by simpa using once_len l [] xs h
theorem firstBad_all {chk : EntD → Int} {l : List EntD} (h : firstBad chk l = 0) : ∀ x ∈ l, chk x = 0 := by
  induction l with
  | nil => simp
  | cons e l ih =>
    rw [firstBad] at h
    by_cases he : chk e = 0
    · rw [if_neg (by simpa using he)] at h
      intro x hx
      rcases List.mem_cons.1 hx with rfl | q
      · exact he
      · exact ih h x q
    · rw [if_pos he] at h
      exact absurd h he
theorem inOrder_ok {chk : EntD → Int} {l : List EntD} (h : inOrderE chk l = 0) : (∀ x ∈ l, chk x = 0) ∧ ∃ xs, onceS l = some xs := by
  unfold inOrderE at h
  by_cases hb : firstBad chk l = 0
  · rw [if_neg (by simpa using hb)] at h
    cases ho : onceS l with
    | none => rw [if_pos ho] at h; cases h
    | some xs => exact ⟨firstBad_all hb, xs, rfl⟩
  · rw [if_pos hb] at h
    exact absurd h hb
theorem over_all (SP : SortP) {W W0 : World} {wb g rb B cap fc : Nat} {a fa : Option Addr} {fs : List FamD} {clock : Int} {T : World → (Nat → Prop) → List Vd → Prop} {l : List EntD} (ht : Teller g rb T) (hb : WBx W wb (.slice fa fs.length fc) clock (.func (.func g) #[.pointer (some ⟨rb, 0, none⟩)] #[]) spZ) (hf : OwnF W B (.slice fa fs.length fc) fs.length fs) (hl8 : fs.length ≤ 8) (t : T W (fun i => i = rb) []) (hne : wb ≠ rb) (hr : ∃ cs ty, W.heap[rb]? = some (.cells cs ty (0, 0)) ∧ ty ≠ 132 ∧ ty ≠ 84) (hfs : ∀ f ∈ fs, 0 ≤ f.tl ∧ f.tl ≤ 1099511627776)
    (h0 : RdL3 W0 a cap l) (hB : Below W0.heap.size W0 W) (hw0 : W0.heap.size ≤ wb) (hr0 : W0.heap.size ≤ rb) (hl : l.length ≤ 1353245080300) :
    Calls Tryz.prog 60 #[.pointer (some ⟨wb, 0, none⟩), .slice a l.length cap] W fun r W' => r = .returned (.int .i64 (inOrderE (check3S fs.length) l)) ∧ (inOrderE (check3S fs.length) l ≠ 0 → Below W.heap.size W W') ∧ (inOrderE (check3S fs.length) l = 0 → ∃ (xs ys : List EntD) (W1 : World) (O : Nat → Prop), onceS l = some xs ∧ ys.Perm xs ∧ (ys.Pairwise fun x y => compareS x y ≤ 0) ∧ Below W.heap.size W W1 ∧ Wk W1 wb g rb (.slice fa fs.length fc) fs clock T W' O spZ (verdictsS (mt fs) clock (ys.map EntD.dat))) := by
  have hB2 : ∀ {Z : World}, Below W.heap.size W Z → Below W0.heap.size W0 Z := fun b => hB.trans (b.mono hB.size)
  have HI := inOrder_any (k := fs.length) hb (h0.later hB) hl (fun Z a' c' xs ho b row => SP W.heap.size Z a' c' xs (fun x hx => (h0.ok x (onceS_mem ho x hx)).later (hB2 b)) (Nat.le_trans (onceS_len ho) hl) b.size row)
  refine Calls.mono (over_any ht hb hf hl8 t hne hr hfs (inOrderE (check3S fs.length) l) (fun ys => ∃ xs, onceS l = some xs ∧ ys.Perm xs ∧ ys.Pairwise fun x y => compareS x y ≤ 0) (Calls.mono HI ?_) ?_) ?_
  · rintro r W' ⟨h1, h2, h3⟩
    refine ⟨h1, h2, fun z => ?_⟩
    obtain ⟨xs, ys, a', c', k1, k2, k3, k4, k5⟩ := h3 z
    exact ⟨ys, a', c', ⟨xs, k1, k2, k3⟩, k4, k5⟩
  · rintro z ys ⟨xs, k1, k2, k3⟩
    obtain ⟨hall, -⟩ := inOrder_ok z
    have hmem : ∀ y ∈ ys, y ∈ l := fun y hy => onceS_mem k1 y (k2.mem_iff.1 hy)
    refine ⟨fun y hy => ⟨fit_of_check (hall y (hmem y hy)), fun Z hZ => EntD.heap (h0.ok y (hmem y hy)) (fun i hi => ?_)⟩, by rw [k2.length_eq]; exact Nat.le_trans (onceS_len k1) hl⟩
    rw [hZ.2 i (Nat.lt_of_lt_of_le hi hB.size) (by omega) (by omega) (fun z => z)]
    exact hB.block i hi
  · rintro r W' ⟨h1, h2, h3⟩
    refine ⟨h1, h2, fun z => ?_⟩
    obtain ⟨ys, W1, O, ⟨xs, k1, k2, k3⟩, k4, k5⟩ := h3 z
    exact ⟨xs, ys, W1, O, k1, k2, k3, k4, k5⟩
end Go.Proofs.YthhkpkfpifllkaaGreat

namespace Go.Proofs.YthhkpkfpifllkaaGreat
open Go.RowKit
set_option linter.unusedVariables false

theorem flat_evals {Z : World} (d : Array (EA Z)) : Go.Sort.flatK (encA Z) 7 d = (evals (d.toList.map Subtype.val)).toArray := by
  refine Go.Sort.ext_get! (by simp [evals_len]) fun t ht => ?_
  rw [Go.Sort.size_flatK] at ht
  rw [Go.Sort.get_flatK _ _ _ _ ht]
  have h1 : t / 7 < d.size := by omega
  have h5 : t % 7 < 7 := Nat.mod_lt _ (by omega)
  have e1 : (d.toList.map Subtype.val)[t / 7]? = some (d[t / 7]!).1 := by
    rw [List.getElem?_map, Array.getElem?_toList, Array.getElem?_eq_getElem h1, getElem!_pos d _ h1]
    rfl
  have e2 : (d[t / 7]!).1.cells.toList[t % 7]? = some ((encA Z d[t / 7]!)[t % 7]!) := by
    show (encA Z d[t / 7]!)[t % 7]? = _
    rw [List.getElem!_eq_getElem?_getD, List.getElem?_eq_getElem (by exact h5)]
    rfl
  have := evals_at e1 e2
  rw [show t / 7 * 7 + t % 7 = t by omega] at this
  have hl := (List.getElem?_eq_some_iff.1 this)
  rw [getElem!_pos (evals (d.toList.map Subtype.val)).toArray t (by rw [List.size_toArray]; exact hl.1)]
  exact hl.2.symm
theorem heap_sort {Z : World} {g n : Nat} {d' : Array (EA Z)} {os : Array Obj} {cur : Array Value} {ty : TypeId} {fr : Nat × Nat} (hg : Z.heap[g]? = some (.cells cur ty fr)) : (sortWorldK (encA Z) 7 Z g 0 n d' os).heap[g]? = some (.cells (Go.Sort.putCells id 0 (Go.Sort.flatK (encA Z) 7 d') cur) ty fr) := by
  have lt : g < Z.heap.size := (Array.getElem?_eq_some_iff.1 hg).1
  unfold sortWorldK Go.Sort.putRowK Go.Sort.putRow
  rw [Go.Sort.heap_grow_old _ _ (by show g < (Z.heap.modify g _).size; rw [Array.size_modify]; exact lt)]
  show (Z.heap.modify g _)[g]? = _
  rw [Array.getElem?_modify, if_pos rfl, hg]
  rfl
theorem heap_sort_ne {Z : World} {g n k : Nat} {d' : Array (EA Z)} {os : Array Obj} (hk : k < Z.heap.size) (hne : k ≠ g) : (sortWorldK (encA Z) 7 Z g 0 n d' os).heap[k]? = Z.heap[k]? := by
  unfold sortWorldK Go.Sort.putRowK Go.Sort.putRow
  rw [Go.Sort.heap_grow_old _ _ (by show k < (Z.heap.modify g _).size; rw [Array.size_modify]; exact hk)]
  show (Z.heap.modify g _)[k]? = _
  rw [Array.getElem?_modify, if_neg (by omega)]
theorem putCells_take {F cur : Array Value} (h : F.size ≤ cur.size) : (Go.Sort.putCells id 0 F cur).toList.take F.size = F.toList := by
  apply List.ext_getElem?
  intro i
  by_cases hi : i < F.size
  · rw [List.getElem?_take_of_lt hi, Array.getElem?_toList, Array.getElem?_toList]
    unfold Go.Sort.putCells
    rw [Array.getElem?_mapIdx, Array.getElem?_eq_getElem (by omega : i < cur.size), Option.map_some, if_pos ⟨by omega, by omega⟩, Nat.sub_zero, Array.getElem?_eq_getElem hi, getElem!_pos F i hi]
    rfl
  · rw [List.getElem?_eq_none (by simp; omega), List.getElem?_eq_none (by simp; omega)]
def toA (Z : World) (xs : List EntD) (h : ∀ x ∈ xs, EntD.Ok Z x) : Array (EA Z) := (xs.attach.map fun x => (⟨x.1, h x.1 x.2⟩ : EA Z)).toArray
theorem toA_val {Z : World} {xs : List EntD} (h : ∀ x ∈ xs, EntD.Ok Z x) : (toA Z xs h).toList.map Subtype.val = xs := by
  unfold toA
  rw [List.map_map]
  exact List.attach_map_subtype_val xs
theorem toA_size {Z : World} {xs : List EntD} (h : ∀ x ∈ xs, EntD.Ok Z x) : (toA Z xs h).size = xs.length := by simp [toA]
theorem holdsA {Z : World} {g : Nat} {xs : List EntD} {cur : Array Value} {ty : TypeId} (h : ∀ x ∈ xs, EntD.Ok Z x) (hg : Z.heap[g]? = some (.cells cur ty (0, 0))) (hc : cur.toList.take (xs.length * 7) = evals xs) : Go.Sort.HoldsK (encA Z) 7 Z g 0 (toA Z xs h) := by
  unfold Go.Sort.HoldsK
  rw [flat_evals, toA_val]
  intro j hj
  rw [List.size_toArray, evals_len] at hj
  refine ⟨?_, ?_⟩
  · have e : cur.toList[j]? = (evals xs)[j]? := by rw [← hc, List.getElem?_take_of_lt hj]
    have hl : j < (evals xs).length := by rw [evals_len]; exact hj
    rw [List.getElem?_eq_getElem hl, Array.getElem?_toList] at e
    rw [Nat.zero_add, getElem!_pos _ j (by rw [List.size_toArray]; exact hl)]
    simp [World.cell?, hg, e]
  · simp [World.frozen?, hg]
theorem sort_holds (hnone : ∀ (c' : Nat) (Z : World), Calls Tryz.prog 80 #[.slice none 0 c', .func (.func 81) #[] #[]] Z fun r Z' => r = .returned (.tuple #[]) ∧ Z' = Z) : SortP := by
  intro B Z a' c' xs hok hlen hB hrow
  rcases hrow.2 with ⟨hv, h0⟩ | ⟨g, cap, cur, hv, hBg, hg, hnc, hcm, hcs, htk⟩
  · have hx : xs = [] := List.eq_nil_of_length_eq_zero h0
    subst hx
    simp only [Value.slice.injEq, List.length_nil] at hv
    obtain ⟨rfl, _, rfl⟩ := hv
    refine Calls.mono (hnone 0 Z) ?_
    rintro r Z' ⟨rfl, rfl⟩
    exact ⟨rfl, [], List.Perm.nil, List.Pairwise.nil, hrow, ⟨rfl, rfl, rfl, Nat.le_refl _, fun _ _ _ => rfl⟩⟩
  · simp only [Value.slice.injEq] at hv
    obtain ⟨rfl, _, rfl⟩ := hv
    have hH := holdsA hok hg htk
    have hsz := toA_size hok
    have lt : g < Z.heap.size := (Array.getElem?_eq_some_iff.1 hg).1
    have key := AnyQ.slices_SortFunc (P := Tryz.prog) (ρ := laidSort) laysSort 7 (fun w => Tryz.isAgg84 w) (fun w => Tryz.sizeOf84 w) (encA Z) (fun x => rfl) (encA_one Z) (cfA Z) (swo_cfA Z) 81 #[] g 0 c' (toA Z xs hok) Z (enters_of Tryz.func81 (by kernel_rfl) rfl) (cmp_lays hH) hH lt (by rw [hsz]; omega)
    rw [hsz] at key
    refine Calls.mono key ?_
    rintro r Z' ⟨rfl, d', n, os, hp, hso, rfl⟩
    obtain ⟨p1, p2, p3⟩ := hp
    have hd' : d'.size = xs.length := by rw [p1, hsz]
    have x1 : d'.extract 0 xs.length = d' := by rw [← hd']; exact Array.extract_size
    have x2 : (toA Z xs hok).extract 0 xs.length = toA Z xs hok := by rw [← hsz]; exact Array.extract_size
    rw [x1, x2] at p3
    refine ⟨rfl, d'.toList.map Subtype.val, ?_, ?_, ?_, ?_⟩
    · have := p3.map Subtype.val
      rwa [toA_val] at this
    · rw [List.pairwise_map, List.pairwise_iff_getElem]
      intro i j hi hj hij
      rw [Array.length_toList] at hi hj
      have := hso i j (Nat.zero_le _) hij (by omega)
      rw [getElem!_pos d' i hi, getElem!_pos d' j hj] at this
      have h1 : ¬ compareS d'[j].1 d'[i].1 < 0 := of_decide_eq_false this
      have h2 := compareS_swap d'[j].1 d'[i].1
      show compareS d'.toList[i].1 d'.toList[j].1 ≤ 0
      rw [Array.getElem_toList, Array.getElem_toList]
      omega
    · refine ⟨by rw [evals_len, List.length_map, Array.length_toList, hd'], .inr ⟨g, c', _, rfl, hBg, heap_sort hg, hnc, hcm, ?_, ?_⟩⟩
      · unfold Go.Sort.putCells
        rw [Array.size_mapIdx, hcs]
      · have hF : (Go.Sort.flatK (encA Z) 7 d').size = xs.length * 7 := by rw [Go.Sort.size_flatK, hd']
        rw [← hF, putCells_take (by rw [hF, hcs]; exact Nat.mul_le_mul_right 7 hnc), flat_evals]
    · refine ⟨rfl, rfl, rfl, ?_, fun k hk hne => heap_sort_ne hk (fun e => hne (by rw [e]; rfl))⟩
      unfold sortWorldK
      rw [Go.Sort.size_grow]
      show Z.heap.size ≤ (Go.Sort.putRowK _ _ _ _ _ _).heap.size + _
      unfold Go.Sort.putRowK
      rw [Go.Sort.size_putRow]
      exact Nat.le_add_right _ _
end Go.Proofs.YthhkpkfpifllkaaGreat

namespace Go.Proofs.YthhkpkfpifllkaaGreat
open Go.RowKit
set_option linter.unusedVariables false

set_option maxRecDepth 100000 in
set_option maxHeartbeats 4000000 in
theorem fover_any (SP : SortP) {W W0 : World} {wb rb B cap fc : Nat} {a fa : Option Addr} {fs : List FamD} {clock low : Int} {major : Bool} {l : List EntD} (hs : SBx W rb (.pointer (some ⟨wb, 0, none⟩)) (.slice none 0 0) (fBc major low ⟨0, 0, 0, 0, 0⟩) 107) (hb : WBx W wb (.slice fa fs.length fc) clock (.func (.func 70) #[.pointer (some ⟨rb, 0, none⟩)] #[]) spZ) (hf : OwnF W B (.slice fa fs.length fc) fs.length fs) (hl8 : fs.length ≤ 8) (hne : wb ≠ rb) (hfs : ∀ f ∈ fs, 0 ≤ f.tl ∧ f.tl ≤ 1099511627776)
    (h0 : RdL3 W0 a cap l) (hB : Below W0.heap.size W0 W) (hw0 : W0.heap.size ≤ wb) (hr0 : W0.heap.size ≤ rb) (hl : l.length ≤ 1353245080300) :
    Calls Tryz.prog 54 #[.pointer (some ⟨rb, 0, none⟩), .slice a l.length cap] W fun r W' => Below W0.heap.size W0 W' ∧ (inOrderE (check3S fs.length) l ≠ 0 → r = .returned (.tuple #[.slice none 0 0, .int .i64 (inOrderE (check3S fs.length) l)])) ∧ (inOrderE (check3S fs.length) l = 0 → ∃ (xs ys zs : List EntD) (v : Value) (O : Nat → Prop), onceS l = some xs ∧ ys.Perm xs ∧ (ys.Pairwise fun x y => compareS x y ≤ 0) ∧ r = .returned (.tuple #[v, .int .i64 0]) ∧ Rw W' W0.heap.size v zs O ∧ zs.map EntD.dat = outS major low (verdictsS (mt fs) clock (ys.map EntD.dat))) := by
  have HO := Lib.hid (over_all SP (T := TF [] rb W0.heap.size (.pointer (some ⟨wb, 0, none⟩)) major low) (filter_teller [] rb W0.heap.size (.pointer (some ⟨wb, 0, none⟩)) major low) hb hf hl8 (TF.start hs hB.size) hne ⟨_, _, hs, by decide, by decide⟩ hfs h0 hB hw0 hr0 hl)
  obtain ⟨E, hE⟩ : ∃ E, E = inOrderE (check3S fs.length) l := ⟨_, rfl⟩
  rw [← hE] at HO ⊢
  have HSb := Lib.hid hs
  have HB := Lib.hid hB
  have c0 := hs.c00
  obtain ⟨n, hn⟩ : ∃ n, n = l.length := ⟨_, rfl⟩
  rw [← hn] at HO ⊢
  have HW := Lib.hid (And.intro hw0 hr0)
  clear hs hb hf hl8 hne hfs h0 hB hl hE hn hw0 hr0
  go_enter Tryz.func54, Tryz.ntmps54
  go_wp2_with fail
  refine Calls.mono HO.out ?_
  rintro z W1 ⟨rfl, h1, h2⟩
  clear HO c0
  by_cases hz : E = 0
  · obtain ⟨xs, ys, W2, O, k1, k2, k3, k4, k5⟩ := h2 hz
    obtain ⟨zs, ov, Or, sb, rw1, hno, hsub, hx⟩ := k5.tell.st
    obtain ⟨av, cv, rfl⟩ := rows_form3 rw1.row
    have HH := Lib.hid (handOut_any sb)
    have HK := Lib.hid (And.intro k1 (And.intro k2 (And.intro k3 (And.intro k4 (And.intro k5 (And.intro rw1 (And.intro hno (And.intro hsub hx))))))))
    subst hz
    clear h1 h2 k1 k2 k3 k4 k5 sb rw1 hno hsub hx
    go_wp2_with fail
    refine Calls.mono HH.out ?_
    rintro z2 X2 ⟨rfl, sb2, gr2⟩
    have HG := Lib.hid gr2
    clear sb2 gr2 HH
    go_wp2
    go_ret2
    obtain ⟨k1, k2, k3, k4, k5, rw1, hno, hsub, hx⟩ := HK.out
    obtain ⟨hw0, hr0⟩ := HW.out
    have gr := HG.out
    have b := HB.out
    have szW : W0.heap.size ≤ W2.heap.size := Nat.le_trans b.size k4.size
    refine ⟨⟨gr.os.trans (k5.os.trans (k4.os.trans b.os)), gr.tape.trans (k5.tape.trans (k4.tape.trans b.tape)), gr.output.trans (k5.output.trans (k4.output.trans b.output)), Nat.le_trans szW (Nat.le_trans k5.fr.1 gr.size), fun i hi => ?_⟩, xs, k1, ys, k2, k3, zs, .slice av zs.length cv, rfl, ⟨Or, rw1.keep (fun i hi => gr.block i (k5.tell.lt i (hsub i hi)) (fun z => by cases z; exact hno hi))⟩, hx⟩
    rw [gr.block i (Nat.lt_of_lt_of_le hi (Nat.le_trans szW k5.fr.1)) (fun z => by cases z; omega), k5.fr.2 i (Nat.lt_of_lt_of_le hi szW) (by omega) (by omega) (fun z => z), k4.block i (Nat.lt_of_lt_of_le hi b.size)]
    exact b.block i hi
  · have b1 := h1 hz
    have HH := Lib.hid (handOut_any (HSb.out.later b1))
    have HB1 := Lib.hid b1
    have HZ := Lib.hid hz
    clear h1 h2 b1 hz
    go_wp2_with fail
    refine Calls.mono HH.out ?_
    rintro z2 X2 ⟨rfl, sb2, gr2⟩
    have HG := Lib.hid gr2
    clear sb2 gr2 HH
    go_wp2
    go_ret2
    obtain ⟨hw0, hr0⟩ := HW.out
    have gr := HG.out
    have b := HB.out
    have b1 := HB1.out
    refine ⟨⟨gr.os.trans (b1.os.trans b.os), gr.tape.trans (b1.tape.trans b.tape), gr.output.trans (b1.output.trans b.output), Nat.le_trans b.size (Nat.le_trans b1.size gr.size), fun i hi => ?_⟩, fun _ => rfl, fun z => absurd z HZ.out⟩
    rw [gr.block i (Nat.lt_of_lt_of_le hi (Nat.le_trans b.size b1.size)) (fun z => by cases z; omega), b1.block i (Nat.lt_of_lt_of_le hi b.size)]
    exact b.block i hi
def squashE (C : Nat) (fs : List FamD) (clock low : Int) (l : List EntD) : Int := if boundsS C [clock, low] ≠ 0 then boundsS C [clock, low] else inOrderE (check3S fs.length) l

set_option maxRecDepth 100000 in
set_option maxHeartbeats 4000000 in
theorem squash_any (SP : SortP) {W : World} {cap fc : Nat} {a fa : Option Addr} {fs : List FamD} {l : List EntD} (hr : RdF W (.slice fa fs.length fc) fs) (hn : fa = none → fc = 0) (C : Nat) (hC : (C = 0 ↔ SchemaOk fs) ∧ (C = 0 ∨ C = 28)) (clock low : Int) (major : Bool) (h0 : RdL3 W a cap l) (hl : l.length ≤ 1353245080300) :
    Calls Tryz.prog 23 #[.agg #[.slice fa fs.length fc], .int .i64 clock, .bool major, .int .i64 low, .slice a l.length cap] W fun r W' => Below W.heap.size W W' ∧ (squashE C fs clock low l ≠ 0 → r = .returned (.tuple #[.slice none 0 0, .int .i64 (squashE C fs clock low l)])) ∧ (squashE C fs clock low l = 0 → ∃ (xs ys zs : List EntD) (v : Value) (O : Nat → Prop), onceS l = some xs ∧ ys.Perm xs ∧ (ys.Pairwise fun x y => compareS x y ≤ 0) ∧ r = .returned (.tuple #[v, .int .i64 0]) ∧ Rw W' W.heap.size v zs O ∧ zs.map EntD.dat = outS major low (verdictsS (mt fs) clock (ys.map EntD.dat))) := by
  have HF : Hid (∀ Z, Below W.heap.size W Z → Calls Tryz.prog 31 #[.agg #[.slice fa fs.length fc], .int .i64 clock, .bool major, .int .i64 low] Z _) := fun Z b => newFilter_any (hr.later b) hn C hC clock low major
  obtain ⟨E, hE⟩ : ∃ E, E = squashE C fs clock low l := ⟨_, rfl⟩
  obtain ⟨R, hR⟩ : ∃ R, R = boundsS C [clock, low] := ⟨_, rfl⟩
  have HE : Hid (E = if R ≠ 0 then R else inOrderE (check3S fs.length) l) := by unfold Hid; rw [hE, hR]; rfl
  rw [← hE]
  have HOk : Hid (R = 0 → fs.length ≤ 8 ∧ ∀ f ∈ fs, 0 ≤ f.tl ∧ f.tl ≤ 1099511627776) := fun z => by
    have hs := hC.1.1 (bounds_ok (hR.symm.trans z)).1
    refine ⟨hs.1.2, fun f hf => ?_⟩
    obtain ⟨i, hi⟩ := List.getElem?_of_mem hf
    exact (hs.2 i f hi).1.2.2
  simp only [← hR] at HF
  have HA := Lib.hid ((Below.refl W.heap.size W).alloc (Nat.le_refl _) (.cells #[.slice fa fs.length fc] 27))
  have H0 := Lib.hid h0
  have HL := Lib.hid hl
  obtain ⟨n, hn2⟩ : ∃ n, n = l.length := ⟨_, rfl⟩
  rw [← hn2]
  have HN := Lib.hid hn2
  obtain ⟨k, hk⟩ : ∃ k, k = fs.length := ⟨_, rfl⟩
  rw [← hk] at HF HA ⊢
  have HK := Lib.hid hk
  clear hr hn hC h0 hl hE hR hn2 hk
  go_enter Tryz.func23, Tryz.ntmps23
  go_wp2_with fail
  refine Calls.mono (HF.out _ HA.out) ?_
  rintro z W1 ⟨b1, h1, h2⟩
  have B1 := HA.out.trans (b1.mono HA.out.size)
  have HB1 := Lib.hid B1
  by_cases hz : R = 0
  · obtain ⟨fb, wb, a', c', rfl, hfb, hwb, hne, sb, wx, of⟩ := h2 hz
    obtain ⟨h8, hfs⟩ := HOk.out hz
    have l1 : W.heap.size ≤ (W.alloc (.cells #[.slice fa k fc] 27)).heap.size := HA.out.size
    have HEq : Hid (E = inOrderE (check3S fs.length) l) := by unfold Hid; rw [HE.out, if_neg (by simpa using hz)]
    have HV := Lib.hid (fover_any SP sb (by rw [HK.out] at wx; exact wx) (by rw [HK.out] at of; exact of) h8 (Ne.symm hne) hfs H0.out B1 (Nat.le_trans l1 hwb) (Nat.le_trans l1 hfb) HL.out)
    rw [← HEq.out, ← HN.out] at HV
    subst hz
    clear h1 h2 b1 B1 sb wx of hfb hwb hne hfs h8 HF HOk l1
    go_wp2_with fail
    refine Calls.mono HV.out ?_
    rintro z2 W2 ⟨q1, q2, q3⟩
    by_cases hz : E = 0
    · obtain ⟨xs, ys, zs, v, O, k1, k2, k3, rfl, k5, k6⟩ := q3 hz
      have HQ := Lib.hid (And.intro q1 (And.intro hz (And.intro k1 (And.intro k2 (And.intro k3 (And.intro k5 k6))))))
      clear q1 q2 q3 hz k1 k2 k3 k5 k6 HV
      go_wp2
      go_ret2
      obtain ⟨q1, hz, k1, k2, k3, k5, k6⟩ := HQ.out
      exact ⟨q1, fun z => absurd hz z, fun _ => ⟨xs, ys, zs, v, O, k1, k2, k3, rfl, k5, k6⟩⟩
    · have hz2 := q2 hz
      subst hz2
      have HQ := Lib.hid (And.intro q1 hz)
      clear q1 q2 q3 hz HV
      go_wp2
      go_ret2
      exact ⟨HQ.out.1, fun _ => rfl, fun z => absurd z HQ.out.2⟩
  · have hz2 := h1 hz
    subst hz2
    have b0 : (R != 0) = true := by simp [hz]
    have HEq : Hid (E = R ∧ R ≠ 0) := ⟨by rw [HE.out, if_pos hz], hz⟩
    clear h1 h2 b1 B1 hz HF HOk
    go_wp2
    go_ret2
    exact ⟨HB1.out, fun _ => by rw [HEq.out.1]; rfl, fun z => absurd (HEq.out.1.symm.trans z) HEq.out.2⟩
end Go.Proofs.YthhkpkfpifllkaaGreat

namespace Go.Proofs.YthhkpkfpifllkaaGreat
open Go.RowKit
set_option linter.unusedVariables false

set_option maxRecDepth 100000 in
set_option maxHeartbeats 4000000 in
theorem rover_any (SP : SortP) {W W0 : World} {wb rb B cap fc : Nat} {a fa : Option Addr} {fs : List FamD} {clock low nv : Int} {l : List EntD} (hs : SBx W rb (.pointer (some ⟨wb, 0, none⟩)) (.slice none 0 0) (rBc low nv 0) 103) (hb : WBx W wb (.slice fa fs.length fc) clock (.func (.func 71) #[.pointer (some ⟨rb, 0, none⟩)] #[]) spZ) (hf : OwnF W B (.slice fa fs.length fc) fs.length fs) (hl8 : fs.length ≤ 8) (hne : wb ≠ rb) (hfs : ∀ f ∈ fs, 0 ≤ f.tl ∧ f.tl ≤ 1099511627776)
    (h0 : RdL3 W0 a cap l) (hB : Below W0.heap.size W0 W) (hw0 : W0.heap.size ≤ wb) (hr0 : W0.heap.size ≤ rb) (hl : l.length ≤ 1353245080300) :
    Calls Tryz.prog 54 #[.pointer (some ⟨rb, 0, none⟩), .slice a l.length cap] W fun r W' => Below W0.heap.size W0 W' ∧ (inOrderE (check3S fs.length) l ≠ 0 → r = .returned (.tuple #[.slice none 0 0, .int .i64 (inOrderE (check3S fs.length) l)])) ∧ (inOrderE (check3S fs.length) l = 0 → ∃ (xs ys zs : List EntD) (v : Value) (O : Nat → Prop), onceS l = some xs ∧ ys.Perm xs ∧ (ys.Pairwise fun x y => compareS x y ≤ 0) ∧ r = .returned (.tuple #[v, .int .i64 0]) ∧ Rw W' W0.heap.size v zs O ∧ zs.map EntD.dat = (showS low nv (verdictsS (mt fs) clock (ys.map EntD.dat))).2) := by
  have HO := Lib.hid (over_all SP (T := TR [] rb W0.heap.size (some ⟨wb, 0, none⟩) low nv) (reader_teller [] rb W0.heap.size (some ⟨wb, 0, none⟩) low nv) hb hf hl8 (TR.start hs hB.size) hne ⟨_, _, hs, by decide, by decide⟩ hfs h0 hB hw0 hr0 hl)
  obtain ⟨E, hE⟩ : ∃ E, E = inOrderE (check3S fs.length) l := ⟨_, rfl⟩
  rw [← hE] at HO ⊢
  have HSb := Lib.hid hs
  have HB := Lib.hid hB
  have c0 := hs.c00
  obtain ⟨n, hn⟩ : ∃ n, n = l.length := ⟨_, rfl⟩
  rw [← hn] at HO ⊢
  have HW := Lib.hid (And.intro hw0 hr0)
  clear hs hb hf hl8 hne hfs h0 hB hl hE hn hw0 hr0
  go_enter Tryz.func54, Tryz.ntmps54
  go_wp2_with fail
  refine Calls.mono HO.out ?_
  rintro z W1 ⟨rfl, h1, h2⟩
  clear HO c0
  by_cases hz : E = 0
  · obtain ⟨xs, ys, W2, O, k1, k2, k3, k4, k5⟩ := h2 hz
    obtain ⟨zs, ov, Or, sb, rw1, hno, hsub, hx⟩ := k5.tell.st
    obtain ⟨av, cv, rfl⟩ := rows_form3 rw1.row
    have HH := Lib.hid (handOut_any sb)
    have HK := Lib.hid (And.intro k1 (And.intro k2 (And.intro k3 (And.intro k4 (And.intro k5 (And.intro rw1 (And.intro hno (And.intro hsub hx))))))))
    subst hz
    clear h1 h2 k1 k2 k3 k4 k5 sb rw1 hno hsub hx
    go_wp2_with fail
    refine Calls.mono HH.out ?_
    rintro z2 X2 ⟨rfl, sb2, gr2⟩
    have HG := Lib.hid gr2
    clear sb2 gr2 HH
    go_wp2
    go_ret2
    obtain ⟨k1, k2, k3, k4, k5, rw1, hno, hsub, hx⟩ := HK.out
    obtain ⟨hw0, hr0⟩ := HW.out
    have gr := HG.out
    have b := HB.out
    have szW : W0.heap.size ≤ W2.heap.size := Nat.le_trans b.size k4.size
    refine ⟨⟨gr.os.trans (k5.os.trans (k4.os.trans b.os)), gr.tape.trans (k5.tape.trans (k4.tape.trans b.tape)), gr.output.trans (k5.output.trans (k4.output.trans b.output)), Nat.le_trans szW (Nat.le_trans k5.fr.1 gr.size), fun i hi => ?_⟩, xs, k1, ys, k2, k3, zs, .slice av zs.length cv, rfl, ⟨Or, rw1.keep (fun i hi => gr.block i (k5.tell.lt i (hsub i hi)) (fun z => by cases z; exact hno hi))⟩, hx⟩
    rw [gr.block i (Nat.lt_of_lt_of_le hi (Nat.le_trans szW k5.fr.1)) (fun z => by cases z; omega), k5.fr.2 i (Nat.lt_of_lt_of_le hi szW) (by omega) (by omega) (fun z => z), k4.block i (Nat.lt_of_lt_of_le hi b.size)]
    exact b.block i hi
  · have b1 := h1 hz
    have HH := Lib.hid (handOut_any (HSb.out.later b1))
    have HB1 := Lib.hid b1
    have HZ := Lib.hid hz
    clear h1 h2 b1 hz
    go_wp2_with fail
    refine Calls.mono HH.out ?_
    rintro z2 X2 ⟨rfl, sb2, gr2⟩
    have HG := Lib.hid gr2
    clear sb2 gr2 HH
    go_wp2
    go_ret2
    obtain ⟨hw0, hr0⟩ := HW.out
    have gr := HG.out
    have b := HB.out
    have b1 := HB1.out
    refine ⟨⟨gr.os.trans (b1.os.trans b.os), gr.tape.trans (b1.tape.trans b.tape), gr.output.trans (b1.output.trans b.output), Nat.le_trans b.size (Nat.le_trans b1.size gr.size), fun i hi => ?_⟩, fun _ => rfl, fun z => absurd z HZ.out⟩
    rw [gr.block i (Nat.lt_of_lt_of_le hi (Nat.le_trans b.size b1.size)) (fun z => by cases z; omega), b1.block i (Nat.lt_of_lt_of_le hi b.size)]
    exact b.block i hi
theorem reader_ok {C : Nat} {clock low nv : Int} (h : readerS C clock low nv = 0) : boundsS C [clock, low] = 0 ∧ 1 ≤ nv ∧ nv ≤ 16 := by
  unfold readerS at h
  by_cases hb : boundsS C [clock, low] = 0
  · rw [if_neg (by simpa using hb)] at h
    by_cases hv : nv < 1 ∨ 16 < nv
    · rw [if_pos hv] at h; cases h
    · exact ⟨hb, by omega, by omega⟩
  · rw [if_pos hb] at h
    exact absurd h hb
def readE (C : Nat) (fs : List FamD) (clock low nv : Int) (l : List EntD) : Int := if readerS C clock low nv ≠ 0 then readerS C clock low nv else inOrderE (check3S fs.length) l

set_option maxRecDepth 100000 in
set_option maxHeartbeats 4000000 in
theorem read_any (SP : SortP) {W : World} {cap fc : Nat} {a fa : Option Addr} {fs : List FamD} {l : List EntD} (hr : RdF W (.slice fa fs.length fc) fs) (hn : fa = none → fc = 0) (C : Nat) (hC : (C = 0 ↔ SchemaOk fs) ∧ (C = 0 ∨ C = 28)) (clock low nv : Int) (h0 : RdL3 W a cap l) (hl : l.length ≤ 1353245080300) :
    Calls Tryz.prog 21 #[.agg #[.slice fa fs.length fc], .int .i64 clock, .int .i64 low, .int .i64 nv, .slice a l.length cap] W fun r W' => Below W.heap.size W W' ∧ (readE C fs clock low nv l ≠ 0 → r = .returned (.tuple #[.slice none 0 0, .int .i64 (readE C fs clock low nv l)])) ∧ (readE C fs clock low nv l = 0 → ∃ (xs ys zs : List EntD) (v : Value) (O : Nat → Prop), onceS l = some xs ∧ ys.Perm xs ∧ (ys.Pairwise fun x y => compareS x y ≤ 0) ∧ r = .returned (.tuple #[v, .int .i64 0]) ∧ Rw W' W.heap.size v zs O ∧ zs.map EntD.dat = (showS low nv (verdictsS (mt fs) clock (ys.map EntD.dat))).2) := by
  have HF : Hid (∀ Z, Below W.heap.size W Z → Calls Tryz.prog 32 #[.agg #[.slice fa fs.length fc], .int .i64 clock, .int .i64 low, .int .i64 nv] Z _) := fun Z b => newReader_any (hr.later b) hn C hC clock low nv
  obtain ⟨E, hE⟩ : ∃ E, E = readE C fs clock low nv l := ⟨_, rfl⟩
  obtain ⟨R, hR⟩ : ∃ R, R = readerS C clock low nv := ⟨_, rfl⟩
  have HE : Hid (E = if R ≠ 0 then R else inOrderE (check3S fs.length) l) := by unfold Hid; rw [hE, hR]; rfl
  rw [← hE]
  have HOk : Hid (R = 0 → fs.length ≤ 8 ∧ ∀ f ∈ fs, 0 ≤ f.tl ∧ f.tl ≤ 1099511627776) := fun z => by
    have hs := hC.1.1 (bounds_ok (reader_ok (hR.symm.trans z)).1).1
    refine ⟨hs.1.2, fun f hf => ?_⟩
    obtain ⟨i, hi⟩ := List.getElem?_of_mem hf
    exact (hs.2 i f hi).1.2.2
  simp only [← hR] at HF
  have HA := Lib.hid ((Below.refl W.heap.size W).alloc (Nat.le_refl _) (.cells #[.slice fa fs.length fc] 27))
  have H0 := Lib.hid h0
  have HL := Lib.hid hl
  obtain ⟨n, hn2⟩ : ∃ n, n = l.length := ⟨_, rfl⟩
  rw [← hn2]
  have HN := Lib.hid hn2
  obtain ⟨k, hk⟩ : ∃ k, k = fs.length := ⟨_, rfl⟩
  rw [← hk] at HF HA ⊢
  have HK := Lib.hid hk
  clear hr hn hC h0 hl hE hR hn2 hk
  go_enter Tryz.func21, Tryz.ntmps21
  go_wp2_with fail
  refine Calls.mono (HF.out _ HA.out) ?_
  rintro z W1 ⟨b1, h1, h2⟩
  have B1 := HA.out.trans (b1.mono HA.out.size)
  have HB1 := Lib.hid B1
  by_cases hz : R = 0
  · obtain ⟨fb, wb, a', c', rfl, hfb, hwb, hne, sb, wx, of⟩ := h2 hz
    obtain ⟨h8, hfs⟩ := HOk.out hz
    have l1 : W.heap.size ≤ (W.alloc (.cells #[.slice fa k fc] 27)).heap.size := HA.out.size
    have HEq : Hid (E = inOrderE (check3S fs.length) l) := by unfold Hid; rw [HE.out, if_neg (by simpa using hz)]
    have HV := Lib.hid (rover_any SP sb (by rw [HK.out] at wx; exact wx) (by rw [HK.out] at of; exact of) h8 (Ne.symm hne) hfs H0.out B1 (Nat.le_trans l1 hwb) (Nat.le_trans l1 hfb) HL.out)
    rw [← HEq.out, ← HN.out] at HV
    subst hz
    clear h1 h2 b1 B1 sb wx of hfb hwb hne hfs h8 HF HOk l1
    go_wp2_with fail
    refine Calls.mono HV.out ?_
    rintro z2 W2 ⟨q1, q2, q3⟩
    by_cases hz : E = 0
    · obtain ⟨xs, ys, zs, v, O, k1, k2, k3, rfl, k5, k6⟩ := q3 hz
      have HQ := Lib.hid (And.intro q1 (And.intro hz (And.intro k1 (And.intro k2 (And.intro k3 (And.intro k5 k6))))))
      clear q1 q2 q3 hz k1 k2 k3 k5 k6 HV
      go_wp2
      go_ret2
      obtain ⟨q1, hz, k1, k2, k3, k5, k6⟩ := HQ.out
      exact ⟨q1, fun z => absurd hz z, fun _ => ⟨xs, ys, zs, v, O, k1, k2, k3, rfl, k5, k6⟩⟩
    · have hz2 := q2 hz
      subst hz2
      have HQ := Lib.hid (And.intro q1 hz)
      clear q1 q2 q3 hz HV
      go_wp2
      go_ret2
      exact ⟨HQ.out.1, fun _ => rfl, fun z => absurd z HQ.out.2⟩
  · have hz2 := h1 hz
    subst hz2
    have b0 : (R != 0) = true := by simp [hz]
    have HEq : Hid (E = R ∧ R ≠ 0) := ⟨by rw [HE.out, if_pos hz], hz⟩
    clear h1 h2 b1 B1 hz HF HOk
    go_wp2
    go_ret2
    exact ⟨HB1.out, fun _ => by rw [HEq.out.1]; rfl, fun z => absurd (HEq.out.1.symm.trans z) HEq.out.2⟩
end Go.Proofs.YthhkpkfpifllkaaGreat

namespace Go.Proofs.YthhkpkfpifllkaaGreat
open Go.RowKit
set_option linter.unusedVariables false

theorem own_low {w : World} {B B' n : Nat} {v : Value} {xs : List Nat} (h : Own w B v n xs) (k : B' ≤ B) : Own w B' v n xs := ⟨h.1, row_low h.2 k⟩
theorem O3.low {w : World} {B B' : Nat} {x : EntD} (h : O3 w B x) (k : B' ≤ B) : O3 w B' x := ⟨own_low h.row k, own_low h.qual k, own_low h.val k, h.arq, h.arv, h.aqv⟩
theorem Rw.low {w : World} {B B' : Nat} {v : Value} {xs : List EntD} {O : Nat → Prop} (h : Rw w B v xs O) (k : B' ≤ B) : Rw w B' v xs O := ⟨row_low h.row k, fun x hx => (h.ents x hx).low k, h.ap, h.rowO, h.entO⟩

set_option maxRecDepth 100000 in
set_option maxHeartbeats 4000000 in
theorem vis_any (SP : SortP) {W : World} {cap fc : Nat} {a fa : Option Addr} {fs : List FamD} {l : List EntD} (hr : RdF W (.slice fa fs.length fc) fs) (hn : fa = none → fc = 0) (C : Nat) (hC : (C = 0 ↔ SchemaOk fs) ∧ (C = 0 ∨ C = 28)) (clock : Int) (h0 : RdL3 W a cap l) (hl : l.length ≤ 1353245080300) :
    Calls Tryz.prog 19 #[.agg #[.slice fa fs.length fc], .int .i64 clock, .slice a l.length cap] W fun r W' => Below W.heap.size W W' ∧ (readE C fs clock 1099511627776 16 l ≠ 0 → r = .returned (.tuple #[.slice none 0 0, .int .i64 (readE C fs clock 1099511627776 16 l)])) ∧ (readE C fs clock 1099511627776 16 l = 0 → ∃ (xs ys zs : List EntD) (v : Value) (O : Nat → Prop), onceS l = some xs ∧ ys.Perm xs ∧ (ys.Pairwise fun x y => compareS x y ≤ 0) ∧ r = .returned (.tuple #[v, .int .i64 0]) ∧ Rw W' W.heap.size v zs O ∧ zs.map EntD.dat = (showS 1099511627776 16 (verdictsS (mt fs) clock (ys.map EntD.dat))).2) := by
  have HA := Lib.hid ((Below.refl W.heap.size W).alloc (Nat.le_refl _) (.cells #[.slice fa fs.length fc] 27))
  have HV := Lib.hid (read_any SP (hr.later HA.out) hn C hC clock 1099511627776 16 (h0.later HA.out) hl)
  obtain ⟨E, hE⟩ : ∃ E, E = readE C fs clock 1099511627776 16 l := ⟨_, rfl⟩
  rw [← hE] at HV ⊢
  obtain ⟨n, hn2⟩ : ∃ n, n = l.length := ⟨_, rfl⟩
  rw [← hn2] at HV ⊢
  obtain ⟨k, hk⟩ : ∃ k, k = fs.length := ⟨_, rfl⟩
  rw [← hk] at HV HA ⊢
  clear hr hn hC h0 hl hE hn2 hk
  go_enter Tryz.func19, Tryz.ntmps19
  go_wp2_with fail
  refine Calls.mono HV.out ?_
  rintro z2 W2 ⟨q1, q2, q3⟩
  by_cases hz : E = 0
  · obtain ⟨xs, ys, zs, v, O, k1, k2, k3, rfl, k5, k6⟩ := q3 hz
    have HQ := Lib.hid (And.intro q1 (And.intro hz (And.intro k1 (And.intro k2 (And.intro k3 (And.intro k5 k6))))))
    clear q1 q2 q3 hz k1 k2 k3 k5 k6 HV
    go_wp2
    go_ret2
    obtain ⟨q1, hz, k1, k2, k3, k5, k6⟩ := HQ.out
    exact ⟨HA.out.trans (q1.mono HA.out.size), fun z => absurd hz z, fun _ => ⟨xs, ys, zs, v, O, k1, k2, k3, rfl, k5.low HA.out.size, k6⟩⟩
  · have hz2 := q2 hz
    subst hz2
    have HQ := Lib.hid (And.intro q1 hz)
    clear q1 q2 q3 hz HV
    go_wp2
    go_ret2
    exact ⟨HA.out.trans (HQ.out.1.mono HA.out.size), fun _ => rfl, fun z => absurd z HQ.out.2⟩
end Go.Proofs.YthhkpkfpifllkaaGreat

namespace Go.Proofs.YthhkpkfpifllkaaGreat
open Go.RowKit
set_option linter.unusedVariables false

def topE (C : Nat) (fs : List FamD) (clock : Int) (l : List EntD) : Int := if boundsS C [clock] ≠ 0 then boundsS C [clock] else inOrderE (check3S fs.length) l

set_option maxRecDepth 100000 in
set_option maxHeartbeats 4000000 in
theorem top_any (SP : SortP) {W : World} {cap fc : Nat} {a fa : Option Addr} {fs : List FamD} {l : List EntD} (hr : RdF W (.slice fa fs.length fc) fs) (hn : fa = none → fc = 0) (C : Nat) (hC : (C = 0 ↔ SchemaOk fs) ∧ (C = 0 ∨ C = 28)) (clock : Int) (h0 : RdL3 W a cap l) (hl : l.length ≤ 1353245080300) :
    Calls Tryz.prog 25 #[.agg #[.slice fa fs.length fc], .int .i64 clock, .slice a l.length cap] W fun r W' => Below W.heap.size W W' ∧ (topE C fs clock l ≠ 0 → r = .returned (.tuple #[.int .i64 0, .int .i64 (topE C fs clock l)])) ∧ (topE C fs clock l = 0 → ∃ (xs ys : List EntD), onceS l = some xs ∧ ys.Perm xs ∧ (ys.Pairwise fun x y => compareS x y ≤ 0) ∧ r = .returned (.tuple #[.int .i64 (topS (verdictsS (mt fs) clock (ys.map EntD.dat))), .int .i64 0])) := by
  have A1 := (Below.refl W.heap.size W).alloc (Nat.le_refl _) (.cells #[.slice fa fs.length fc] 27)
  have A2 := A1.alloc A1.size (.cells #[.int .i64 clock] 3)
  obtain ⟨k, hk⟩ : ∃ k, k = fs.length := ⟨_, rfl⟩
  have HR : Hid (∀ Z, Below W.heap.size W Z → RdF Z (.slice fa k fc) fs) := fun Z b => by rw [hk]; exact hr.later b
  obtain ⟨E, hE⟩ : ∃ E, E = topE C fs clock l := ⟨_, rfl⟩
  obtain ⟨R, hR⟩ : ∃ R, R = boundsS C [clock] := ⟨_, rfl⟩
  have HE : Hid (E = if R ≠ 0 then R else inOrderE (check3S fs.length) l) := by unfold Hid; rw [hE, hR]; rfl
  have HOk : Hid (R = 0 → fs.length ≤ 8 ∧ ∀ f ∈ fs, 0 ≤ f.tl ∧ f.tl ≤ 1099511627776) := fun z => by
    have hs := hC.1.1 (bounds_ok (hR.symm.trans z)).1
    refine ⟨hs.1.2, fun f hf => ?_⟩
    obtain ⟨i, hi⟩ := List.getElem?_of_mem hf
    exact (hs.2 i f hi).1.2.2
  have HRR := Lib.hid hR
  have HN := Lib.hid hn
  have HC := Lib.hid hC
  have HK := Lib.hid hk
  have H0 := Lib.hid h0
  have HL := Lib.hid hl
  obtain ⟨n, hn2⟩ : ∃ n, n = l.length := ⟨_, rfl⟩
  have HN2 := Lib.hid hn2
  rw [← hk] at A1 A2
  rw [← hE, ← hn2, ← hk]
  have HA2 := Lib.hid A2
  clear hr hn hC A1 A2 hR hk hE h0 hl hn2
  go_enter Tryz.func25, Tryz.ntmps25
  go_wp2_with fail
  have HI : Hid (RdI ((W.alloc (.cells #[.slice fa k fc] 27)).alloc (.cells #[.int .i64 clock] 3)) (.slice (some ⟨W.heap.size + 1, 0, none⟩) 1 1) [clock]) := by
    refine ⟨W.heap.size + 1, 0, 1, rfl, by simp, fun i t hi => ?_⟩
    have hw : ((W.alloc (.cells #[.slice fa k fc] 27)).alloc (.cells #[.int .i64 clock] 3)).heap[W.heap.size + 1]? = some (.cells #[.int .i64 clock] 3 (0, 0)) := by
      have := heap_new (W.alloc (.cells #[.slice fa k fc] 27)) (.cells #[.int .i64 clock] 3)
      simpa using this
    match i, hi with
    | 0, hi => simp only [List.getElem?_cons_zero, Option.some.injEq] at hi; subst hi; exact cell_of hw rfl
    | i + 1, hi => simp at hi
  refine Calls.mono (checkBounds_any (HR.out _ HA2.out) C HC.out HI.out) ?_
  rintro z W1 ⟨rfl, b1⟩
  rw [← HRR.out]
  have B1 := HA2.out.trans (b1.mono HA2.out.size)
  have s0 : W1.cell? ⟨W.heap.size, 0, none⟩ = some (.slice fa k fc) := by
    rw [b1.cell (p := ⟨W.heap.size, 0, none⟩) (by simp; omega)]
    simp
  have HB1 := Lib.hid B1
  clear b1 B1 HI HA2 HRR
  by_cases hz : R = 0
  · have b0 : (R != 0) = false := by simp [hz]
    obtain ⟨h8, hfs⟩ := HOk.out hz
    have HEq : Hid (E = inOrderE (check3S fs.length) l) := by unfold Hid; rw [HE.out, if_neg (by simpa using hz)]
    have H8 := Lib.hid (And.intro h8 hfs)
    clear hz h8 hfs HOk HE
    have A3 := (Below.refl W1.heap.size W1).alloc (Nat.le_refl _) (.cells #[.int .i64 0] 112)
    have pb : PBx (W1.alloc (.cells #[.int .i64 0] 112)) W1.heap.size 0 := heap_new W1 _
    have s1 : (W1.alloc (.cells #[.int .i64 0] 112)).cell? ⟨W.heap.size, 0, none⟩ = some (.slice fa k fc) := by rw [A3.cell (p := ⟨W.heap.size, 0, none⟩) (World.block_lt_of_cell? W1 _ s0)]; exact s0
    have HA3 := Lib.hid A3
    have HPb := Lib.hid pb
    clear A3 pb s0
    go_wp2_with fail
    have hB3 := HB1.out.trans (HA3.out.mono HB1.out.size)
    have hnw := newWalk_any (by have := HR.out _ hB3; rw [HK.out] at this; exact this) HN.out H8.out.1 clock (.func (.func 59) #[.pointer (some ⟨W1.heap.size, 0, none⟩)] #[]) ⟨_, _, _, rfl⟩
    rw [← HK.out] at hnw
    refine Calls.mono hnw ?_
    rintro z W2 ⟨wb, a', c', rfl, hwb, hwx, hof, hb2⟩
    clear hnw
    have szX : (W1.alloc (.cells #[.int .i64 0] 112)).heap.size = W1.heap.size + 1 := by simp
    have pb2 := HPb.out.keep (hb2.block W1.heap.size HPb.out.lt)
    rw [szX] at hwb
    have l1 := HB1.out.size
    have hB4 := hB3.trans (hb2.mono hB3.size)
    have HV := Lib.hid (over_all SP (peak_teller W1.heap.size) (by rw [HK.out] at hwx; exact hwx) (by rw [HK.out] at hof; exact hof) H8.out.1 (TP.start pb2) (by omega) ⟨_, _, pb2, by decide, by decide⟩ H8.out.2 H0.out hB4 (by omega) l1 HL.out)
    rw [← HEq.out, ← HN2.out] at HV
    have HB4 := Lib.hid hB4
    have HL1 := Lib.hid (And.intro l1 hwb)
    have HPb2 := Lib.hid pb2
    clear hB4 hB3 hb2 hwx hof pb2 hwb szX l1 s1 HA3 HPb
    go_wp2_with fail
    refine Calls.mono HV.out ?_
    rintro z W3 ⟨rfl, h1, h2⟩
    clear HV
    by_cases hz : E = 0
    · obtain ⟨xs, ys, W4, O, k1, k2, k3, k4, k5⟩ := h2 hz
      have p0 := k5.tell.st.c0
      have HQ := Lib.hid (And.intro k1 (And.intro k2 (And.intro k3 (And.intro k4 k5))))
      subst hz
      clear h1 h2 k1 k2 k3 k4 k5
      go_wp2
      go_ret2
      obtain ⟨k1, k2, k3, k4, k5⟩ := HQ.out
      obtain ⟨l1, l2⟩ := HL1.out
      have b := HB4.out
      have szW : W.heap.size ≤ W4.heap.size := Nat.le_trans b.size k4.size
      refine ⟨⟨k5.os.trans (k4.os.trans b.os), k5.tape.trans (k4.tape.trans b.tape), k5.output.trans (k4.output.trans b.output), Nat.le_trans szW k5.fr.1, fun i hi => ?_⟩, xs, k1, ys, k2, k3, rfl⟩
      rw [k5.fr.2 i (Nat.lt_of_lt_of_le hi szW) (by omega) (by omega) (fun z => z), k4.block i (Nat.lt_of_lt_of_le hi b.size)]
      exact b.block i hi
    · have b1 : (E != 0) = true := by simp [hz]
      have HQ := Lib.hid (And.intro hz (h1 hz))
      clear h1 h2 hz
      go_wp2
      go_ret2
      have b := HB4.out
      have b3 := HQ.out.2
      exact ⟨b.trans (b3.mono b.size), fun _ => rfl, fun z => absurd z HQ.out.1⟩
  · have b0 : (R != 0) = true := by simp [hz]
    have HEq : Hid (E = R ∧ R ≠ 0) := ⟨by rw [HE.out, if_pos hz], hz⟩
    clear hz HOk HE
    go_wp2
    go_ret2
    exact ⟨HB1.out, fun _ => by rw [HEq.out.1]; rfl, fun z => absurd (HEq.out.1.symm.trans z) HEq.out.2⟩
end Go.Proofs.YthhkpkfpifllkaaGreat

namespace Go.Proofs.YthhkpkfpifllkaaGreat
open Go.RowKit
set_option linter.unusedVariables false

theorem ordC_mid (x l e : List Nat) (h : ordC x l ≤ 0) (k : ordC l e ≤ 0) (he : x = e) : l = e := by
  subst he
  have := ordC_swap x l
  exact (ordC_eq _ _ (by omega)).symm
structure Ah (a b : En) : Prop where
  row : ordC a.row b.row ≤ 0
  fam : a.row = b.row → a.fam ≤ b.fam
  k5 : a.row = b.row → a.fam = b.fam → b.kind = 5 → a.kind = 5
  qual : a.row = b.row → a.fam = b.fam → (a.kind = 5 ↔ b.kind = 5) → ordC a.qual b.qual ≤ 0
  k4 : a.row = b.row → a.fam = b.fam → (a.kind = 5 ↔ b.kind = 5) → a.qual = b.qual → b.kind = 4 → a.kind = 4
  ts : a.row = b.row → a.fam = b.fam → (a.kind = 5 ↔ b.kind = 5) → a.qual = b.qual → (a.kind = 4 ↔ b.kind = 4) → b.ts ≤ a.ts
  seq : a.row = b.row → a.fam = b.fam → (a.kind = 5 ↔ b.kind = 5) → a.qual = b.qual → (a.kind = 4 ↔ b.kind = 4) → a.ts = b.ts → b.seq < a.seq
structure Va (e : En) : Prop where
  k1 : 1 ≤ e.kind
  k5 : e.kind ≤ 5
  ts : 1 ≤ e.ts
  val : e.kind ≠ 1 → e.val = []
  qual : e.kind = 5 → e.qual = []
theorem Ah.midF {x l e : En} (h : x = l ∨ Ah x l) (k : Ah l e) (hr : x.row = e.row) (hf : x.fam = e.fam) : l.row = e.row ∧ l.fam = e.fam := by
  rcases h with rfl | h
  · exact ⟨hr, hf⟩
  · have r := ordC_mid _ _ _ h.row k.row hr
    have f1 := h.fam (hr.trans r.symm)
    have f2 := k.fam r
    exact ⟨r, by omega⟩
theorem Ah.midC {x l e : En} (h : x = l ∨ Ah x l) (k : Ah l e) (hr : x.row = e.row) (hf : x.fam = e.fam) (h5 : x.kind ≠ 5) (hq : x.qual = e.qual) : l.kind ≠ 5 ∧ l.qual = e.qual ∧ e.kind ≠ 5 := by
  obtain ⟨r, f⟩ := Ah.midF h k hr hf
  rcases h with rfl | h
  · exact ⟨h5, hq, fun z => h5 (k.k5 r f z)⟩
  · have l5 : l.kind ≠ 5 := fun z => h5 (h.k5 (hr.trans r.symm) (hf.trans f.symm) z)
    have e5 : e.kind ≠ 5 := fun z => l5 (k.k5 r f z)
    exact ⟨l5, ordC_mid _ _ _ (h.qual (hr.trans r.symm) (hf.trans f.symm) (by omega)) (k.qual r f (by omega)) hq, e5⟩
theorem Ah.midG {x l e : En} (h : x = l ∨ Ah x l) (k : Ah l e) (hr : x.row = e.row) (hf : x.fam = e.fam) (h3 : x.kind ≤ 3) (hq : x.qual = e.qual) (e3 : e.kind ≤ 3) (ht : x.ts = e.ts) : l.kind ≠ 4 ∧ l.ts = e.ts := by
  obtain ⟨r, f⟩ := Ah.midF h k hr hf
  obtain ⟨l5, q, e5⟩ := Ah.midC h k hr hf (by omega) hq
  rcases h with rfl | h
  · exact ⟨by omega, ht⟩
  · have l4 : l.kind ≠ 4 := fun z => by have := h.k4 (hr.trans r.symm) (hf.trans f.symm) (by omega) (hq.trans q.symm) z; omega
    have t1 := h.ts (hr.trans r.symm) (hf.trans f.symm) (by omega) (hq.trans q.symm) (by omega)
    have t2 := k.ts r f (by omega) q (by omega)
    exact ⟨l4, by omega⟩
def mates (x e : En) : Bool := decide (x.row = e.row ∧ x.fam = e.fam ∧ x.qual = e.qual)
theorem mates_iff {x e : En} : mates x e = true ↔ x.row = e.row ∧ x.fam = e.fam ∧ x.qual = e.qual := by simp [mates]
def cover (x e : En) : Bool := decide (x.row = e.row ∧ x.fam = e.fam ∧ (x.kind = 5 ∨ x.kind = 4 ∧ e.kind ≠ 5 ∧ x.qual = e.qual))
theorem cover_iff {x e : En} : cover x e = true ↔ x.row = e.row ∧ x.fam = e.fam ∧ (x.kind = 5 ∨ x.kind = 4 ∧ e.kind ≠ 5 ∧ x.qual = e.qual) := by simp [cover]
def maskOf (m : List En) (e : En) : Int := m.foldr (fun x r => if cover x e then max x.ts r else r) 0
theorem maskOf_cons (x : En) (m : List En) (e : En) : maskOf (x :: m) e = if cover x e then max x.ts (maskOf m e) else maskOf m e := rfl
theorem maskOf_nn (m : List En) (e : En) : 0 ≤ maskOf m e := by
  induction m with
  | nil => exact Int.le_refl _
  | cons x m ih => rw [maskOf_cons]; split <;> omega
theorem maskOf_le {m : List En} {e x : En} (hx : x ∈ m) (hc : cover x e = true) : x.ts ≤ maskOf m e := by
  induction m with
  | nil => cases hx
  | cons y m ih =>
    rw [maskOf_cons]
    rcases List.mem_cons.1 hx with rfl | hx
    · rw [if_pos hc]; omega
    · have := ih hx
      split <;> omega
theorem maskOf_att (m : List En) (e : En) : maskOf m e = 0 ∨ ∃ x ∈ m, cover x e = true ∧ x.ts = maskOf m e := by
  induction m with
  | nil => exact .inl rfl
  | cons y m ih =>
    rw [maskOf_cons]
    by_cases hc : cover y e = true
    · rw [if_pos hc]
      by_cases hm : maskOf m e ≤ y.ts
      · exact .inr ⟨y, List.mem_cons_self, hc, by omega⟩
      · rcases ih with h | ⟨x, hx, c, t⟩
        · exact .inl (by omega)
        · exact .inr ⟨x, List.mem_cons_of_mem _ hx, c, by omega⟩
    · rw [if_neg hc]
      rcases ih with h | ⟨x, hx, c, t⟩
      · exact .inl h
      · exact .inr ⟨x, List.mem_cons_of_mem _ hx, c, t⟩
theorem maskOf_mono {m m' : List En} {e e' : En} (h : ∀ x ∈ m, cover x e = true → x ∈ m' ∧ cover x e' = true) : maskOf m e ≤ maskOf m' e' := by
  rcases maskOf_att m e with h0 | ⟨x, hx, c, t⟩
  · rw [h0]; exact maskOf_nn _ _
  · rw [← t]; exact maskOf_le (h x hx c).1 (h x hx c).2
theorem maskOf_congr {m m' : List En} {e e' : En} (h : ∀ x ∈ m, cover x e = true → x ∈ m' ∧ cover x e' = true) (k : ∀ x ∈ m', cover x e' = true → x ∈ m ∧ cover x e = true) : maskOf m e = maskOf m' e' :=
  Int.le_antisymm (maskOf_mono h) (maskOf_mono k)
theorem maskOf_zero {m : List En} {e : En} (h : ∀ x ∈ m, cover x e = false) : maskOf m e = 0 := by
  rcases maskOf_att m e with h0 | ⟨x, hx, c, t⟩
  · exact h0
  · rw [h x hx] at c; cases c
def gpE (x e : En) : Bool := decide (x.kind ≤ 3 ∧ e.kind ≤ 3 ∧ x.row = e.row ∧ x.fam = e.fam ∧ x.qual = e.qual ∧ x.ts = e.ts)
theorem gpE_iff {x e : En} : gpE x e = true ↔ x.kind ≤ 3 ∧ e.kind ≤ 3 ∧ x.row = e.row ∧ x.fam = e.fam ∧ x.qual = e.qual ∧ x.ts = e.ts := by simp [gpE]
def decidesS (m : List En) (e : En) : Bool := m.all fun x => !gpE x e || decide (x.seq ≤ e.seq)
theorem decides_iff {m : List En} {e : En} : decidesS m e = true ↔ ∀ x ∈ m, gpE x e = true → x.seq ≤ e.seq := by
  unfold decidesS
  rw [List.all_eq_true]
  refine ⟨fun h x hx hg => ?_, fun h x hx => ?_⟩
  · have := h x hx
    simpa [hg] using this
  · by_cases hg : gpE x e = true
    · simp [hg, h x hx hg]
    · simp [hg]
def hasPut (m : List En) (e : En) : Bool := m.any fun x => gpE x e && decide (x.kind ≠ 3)
theorem hasPut_iff {m : List En} {e : En} : hasPut m e = true ↔ ∃ x ∈ m, gpE x e = true ∧ x.kind ≠ 3 := by
  unfold hasPut
  simp
def kd (m : List En) (e : En) : Int := if e.kind = 3 ∧ hasPut m e = true then 2 else e.kind
def shadow (m : List En) (x : En) : Bool := m.any fun y => cover y x && decide (x.ts < y.ts ∨ x.ts = y.ts ∧ (x.kind < y.kind ∨ x.seq < y.seq))
theorem shadow_iff {m : List En} {x : En} : shadow m x = true ↔ ∃ y ∈ m, cover y x = true ∧ (x.ts < y.ts ∨ x.ts = y.ts ∧ (x.kind < y.kind ∨ x.seq < y.seq)) := by
  unfold shadow
  simp only [List.any_eq_true, Bool.and_eq_true, decide_eq_true_eq]
section
variable (fs : List (Int × Int)) (clock : Int)
def expS (e : En) : Bool := decide (0 < (famAt fs e.fam).2 ∧ e.ts + (famAt fs e.fam).2 ≤ clock)
def counts (m : List En) (x : En) : Bool := decide (x.kind ≤ 3) && decidesS m x && decide (kd m x ≠ 3) && decide (maskOf m x < x.ts) && !expS fs clock x
def cnt (m p : List En) (e : En) : Int := ((p.filter fun x => counts fs clock m x && mates x e).length : Nat)
def above (m : List En) (e : En) : Int := ((m.filter fun x => counts fs clock m x && mates x e && decide (e.ts < x.ts)).length : Nat)
def sv (m : List En) (e : En) : Vd :=
  if 4 ≤ e.kind then ⟨e, if shadow m e then 8 else 7, 0⟩
  else if decidesS m e then (decideS fs clock { Sp.zero with mask := maskOf m e, rank := above fs clock m e } { e with kind := kd m e }).1
  else ⟨e, 1, 0⟩
end
def kept (v : Vd) : Bool := decide (v.fate ≠ 1)
theorem counts_iff {fs : List (Int × Int)} {clock : Int} {m : List En} {x : En} : counts fs clock m x = true ↔ x.kind ≤ 3 ∧ decidesS m x = true ∧ kd m x ≠ 3 ∧ maskOf m x < x.ts ∧ expS fs clock x = false := by
  unfold counts
  simp only [Bool.and_eq_true, decide_eq_true_eq, Bool.not_eq_true', and_assoc]
section
variable {fs : List (Int × Int)} {clock : Int}
theorem decide_sv {m : List En} {σ : Sp} {t : En} (h3 : t.kind ≤ 3) (hd : decidesS m t = true) (hm : σ.mask = maskOf m t) (hr : σ.rank = above fs clock m t) :
    (decideS fs clock σ { t with kind := kd m t }).1 = sv fs clock m t ∧ (decideS fs clock σ { t with kind := kd m t }).2 = { σ with rank := σ.rank + if counts fs clock m t = true then 1 else 0 } := by
  have hc := counts_iff (fs := fs) (clock := clock) (m := m) (x := t)
  obtain ⟨b, l, f, mk, rk, wt, sq⟩ := σ
  simp only at hm hr
  subst hm hr
  unfold sv
  rw [if_neg (by omega), if_pos hd]
  unfold decideS
  by_cases h1 : t.ts ≤ maskOf m t
  · have c0 : counts fs clock m t = false := Bool.eq_false_iff.2 (fun c => by have := (hc.1 c).2.2.2.1; omega)
    simp [h1, c0]
  · by_cases h2 : 0 < (famAt fs t.fam).2 ∧ t.ts + (famAt fs t.fam).2 ≤ clock
    · have c0 : counts fs clock m t = false := Bool.eq_false_iff.2 (fun c => by have := (hc.1 c).2.2.2.2; simp [expS, h2] at this)
      simp [h1, h2, c0]
    · by_cases h4 : kd m t = 3
      · have c0 : counts fs clock m t = false := Bool.eq_false_iff.2 (fun c => (hc.1 c).2.2.1 h4)
        simp only [if_neg h1, if_neg h2, if_pos h4, c0]
        simp
      · have c0 : counts fs clock m t = true := hc.2 ⟨h3, hd, h4, by omega, by simpa [expS] using h2⟩
        simp only [if_neg h1, if_neg h2, if_neg h4, c0]
        simp
theorem cnt_app (m p q : List En) (e : En) : cnt fs clock m (p ++ q) e = cnt fs clock m p e + cnt fs clock m q e := by
  unfold cnt
  rw [List.filter_append, List.length_append]
  omega
theorem cnt_zero {m p : List En} {e : En} (h : ∀ x ∈ p, counts fs clock m x = true → mates x e = false) : cnt fs clock m p e = 0 := by
  unfold cnt
  rw [List.filter_eq_nil_iff.2]
  · rfl
  · intro x hx hc
    simp only [Bool.and_eq_true] at hc
    rw [h x hx hc.1] at hc
    exact absurd hc.2 (by simp)
theorem cnt_congr {m p : List En} {e e' : En} (h : e.row = e'.row ∧ e.fam = e'.fam ∧ e.qual = e'.qual) : cnt fs clock m p e = cnt fs clock m p e' := by
  unfold cnt
  have : ∀ x, mates x e = mates x e' := fun x => by simp only [mates, h.1, h.2.1, h.2.2]
  simp only [this]
theorem cnt_one (m : List En) (x e : En) (hm : mates x e = true) : cnt fs clock m [x] e = if counts fs clock m x = true then 1 else 0 := by
  unfold cnt
  by_cases h : counts fs clock m x = true
  · simp [h, hm]
  · simp [h]
theorem above_cnt {m r q : List En} {t : En} (hm : m = r ++ t :: q) (hs : m.Pairwise Ah) (hv : ∀ e ∈ m, Va e) (h3 : t.kind ≤ 3) (hn : ∀ x ∈ r, gpE x t = false) : above fs clock m t = cnt fs clock m r t := by
  unfold above cnt
  have hp := List.pairwise_append.1 (hm ▸ hs)
  have hq := List.pairwise_cons.1 hp.2.1
  have e : ∀ (P : En → Bool), (m.filter P) = r.filter P ++ (t :: q).filter P := fun P => by rw [hm, List.filter_append]
  rw [e, (List.filter_eq_nil_iff (l := t :: q)).2, List.append_nil]
  · congr 2
    apply List.filter_congr
    intro x hx
    by_cases hc : counts fs clock m x = true
    · by_cases hM : mates x t = true
      · have h1 := mates_iff.1 hM
        have h2 := (counts_iff.1 hc).1
        have ha := hp.2.2 x hx t List.mem_cons_self
        have ht := ha.ts h1.1 h1.2.1 (by omega) h1.2.2 (by omega)
        have : ¬ x.ts = t.ts := fun z => by
          have := gpE_iff.2 ⟨h2, h3, h1.1, h1.2.1, h1.2.2, z⟩
          rw [hn x hx] at this
          cases this
        have h9 : t.ts < x.ts := by omega
        simp [h9]
      · simp [hM]
    · simp [hc]
  · intro x hx hc
    simp only [Bool.and_eq_true, decide_eq_true_eq] at hc
    rcases List.mem_cons.1 hx with rfl | hx
    · omega
    · have h1 := mates_iff.1 hc.1.2
      have h2 := (counts_iff.1 hc.1.1).1
      have ha := hq.1 x hx
      have := ha.ts h1.1.symm h1.2.1.symm (by omega) h1.2.2.symm (by omega)
      omega
theorem mask_part {m r q : List En} {t : En} (hm : m = r ++ t :: q) (hs : m.Pairwise Ah) (h3 : t.kind ≤ 3) : maskOf m t = maskOf r t := by
  have hp := List.pairwise_append.1 (hm ▸ hs)
  have hq := List.pairwise_cons.1 hp.2.1
  refine maskOf_congr (fun x hx c => ⟨?_, c⟩) (fun x hx c => ⟨by rw [hm]; exact List.mem_append_left _ hx, c⟩)
  rw [hm] at hx
  rcases List.mem_append.1 hx with h | h
  · exact h
  · exfalso
    have cc := cover_iff.1 c
    rcases List.mem_cons.1 h with rfl | h
    · omega
    · have ha := hq.1 x h
      rcases cc.2.2 with k | ⟨k, k5, kq⟩
      · have := ha.k5 cc.1.symm cc.2.1.symm k; omega
      · have := ha.k4 cc.1.symm cc.2.1.symm (by omega) kq.symm k; omega
theorem first_decides {m r q : List En} {t : En} (hm : m = r ++ t :: q) (hs : m.Pairwise Ah) (hn : ∀ x ∈ r, gpE x t = false) : decidesS m t = true := by
  have hp := List.pairwise_append.1 (hm ▸ hs)
  have hq := List.pairwise_cons.1 hp.2.1
  refine decides_iff.2 fun x hx hg => ?_
  rw [hm] at hx
  rcases List.mem_append.1 hx with h | h
  · rw [hn x h] at hg; cases hg
  · rcases List.mem_cons.1 h with rfl | h
    · exact Int.le_refl _
    · obtain ⟨g1, g2, g3, g4, g5, g6⟩ := gpE_iff.1 hg
      have := (hq.1 x h).seq g3.symm g4.symm (by omega) g5.symm (by omega) g6.symm
      omega
theorem later_not {m r q : List En} {e l : En} (hm : m = r ++ e :: q) (hs : m.Pairwise Ah) (hl : l ∈ r) (hg : gpE l e = true) : decidesS m e = false := by
  have hp := List.pairwise_append.1 (hm ▸ hs)
  cases h : decidesS m e with
  | false => rfl
  | true =>
    have := decides_iff.1 h l (by rw [hm]; exact List.mem_append_left _ hl) hg
    obtain ⟨g1, g2, g3, g4, g5, g6⟩ := gpE_iff.1 hg
    have := (hp.2.2 l hl e List.mem_cons_self).seq g3 g4 (by omega) g5 (by omega) g6
    omega
end
end Go.Proofs.YthhkpkfpifllkaaGreat
