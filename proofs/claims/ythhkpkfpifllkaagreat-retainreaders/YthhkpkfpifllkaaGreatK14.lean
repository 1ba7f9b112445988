import Derived.Test.YthhkpkfpifllkaaGreatK13
import Derived.Shelf.SlSortCmp.NoneTotal
namespace Go.Proofs.YthhkpkfpifllkaaGreat
open Go.RowKit
set_option linter.unusedVariables false

set_option maxRecDepth 100000 in
set_option maxHeartbeats 4000000 in
theorem fover_any (SP : SortP) {W W0 : World} {wb rb B cap fc : Nat} {a fa : Option Addr} {fs : List FamD} {clock low : Int} {major : Bool} {l : List EntD} (hs : SBx W rb (.pointer (some ⟨wb, 0, none⟩)) (.slice none 0 0) (fBc major low ⟨0, 0, 0, 0, 0⟩) 107) (hb : WBx W wb (.slice fa fs.length fc) clock (.func (.func 70) #[.pointer (some ⟨rb, 0, none⟩)] #[]) spZ) (hf : OwnF W B (.slice fa fs.length fc) fs.length fs) (hl8 : fs.length ≤ 8) (hne : wb ≠ rb) (hfs : ∀ f ∈ fs, 0 ≤ f.tl ∧ f.tl ≤ 1099511627776)
    (h0 : RdL3 W0 a cap l) (hB : Below W0.heap.size W0 W) (hw0 : W0.heap.size ≤ wb) (hr0 : W0.heap.size ≤ rb) (hl : l.length ≤ 1353245080300) :
    Calls Tryz.prog 54 #[.pointer (some ⟨rb, 0, none⟩), .slice a l.length cap] W fun r W' => Below W0.heap.size W0 W' ∧ (inOrderE (check3S fs.length) l ≠ 0 → r = .returned (.tuple #[.slice none 0 0, .int .i64 (inOrderE (check3S fs.length) l)])) ∧ (inOrderE (check3S fs.length) l = 0 → ∃ (xs ys zs : List EntD) (v : Value) (O : Nat → Prop), onceS l = some xs ∧ ys.Perm xs ∧ (ys.Pairwise fun x y => compareS x y ≤ 0) ∧ r = .returned (.tuple #[v, .int .i64 0]) ∧ Rw W' W0.heap.size v zs O ∧ zs.map EntD.dat = outS major low (verdictsS (mt fs) clock (ys.map EntD.dat))) := by
  have HO := Lib.hid (over_all SP (T := TF [] rb W0.heap.size (.pointer (some ⟨wb, 0, none⟩)) major low) (filter_teller [] rb W0.heap.size (.pointer (some ⟨wb, 0, none⟩)) major low) hb hf hl8 (TF.start hs hB.size) hne ⟨_, _, hs, by decide, by decide⟩ hfs h0 hB hw0 hr0 hl)
  obtain ⟨E, hE⟩ : ∃ E, E = inOrderE (check3S fs.length) l := ⟨_, rfl⟩
  rw [← hE] at HO ⊢
  have HSb := Lib.hid hs
  have HB := Lib.hid hB
  have c0 := hs.c00
  obtain ⟨n, hn⟩ : ∃ n, n = l.length := ⟨_, rfl⟩
  rw [← hn] at HO ⊢
  have HW := Lib.hid (And.intro hw0 hr0)
  clear hs hb hf hl8 hne hfs h0 hB hl hE hn hw0 hr0
  go_enter Tryz.func54, Tryz.ntmps54
  go_wp2_with fail
  refine Calls.mono HO.out ?_
  rintro z W1 ⟨rfl, h1, h2⟩
  clear HO c0
  by_cases hz : E = 0
  · obtain ⟨xs, ys, W2, O, k1, k2, k3, k4, k5⟩ := h2 hz
    obtain ⟨zs, ov, Or, sb, rw1, hno, hsub, hx⟩ := k5.tell.st
    obtain ⟨av, cv, rfl⟩ := rows_form3 rw1.row
    have HH := Lib.hid (handOut_any sb)
    have HK := Lib.hid (And.intro k1 (And.intro k2 (And.intro k3 (And.intro k4 (And.intro k5 (And.intro rw1 (And.intro hno (And.intro hsub hx))))))))
    subst hz
    clear h1 h2 k1 k2 k3 k4 k5 sb rw1 hno hsub hx
    go_wp2_with fail
    refine Calls.mono HH.out ?_
    rintro z2 X2 ⟨rfl, sb2, gr2⟩
    have HG := Lib.hid gr2
    clear sb2 gr2 HH
    go_wp2
    go_ret2
    obtain ⟨k1, k2, k3, k4, k5, rw1, hno, hsub, hx⟩ := HK.out
    obtain ⟨hw0, hr0⟩ := HW.out
    have gr := HG.out
    have b := HB.out
    have szW : W0.heap.size ≤ W2.heap.size := Nat.le_trans b.size k4.size
    refine ⟨⟨gr.os.trans (k5.os.trans (k4.os.trans b.os)), gr.tape.trans (k5.tape.trans (k4.tape.trans b.tape)), gr.output.trans (k5.output.trans (k4.output.trans b.output)), Nat.le_trans szW (Nat.le_trans k5.fr.1 gr.size), fun i hi => ?_⟩, xs, k1, ys, k2, k3, zs, .slice av zs.length cv, rfl, ⟨Or, rw1.keep (fun i hi => gr.block i (k5.tell.lt i (hsub i hi)) (fun z => by cases z; exact hno hi))⟩, hx⟩
    rw [gr.block i (Nat.lt_of_lt_of_le hi (Nat.le_trans szW k5.fr.1)) (fun z => by cases z; omega), k5.fr.2 i (Nat.lt_of_lt_of_le hi szW) (by omega) (by omega) (fun z => z), k4.block i (Nat.lt_of_lt_of_le hi b.size)]
    exact b.block i hi
  · have b1 := h1 hz
    have HH := Lib.hid (handOut_any (HSb.out.later b1))
    have HB1 := Lib.hid b1
    have HZ := Lib.hid hz
    clear h1 h2 b1 hz
    go_wp2_with fail
    refine Calls.mono HH.out ?_
    rintro z2 X2 ⟨rfl, sb2, gr2⟩
    have HG := Lib.hid gr2
    clear sb2 gr2 HH
    go_wp2
    go_ret2
    obtain ⟨hw0, hr0⟩ := HW.out
    have gr := HG.out
    have b := HB.out
    have b1 := HB1.out
    refine ⟨⟨gr.os.trans (b1.os.trans b.os), gr.tape.trans (b1.tape.trans b.tape), gr.output.trans (b1.output.trans b.output), Nat.le_trans b.size (Nat.le_trans b1.size gr.size), fun i hi => ?_⟩, fun _ => rfl, fun z => absurd z HZ.out⟩
    rw [gr.block i (Nat.lt_of_lt_of_le hi (Nat.le_trans b.size b1.size)) (fun z => by cases z; omega), b1.block i (Nat.lt_of_lt_of_le hi b.size)]
    exact b.block i hi
def squashE (C : Nat) (fs : List FamD) (clock low : Int) (l : List EntD) : Int := if boundsS C [clock, low] ≠ 0 then boundsS C [clock, low] else inOrderE (check3S fs.length) l

set_option maxRecDepth 100000 in
set_option maxHeartbeats 4000000 in
theorem squash_any (SP : SortP) {W : World} {cap fc : Nat} {a fa : Option Addr} {fs : List FamD} {l : List EntD} (hr : RdF W (.slice fa fs.length fc) fs) (hn : fa = none → fc = 0) (C : Nat) (hC : (C = 0 ↔ SchemaOk fs) ∧ (C = 0 ∨ C = 28)) (clock low : Int) (major : Bool) (h0 : RdL3 W a cap l) (hl : l.length ≤ 1353245080300) :
    Calls Tryz.prog 23 #[.agg #[.slice fa fs.length fc], .int .i64 clock, .bool major, .int .i64 low, .slice a l.length cap] W fun r W' => Below W.heap.size W W' ∧ (squashE C fs clock low l ≠ 0 → r = .returned (.tuple #[.slice none 0 0, .int .i64 (squashE C fs clock low l)])) ∧ (squashE C fs clock low l = 0 → ∃ (xs ys zs : List EntD) (v : Value) (O : Nat → Prop), onceS l = some xs ∧ ys.Perm xs ∧ (ys.Pairwise fun x y => compareS x y ≤ 0) ∧ r = .returned (.tuple #[v, .int .i64 0]) ∧ Rw W' W.heap.size v zs O ∧ zs.map EntD.dat = outS major low (verdictsS (mt fs) clock (ys.map EntD.dat))) := by
  have HF : Hid (∀ Z, Below W.heap.size W Z → Calls Tryz.prog 31 #[.agg #[.slice fa fs.length fc], .int .i64 clock, .bool major, .int .i64 low] Z _) := fun Z b => newFilter_any (hr.later b) hn C hC clock low major
  obtain ⟨E, hE⟩ : ∃ E, E = squashE C fs clock low l := ⟨_, rfl⟩
  obtain ⟨R, hR⟩ : ∃ R, R = boundsS C [clock, low] := ⟨_, rfl⟩
  have HE : Hid (E = if R ≠ 0 then R else inOrderE (check3S fs.length) l) := by unfold Hid; rw [hE, hR]; rfl
  rw [← hE]
  have HOk : Hid (R = 0 → fs.length ≤ 8 ∧ ∀ f ∈ fs, 0 ≤ f.tl ∧ f.tl ≤ 1099511627776) := fun z => by
    have hs := hC.1.1 (bounds_ok (hR.symm.trans z)).1
    refine ⟨hs.1.2, fun f hf => ?_⟩
    obtain ⟨i, hi⟩ := List.getElem?_of_mem hf
    exact (hs.2 i f hi).1.2.2
  simp only [← hR] at HF
  have HA := Lib.hid ((Below.refl W.heap.size W).alloc (Nat.le_refl _) (.cells #[.slice fa fs.length fc] 27))
  have H0 := Lib.hid h0
  have HL := Lib.hid hl
  obtain ⟨n, hn2⟩ : ∃ n, n = l.length := ⟨_, rfl⟩
  rw [← hn2]
  have HN := Lib.hid hn2
  obtain ⟨k, hk⟩ : ∃ k, k = fs.length := ⟨_, rfl⟩
  rw [← hk] at HF HA ⊢
  have HK := Lib.hid hk
  clear hr hn hC h0 hl hE hR hn2 hk
  go_enter Tryz.func23, Tryz.ntmps23
  go_wp2_with fail
  refine Calls.mono (HF.out _ HA.out) ?_
  rintro z W1 ⟨b1, h1, h2⟩
  have B1 := HA.out.trans (b1.mono HA.out.size)
  have HB1 := Lib.hid B1
  by_cases hz : R = 0
  · obtain ⟨fb, wb, a', c', rfl, hfb, hwb, hne, sb, wx, of⟩ := h2 hz
    obtain ⟨h8, hfs⟩ := HOk.out hz
    have l1 : W.heap.size ≤ (W.alloc (.cells #[.slice fa k fc] 27)).heap.size := HA.out.size
    have HEq : Hid (E = inOrderE (check3S fs.length) l) := by unfold Hid; rw [HE.out, if_neg (by simpa using hz)]
    have HV := Lib.hid (fover_any SP sb (by rw [HK.out] at wx; exact wx) (by rw [HK.out] at of; exact of) h8 (Ne.symm hne) hfs H0.out B1 (Nat.le_trans l1 hwb) (Nat.le_trans l1 hfb) HL.out)
    rw [← HEq.out, ← HN.out] at HV
    subst hz
    clear h1 h2 b1 B1 sb wx of hfb hwb hne hfs h8 HF HOk l1
    go_wp2_with fail
    refine Calls.mono HV.out ?_
    rintro z2 W2 ⟨q1, q2, q3⟩
    by_cases hz : E = 0
    · obtain ⟨xs, ys, zs, v, O, k1, k2, k3, rfl, k5, k6⟩ := q3 hz
      have HQ := Lib.hid (And.intro q1 (And.intro hz (And.intro k1 (And.intro k2 (And.intro k3 (And.intro k5 k6))))))
      clear q1 q2 q3 hz k1 k2 k3 k5 k6 HV
      go_wp2
      go_ret2
      obtain ⟨q1, hz, k1, k2, k3, k5, k6⟩ := HQ.out
      exact ⟨q1, fun z => absurd hz z, fun _ => ⟨xs, ys, zs, v, O, k1, k2, k3, rfl, k5, k6⟩⟩
    · have hz2 := q2 hz
      subst hz2
      have HQ := Lib.hid (And.intro q1 hz)
      clear q1 q2 q3 hz HV
      go_wp2
      go_ret2
      exact ⟨HQ.out.1, fun _ => rfl, fun z => absurd z HQ.out.2⟩
  · have hz2 := h1 hz
    subst hz2
    have b0 : (R != 0) = true := by simp [hz]
    have HEq : Hid (E = R ∧ R ≠ 0) := ⟨by rw [HE.out, if_pos hz], hz⟩
    clear h1 h2 b1 B1 hz HF HOk
    go_wp2
    go_ret2
    exact ⟨HB1.out, fun _ => by rw [HEq.out.1]; rfl, fun z => absurd (HEq.out.1.symm.trans z) HEq.out.2⟩
end Go.Proofs.YthhkpkfpifllkaaGreat

namespace Go.Proofs.YthhkpkfpifllkaaGreat
open Go.RowKit
set_option linter.unusedVariables false

set_option maxRecDepth 100000 in
set_option maxHeartbeats 4000000 in
theorem rover_any (SP : SortP) {W W0 : World} {wb rb B cap fc : Nat} {a fa : Option Addr} {fs : List FamD} {clock low nv : Int} {l : List EntD} (hs : SBx W rb (.pointer (some ⟨wb, 0, none⟩)) (.slice none 0 0) (rBc low nv 0) 103) (hb : WBx W wb (.slice fa fs.length fc) clock (.func (.func 71) #[.pointer (some ⟨rb, 0, none⟩)] #[]) spZ) (hf : OwnF W B (.slice fa fs.length fc) fs.length fs) (hl8 : fs.length ≤ 8) (hne : wb ≠ rb) (hfs : ∀ f ∈ fs, 0 ≤ f.tl ∧ f.tl ≤ 1099511627776)
    (h0 : RdL3 W0 a cap l) (hB : Below W0.heap.size W0 W) (hw0 : W0.heap.size ≤ wb) (hr0 : W0.heap.size ≤ rb) (hl : l.length ≤ 1353245080300) :
    Calls Tryz.prog 54 #[.pointer (some ⟨rb, 0, none⟩), .slice a l.length cap] W fun r W' => Below W0.heap.size W0 W' ∧ (inOrderE (check3S fs.length) l ≠ 0 → r = .returned (.tuple #[.slice none 0 0, .int .i64 (inOrderE (check3S fs.length) l)])) ∧ (inOrderE (check3S fs.length) l = 0 → ∃ (xs ys zs : List EntD) (v : Value) (O : Nat → Prop), onceS l = some xs ∧ ys.Perm xs ∧ (ys.Pairwise fun x y => compareS x y ≤ 0) ∧ r = .returned (.tuple #[v, .int .i64 0]) ∧ Rw W' W0.heap.size v zs O ∧ zs.map EntD.dat = (showS low nv (verdictsS (mt fs) clock (ys.map EntD.dat))).2) := by
  have HO := Lib.hid (over_all SP (T := TR [] rb W0.heap.size (some ⟨wb, 0, none⟩) low nv) (reader_teller [] rb W0.heap.size (some ⟨wb, 0, none⟩) low nv) hb hf hl8 (TR.start hs hB.size) hne ⟨_, _, hs, by decide, by decide⟩ hfs h0 hB hw0 hr0 hl)
  obtain ⟨E, hE⟩ : ∃ E, E = inOrderE (check3S fs.length) l := ⟨_, rfl⟩
  rw [← hE] at HO ⊢
  have HSb := Lib.hid hs
  have HB := Lib.hid hB
  have c0 := hs.c00
  obtain ⟨n, hn⟩ : ∃ n, n = l.length := ⟨_, rfl⟩
  rw [← hn] at HO ⊢
  have HW := Lib.hid (And.intro hw0 hr0)
  clear hs hb hf hl8 hne hfs h0 hB hl hE hn hw0 hr0
  go_enter Tryz.func54, Tryz.ntmps54
  go_wp2_with fail
  refine Calls.mono HO.out ?_
  rintro z W1 ⟨rfl, h1, h2⟩
  clear HO c0
  by_cases hz : E = 0
  · obtain ⟨xs, ys, W2, O, k1, k2, k3, k4, k5⟩ := h2 hz
    obtain ⟨zs, ov, Or, sb, rw1, hno, hsub, hx⟩ := k5.tell.st
    obtain ⟨av, cv, rfl⟩ := rows_form3 rw1.row
    have HH := Lib.hid (handOut_any sb)
    have HK := Lib.hid (And.intro k1 (And.intro k2 (And.intro k3 (And.intro k4 (And.intro k5 (And.intro rw1 (And.intro hno (And.intro hsub hx))))))))
    subst hz
    clear h1 h2 k1 k2 k3 k4 k5 sb rw1 hno hsub hx
    go_wp2_with fail
    refine Calls.mono HH.out ?_
    rintro z2 X2 ⟨rfl, sb2, gr2⟩
    have HG := Lib.hid gr2
    clear sb2 gr2 HH
    go_wp2
    go_ret2
    obtain ⟨k1, k2, k3, k4, k5, rw1, hno, hsub, hx⟩ := HK.out
    obtain ⟨hw0, hr0⟩ := HW.out
    have gr := HG.out
    have b := HB.out
    have szW : W0.heap.size ≤ W2.heap.size := Nat.le_trans b.size k4.size
    refine ⟨⟨gr.os.trans (k5.os.trans (k4.os.trans b.os)), gr.tape.trans (k5.tape.trans (k4.tape.trans b.tape)), gr.output.trans (k5.output.trans (k4.output.trans b.output)), Nat.le_trans szW (Nat.le_trans k5.fr.1 gr.size), fun i hi => ?_⟩, xs, k1, ys, k2, k3, zs, .slice av zs.length cv, rfl, ⟨Or, rw1.keep (fun i hi => gr.block i (k5.tell.lt i (hsub i hi)) (fun z => by cases z; exact hno hi))⟩, hx⟩
    rw [gr.block i (Nat.lt_of_lt_of_le hi (Nat.le_trans szW k5.fr.1)) (fun z => by cases z; omega), k5.fr.2 i (Nat.lt_of_lt_of_le hi szW) (by omega) (by omega) (fun z => z), k4.block i (Nat.lt_of_lt_of_le hi b.size)]
    exact b.block i hi
  · have b1 := h1 hz
    have HH := Lib.hid (handOut_any (HSb.out.later b1))
    have HB1 := Lib.hid b1
    have HZ := Lib.hid hz
    clear h1 h2 b1 hz
    go_wp2_with fail
    refine Calls.mono HH.out ?_
    rintro z2 X2 ⟨rfl, sb2, gr2⟩
    have HG := Lib.hid gr2
    clear sb2 gr2 HH
    go_wp2
    go_ret2
    obtain ⟨hw0, hr0⟩ := HW.out
    have gr := HG.out
    have b := HB.out
    have b1 := HB1.out
    refine ⟨⟨gr.os.trans (b1.os.trans b.os), gr.tape.trans (b1.tape.trans b.tape), gr.output.trans (b1.output.trans b.output), Nat.le_trans b.size (Nat.le_trans b1.size gr.size), fun i hi => ?_⟩, fun _ => rfl, fun z => absurd z HZ.out⟩
    rw [gr.block i (Nat.lt_of_lt_of_le hi (Nat.le_trans b.size b1.size)) (fun z => by cases z; omega), b1.block i (Nat.lt_of_lt_of_le hi b.size)]
    exact b.block i hi
theorem reader_ok {C : Nat} {clock low nv : Int} (h : readerS C clock low nv = 0) : boundsS C [clock, low] = 0 ∧ 1 ≤ nv ∧ nv ≤ 16 := by
  unfold readerS at h
  by_cases hb : boundsS C [clock, low] = 0
  · rw [if_neg (by simpa using hb)] at h
    by_cases hv : nv < 1 ∨ 16 < nv
    · rw [if_pos hv] at h; cases h
    · exact ⟨hb, by omega, by omega⟩
  · rw [if_pos hb] at h
    exact absurd h hb
def readE (C : Nat) (fs : List FamD) (clock low nv : Int) (l : List EntD) : Int := if readerS C clock low nv ≠ 0 then readerS C clock low nv else inOrderE (check3S fs.length) l

set_option maxRecDepth 100000 in
set_option maxHeartbeats 4000000 in
theorem read_any (SP : SortP) {W : World} {cap fc : Nat} {a fa : Option Addr} {fs : List FamD} {l : List EntD} (hr : RdF W (.slice fa fs.length fc) fs) (hn : fa = none → fc = 0) (C : Nat) (hC : (C = 0 ↔ SchemaOk fs) ∧ (C = 0 ∨ C = 28)) (clock low nv : Int) (h0 : RdL3 W a cap l) (hl : l.length ≤ 1353245080300) :
    Calls Tryz.prog 21 #[.agg #[.slice fa fs.length fc], .int .i64 clock, .int .i64 low, .int .i64 nv, .slice a l.length cap] W fun r W' => Below W.heap.size W W' ∧ (readE C fs clock low nv l ≠ 0 → r = .returned (.tuple #[.slice none 0 0, .int .i64 (readE C fs clock low nv l)])) ∧ (readE C fs clock low nv l = 0 → ∃ (xs ys zs : List EntD) (v : Value) (O : Nat → Prop), onceS l = some xs ∧ ys.Perm xs ∧ (ys.Pairwise fun x y => compareS x y ≤ 0) ∧ r = .returned (.tuple #[v, .int .i64 0]) ∧ Rw W' W.heap.size v zs O ∧ zs.map EntD.dat = (showS low nv (verdictsS (mt fs) clock (ys.map EntD.dat))).2) := by
  have HF : Hid (∀ Z, Below W.heap.size W Z → Calls Tryz.prog 32 #[.agg #[.slice fa fs.length fc], .int .i64 clock, .int .i64 low, .int .i64 nv] Z _) := fun Z b => newReader_any (hr.later b) hn C hC clock low nv
  obtain ⟨E, hE⟩ : ∃ E, E = readE C fs clock low nv l := ⟨_, rfl⟩
  obtain ⟨R, hR⟩ : ∃ R, R = readerS C clock low nv := ⟨_, rfl⟩
  have HE : Hid (E = if R ≠ 0 then R else inOrderE (check3S fs.length) l) := by unfold Hid; rw [hE, hR]; rfl
  rw [← hE]
  have HOk : Hid (R = 0 → fs.length ≤ 8 ∧ ∀ f ∈ fs, 0 ≤ f.tl ∧ f.tl ≤ 1099511627776) := fun z => by
    have hs := hC.1.1 (bounds_ok (reader_ok (hR.symm.trans z)).1).1
    refine ⟨hs.1.2, fun f hf => ?_⟩
    obtain ⟨i, hi⟩ := List.getElem?_of_mem hf
    exact (hs.2 i f hi).1.2.2
  simp only [← hR] at HF
  have HA := Lib.hid ((Below.refl W.heap.size W).alloc (Nat.le_refl _) (.cells #[.slice fa fs.length fc] 27))
  have H0 := Lib.hid h0
  have HL := Lib.hid hl
  obtain ⟨n, hn2⟩ : ∃ n, n = l.length := ⟨_, rfl⟩
  rw [← hn2]
  have HN := Lib.hid hn2
  obtain ⟨k, hk⟩ : ∃ k, k = fs.length := ⟨_, rfl⟩
  rw [← hk] at HF HA ⊢
  have HK := Lib.hid hk
  clear hr hn hC h0 hl hE hR hn2 hk
  go_enter Tryz.func21, Tryz.ntmps21
  go_wp2_with fail
  refine Calls.mono (HF.out _ HA.out) ?_
  rintro z W1 ⟨b1, h1, h2⟩
  have B1 := HA.out.trans (b1.mono HA.out.size)
  have HB1 := Lib.hid B1
  by_cases hz : R = 0
  · obtain ⟨fb, wb, a', c', rfl, hfb, hwb, hne, sb, wx, of⟩ := h2 hz
    obtain ⟨h8, hfs⟩ := HOk.out hz
    have l1 : W.heap.size ≤ (W.alloc (.cells #[.slice fa k fc] 27)).heap.size := HA.out.size
    have HEq : Hid (E = inOrderE (check3S fs.length) l) := by unfold Hid; rw [HE.out, if_neg (by simpa using hz)]
    have HV := Lib.hid (rover_any SP sb (by rw [HK.out] at wx; exact wx) (by rw [HK.out] at of; exact of) h8 (Ne.symm hne) hfs H0.out B1 (Nat.le_trans l1 hwb) (Nat.le_trans l1 hfb) HL.out)
    rw [← HEq.out, ← HN.out] at HV
    subst hz
    clear h1 h2 b1 B1 sb wx of hfb hwb hne hfs h8 HF HOk l1
    go_wp2_with fail
    refine Calls.mono HV.out ?_
    rintro z2 W2 ⟨q1, q2, q3⟩
    by_cases hz : E = 0
    · obtain ⟨xs, ys, zs, v, O, k1, k2, k3, rfl, k5, k6⟩ := q3 hz
      have HQ := Lib.hid (And.intro q1 (And.intro hz (And.intro k1 (And.intro k2 (And.intro k3 (And.intro k5 k6))))))
      clear q1 q2 q3 hz k1 k2 k3 k5 k6 HV
      go_wp2
      go_ret2
      obtain ⟨q1, hz, k1, k2, k3, k5, k6⟩ := HQ.out
      exact ⟨q1, fun z => absurd hz z, fun _ => ⟨xs, ys, zs, v, O, k1, k2, k3, rfl, k5, k6⟩⟩
    · have hz2 := q2 hz
      subst hz2
      have HQ := Lib.hid (And.intro q1 hz)
      clear q1 q2 q3 hz HV
      go_wp2
      go_ret2
      exact ⟨HQ.out.1, fun _ => rfl, fun z => absurd z HQ.out.2⟩
  · have hz2 := h1 hz
    subst hz2
    have b0 : (R != 0) = true := by simp [hz]
    have HEq : Hid (E = R ∧ R ≠ 0) := ⟨by rw [HE.out, if_pos hz], hz⟩
    clear h1 h2 b1 B1 hz HF HOk
    go_wp2
    go_ret2
    exact ⟨HB1.out, fun _ => by rw [HEq.out.1]; rfl, fun z => absurd (HEq.out.1.symm.trans z) HEq.out.2⟩
end Go.Proofs.YthhkpkfpifllkaaGreat

namespace Go.Proofs.YthhkpkfpifllkaaGreat
open Go.RowKit
set_option linter.unusedVariables false

theorem own_low {w : World} {B B' n : Nat} {v : Value} {xs : List Nat} (h : Own w B v n xs) (k : B' ≤ B) : Own w B' v n xs := ⟨h.1, row_low h.2 k⟩
theorem O3.low {w : World} {B B' : Nat} {x : EntD} (h : O3 w B x) (k : B' ≤ B) : O3 w B' x := ⟨own_low h.row k, own_low h.qual k, own_low h.val k, h.arq, h.arv, h.aqv⟩
theorem Rw.low {w : World} {B B' : Nat} {v : Value} {xs : List EntD} {O : Nat → Prop} (h : Rw w B v xs O) (k : B' ≤ B) : Rw w B' v xs O := ⟨row_low h.row k, fun x hx => (h.ents x hx).low k, h.ap, h.rowO, h.entO⟩

set_option maxRecDepth 100000 in
set_option maxHeartbeats 4000000 in
theorem vis_any (SP : SortP) {W : World} {cap fc : Nat} {a fa : Option Addr} {fs : List FamD} {l : List EntD} (hr : RdF W (.slice fa fs.length fc) fs) (hn : fa = none → fc = 0) (C : Nat) (hC : (C = 0 ↔ SchemaOk fs) ∧ (C = 0 ∨ C = 28)) (clock : Int) (h0 : RdL3 W a cap l) (hl : l.length ≤ 1353245080300) :
    Calls Tryz.prog 19 #[.agg #[.slice fa fs.length fc], .int .i64 clock, .slice a l.length cap] W fun r W' => Below W.heap.size W W' ∧ (readE C fs clock 1099511627776 16 l ≠ 0 → r = .returned (.tuple #[.slice none 0 0, .int .i64 (readE C fs clock 1099511627776 16 l)])) ∧ (readE C fs clock 1099511627776 16 l = 0 → ∃ (xs ys zs : List EntD) (v : Value) (O : Nat → Prop), onceS l = some xs ∧ ys.Perm xs ∧ (ys.Pairwise fun x y => compareS x y ≤ 0) ∧ r = .returned (.tuple #[v, .int .i64 0]) ∧ Rw W' W.heap.size v zs O ∧ zs.map EntD.dat = (showS 1099511627776 16 (verdictsS (mt fs) clock (ys.map EntD.dat))).2) := by
  have HA := Lib.hid ((Below.refl W.heap.size W).alloc (Nat.le_refl _) (.cells #[.slice fa fs.length fc] 27))
  have HV := Lib.hid (read_any SP (hr.later HA.out) hn C hC clock 1099511627776 16 (h0.later HA.out) hl)
  obtain ⟨E, hE⟩ : ∃ E, E = readE C fs clock 1099511627776 16 l := ⟨_, rfl⟩
  rw [← hE] at HV ⊢
  obtain ⟨n, hn2⟩ : ∃ n, n = l.length := ⟨_, rfl⟩
  rw [← hn2] at HV ⊢
  obtain ⟨k, hk⟩ : ∃ k, k = fs.length := ⟨_, rfl⟩
  rw [← hk] at HV HA ⊢
  clear hr hn hC h0 hl hE hn2 hk
  go_enter Tryz.func19, Tryz.ntmps19
  go_wp2_with fail
  refine Calls.mono HV.out ?_
  rintro z2 W2 ⟨q1, q2, q3⟩
  by_cases hz : E = 0
  · obtain ⟨xs, ys, zs, v, O, k1, k2, k3, rfl, k5, k6⟩ := q3 hz
    have HQ := Lib.hid (And.intro q1 (And.intro hz (And.intro k1 (And.intro k2 (And.intro k3 (And.intro k5 k6))))))
    clear q1 q2 q3 hz k1 k2 k3 k5 k6 HV
    go_wp2
    go_ret2
    obtain ⟨q1, hz, k1, k2, k3, k5, k6⟩ := HQ.out
    exact ⟨HA.out.trans (q1.mono HA.out.size), fun z => absurd hz z, fun _ => ⟨xs, ys, zs, v, O, k1, k2, k3, rfl, k5.low HA.out.size, k6⟩⟩
  · have hz2 := q2 hz
    subst hz2
    have HQ := Lib.hid (And.intro q1 hz)
    clear q1 q2 q3 hz HV
    go_wp2
    go_ret2
    exact ⟨HA.out.trans (HQ.out.1.mono HA.out.size), fun _ => rfl, fun z => absurd z HQ.out.2⟩
end Go.Proofs.YthhkpkfpifllkaaGreat

namespace Go.Proofs.YthhkpkfpifllkaaGreat
open Go.RowKit
set_option linter.unusedVariables false

def topE (C : Nat) (fs : List FamD) (clock : Int) (l : List EntD) : Int := if boundsS C [clock] ≠ 0 then boundsS C [clock] else inOrderE (check3S fs.length) l

set_option maxRecDepth 100000 in
set_option maxHeartbeats 4000000 in
theorem top_any (SP : SortP) {W : World} {cap fc : Nat} {a fa : Option Addr} {fs : List FamD} {l : List EntD} (hr : RdF W (.slice fa fs.length fc) fs) (hn : fa = none → fc = 0) (C : Nat) (hC : (C = 0 ↔ SchemaOk fs) ∧ (C = 0 ∨ C = 28)) (clock : Int) (h0 : RdL3 W a cap l) (hl : l.length ≤ 1353245080300) :
    Calls Tryz.prog 25 #[.agg #[.slice fa fs.length fc], .int .i64 clock, .slice a l.length cap] W fun r W' => Below W.heap.size W W' ∧ (topE C fs clock l ≠ 0 → r = .returned (.tuple #[.int .i64 0, .int .i64 (topE C fs clock l)])) ∧ (topE C fs clock l = 0 → ∃ (xs ys : List EntD), onceS l = some xs ∧ ys.Perm xs ∧ (ys.Pairwise fun x y => compareS x y ≤ 0) ∧ r = .returned (.tuple #[.int .i64 (topS (verdictsS (mt fs) clock (ys.map EntD.dat))), .int .i64 0])) := by
  have A1 := (Below.refl W.heap.size W).alloc (Nat.le_refl _) (.cells #[.slice fa fs.length fc] 27)
  have A2 := A1.alloc A1.size (.cells #[.int .i64 clock] 3)
  obtain ⟨k, hk⟩ : ∃ k, k = fs.length := ⟨_, rfl⟩
  have HR : Hid (∀ Z, Below W.heap.size W Z → RdF Z (.slice fa k fc) fs) := fun Z b => by rw [hk]; exact hr.later b
  obtain ⟨E, hE⟩ : ∃ E, E = topE C fs clock l := ⟨_, rfl⟩
  obtain ⟨R, hR⟩ : ∃ R, R = boundsS C [clock] := ⟨_, rfl⟩
  have HE : Hid (E = if R ≠ 0 then R else inOrderE (check3S fs.length) l) := by unfold Hid; rw [hE, hR]; rfl
  have HOk : Hid (R = 0 → fs.length ≤ 8 ∧ ∀ f ∈ fs, 0 ≤ f.tl ∧ f.tl ≤ 1099511627776) := fun z => by
    have hs := hC.1.1 (bounds_ok (hR.symm.trans z)).1
    refine ⟨hs.1.2, fun f hf => ?_⟩
    obtain ⟨i, hi⟩ := List.getElem?_of_mem hf
    exact (hs.2 i f hi).1.2.2
  have HRR := Lib.hid hR
  have HN := Lib.hid hn
  have HC := Lib.hid hC
  have HK := Lib.hid hk
  have H0 := Lib.hid h0
  have HL := Lib.hid hl
  obtain ⟨n, hn2⟩ : ∃ n, n = l.length := ⟨_, rfl⟩
  have HN2 := Lib.hid hn2
  rw [← hk] at A1 A2
  rw [← hE, ← hn2, ← hk]
  have HA2 := Lib.hid A2
  clear hr hn hC A1 A2 hR hk hE h0 hl hn2
  go_enter Tryz.func25, Tryz.ntmps25
  go_wp2_with fail
  have HI : Hid (RdI ((W.alloc (.cells #[.slice fa k fc] 27)).alloc (.cells #[.int .i64 clock] 3)) (.slice (some ⟨W.heap.size + 1, 0, none⟩) 1 1) [clock]) := by
    refine ⟨W.heap.size + 1, 0, 1, rfl, by simp, fun i t hi => ?_⟩
    have hw : ((W.alloc (.cells #[.slice fa k fc] 27)).alloc (.cells #[.int .i64 clock] 3)).heap[W.heap.size + 1]? = some (.cells #[.int .i64 clock] 3 (0, 0)) := by
      have := heap_new (W.alloc (.cells #[.slice fa k fc] 27)) (.cells #[.int .i64 clock] 3)
      simpa using this
    match i, hi with
    | 0, hi => simp only [List.getElem?_cons_zero, Option.some.injEq] at hi; subst hi; exact cell_of hw rfl
    | i + 1, hi => simp at hi
  refine Calls.mono (checkBounds_any (HR.out _ HA2.out) C HC.out HI.out) ?_
  rintro z W1 ⟨rfl, b1⟩
  rw [← HRR.out]
  have B1 := HA2.out.trans (b1.mono HA2.out.size)
  have s0 : W1.cell? ⟨W.heap.size, 0, none⟩ = some (.slice fa k fc) := by
    rw [b1.cell (p := ⟨W.heap.size, 0, none⟩) (by simp; omega)]
    simp
  have HB1 := Lib.hid B1
  clear b1 B1 HI HA2 HRR
  by_cases hz : R = 0
  · have b0 : (R != 0) = false := by simp [hz]
    obtain ⟨h8, hfs⟩ := HOk.out hz
    have HEq : Hid (E = inOrderE (check3S fs.length) l) := by unfold Hid; rw [HE.out, if_neg (by simpa using hz)]
    have H8 := Lib.hid (And.intro h8 hfs)
    clear hz h8 hfs HOk HE
    have A3 := (Below.refl W1.heap.size W1).alloc (Nat.le_refl _) (.cells #[.int .i64 0] 112)
    have pb : PBx (W1.alloc (.cells #[.int .i64 0] 112)) W1.heap.size 0 := heap_new W1 _
    have s1 : (W1.alloc (.cells #[.int .i64 0] 112)).cell? ⟨W.heap.size, 0, none⟩ = some (.slice fa k fc) := by rw [A3.cell (p := ⟨W.heap.size, 0, none⟩) (World.block_lt_of_cell? W1 _ s0)]; exact s0
    have HA3 := Lib.hid A3
    have HPb := Lib.hid pb
    clear A3 pb s0
    go_wp2_with fail
    have hB3 := HB1.out.trans (HA3.out.mono HB1.out.size)
    have hnw := newWalk_any (by have := HR.out _ hB3; rw [HK.out] at this; exact this) HN.out H8.out.1 clock (.func (.func 59) #[.pointer (some ⟨W1.heap.size, 0, none⟩)] #[]) ⟨_, _, _, rfl⟩
    rw [← HK.out] at hnw
    refine Calls.mono hnw ?_
    rintro z W2 ⟨wb, a', c', rfl, hwb, hwx, hof, hb2⟩
    clear hnw
    have szX : (W1.alloc (.cells #[.int .i64 0] 112)).heap.size = W1.heap.size + 1 := by simp
    have pb2 := HPb.out.keep (hb2.block W1.heap.size HPb.out.lt)
    rw [szX] at hwb
    have l1 := HB1.out.size
    have hB4 := hB3.trans (hb2.mono hB3.size)
    have HV := Lib.hid (over_all SP (peak_teller W1.heap.size) (by rw [HK.out] at hwx; exact hwx) (by rw [HK.out] at hof; exact hof) H8.out.1 (TP.start pb2) (by omega) ⟨_, _, pb2, by decide, by decide⟩ H8.out.2 H0.out hB4 (by omega) l1 HL.out)
    rw [← HEq.out, ← HN2.out] at HV
    have HB4 := Lib.hid hB4
    have HL1 := Lib.hid (And.intro l1 hwb)
    have HPb2 := Lib.hid pb2
    clear hB4 hB3 hb2 hwx hof pb2 hwb szX l1 s1 HA3 HPb
    go_wp2_with fail
    refine Calls.mono HV.out ?_
    rintro z W3 ⟨rfl, h1, h2⟩
    clear HV
    by_cases hz : E = 0
    · obtain ⟨xs, ys, W4, O, k1, k2, k3, k4, k5⟩ := h2 hz
      have p0 := k5.tell.st.c0
      have HQ := Lib.hid (And.intro k1 (And.intro k2 (And.intro k3 (And.intro k4 k5))))
      subst hz
      clear h1 h2 k1 k2 k3 k4 k5
      go_wp2
      go_ret2
      obtain ⟨k1, k2, k3, k4, k5⟩ := HQ.out
      obtain ⟨l1, l2⟩ := HL1.out
      have b := HB4.out
      have szW : W.heap.size ≤ W4.heap.size := Nat.le_trans b.size k4.size
      refine ⟨⟨k5.os.trans (k4.os.trans b.os), k5.tape.trans (k4.tape.trans b.tape), k5.output.trans (k4.output.trans b.output), Nat.le_trans szW k5.fr.1, fun i hi => ?_⟩, xs, k1, ys, k2, k3, rfl⟩
      rw [k5.fr.2 i (Nat.lt_of_lt_of_le hi szW) (by omega) (by omega) (fun z => z), k4.block i (Nat.lt_of_lt_of_le hi b.size)]
      exact b.block i hi
    · have b1 : (E != 0) = true := by simp [hz]
      have HQ := Lib.hid (And.intro hz (h1 hz))
      clear h1 h2 hz
      go_wp2
      go_ret2
      have b := HB4.out
      have b3 := HQ.out.2
      exact ⟨b.trans (b3.mono b.size), fun _ => rfl, fun z => absurd z HQ.out.1⟩
  · have b0 : (R != 0) = true := by simp [hz]
    have HEq : Hid (E = R ∧ R ≠ 0) := ⟨by rw [HE.out, if_pos hz], hz⟩
    clear hz HOk HE
    go_wp2
    go_ret2
    exact ⟨HB1.out, fun _ => by rw [HEq.out.1]; rfl, fun z => absurd (HEq.out.1.symm.trans z) HEq.out.2⟩
end Go.Proofs.YthhkpkfpifllkaaGreat

namespace Go.Proofs.YthhkpkfpifllkaaGreat
open Go.RowKit
set_option linter.unusedVariables false

theorem sort_ok : SortP := sort_holds fun c' Z => AnyF.slices_SortFunc_none (P := Tryz.prog) (ρ := laidSort) laysSort none c' _ Z
end Go.Proofs.YthhkpkfpifllkaaGreat

namespace Go.Proofs.YthhkpkfpifllkaaGreat
open Go.RowKit
set_option linter.unusedVariables false

instance (a b : EntD) : Decidable (EntD.Same a b) := by unfold EntD.Same; infer_instance
set_option maxRecDepth 100000 in
theorem alike_any {a b : Value} {xs ys : List Nat} {w : World} (ha : Rd w a xs) (hb : Rd w b ys) :
    Calls Tryz.prog 78 #[a, b] w fun e w' => e = .returned (.bool (decide (xs = ys))) ∧ w' = w := by
  have h1 := conv_str ha
  have h2 := conv_str hb
  go_enter Tryz.func78, Tryz.ntmps78
  go_wp2
  go_ret
  exact ⟨by rw [← beq_str ha.1 hb.1]; rfl, rfl⟩
theorem alikeB_any {a b : Value} {xs ys : List Nat} {w : World} (ha : Rd w a xs) (hb : Rd w b ys) :
    Calls Tryz.prog 78 #[a, b] w fun e w' => e = .returned (.bool (decide (xs = ys))) ∧ Below w.heap.size w w' :=
  Calls.mono (alike_any ha hb) fun r w' h => ⟨h.1, by rw [h.2]; exact Below.refl _ _⟩

set_option maxRecDepth 100000 in
set_option maxHeartbeats 8000000 in
theorem same3r_any {a b : EntD} {w : World} (ha : EntD.Ok w a) (hb : EntD.Ok w b) :
    Calls Tryz.prog 45 #[.agg a.cells, .agg b.cells] w fun r w' => r = .returned (.bool (decide (EntD.Same a b))) ∧ Below w.heap.size w w' := by
  have A1 := (Below.refl w.heap.size w).alloc (Nat.le_refl _) (.cells a.cells 84)
  have A2 := A1.alloc A1.size (.cells b.cells 84)
  have bxa0 := (EBox.new w a).later ((Below.refl (w.alloc (.cells a.cells 84)).heap.size (w.alloc (.cells a.cells 84))).alloc (Nat.le_refl _) (.cells b.cells 84))
  have bxb0 := EBox.new (w.alloc (.cells a.cells 84)) b
  rw [World.size_alloc] at bxb0
  obtain ⟨V, hV⟩ : ∃ V, V = (w.alloc (.cells a.cells 84)).alloc (.cells b.cells 84) := ⟨_, rfl⟩
  rw [← hV] at A2 bxa0 bxb0
  have HV : Hid (V = _) := hV
  clear hV A1
  have HX : Hid (EBox V w.heap.size a ∧ EBox V (w.heap.size + 1) b ∧ Below w.heap.size w V) := ⟨bxa0, bxb0, A2⟩
  have HA : Hid (∀ wx, Below V.heap.size V wx → EntD.Ok wx a ∧ EntD.Ok wx b ∧ EBox wx w.heap.size a ∧ EBox wx (w.heap.size + 1) b) := fun wx q => ⟨(ha.later A2).later q, (hb.later A2).later q, bxa0.later q, bxb0.later q⟩
  obtain ⟨c0, c1, c2, c3, c4, c5, c6⟩ := (⟨bxa0.vr, bxa0.fam, bxa0.vq, bxa0.ts, bxa0.seq, bxa0.kind, bxa0.vv⟩ : _ ∧ _ ∧ _ ∧ _ ∧ _ ∧ _ ∧ _)
  obtain ⟨d0, d1, d2, d3, d4, d5, d6⟩ := (⟨bxb0.vr, bxb0.fam, bxb0.vq, bxb0.ts, bxb0.seq, bxb0.kind, bxb0.vv⟩ : _ ∧ _ ∧ _ ∧ _ ∧ _ ∧ _ ∧ _)
  clear A2 bxa0 bxb0 ha hb
  obtain ⟨va, fa, qa, ta, sa, ka, wa, ra, la, ya⟩ := a
  obtain ⟨vb, fb, qb, tb, sb, kb, wb, rb, lb, yb⟩ := b
  simp only [EntD.cells] at *
  by_cases h1 : fa = fb
  · by_cases h2 : ta = tb
    · by_cases h3 : sa = sb
      · by_cases h4 : ka = kb
        · subst h1 h2 h3 h4
          go_enter Tryz.func45, Tryz.ntmps45
          go_wp2_with fail
          rw [← HV.out]
          go_wp2_with fail
          refine (alikeB_any (HA.out _ (Below.refl _ _)).1.1 (HA.out _ (Below.refl _ _)).2.1.1).mono ?_
          rintro e w1 ⟨rfl, hb1⟩
          by_cases e1 : ra = rb
          · rw [decide_eq_true e1]
            have x2 := (HA.out _ hb1).2.2.1.vq
            have y2 := (HA.out _ hb1).2.2.2.vq
            simp only at x2 y2
            go_wp2_with fail
            refine (alikeB_any (HA.out _ hb1).1.2.1 (HA.out _ hb1).2.1.2.1).mono ?_
            rintro e w2 ⟨rfl, hb2⟩
            have B2 := hb1.trans (hb2.mono hb1.size)
            by_cases e2 : la = lb
            · rw [decide_eq_true e2]
              have x6 := (HA.out _ B2).2.2.1.vv
              have y6 := (HA.out _ B2).2.2.2.vv
              simp only at x6 y6
              go_wp2_with fail
              refine (alikeB_any (HA.out _ B2).1.2.2 (HA.out _ B2).2.1.2.2).mono ?_
              rintro e w3 ⟨rfl, hb3⟩
              have B3 := B2.trans (hb3.mono B2.size)
              by_cases e3 : ya = yb
              · rw [decide_eq_true e3]
                go_wp2
                go_ret
                have hd : decide (EntD.Same ⟨va, fa, qa, ta, sa, ka, wa, ra, la, ya⟩ ⟨vb, fa, qb, ta, sa, ka, wb, rb, lb, yb⟩) = true := decide_eq_true ⟨rfl, rfl, rfl, rfl, e1, e2, e3⟩
                rw [hd]
                exact ⟨rfl, HX.out.2.2.trans (B3.mono HX.out.2.2.size)⟩
              · rw [decide_eq_false e3]
                go_wp2
                go_ret
                rw [decide_eq_false (show ¬ EntD.Same _ _ from fun h => e3 h.2.2.2.2.2.2)]
                exact ⟨rfl, HX.out.2.2.trans (B3.mono HX.out.2.2.size)⟩
            · rw [decide_eq_false e2]
              go_wp2
              go_ret
              rw [decide_eq_false (show ¬ EntD.Same _ _ from fun h => e2 h.2.2.2.2.2.1)]
              exact ⟨rfl, HX.out.2.2.trans (B2.mono HX.out.2.2.size)⟩
          · rw [decide_eq_false e1]
            go_wp2
            go_ret
            rw [decide_eq_false (show ¬ EntD.Same _ _ from fun h => e1 h.2.2.2.2.1)]
            exact ⟨rfl, HX.out.2.2.trans (hb1.mono HX.out.2.2.size)⟩
        · subst h1 h2 h3
          go_enter Tryz.func45, Tryz.ntmps45
          go_wp2_with fail
          rw [← HV.out]
          go_wp2
          go_ret
          rw [decide_eq_false (show ¬ EntD.Same _ _ from fun h => h4 h.2.2.2.1)]
          exact ⟨rfl, HX.out.2.2⟩
      · subst h1 h2
        go_enter Tryz.func45, Tryz.ntmps45
        go_wp2_with fail
        rw [← HV.out]
        go_wp2
        go_ret
        rw [decide_eq_false (show ¬ EntD.Same _ _ from fun h => h3 h.2.2.1)]
        exact ⟨rfl, HX.out.2.2⟩
    · subst h1
      go_enter Tryz.func45, Tryz.ntmps45
      go_wp2_with fail
      rw [← HV.out]
      go_wp2
      go_ret
      rw [decide_eq_false (show ¬ EntD.Same _ _ from fun h => h2 h.2.1)]
      exact ⟨rfl, HX.out.2.2⟩
  · go_enter Tryz.func45, Tryz.ntmps45
    go_wp2_with fail
    rw [← HV.out]
    go_wp2
    go_ret
    rw [decide_eq_false (show ¬ EntD.Same _ _ from fun h => h1 h.1)]
    exact ⟨rfl, HX.out.2.2⟩
end Go.Proofs.YthhkpkfpifllkaaGreat

namespace Go.Proofs.YthhkpkfpifllkaaGreat
open Go.RowKit
set_option linter.unusedVariables false

theorem RdL3.cells {w w' : World} {b off cap : Nat} {xs : List EntD} (h : RdL3 w (some ⟨b, off, none⟩) cap xs) (hb : Below w.heap.size w w') {t : Nat} {x : EntD} (hx : xs[t]? = some x) : ∀ (j : Nat) u, x.cells.toList[j]? = some u → w'.cell? ⟨b, off + t * 7 + j, none⟩ = some u := by
  rcases (h.later hb).at_ with h0 | ⟨b2, off2, e, hc⟩
  · rw [h0] at hx; simp at hx
  · cases e
    exact hc t x hx
set_option maxRecDepth 100000 in
set_option maxHeartbeats 4000000 in
theorem sameAll_ok {w : World} {aa ab : Option Addr} {ca cb : Nat} {xs ys : List EntD} (ha : RdL3 w aa ca xs) (hb : RdL3 w ab cb ys) (hs : xs.map EntD.dat = ys.map EntD.dat) (hl : xs.length ≤ 1353245080300) :
    Calls Tryz.prog 18 #[.slice aa xs.length ca, .slice ab ys.length cb] w fun e w' => e = .returned (.bool true) ∧ Below w.heap.size w w' := by
  have HA := Lib.hid ha
  have HB := Lib.hid hb
  have el : ys.length = xs.length := by have := congrArg List.length hs; simpa using this.symm
  have HS := Lib.hid hs
  obtain ⟨n, hn⟩ : ∃ n, n = xs.length := ⟨_, rfl⟩
  rw [el, ← hn]
  rw [← hn] at hl
  have a1 : n ≤ ca := by rw [hn]; exact ha.cap.1
  have b1 : n ≤ cb := by rw [hn, ← el]; exact hb.cap.1
  have HN : Hid (xs.length = n) := hn.symm
  have HEl : Hid (ys.length = n) := el.trans hn.symm
  clear hn hs el ha hb
  have hmx : Tryz.prog.follows .mixedOrders = true := by kernel_rfl
  go_enter Tryz.func18, Tryz.ntmps18
  go_wp2
  go_loopw [5] (fun i wr => ∃ t : Nat, t ≤ n ∧ i = .int .i64 (t : Int) ∧ Below w.heap.size w wr) (fun i _ => n - (intOf i).toNat)
  case atStart => exact ⟨0, by omega, rfl, Below.refl _ _⟩
  case round =>
    obtain ⟨t, htn, rfl, hbk⟩ := hrel
    by_cases h1 : t < n
    · have h1' : (t : Int) < (n : Int) := by omega
      have ht0 : (0 : Int) ≤ (t : Int) := by omega
      have HBK := Lib.hid hbk
      obtain ⟨x, hx⟩ : ∃ x, xs[t]? = some x := ⟨xs[t]'(by rw [HN.out]; exact h1), List.getElem?_eq_getElem _⟩
      obtain ⟨y, hy⟩ : ∃ y, ys[t]? = some y := ⟨ys[t]'(by rw [HEl.out]; exact h1), List.getElem?_eq_getElem _⟩
      have hxy : EntD.Same x y := by
        have e1 : (xs.map EntD.dat)[t]? = some x.dat := by rw [List.getElem?_map, hx]; rfl
        have e2 : (ys.map EntD.dat)[t]? = some y.dat := by rw [List.getElem?_map, hy]; rfl
        rw [HS.out, e2] at e1
        exact EntD.dat_same.1 (Option.some.inj e1).symm
      obtain ⟨ba, oa, rfl⟩ : ∃ b off, aa = some ⟨b, off, none⟩ := by
        rcases HA.out.at_ with h0 | ⟨b, off, e, _⟩
        · rw [h0] at hx; simp at hx
        · exact ⟨b, off, e⟩
      obtain ⟨bb, ob, rfl⟩ : ∃ b off, ab = some ⟨b, off, none⟩ := by
        rcases HB.out.at_ with h0 | ⟨b, off, e, _⟩
        · rw [h0] at hy; simp at hy
        · exact ⟨b, off, e⟩
      have KS : Hid (∀ wx, Below wr.heap.size wr wx → (wx.cell? ⟨ba, oa + t * 7, none⟩ = some x.vr ∧ wx.cell? ⟨ba, oa + t * 7 + 1, none⟩ = some (.int .i64 x.fam) ∧ wx.cell? ⟨ba, oa + t * 7 + 2, none⟩ = some x.vq ∧ wx.cell? ⟨ba, oa + t * 7 + 3, none⟩ = some (.int .i64 x.ts) ∧ wx.cell? ⟨ba, oa + t * 7 + 4, none⟩ = some (.int .i64 x.seq) ∧ wx.cell? ⟨ba, oa + t * 7 + 5, none⟩ = some (.int .i64 x.kind) ∧ wx.cell? ⟨ba, oa + t * 7 + 6, none⟩ = some x.vv) ∧ (wx.cell? ⟨bb, ob + t * 7, none⟩ = some y.vr ∧ wx.cell? ⟨bb, ob + t * 7 + 1, none⟩ = some (.int .i64 y.fam) ∧ wx.cell? ⟨bb, ob + t * 7 + 2, none⟩ = some y.vq ∧ wx.cell? ⟨bb, ob + t * 7 + 3, none⟩ = some (.int .i64 y.ts) ∧ wx.cell? ⟨bb, ob + t * 7 + 4, none⟩ = some (.int .i64 y.seq) ∧ wx.cell? ⟨bb, ob + t * 7 + 5, none⟩ = some (.int .i64 y.kind) ∧ wx.cell? ⟨bb, ob + t * 7 + 6, none⟩ = some y.vv)) := fun wx b => by
        have k := (HBK.out.trans (b.mono HBK.out.size))
        have c1 := HA.out.cells k hx
        have c2 := HB.out.cells k hy
        exact ⟨⟨c1 0 _ rfl, c1 1 _ rfl, c1 2 _ rfl, c1 3 _ rfl, c1 4 _ rfl, c1 5 _ rfl, c1 6 _ rfl⟩, ⟨c2 0 _ rfl, c2 1 _ rfl, c2 2 _ rfl, c2 3 _ rfl, c2 4 _ rfl, c2 5 _ rfl, c2 6 _ rfl⟩⟩
      have HSe : Hid (∀ Z, Below wr.heap.size wr Z → Calls Tryz.prog 45 #[.agg #[x.vr, .int .i64 x.fam, x.vq, .int .i64 x.ts, .int .i64 x.seq, .int .i64 x.kind, x.vv], .agg #[y.vr, .int .i64 y.fam, y.vq, .int .i64 y.ts, .int .i64 y.seq, .int .i64 y.kind, y.vv]] Z fun r w' => r = .returned (.bool true) ∧ Below Z.heap.size Z w') := fun Z hZ => by
        have k := (HBK.out.trans (hZ.mono HBK.out.size))
        refine (same3r_any ((HA.out.later k).ok x (List.mem_of_getElem? hx)) ((HB.out.later k).ok y (List.mem_of_getElem? hy))).mono ?_
        rintro r w' ⟨rfl, hb⟩
        exact ⟨by rw [decide_eq_true hxy], hb⟩
      have D0 : Below wr.heap.size wr wr.drew := (Below.refl _ _).drew
      clear hx hy hxy hbk
      go_wp2_with fail
      go_region_held3 (fun wx => (wx.cell? ⟨ba, oa + t * 7, none⟩ = some x.vr ∧ wx.cell? ⟨ba, oa + t * 7 + 1, none⟩ = some (.int .i64 x.fam) ∧ wx.cell? ⟨ba, oa + t * 7 + 2, none⟩ = some x.vq ∧ wx.cell? ⟨ba, oa + t * 7 + 3, none⟩ = some (.int .i64 x.ts) ∧ wx.cell? ⟨ba, oa + t * 7 + 4, none⟩ = some (.int .i64 x.seq) ∧ wx.cell? ⟨ba, oa + t * 7 + 5, none⟩ = some (.int .i64 x.kind) ∧ wx.cell? ⟨ba, oa + t * 7 + 6, none⟩ = some x.vv) ∧ (wx.cell? ⟨bb, ob + t * 7, none⟩ = some y.vr ∧ wx.cell? ⟨bb, ob + t * 7 + 1, none⟩ = some (.int .i64 y.fam) ∧ wx.cell? ⟨bb, ob + t * 7 + 2, none⟩ = some y.vq ∧ wx.cell? ⟨bb, ob + t * 7 + 3, none⟩ = some (.int .i64 y.ts) ∧ wx.cell? ⟨bb, ob + t * 7 + 4, none⟩ = some (.int .i64 y.seq) ∧ wx.cell? ⟨bb, ob + t * 7 + 5, none⟩ = some (.int .i64 y.kind) ∧ wx.cell? ⟨bb, ob + t * 7 + 6, none⟩ = some y.vv)) (first | exact KS.out _ D1 | exact KS.out _ D0) ((go_at_call 45; refine Calls.mono (HSe.out _ D0) ?_; rintro e1 w1 ⟨rfl, hb1⟩; have D1 := D0.trans (hb1.mono D0.size)))
      go_wp2
      go_roundw
      case rel => exact ⟨t + 1, by omega, by go_num, HBK.out.trans (D1.mono HBK.out.size)⟩
      case measure => simp [intOf]; omega
    · have h1' : (n : Int) ≤ (t : Int) := by omega
      go_wp2
      go_ret
      exact ⟨rfl, hbk⟩
end Go.Proofs.YthhkpkfpifllkaaGreat

namespace Go.Proofs.YthhkpkfpifllkaaGreat
open Go.RowKit
set_option linter.unusedVariables false

def oneD (vr vq vv : Value) (k ts seq : Int) (val : List Nat) : EntD := ⟨vr, 0, vq, ts, seq, k, vv, [114], [113], val⟩
theorem heap_old9 {w : World} (o : Obj) {k : Nat} {x : Obj} (h : w.heap[k]? = some x) : (w.alloc o).heap[k]? = some x := by
  rw [Below.heap_alloc w o k (Array.getElem?_eq_some_iff.1 h).1]
  exact h
theorem heap_new9 (w : World) (o : Obj) {k : Nat} (h : k = w.heap.size) : (w.alloc o).heap[k]? = some o := by
  subst h
  show (w.heap.push o)[w.heap.size]? = some o
  simp
theorem five5 (w : World) (a b c d e : Obj) : ∃ X, X = ((((w.alloc a).alloc b).alloc c).alloc d).alloc e ∧ X.heap[w.heap.size]? = some a ∧ X.heap[w.heap.size + 1]? = some b ∧ X.heap[w.heap.size + 2]? = some c ∧ X.heap[w.heap.size + 4]? = some e ∧ Below w.heap.size w X := by
  have A1 := (Below.refl w.heap.size w).alloc (Nat.le_refl _) a
  have A2 := A1.alloc A1.size b
  have A3 := A2.alloc A2.size c
  have A4 := A3.alloc A3.size d
  have A5 := A4.alloc A4.size e
  exact ⟨_, rfl, heap_old9 _ (heap_old9 _ (heap_old9 _ (heap_old9 _ (heap_new9 _ _ rfl)))), heap_old9 _ (heap_old9 _ (heap_old9 _ (heap_new9 _ _ (by simp)))), heap_old9 _ (heap_old9 _ (heap_new9 _ _ (by simp))), heap_new9 _ _ (by simp), A5⟩
theorem four4 (w : World) (a b c d : Obj) : ∃ X, X = (((w.alloc a).alloc b).alloc c).alloc d ∧ X.heap[w.heap.size]? = some a ∧ X.heap[w.heap.size + 1]? = some b ∧ X.heap[w.heap.size + 2]? = some c ∧ Below w.heap.size w X := by
  have A1 := (Below.refl w.heap.size w).alloc (Nat.le_refl _) a
  have A2 := A1.alloc A1.size b
  have A3 := A2.alloc A2.size c
  have A4 := A3.alloc A3.size d
  exact ⟨_, rfl, heap_old9 _ (heap_old9 _ (heap_old9 _ (heap_new9 _ _ rfl))), heap_old9 _ (heap_old9 _ (heap_new9 _ _ (by simp))), heap_old9 _ (heap_new9 _ _ (by simp)), A4⟩
theorem rd_nil0 (w : World) : Rd w (.slice none 0 0) [] := ⟨(fun x hx => by cases hx), none, 0, rfl, Nat.le_refl _, Nat.zero_le _, Nat.zero_le _, .inl rfl, .inl rfl⟩
theorem cell_at9 {X : World} {g i : Nat} {cs : Array Value} {ty : TypeId} {fr : Nat × Nat} {u : Value} (h : X.heap[g]? = some (.cells cs ty fr)) (hu : cs[i]? = some u) : X.cell? ⟨g, i, none⟩ = some u := by simp [World.cell?, h, hu]
set_option maxRecDepth 100000 in
set_option maxHeartbeats 1000000 in
theorem one1_any (ts seq : Int) (w : World) : Calls Tryz.prog 43 #[.int .i64 1, .int .i64 ts, .int .i64 seq] w fun e w' => ∃ vr vq vv, e = .returned (.agg (oneD vr vq vv 1 ts seq [118]).cells) ∧ EntD.Ok w' (oneD vr vq vv 1 ts seq [118]) ∧ Below w.heap.size w w' := by
  have k1 := Joins.run_convert_bytes_const_at (P := Tryz.prog) (w.alloc (.cells zeroD.cells 84)) 82 5 #[.int .u8 114] 1 1 (w.heap.size + 1) (by simp) und_bytes und_byte
  have k2 := Joins.run_convert_bytes_const_at (P := Tryz.prog) ((w.alloc (.cells zeroD.cells 84)).alloc (.cells #[.int .u8 114] 5 (1, 2))) 82 5 #[.int .u8 113] 1 1 (w.heap.size + 2) (by simp) und_bytes und_byte
  have k3 := Joins.run_convert_bytes_const_at (P := Tryz.prog) ((((w.alloc (.cells zeroD.cells 84)).alloc (.cells #[.int .u8 114] 5 (1, 2))).alloc (.cells #[.int .u8 113] 5 (1, 2))).alloc (.cells (oneD (.slice (some ⟨w.heap.size + 1, 0, none⟩) 1 1) (.slice (some ⟨w.heap.size + 2, 0, none⟩) 1 1) (.slice none 0 0) 1 ts seq []).cells 84)) 82 5 #[.int .u8 118] 1 1 (w.heap.size + 4) (by simp) und_bytes und_byte
  simp only [zeroD, oneD, EntD.cells, List.size_toArray, List.length_cons, List.length_nil, Nat.zero_add] at k1 k2 k3
  have HF := Lib.hid (five5 w (.cells (oneD (.slice (some ⟨w.heap.size + 1, 0, none⟩) 1 1) (.slice (some ⟨w.heap.size + 2, 0, none⟩) 1 1) (.slice (some ⟨w.heap.size + 4, 0, none⟩) 1 1) 1 ts seq [118]).cells 84) (.cells #[.int .u8 114] 5 (1, 2)) (.cells #[.int .u8 113] 5 (1, 2)) (.cells (oneD (.slice (some ⟨w.heap.size + 1, 0, none⟩) 1 1) (.slice (some ⟨w.heap.size + 2, 0, none⟩) 1 1) (.slice (some ⟨w.heap.size + 4, 0, none⟩) 1 1) 1 ts seq [118]).cells 84) (.cells #[.int .u8 118] 5 (1, 2)))
  simp only [oneD, EntD.cells] at HF
  go_enter Tryz.func43, Tryz.ntmps43
  go_wp2
  clear k1 k2 k3
  obtain ⟨X, hX, h0, h1, h2, h4, bel⟩ := HF.out
  clear HF
  rw [← hX]
  have y0 := cell_at9 (i := 0) h0 rfl
  have y1 := cell_at9 (i := 1) h0 rfl
  have y2 := cell_at9 (i := 2) h0 rfl
  have y3 := cell_at9 (i := 3) h0 rfl
  have y4 := cell_at9 (i := 4) h0 rfl
  have y5 := cell_at9 (i := 5) h0 rfl
  have y6 := cell_at9 (i := 6) h0 rfl
  refine bodyPost_ret (v := .agg (oneD (.slice (some ⟨w.heap.size + 1, 0, none⟩) 1 1) (.slice (some ⟨w.heap.size + 2, 0, none⟩) 1 1) (.slice (some ⟨w.heap.size + 4, 0, none⟩) 1 1) 1 ts seq [118]).cells) (by simp [results, Tryz.results43, go_sem, y0, y1, y2, y3, y4, y5, y6, oneD, EntD.cells]) rfl ?_
  exact ⟨_, _, _, rfl, ⟨rd_one (cell_at9 (i := 0) h1 rfl) (by decide), rd_one (cell_at9 (i := 0) h2 rfl) (by decide), rd_one (cell_at9 (i := 0) h4 rfl) (by decide)⟩, bel⟩
set_option maxRecDepth 100000 in
set_option maxHeartbeats 1000000 in
theorem one2_any (ts seq : Int) (w : World) : Calls Tryz.prog 43 #[.int .i64 2, .int .i64 ts, .int .i64 seq] w fun e w' => ∃ vr vq vv, e = .returned (.agg (oneD vr vq vv 2 ts seq []).cells) ∧ EntD.Ok w' (oneD vr vq vv 2 ts seq []) ∧ Below w.heap.size w w' := by
  have k1 := Joins.run_convert_bytes_const_at (P := Tryz.prog) (w.alloc (.cells zeroD.cells 84)) 82 5 #[.int .u8 114] 1 1 (w.heap.size + 1) (by simp) und_bytes und_byte
  have k2 := Joins.run_convert_bytes_const_at (P := Tryz.prog) ((w.alloc (.cells zeroD.cells 84)).alloc (.cells #[.int .u8 114] 5 (1, 2))) 82 5 #[.int .u8 113] 1 1 (w.heap.size + 2) (by simp) und_bytes und_byte
  simp only [zeroD, EntD.cells, List.size_toArray, List.length_cons, List.length_nil, Nat.zero_add] at k1 k2
  have HF := Lib.hid (four4 w (.cells (oneD (.slice (some ⟨w.heap.size + 1, 0, none⟩) 1 1) (.slice (some ⟨w.heap.size + 2, 0, none⟩) 1 1) (.slice none 0 0) 2 ts seq []).cells 84) (.cells #[.int .u8 114] 5 (1, 2)) (.cells #[.int .u8 113] 5 (1, 2)) (.cells (oneD (.slice (some ⟨w.heap.size + 1, 0, none⟩) 1 1) (.slice (some ⟨w.heap.size + 2, 0, none⟩) 1 1) (.slice none 0 0) 2 ts seq []).cells 84))
  simp only [oneD, EntD.cells] at HF
  go_enter Tryz.func43, Tryz.ntmps43
  go_wp2
  clear k1 k2
  obtain ⟨X, hX, h0, h1, h2, bel⟩ := HF.out
  clear HF
  rw [← hX]
  have y0 := cell_at9 (i := 0) h0 rfl
  have y1 := cell_at9 (i := 1) h0 rfl
  have y2 := cell_at9 (i := 2) h0 rfl
  have y3 := cell_at9 (i := 3) h0 rfl
  have y4 := cell_at9 (i := 4) h0 rfl
  have y5 := cell_at9 (i := 5) h0 rfl
  have y6 := cell_at9 (i := 6) h0 rfl
  refine bodyPost_ret (v := .agg (oneD (.slice (some ⟨w.heap.size + 1, 0, none⟩) 1 1) (.slice (some ⟨w.heap.size + 2, 0, none⟩) 1 1) (.slice none 0 0) 2 ts seq []).cells) (by simp [results, Tryz.results43, go_sem, y0, y1, y2, y3, y4, y5, y6, oneD, EntD.cells]) rfl ?_
  exact ⟨_, _, _, rfl, ⟨rd_one (cell_at9 (i := 0) h1 rfl) (by decide), rd_one (cell_at9 (i := 0) h2 rfl) (by decide), rd_nil0 _⟩, bel⟩
set_option maxRecDepth 100000 in
set_option maxHeartbeats 1000000 in
theorem one3_any (ts seq : Int) (w : World) : Calls Tryz.prog 43 #[.int .i64 3, .int .i64 ts, .int .i64 seq] w fun e w' => ∃ vr vq vv, e = .returned (.agg (oneD vr vq vv 3 ts seq []).cells) ∧ EntD.Ok w' (oneD vr vq vv 3 ts seq []) ∧ Below w.heap.size w w' := by
  have k1 := Joins.run_convert_bytes_const_at (P := Tryz.prog) (w.alloc (.cells zeroD.cells 84)) 82 5 #[.int .u8 114] 1 1 (w.heap.size + 1) (by simp) und_bytes und_byte
  have k2 := Joins.run_convert_bytes_const_at (P := Tryz.prog) ((w.alloc (.cells zeroD.cells 84)).alloc (.cells #[.int .u8 114] 5 (1, 2))) 82 5 #[.int .u8 113] 1 1 (w.heap.size + 2) (by simp) und_bytes und_byte
  simp only [zeroD, EntD.cells, List.size_toArray, List.length_cons, List.length_nil, Nat.zero_add] at k1 k2
  have HF := Lib.hid (four4 w (.cells (oneD (.slice (some ⟨w.heap.size + 1, 0, none⟩) 1 1) (.slice (some ⟨w.heap.size + 2, 0, none⟩) 1 1) (.slice none 0 0) 3 ts seq []).cells 84) (.cells #[.int .u8 114] 5 (1, 2)) (.cells #[.int .u8 113] 5 (1, 2)) (.cells (oneD (.slice (some ⟨w.heap.size + 1, 0, none⟩) 1 1) (.slice (some ⟨w.heap.size + 2, 0, none⟩) 1 1) (.slice none 0 0) 3 ts seq []).cells 84))
  simp only [oneD, EntD.cells] at HF
  go_enter Tryz.func43, Tryz.ntmps43
  go_wp2
  clear k1 k2
  obtain ⟨X, hX, h0, h1, h2, bel⟩ := HF.out
  clear HF
  rw [← hX]
  have y0 := cell_at9 (i := 0) h0 rfl
  have y1 := cell_at9 (i := 1) h0 rfl
  have y2 := cell_at9 (i := 2) h0 rfl
  have y3 := cell_at9 (i := 3) h0 rfl
  have y4 := cell_at9 (i := 4) h0 rfl
  have y5 := cell_at9 (i := 5) h0 rfl
  have y6 := cell_at9 (i := 6) h0 rfl
  refine bodyPost_ret (v := .agg (oneD (.slice (some ⟨w.heap.size + 1, 0, none⟩) 1 1) (.slice (some ⟨w.heap.size + 2, 0, none⟩) 1 1) (.slice none 0 0) 3 ts seq []).cells) (by simp [results, Tryz.results43, go_sem, y0, y1, y2, y3, y4, y5, y6, oneD, EntD.cells]) rfl ?_
  exact ⟨_, _, _, rfl, ⟨rd_one (cell_at9 (i := 0) h1 rfl) (by decide), rd_one (cell_at9 (i := 0) h2 rfl) (by decide), rd_nil0 _⟩, bel⟩
def famF (mx tl : Int) : FamD := ⟨⟨#[102]⟩, mx, tl⟩
theorem two2 (w : World) (a b : Obj) : ∃ X, X = (w.alloc a).alloc b ∧ X.heap[w.heap.size]? = some a ∧ X.heap[w.heap.size + 1]? = some b ∧ Below w.heap.size w X := by
  have A1 := (Below.refl w.heap.size w).alloc (Nat.le_refl _) a
  have A2 := A1.alloc A1.size b
  exact ⟨_, rfl, heap_old9 _ (heap_new9 _ _ rfl), heap_new9 _ _ (by simp), A2⟩
set_option maxRecDepth 100000 in
set_option maxHeartbeats 1000000 in
theorem family3_any (mx tl : Int) (w : World) : Calls Tryz.prog 44 #[.int .i64 mx, .int .i64 tl] w fun e w' => ∃ b, e = .returned (.agg #[.slice (some ⟨b, 0, none⟩) 1 1]) ∧ RdF w' (.slice (some ⟨b, 0, none⟩) 1 1) [famF mx tl] ∧ Below w.heap.size w w' := by
  have HF := Lib.hid (two2 w (.cells #[.slice (some ⟨w.heap.size + 1, 0, none⟩) 1 1] 27) (.cells #[.string ⟨#[102]⟩, .int .i64 mx, .int .i64 tl] 132))
  go_enter Tryz.func44, Tryz.ntmps44
  go_wp2
  obtain ⟨X, hX, h0, h1, bel⟩ := HF.out
  clear HF
  rw [← hX]
  have y0 := cell_at9 (i := 0) h0 rfl
  refine bodyPost_ret (v := .agg #[.slice (some ⟨w.heap.size + 1, 0, none⟩) 1 1]) (by simp [results, Tryz.results44, go_sem, y0]) rfl ?_
  refine ⟨_, rfl, ⟨_, 1, rfl, Nat.le_refl _, by decide, by simp, .inr ⟨_, 0, rfl, fun i f hf => ?_⟩⟩, bel⟩
  cases i with
  | zero =>
    simp only [List.getElem?_cons_zero, Option.some.injEq] at hf
    subst hf
    exact ⟨cell_at9 (i := 0) h1 rfl, cell_at9 (i := 1) h1 rfl, cell_at9 (i := 2) h1 rfl⟩
  | succ i => simp at hf
end Go.Proofs.YthhkpkfpifllkaaGreat

namespace Go.Proofs.YthhkpkfpifllkaaGreat
open Go.RowKit
set_option linter.unusedVariables false

def oE (k ts seq : Int) (val : List Nat) : En := ⟨[114], 0, [113], ts, seq, k, val⟩
theorem ah_o {k ts seq k' ts' seq' : Int} {v v' : List Nat} (h : k ≤ 3) (h' : k' ≤ 3) (ht : ts' ≤ ts) (hs : ts = ts' → seq' < seq) : Ah (oE k ts seq v) (oE k' ts' seq' v') :=
  ⟨by simp [oE, ordC], fun _ => Int.le_refl _, fun _ _ z => by have z : k' = 5 := z; omega, fun _ _ _ => by simp [oE, ordC], fun _ _ _ _ z => by have z : k' = 4 := z; omega, fun _ _ _ _ _ => ht, fun _ _ _ _ _ z => hs z⟩
theorem inOrder_zero {k : Nat} {l : List EntD} (hck : ∀ x ∈ l, check3S k x = 0) (hne : l.Pairwise fun a b => a.seq ≠ b.seq) : inOrderE (check3S k) l = 0 := by
  have ho : onceS l = some l := by simpa [onceS] using once_self l [] (by simpa using hne)
  unfold inOrderE
  rw [firstBad_zero hck, if_neg (by simp), if_neg (by rw [ho]; simp)]
def dl : List En := [oE 1 5 3 [118], oE 1 9 1 [118], oE 3 7 4 [], oE 1 7 2 [118]]
def ml : List En := [oE 1 9 1 [118], oE 3 7 4 [], oE 1 7 2 [118], oE 1 5 3 [118]]
theorem dl_ck : ∀ e ∈ dl, check3S 1 (EntD.ofEn e) = 0 := by
  intro e he
  simp only [dl, List.mem_cons, List.not_mem_nil, or_false] at he
  rcases he with rfl | rfl | rfl | rfl <;> rfl
theorem ml_mem (e : En) : e ∈ ml ↔ e ∈ dl := by
  simp only [ml, dl, List.mem_cons, List.not_mem_nil, or_false]
  constructor
  · rintro (h | h | h | h) <;> simp [h]
  · rintro (h | h | h | h) <;> simp [h]
theorem ml_ord : IsOrd 1 dl ml := by
  refine ⟨?_, ?_, fun e he => va_of_check (k := 1) (e := EntD.ofEn e) (dl_ck e ((ml_mem e).1 he)), fun e he => dl_ck e ((ml_mem e).1 he), ml_mem⟩
  · simp only [ml, List.pairwise_cons, List.mem_cons, List.not_mem_nil, or_false, forall_eq_or_imp, forall_eq, List.Pairwise.nil, and_true, false_implies, implies_true]
    exact ⟨⟨ah_o (by omega) (by omega) (by omega) (by omega), ah_o (by omega) (by omega) (by omega) (by omega), ah_o (by omega) (by omega) (by omega) (by omega)⟩, ⟨ah_o (by omega) (by omega) (by omega) (by omega), ah_o (by omega) (by omega) (by omega) (by omega)⟩, ah_o (by omega) (by omega) (by omega) (by omega)⟩
  · simp [ml, oE]
theorem ml_vis : (showS 1099511627776 16 (verdictsS [(2, 10)] 12 ml)).2 = [oE 1 9 1 [118]] := rfl
theorem ml_read : (showS 12 1 (verdictsS [(2, 10)] 12 ml)).2 = [oE 1 9 1 [118]] := rfl
theorem ml_top : topS (verdictsS [(2, 10)] 12 ml) = 9 := rfl
theorem ml_squash : outS false 0 (verdictsS [(2, 10)] 12 ml) = [oE 1 9 1 [118], oE 2 7 4 []] := rfl
theorem famF_ok : SchemaOk [famF 2 10] := by
  refine ⟨by decide, fun i f hf => ?_⟩
  cases i with
  | succ i => simp at hf
  | zero =>
    simp only [List.getElem?_cons_zero, Option.some.injEq] at hf
    subst hf
    refine ⟨⟨⟨by decide, by decide, fun i hi => ?_⟩, by decide, by decide, by decide⟩, by simp [famIx, famF]⟩
    have : i = 0 := by have : i < 1 := hi; omega
    subst this
    exact .inl (by decide)
end Go.Proofs.YthhkpkfpifllkaaGreat
