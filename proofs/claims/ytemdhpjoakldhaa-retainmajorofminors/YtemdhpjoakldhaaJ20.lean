import Derived.Test.YtemdhpjoakldhaaJ19
namespace Go.Proofs.Ytemdhpjoakldhaa
open Go.RowKit
set_option linter.unusedVariables false

set_option maxRecDepth 100000 in
set_option maxHeartbeats 4000000 in
theorem fover_any (SP : SortP) {W W0 : World} {wb rb B cap fc : Nat} {a fa : Option Addr} {fs : List FamD} {clock low : Int} {major : Bool} {l : List EntD} (hs : SBx W rb (.pointer (some ⟨wb, 0, none⟩)) (.slice none 0 0) (fBc major low ⟨0, 0, 0, 0, 0⟩) 74) (hb : WBx W wb (.slice fa fs.length fc) clock (.func (.func 43) #[.pointer (some ⟨rb, 0, none⟩)] #[]) spZ) (hf : OwnF W B (.slice fa fs.length fc) fs.length fs) (hl8 : fs.length ≤ 8) (hne : wb ≠ rb) (hfs : ∀ f ∈ fs, 0 ≤ f.tl ∧ f.tl ≤ 1099511627776)
    (h0 : RdL3 W0 a cap l) (hB : Below W0.heap.size W0 W) (hw0 : W0.heap.size ≤ wb) (hr0 : W0.heap.size ≤ rb) (hl : l.length ≤ 1353245080300) :
    Calls Try.prog 32 #[.pointer (some ⟨rb, 0, none⟩), .slice a l.length cap] W fun r W' => Below W0.heap.size W0 W' ∧ (inOrderE (check3S fs.length) l ≠ 0 → r = .returned (.tuple #[.slice none 0 0, .int .i64 (inOrderE (check3S fs.length) l)])) ∧ (inOrderE (check3S fs.length) l = 0 → ∃ (xs ys zs : List EntD) (v : Value) (O : Nat → Prop), onceS l = some xs ∧ ys.Perm xs ∧ (ys.Pairwise fun x y => compareS x y ≤ 0) ∧ r = .returned (.tuple #[v, .int .i64 0]) ∧ Rw W' W0.heap.size v zs O ∧ zs.map EntD.dat = outS major low (verdictsS (mt fs) clock (ys.map EntD.dat))) := by
  have HO := Lib.hid (over_all SP (T := TF rb W0.heap.size (.pointer (some ⟨wb, 0, none⟩)) major low) (filter_teller rb W0.heap.size (.pointer (some ⟨wb, 0, none⟩)) major low) hb hf hl8 (TF.start hs hB.size) hne ⟨_, _, hs, by decide, by decide⟩ hfs h0 hB hw0 hr0 hl)
  obtain ⟨E, hE⟩ : ∃ E, E = inOrderE (check3S fs.length) l := ⟨_, rfl⟩
  rw [← hE] at HO ⊢
  have HSb := Lib.hid hs
  have HB := Lib.hid hB
  have c0 := hs.c00
  obtain ⟨n, hn⟩ : ∃ n, n = l.length := ⟨_, rfl⟩
  rw [← hn] at HO ⊢
  have HW := Lib.hid (And.intro hw0 hr0)
  clear hs hb hf hl8 hne hfs h0 hB hl hE hn hw0 hr0
  go_enter Try.func32, Try.ntmps32
  go_wp2_with fail
  refine Calls.mono HO.out ?_
  rintro z W1 ⟨rfl, h1, h2⟩
  clear HO c0
  by_cases hz : E = 0
  · obtain ⟨xs, ys, W2, O, k1, k2, k3, k4, k5⟩ := h2 hz
    obtain ⟨zs, ov, Or, sb, rw1, hno, hsub, hx⟩ := k5.tell.st
    obtain ⟨av, cv, rfl⟩ := rows_form3 rw1.row
    have HH := Lib.hid (handOut_any sb)
    have HK := Lib.hid (And.intro k1 (And.intro k2 (And.intro k3 (And.intro k4 (And.intro k5 (And.intro rw1 (And.intro hno (And.intro hsub hx))))))))
    subst hz
    clear h1 h2 k1 k2 k3 k4 k5 sb rw1 hno hsub hx
    go_wp2_with fail
    refine Calls.mono HH.out ?_
    rintro z2 X2 ⟨rfl, sb2, gr2⟩
    have HG := Lib.hid gr2
    clear sb2 gr2 HH
    go_wp2
    go_ret2
    obtain ⟨k1, k2, k3, k4, k5, rw1, hno, hsub, hx⟩ := HK.out
    obtain ⟨hw0, hr0⟩ := HW.out
    have gr := HG.out
    have b := HB.out
    have szW : W0.heap.size ≤ W2.heap.size := Nat.le_trans b.size k4.size
    refine ⟨⟨gr.os.trans (k5.os.trans (k4.os.trans b.os)), gr.tape.trans (k5.tape.trans (k4.tape.trans b.tape)), gr.output.trans (k5.output.trans (k4.output.trans b.output)), Nat.le_trans szW (Nat.le_trans k5.fr.1 gr.size), fun i hi => ?_⟩, xs, k1, ys, k2, k3, zs, .slice av zs.length cv, rfl, ⟨Or, rw1.keep (fun i hi => gr.block i (k5.tell.lt i (hsub i hi)) (fun z => by cases z; exact hno hi))⟩, hx⟩
    rw [gr.block i (Nat.lt_of_lt_of_le hi (Nat.le_trans szW k5.fr.1)) (fun z => by cases z; omega), k5.fr.2 i (Nat.lt_of_lt_of_le hi szW) (by omega) (by omega), k4.block i (Nat.lt_of_lt_of_le hi b.size)]
    exact b.block i hi
  · have b1 := h1 hz
    have HH := Lib.hid (handOut_any (HSb.out.later b1))
    have HB1 := Lib.hid b1
    have HZ := Lib.hid hz
    clear h1 h2 b1 hz
    go_wp2_with fail
    refine Calls.mono HH.out ?_
    rintro z2 X2 ⟨rfl, sb2, gr2⟩
    have HG := Lib.hid gr2
    clear sb2 gr2 HH
    go_wp2
    go_ret2
    obtain ⟨hw0, hr0⟩ := HW.out
    have gr := HG.out
    have b := HB.out
    have b1 := HB1.out
    refine ⟨⟨gr.os.trans (b1.os.trans b.os), gr.tape.trans (b1.tape.trans b.tape), gr.output.trans (b1.output.trans b.output), Nat.le_trans b.size (Nat.le_trans b1.size gr.size), fun i hi => ?_⟩, fun _ => rfl, fun z => absurd z HZ.out⟩
    rw [gr.block i (Nat.lt_of_lt_of_le hi (Nat.le_trans b.size b1.size)) (fun z => by cases z; omega), b1.block i (Nat.lt_of_lt_of_le hi b.size)]
    exact b.block i hi
/-- What Squash says of its arguments. -/
def squashE (C : Nat) (fs : List FamD) (clock low : Int) (l : List EntD) : Int := if boundsS C [clock, low] ≠ 0 then boundsS C [clock, low] else inOrderE (check3S fs.length) l

set_option maxRecDepth 100000 in
set_option maxHeartbeats 4000000 in
theorem squash_any (SP : SortP) {W : World} {cap fc : Nat} {a fa : Option Addr} {fs : List FamD} {l : List EntD} (hr : RdF W (.slice fa fs.length fc) fs) (hn : fa = none → fc = 0) (C : Nat) (hC : (C = 0 ↔ SchemaOk fs) ∧ (C = 0 ∨ C = 28)) (clock low : Int) (major : Bool) (h0 : RdL3 W a cap l) (hl : l.length ≤ 1353245080300) :
    Calls Try.prog 14 #[.agg #[.slice fa fs.length fc], .int .i64 clock, .bool major, .int .i64 low, .slice a l.length cap] W fun r W' => Below W.heap.size W W' ∧ (squashE C fs clock low l ≠ 0 → r = .returned (.tuple #[.slice none 0 0, .int .i64 (squashE C fs clock low l)])) ∧ (squashE C fs clock low l = 0 → ∃ (xs ys zs : List EntD) (v : Value) (O : Nat → Prop), onceS l = some xs ∧ ys.Perm xs ∧ (ys.Pairwise fun x y => compareS x y ≤ 0) ∧ r = .returned (.tuple #[v, .int .i64 0]) ∧ Rw W' W.heap.size v zs O ∧ zs.map EntD.dat = outS major low (verdictsS (mt fs) clock (ys.map EntD.dat))) := by
  have HF : Hid (∀ Z, Below W.heap.size W Z → Calls Try.prog 31 #[.agg #[.slice fa fs.length fc], .int .i64 clock, .bool major, .int .i64 low] Z _) := fun Z b => newFilter_any (hr.later b) hn C hC clock low major
  obtain ⟨E, hE⟩ : ∃ E, E = squashE C fs clock low l := ⟨_, rfl⟩
  obtain ⟨R, hR⟩ : ∃ R, R = boundsS C [clock, low] := ⟨_, rfl⟩
  have HE : Hid (E = if R ≠ 0 then R else inOrderE (check3S fs.length) l) := by unfold Hid; rw [hE, hR]; rfl
  rw [← hE]
  have HOk : Hid (R = 0 → fs.length ≤ 8 ∧ ∀ f ∈ fs, 0 ≤ f.tl ∧ f.tl ≤ 1099511627776) := fun z => by
    have hs := hC.1.1 (bounds_ok (hR.symm.trans z)).1
    refine ⟨hs.1.2, fun f hf => ?_⟩
    obtain ⟨i, hi⟩ := List.getElem?_of_mem hf
    exact (hs.2 i f hi).1.2.2
  simp only [← hR] at HF
  have HA := Lib.hid ((Below.refl W.heap.size W).alloc (Nat.le_refl _) (.cells #[.slice fa fs.length fc] 24))
  have H0 := Lib.hid h0
  have HL := Lib.hid hl
  obtain ⟨n, hn2⟩ : ∃ n, n = l.length := ⟨_, rfl⟩
  rw [← hn2]
  have HN := Lib.hid hn2
  obtain ⟨k, hk⟩ : ∃ k, k = fs.length := ⟨_, rfl⟩
  rw [← hk] at HF HA ⊢
  have HK := Lib.hid hk
  clear hr hn hC h0 hl hE hR hn2 hk
  go_enter Try.func14, Try.ntmps14
  go_wp2_with fail
  refine Calls.mono (HF.out _ HA.out) ?_
  rintro z W1 ⟨b1, h1, h2⟩
  have B1 := HA.out.trans (b1.mono HA.out.size)
  have HB1 := Lib.hid B1
  by_cases hz : R = 0
  · obtain ⟨fb, wb, a', c', rfl, hfb, hwb, hne, sb, wx, of⟩ := h2 hz
    obtain ⟨h8, hfs⟩ := HOk.out hz
    have l1 : W.heap.size ≤ (W.alloc (.cells #[.slice fa k fc] 24)).heap.size := HA.out.size
    have HEq : Hid (E = inOrderE (check3S fs.length) l) := by unfold Hid; rw [HE.out, if_neg (by simpa using hz)]
    have HV := Lib.hid (fover_any SP sb (by rw [HK.out] at wx; exact wx) (by rw [HK.out] at of; exact of) h8 (Ne.symm hne) hfs H0.out B1 (Nat.le_trans l1 hwb) (Nat.le_trans l1 hfb) HL.out)
    rw [← HEq.out, ← HN.out] at HV
    subst hz
    clear h1 h2 b1 B1 sb wx of hfb hwb hne hfs h8 HF HOk l1
    go_wp2_with fail
    refine Calls.mono HV.out ?_
    rintro z2 W2 ⟨q1, q2, q3⟩
    by_cases hz : E = 0
    · obtain ⟨xs, ys, zs, v, O, k1, k2, k3, rfl, k5, k6⟩ := q3 hz
      have HQ := Lib.hid (And.intro q1 (And.intro hz (And.intro k1 (And.intro k2 (And.intro k3 (And.intro k5 k6))))))
      clear q1 q2 q3 hz k1 k2 k3 k5 k6 HV
      go_wp2
      go_ret2
      obtain ⟨q1, hz, k1, k2, k3, k5, k6⟩ := HQ.out
      exact ⟨q1, fun z => absurd hz z, fun _ => ⟨xs, ys, zs, v, O, k1, k2, k3, rfl, k5, k6⟩⟩
    · have hz2 := q2 hz
      subst hz2
      have HQ := Lib.hid (And.intro q1 hz)
      clear q1 q2 q3 hz HV
      go_wp2
      go_ret2
      exact ⟨HQ.out.1, fun _ => rfl, fun z => absurd z HQ.out.2⟩
  · have hz2 := h1 hz
    subst hz2
    have b0 : (R != 0) = true := by simp [hz]
    have HEq : Hid (E = R ∧ R ≠ 0) := ⟨by rw [HE.out, if_pos hz], hz⟩
    clear h1 h2 b1 B1 hz HF HOk
    go_wp2
    go_ret2
    exact ⟨HB1.out, fun _ => by rw [HEq.out.1]; rfl, fun z => absurd (HEq.out.1.symm.trans z) HEq.out.2⟩
end Go.Proofs.Ytemdhpjoakldhaa

namespace Go.Proofs.Ytemdhpjoakldhaa
open Go.RowKit
set_option linter.unusedVariables false

set_option maxRecDepth 100000 in
set_option maxHeartbeats 4000000 in
theorem rover_any (SP : SortP) {W W0 : World} {wb rb B cap fc : Nat} {a fa : Option Addr} {fs : List FamD} {clock low nv : Int} {l : List EntD} (hs : SBx W rb (.pointer (some ⟨wb, 0, none⟩)) (.slice none 0 0) (rBc low nv 0) 82) (hb : WBx W wb (.slice fa fs.length fc) clock (.func (.func 51) #[.pointer (some ⟨rb, 0, none⟩)] #[]) spZ) (hf : OwnF W B (.slice fa fs.length fc) fs.length fs) (hl8 : fs.length ≤ 8) (hne : wb ≠ rb) (hfs : ∀ f ∈ fs, 0 ≤ f.tl ∧ f.tl ≤ 1099511627776)
    (h0 : RdL3 W0 a cap l) (hB : Below W0.heap.size W0 W) (hw0 : W0.heap.size ≤ wb) (hr0 : W0.heap.size ≤ rb) (hl : l.length ≤ 1353245080300) :
    Calls Try.prog 32 #[.pointer (some ⟨rb, 0, none⟩), .slice a l.length cap] W fun r W' => Below W0.heap.size W0 W' ∧ (inOrderE (check3S fs.length) l ≠ 0 → r = .returned (.tuple #[.slice none 0 0, .int .i64 (inOrderE (check3S fs.length) l)])) ∧ (inOrderE (check3S fs.length) l = 0 → ∃ (xs ys zs : List EntD) (v : Value) (O : Nat → Prop), onceS l = some xs ∧ ys.Perm xs ∧ (ys.Pairwise fun x y => compareS x y ≤ 0) ∧ r = .returned (.tuple #[v, .int .i64 0]) ∧ Rw W' W0.heap.size v zs O ∧ zs.map EntD.dat = (showS low nv (verdictsS (mt fs) clock (ys.map EntD.dat))).2) := by
  have HO := Lib.hid (over_all SP (T := TR rb W0.heap.size (some ⟨wb, 0, none⟩) low nv) (reader_teller rb W0.heap.size (some ⟨wb, 0, none⟩) low nv) hb hf hl8 (TR.start hs hB.size) hne ⟨_, _, hs, by decide, by decide⟩ hfs h0 hB hw0 hr0 hl)
  obtain ⟨E, hE⟩ : ∃ E, E = inOrderE (check3S fs.length) l := ⟨_, rfl⟩
  rw [← hE] at HO ⊢
  have HSb := Lib.hid hs
  have HB := Lib.hid hB
  have c0 := hs.c00
  obtain ⟨n, hn⟩ : ∃ n, n = l.length := ⟨_, rfl⟩
  rw [← hn] at HO ⊢
  have HW := Lib.hid (And.intro hw0 hr0)
  clear hs hb hf hl8 hne hfs h0 hB hl hE hn hw0 hr0
  go_enter Try.func32, Try.ntmps32
  go_wp2_with fail
  refine Calls.mono HO.out ?_
  rintro z W1 ⟨rfl, h1, h2⟩
  clear HO c0
  by_cases hz : E = 0
  · obtain ⟨xs, ys, W2, O, k1, k2, k3, k4, k5⟩ := h2 hz
    obtain ⟨zs, ov, Or, sb, rw1, hno, hsub, hx⟩ := k5.tell.st
    obtain ⟨av, cv, rfl⟩ := rows_form3 rw1.row
    have HH := Lib.hid (handOut_any sb)
    have HK := Lib.hid (And.intro k1 (And.intro k2 (And.intro k3 (And.intro k4 (And.intro k5 (And.intro rw1 (And.intro hno (And.intro hsub hx))))))))
    subst hz
    clear h1 h2 k1 k2 k3 k4 k5 sb rw1 hno hsub hx
    go_wp2_with fail
    refine Calls.mono HH.out ?_
    rintro z2 X2 ⟨rfl, sb2, gr2⟩
    have HG := Lib.hid gr2
    clear sb2 gr2 HH
    go_wp2
    go_ret2
    obtain ⟨k1, k2, k3, k4, k5, rw1, hno, hsub, hx⟩ := HK.out
    obtain ⟨hw0, hr0⟩ := HW.out
    have gr := HG.out
    have b := HB.out
    have szW : W0.heap.size ≤ W2.heap.size := Nat.le_trans b.size k4.size
    refine ⟨⟨gr.os.trans (k5.os.trans (k4.os.trans b.os)), gr.tape.trans (k5.tape.trans (k4.tape.trans b.tape)), gr.output.trans (k5.output.trans (k4.output.trans b.output)), Nat.le_trans szW (Nat.le_trans k5.fr.1 gr.size), fun i hi => ?_⟩, xs, k1, ys, k2, k3, zs, .slice av zs.length cv, rfl, ⟨Or, rw1.keep (fun i hi => gr.block i (k5.tell.lt i (hsub i hi)) (fun z => by cases z; exact hno hi))⟩, hx⟩
    rw [gr.block i (Nat.lt_of_lt_of_le hi (Nat.le_trans szW k5.fr.1)) (fun z => by cases z; omega), k5.fr.2 i (Nat.lt_of_lt_of_le hi szW) (by omega) (by omega), k4.block i (Nat.lt_of_lt_of_le hi b.size)]
    exact b.block i hi
  · have b1 := h1 hz
    have HH := Lib.hid (handOut_any (HSb.out.later b1))
    have HB1 := Lib.hid b1
    have HZ := Lib.hid hz
    clear h1 h2 b1 hz
    go_wp2_with fail
    refine Calls.mono HH.out ?_
    rintro z2 X2 ⟨rfl, sb2, gr2⟩
    have HG := Lib.hid gr2
    clear sb2 gr2 HH
    go_wp2
    go_ret2
    obtain ⟨hw0, hr0⟩ := HW.out
    have gr := HG.out
    have b := HB.out
    have b1 := HB1.out
    refine ⟨⟨gr.os.trans (b1.os.trans b.os), gr.tape.trans (b1.tape.trans b.tape), gr.output.trans (b1.output.trans b.output), Nat.le_trans b.size (Nat.le_trans b1.size gr.size), fun i hi => ?_⟩, fun _ => rfl, fun z => absurd z HZ.out⟩
    rw [gr.block i (Nat.lt_of_lt_of_le hi (Nat.le_trans b.size b1.size)) (fun z => by cases z; omega), b1.block i (Nat.lt_of_lt_of_le hi b.size)]
    exact b.block i hi
theorem reader_ok {C : Nat} {clock low nv : Int} (h : readerS C clock low nv = 0) : boundsS C [clock, low] = 0 ∧ 1 ≤ nv ∧ nv ≤ 16 := by
  unfold readerS at h
  by_cases hb : boundsS C [clock, low] = 0
  · rw [if_neg (by simpa using hb)] at h
    by_cases hv : nv < 1 ∨ 16 < nv
    · rw [if_pos hv] at h; cases h
    · exact ⟨hb, by omega, by omega⟩
  · rw [if_pos hb] at h
    exact absurd h hb
/-- What a reading says of its arguments. -/
def readE (C : Nat) (fs : List FamD) (clock low nv : Int) (l : List EntD) : Int := if readerS C clock low nv ≠ 0 then readerS C clock low nv else inOrderE (check3S fs.length) l

set_option maxRecDepth 100000 in
set_option maxHeartbeats 4000000 in
theorem read_any (SP : SortP) {W : World} {cap fc : Nat} {a fa : Option Addr} {fs : List FamD} {l : List EntD} (hr : RdF W (.slice fa fs.length fc) fs) (hn : fa = none → fc = 0) (C : Nat) (hC : (C = 0 ↔ SchemaOk fs) ∧ (C = 0 ∨ C = 28)) (clock low nv : Int) (h0 : RdL3 W a cap l) (hl : l.length ≤ 1353245080300) :
    Calls Try.prog 23 #[.agg #[.slice fa fs.length fc], .int .i64 clock, .int .i64 low, .int .i64 nv, .slice a l.length cap] W fun r W' => Below W.heap.size W W' ∧ (readE C fs clock low nv l ≠ 0 → r = .returned (.tuple #[.slice none 0 0, .int .i64 (readE C fs clock low nv l)])) ∧ (readE C fs clock low nv l = 0 → ∃ (xs ys zs : List EntD) (v : Value) (O : Nat → Prop), onceS l = some xs ∧ ys.Perm xs ∧ (ys.Pairwise fun x y => compareS x y ≤ 0) ∧ r = .returned (.tuple #[v, .int .i64 0]) ∧ Rw W' W.heap.size v zs O ∧ zs.map EntD.dat = (showS low nv (verdictsS (mt fs) clock (ys.map EntD.dat))).2) := by
  have HF : Hid (∀ Z, Below W.heap.size W Z → Calls Try.prog 37 #[.agg #[.slice fa fs.length fc], .int .i64 clock, .int .i64 low, .int .i64 nv] Z _) := fun Z b => newReader_any (hr.later b) hn C hC clock low nv
  obtain ⟨E, hE⟩ : ∃ E, E = readE C fs clock low nv l := ⟨_, rfl⟩
  obtain ⟨R, hR⟩ : ∃ R, R = readerS C clock low nv := ⟨_, rfl⟩
  have HE : Hid (E = if R ≠ 0 then R else inOrderE (check3S fs.length) l) := by unfold Hid; rw [hE, hR]; rfl
  rw [← hE]
  have HOk : Hid (R = 0 → fs.length ≤ 8 ∧ ∀ f ∈ fs, 0 ≤ f.tl ∧ f.tl ≤ 1099511627776) := fun z => by
    have hs := hC.1.1 (bounds_ok (reader_ok (hR.symm.trans z)).1).1
    refine ⟨hs.1.2, fun f hf => ?_⟩
    obtain ⟨i, hi⟩ := List.getElem?_of_mem hf
    exact (hs.2 i f hi).1.2.2
  simp only [← hR] at HF
  have HA := Lib.hid ((Below.refl W.heap.size W).alloc (Nat.le_refl _) (.cells #[.slice fa fs.length fc] 24))
  have H0 := Lib.hid h0
  have HL := Lib.hid hl
  obtain ⟨n, hn2⟩ : ∃ n, n = l.length := ⟨_, rfl⟩
  rw [← hn2]
  have HN := Lib.hid hn2
  obtain ⟨k, hk⟩ : ∃ k, k = fs.length := ⟨_, rfl⟩
  rw [← hk] at HF HA ⊢
  have HK := Lib.hid hk
  clear hr hn hC h0 hl hE hR hn2 hk
  go_enter Try.func23, Try.ntmps23
  go_wp2_with fail
  refine Calls.mono (HF.out _ HA.out) ?_
  rintro z W1 ⟨b1, h1, h2⟩
  have B1 := HA.out.trans (b1.mono HA.out.size)
  have HB1 := Lib.hid B1
  by_cases hz : R = 0
  · obtain ⟨fb, wb, a', c', rfl, hfb, hwb, hne, sb, wx, of⟩ := h2 hz
    obtain ⟨h8, hfs⟩ := HOk.out hz
    have l1 : W.heap.size ≤ (W.alloc (.cells #[.slice fa k fc] 24)).heap.size := HA.out.size
    have HEq : Hid (E = inOrderE (check3S fs.length) l) := by unfold Hid; rw [HE.out, if_neg (by simpa using hz)]
    have HV := Lib.hid (rover_any SP sb (by rw [HK.out] at wx; exact wx) (by rw [HK.out] at of; exact of) h8 (Ne.symm hne) hfs H0.out B1 (Nat.le_trans l1 hwb) (Nat.le_trans l1 hfb) HL.out)
    rw [← HEq.out, ← HN.out] at HV
    subst hz
    clear h1 h2 b1 B1 sb wx of hfb hwb hne hfs h8 HF HOk l1
    go_wp2_with fail
    refine Calls.mono HV.out ?_
    rintro z2 W2 ⟨q1, q2, q3⟩
    by_cases hz : E = 0
    · obtain ⟨xs, ys, zs, v, O, k1, k2, k3, rfl, k5, k6⟩ := q3 hz
      have HQ := Lib.hid (And.intro q1 (And.intro hz (And.intro k1 (And.intro k2 (And.intro k3 (And.intro k5 k6))))))
      clear q1 q2 q3 hz k1 k2 k3 k5 k6 HV
      go_wp2
      go_ret2
      obtain ⟨q1, hz, k1, k2, k3, k5, k6⟩ := HQ.out
      exact ⟨q1, fun z => absurd hz z, fun _ => ⟨xs, ys, zs, v, O, k1, k2, k3, rfl, k5, k6⟩⟩
    · have hz2 := q2 hz
      subst hz2
      have HQ := Lib.hid (And.intro q1 hz)
      clear q1 q2 q3 hz HV
      go_wp2
      go_ret2
      exact ⟨HQ.out.1, fun _ => rfl, fun z => absurd z HQ.out.2⟩
  · have hz2 := h1 hz
    subst hz2
    have b0 : (R != 0) = true := by simp [hz]
    have HEq : Hid (E = R ∧ R ≠ 0) := ⟨by rw [HE.out, if_pos hz], hz⟩
    clear h1 h2 b1 B1 hz HF HOk
    go_wp2
    go_ret2
    exact ⟨HB1.out, fun _ => by rw [HEq.out.1]; rfl, fun z => absurd (HEq.out.1.symm.trans z) HEq.out.2⟩
end Go.Proofs.Ytemdhpjoakldhaa

namespace Go.Proofs.Ytemdhpjoakldhaa
open Go.RowKit
set_option linter.unusedVariables false

theorem own_low {w : World} {B B' n : Nat} {v : Value} {xs : List Nat} (h : Own w B v n xs) (k : B' ≤ B) : Own w B' v n xs := ⟨h.1, row_low h.2 k⟩
theorem O3.low {w : World} {B B' : Nat} {x : EntD} (h : O3 w B x) (k : B' ≤ B) : O3 w B' x := ⟨own_low h.row k, own_low h.qual k, own_low h.val k, h.arq, h.arv, h.aqv⟩
theorem Rw.low {w : World} {B B' : Nat} {v : Value} {xs : List EntD} {O : Nat → Prop} (h : Rw w B v xs O) (k : B' ≤ B) : Rw w B' v xs O := ⟨row_low h.row k, fun x hx => (h.ents x hx).low k, h.ap, h.rowO, h.entO⟩

set_option maxRecDepth 100000 in
set_option maxHeartbeats 4000000 in
theorem vis_any (SP : SortP) {W : World} {cap fc : Nat} {a fa : Option Addr} {fs : List FamD} {l : List EntD} (hr : RdF W (.slice fa fs.length fc) fs) (hn : fa = none → fc = 0) (C : Nat) (hC : (C = 0 ↔ SchemaOk fs) ∧ (C = 0 ∨ C = 28)) (clock : Int) (h0 : RdL3 W a cap l) (hl : l.length ≤ 1353245080300) :
    Calls Try.prog 18 #[.agg #[.slice fa fs.length fc], .int .i64 clock, .slice a l.length cap] W fun r W' => Below W.heap.size W W' ∧ (readE C fs clock 1099511627776 16 l ≠ 0 → r = .returned (.tuple #[.slice none 0 0, .int .i64 (readE C fs clock 1099511627776 16 l)])) ∧ (readE C fs clock 1099511627776 16 l = 0 → ∃ (xs ys zs : List EntD) (v : Value) (O : Nat → Prop), onceS l = some xs ∧ ys.Perm xs ∧ (ys.Pairwise fun x y => compareS x y ≤ 0) ∧ r = .returned (.tuple #[v, .int .i64 0]) ∧ Rw W' W.heap.size v zs O ∧ zs.map EntD.dat = (showS 1099511627776 16 (verdictsS (mt fs) clock (ys.map EntD.dat))).2) := by
  have HA := Lib.hid ((Below.refl W.heap.size W).alloc (Nat.le_refl _) (.cells #[.slice fa fs.length fc] 24))
  have HV := Lib.hid (read_any SP (hr.later HA.out) hn C hC clock 1099511627776 16 (h0.later HA.out) hl)
  obtain ⟨E, hE⟩ : ∃ E, E = readE C fs clock 1099511627776 16 l := ⟨_, rfl⟩
  rw [← hE] at HV ⊢
  obtain ⟨n, hn2⟩ : ∃ n, n = l.length := ⟨_, rfl⟩
  rw [← hn2] at HV ⊢
  obtain ⟨k, hk⟩ : ∃ k, k = fs.length := ⟨_, rfl⟩
  rw [← hk] at HV HA ⊢
  clear hr hn hC h0 hl hE hn2 hk
  go_enter Try.func18, Try.ntmps18
  go_wp2_with fail
  refine Calls.mono HV.out ?_
  rintro z2 W2 ⟨q1, q2, q3⟩
  by_cases hz : E = 0
  · obtain ⟨xs, ys, zs, v, O, k1, k2, k3, rfl, k5, k6⟩ := q3 hz
    have HQ := Lib.hid (And.intro q1 (And.intro hz (And.intro k1 (And.intro k2 (And.intro k3 (And.intro k5 k6))))))
    clear q1 q2 q3 hz k1 k2 k3 k5 k6 HV
    go_wp2
    go_ret2
    obtain ⟨q1, hz, k1, k2, k3, k5, k6⟩ := HQ.out
    exact ⟨HA.out.trans (q1.mono HA.out.size), fun z => absurd hz z, fun _ => ⟨xs, ys, zs, v, O, k1, k2, k3, rfl, k5.low HA.out.size, k6⟩⟩
  · have hz2 := q2 hz
    subst hz2
    have HQ := Lib.hid (And.intro q1 hz)
    clear q1 q2 q3 hz HV
    go_wp2
    go_ret2
    exact ⟨HA.out.trans (HQ.out.1.mono HA.out.size), fun _ => rfl, fun z => absurd z HQ.out.2⟩
end Go.Proofs.Ytemdhpjoakldhaa

namespace Go.Proofs.Ytemdhpjoakldhaa
open Go.RowKit
set_option linter.unusedVariables false

/-- What a peak's asking says of its arguments. -/
def topE (C : Nat) (fs : List FamD) (clock : Int) (l : List EntD) : Int := if boundsS C [clock] ≠ 0 then boundsS C [clock] else inOrderE (check3S fs.length) l

set_option maxRecDepth 100000 in
set_option maxHeartbeats 4000000 in
theorem top_any (SP : SortP) {W : World} {cap fc : Nat} {a fa : Option Addr} {fs : List FamD} {l : List EntD} (hr : RdF W (.slice fa fs.length fc) fs) (hn : fa = none → fc = 0) (C : Nat) (hC : (C = 0 ↔ SchemaOk fs) ∧ (C = 0 ∨ C = 28)) (clock : Int) (h0 : RdL3 W a cap l) (hl : l.length ≤ 1353245080300) :
    Calls Try.prog 29 #[.agg #[.slice fa fs.length fc], .int .i64 clock, .slice a l.length cap] W fun r W' => Below W.heap.size W W' ∧ (topE C fs clock l ≠ 0 → r = .returned (.tuple #[.int .i64 0, .int .i64 (topE C fs clock l)])) ∧ (topE C fs clock l = 0 → ∃ (xs ys : List EntD), onceS l = some xs ∧ ys.Perm xs ∧ (ys.Pairwise fun x y => compareS x y ≤ 0) ∧ r = .returned (.tuple #[.int .i64 (topS (verdictsS (mt fs) clock (ys.map EntD.dat))), .int .i64 0])) := by
  have A1 := (Below.refl W.heap.size W).alloc (Nat.le_refl _) (.cells #[.slice fa fs.length fc] 24)
  have A2 := A1.alloc A1.size (.cells #[.int .i64 clock] 3)
  obtain ⟨k, hk⟩ : ∃ k, k = fs.length := ⟨_, rfl⟩
  have HR : Hid (∀ Z, Below W.heap.size W Z → RdF Z (.slice fa k fc) fs) := fun Z b => by rw [hk]; exact hr.later b
  obtain ⟨E, hE⟩ : ∃ E, E = topE C fs clock l := ⟨_, rfl⟩
  obtain ⟨R, hR⟩ : ∃ R, R = boundsS C [clock] := ⟨_, rfl⟩
  have HE : Hid (E = if R ≠ 0 then R else inOrderE (check3S fs.length) l) := by unfold Hid; rw [hE, hR]; rfl
  have HOk : Hid (R = 0 → fs.length ≤ 8 ∧ ∀ f ∈ fs, 0 ≤ f.tl ∧ f.tl ≤ 1099511627776) := fun z => by
    have hs := hC.1.1 (bounds_ok (hR.symm.trans z)).1
    refine ⟨hs.1.2, fun f hf => ?_⟩
    obtain ⟨i, hi⟩ := List.getElem?_of_mem hf
    exact (hs.2 i f hi).1.2.2
  have HRR := Lib.hid hR
  have HN := Lib.hid hn
  have HC := Lib.hid hC
  have HK := Lib.hid hk
  have H0 := Lib.hid h0
  have HL := Lib.hid hl
  obtain ⟨n, hn2⟩ : ∃ n, n = l.length := ⟨_, rfl⟩
  have HN2 := Lib.hid hn2
  rw [← hk] at A1 A2
  rw [← hE, ← hn2, ← hk]
  have HA2 := Lib.hid A2
  clear hr hn hC A1 A2 hR hk hE h0 hl hn2
  go_enter Try.func29, Try.ntmps29
  go_wp2_with fail
  have HI : Hid (RdI ((W.alloc (.cells #[.slice fa k fc] 24)).alloc (.cells #[.int .i64 clock] 3)) (.slice (some ⟨W.heap.size + 1, 0, none⟩) 1 1) [clock]) := by
    refine ⟨W.heap.size + 1, 0, 1, rfl, by simp, fun i t hi => ?_⟩
    have hw : ((W.alloc (.cells #[.slice fa k fc] 24)).alloc (.cells #[.int .i64 clock] 3)).heap[W.heap.size + 1]? = some (.cells #[.int .i64 clock] 3 (0, 0)) := by
      have := heap_new (W.alloc (.cells #[.slice fa k fc] 24)) (.cells #[.int .i64 clock] 3)
      simpa using this
    match i, hi with
    | 0, hi => simp only [List.getElem?_cons_zero, Option.some.injEq] at hi; subst hi; exact cell_of hw rfl
    | i + 1, hi => simp at hi
  refine Calls.mono (checkBounds_any (HR.out _ HA2.out) C HC.out HI.out) ?_
  rintro z W1 ⟨rfl, b1⟩
  rw [← HRR.out]
  have B1 := HA2.out.trans (b1.mono HA2.out.size)
  have s0 : W1.cell? ⟨W.heap.size, 0, none⟩ = some (.slice fa k fc) := by
    rw [b1.cell (p := ⟨W.heap.size, 0, none⟩) (by simp; omega)]
    simp
  have HB1 := Lib.hid B1
  clear b1 B1 HI HA2 HRR
  by_cases hz : R = 0
  · have b0 : (R != 0) = false := by simp [hz]
    obtain ⟨h8, hfs⟩ := HOk.out hz
    have HEq : Hid (E = inOrderE (check3S fs.length) l) := by unfold Hid; rw [HE.out, if_neg (by simpa using hz)]
    have H8 := Lib.hid (And.intro h8 hfs)
    clear hz h8 hfs HOk HE
    have A3 := (Below.refl W1.heap.size W1).alloc (Nat.le_refl _) (.cells #[.int .i64 0] 86)
    have pb : PBx (W1.alloc (.cells #[.int .i64 0] 86)) W1.heap.size 0 := heap_new W1 _
    have s1 : (W1.alloc (.cells #[.int .i64 0] 86)).cell? ⟨W.heap.size, 0, none⟩ = some (.slice fa k fc) := by rw [A3.cell (p := ⟨W.heap.size, 0, none⟩) (World.block_lt_of_cell? W1 _ s0)]; exact s0
    have HA3 := Lib.hid A3
    have HPb := Lib.hid pb
    clear A3 pb s0
    go_wp2_with fail
    have hB3 := HB1.out.trans (HA3.out.mono HB1.out.size)
    have hnw := newWalk_any (by have := HR.out _ hB3; rw [HK.out] at this; exact this) HN.out H8.out.1 clock (.func (.func 41) #[.pointer (some ⟨W1.heap.size, 0, none⟩)] #[]) ⟨_, _, _, rfl⟩
    rw [← HK.out] at hnw
    refine Calls.mono hnw ?_
    rintro z W2 ⟨wb, a', c', rfl, hwb, hwx, hof, hb2⟩
    clear hnw
    have szX : (W1.alloc (.cells #[.int .i64 0] 86)).heap.size = W1.heap.size + 1 := by simp
    have pb2 := HPb.out.keep (hb2.block W1.heap.size HPb.out.lt)
    rw [szX] at hwb
    have l1 := HB1.out.size
    have hB4 := hB3.trans (hb2.mono hB3.size)
    have HV := Lib.hid (over_all SP (peak_teller W1.heap.size) (by rw [HK.out] at hwx; exact hwx) (by rw [HK.out] at hof; exact hof) H8.out.1 (TP.start pb2) (by omega) ⟨_, _, pb2, by decide, by decide⟩ H8.out.2 H0.out hB4 (by omega) l1 HL.out)
    rw [← HEq.out, ← HN2.out] at HV
    have HB4 := Lib.hid hB4
    have HL1 := Lib.hid (And.intro l1 hwb)
    have HPb2 := Lib.hid pb2
    clear hB4 hB3 hb2 hwx hof pb2 hwb szX l1 s1 HA3 HPb
    go_wp2_with fail
    refine Calls.mono HV.out ?_
    rintro z W3 ⟨rfl, h1, h2⟩
    clear HV
    by_cases hz : E = 0
    · obtain ⟨xs, ys, W4, O, k1, k2, k3, k4, k5⟩ := h2 hz
      have p0 := k5.tell.st.c0
      have HQ := Lib.hid (And.intro k1 (And.intro k2 (And.intro k3 (And.intro k4 k5))))
      subst hz
      clear h1 h2 k1 k2 k3 k4 k5
      go_wp2
      go_ret2
      obtain ⟨k1, k2, k3, k4, k5⟩ := HQ.out
      obtain ⟨l1, l2⟩ := HL1.out
      have b := HB4.out
      have szW : W.heap.size ≤ W4.heap.size := Nat.le_trans b.size k4.size
      refine ⟨⟨k5.os.trans (k4.os.trans b.os), k5.tape.trans (k4.tape.trans b.tape), k5.output.trans (k4.output.trans b.output), Nat.le_trans szW k5.fr.1, fun i hi => ?_⟩, xs, k1, ys, k2, k3, rfl⟩
      rw [k5.fr.2 i (Nat.lt_of_lt_of_le hi szW) (by omega) (by omega), k4.block i (Nat.lt_of_lt_of_le hi b.size)]
      exact b.block i hi
    · have b1 : (E != 0) = true := by simp [hz]
      have HQ := Lib.hid (And.intro hz (h1 hz))
      clear h1 h2 hz
      go_wp2
      go_ret2
      have b := HB4.out
      have b3 := HQ.out.2
      exact ⟨b.trans (b3.mono b.size), fun _ => rfl, fun z => absurd z HQ.out.1⟩
  · have b0 : (R != 0) = true := by simp [hz]
    have HEq : Hid (E = R ∧ R ≠ 0) := ⟨by rw [HE.out, if_pos hz], hz⟩
    clear hz HOk HE
    go_wp2
    go_ret2
    exact ⟨HB1.out, fun _ => by rw [HEq.out.1]; rfl, fun z => absurd (HEq.out.1.symm.trans z) HEq.out.2⟩
end Go.Proofs.Ytemdhpjoakldhaa
