import Derived.Test.YtchebhafabhabaaGreatDoorK22
namespace Go.Proofs.YtchebhafabhabaaGreatDoor
open Go.RowKit Go.Shelf
set_option linter.unusedVariables false

def RoP (W : World) (bs : List Nat) (x : Ending) (w' : World) : Prop :=
 Below W.heap.size W w' ∧ ((opE bs ≠ 0 ∧ x = .returned (.tuple #[.slice none 0 0, .int .i64 ((opE bs : Nat) : Int)])) ∨ (opE bs = 0 ∧ ∃ a cap xs, x = .returned (.tuple #[.slice a (List.length xs) cap, .int .i64 0]) ∧ WantL w' W.heap.size a cap xs ∧ Blad (rstOf bs) (kvL xs) (entsOf bs) (placesOf5 bs) ∧ xs.length = cntOf bs))
theorem RoP.err {W w' : World} {bs : List Nat} {e : Nat} (hb : Below W.heap.size W w') (h : opE bs = e) (he : e ≠ 0) : RoP W bs (.returned (.tuple #[.slice none 0 0, .int .i64 (e : Int)])) w' := by
 subst h
 exact ⟨hb, .inl ⟨he, rfl⟩⟩
theorem opE_late {bs : List Nat} (h1 : bs.length ≤ 131072) (h9 : 9 ≤ bs.length) (hs : sum4 bs = sumL (bs.take (bs.length - 4))) (h0 : opE bs ≠ 0) : opE bs = 51 := by
 unfold opE at *
 rw [if_neg (by omega), if_neg (by omega), if_neg (by rw [hs]; simp)] at *
 split
 ·rename_i h; rw [if_pos h] at h0; exact absurd rfl h0
 ·rfl
theorem opE_sp {bs : List Nat} (h : opE bs = 0) : spOk bs := by
 unfold opE at h
 split at h
 ·cases h
 ·split at h
  ·cases h
  ·split at h
   ·cases h
   ·split at h
    ·rename_i hs; exact hs.1
    ·cases h
theorem opE_sum {bs : List Nat} (h1 : bs.length ≤ 131072) (h9 : 9 ≤ bs.length) (hs : sum4 bs ≠ sumL (bs.take (bs.length - 4))) : opE bs = 52 := by
 unfold opE
 rw [if_neg (by omega), if_neg (by omega), if_pos hs]
theorem sum_bytes {bs : List Nat} (hb : Bys bs) (h9 : 9 ≤ bs.length) : le4 (sumL (bs.take (bs.length - 4))) = bs.drop (bs.length - 4) ↔ sum4 bs = sumL (bs.take (bs.length - 4)) := by
 obtain ⟨m, hm⟩ : ∃ m, bs.length = m + 4 := ⟨bs.length - 4, by omega⟩
 have hd : (bs.drop m).length = 4 := by rw [List.length_drop]; omega
 have hf := four (l := bs.drop m) (by omega)
 rw [List.take_of_length_le (by omega)] at hf
 have hl : le4 (sum4 bs) = bs.drop m := by
  unfold sum4
  rw [hm, show m + 4 - 4 = m by omega, le4_rdle _ _ _ _ (getD_lt hb _) (getD_lt hb _) (getD_lt hb _) (getD_lt hb _), hf]
  simp [List.getD_eq_getElem?_getD, List.getElem?_drop]
 rw [hm, show m + 4 - 4 = m by omega, ← hl]
 have h1 := sumL_lt (bs.take m)
 generalize sumL (bs.take m) = A at *
 constructor
 ·intro h
  unfold le4 at h
  simp only [List.cons.injEq, and_true] at h
  omega
 ·intro h; rw [h]
theorem w64_5 (z : Int) (h0 : -9223372036854775808 ≤ z) (h1 : z < 9223372036854775808) : wrap64 z = z := by
 unfold wrap64
 omega
theorem sealed_sl5 {b off off' n n' c c' : Nat} {bs : List Nat} {w : World} (hb : Rd w (.slice (some ⟨b, off', none⟩) n' c') bs) (h1 : off = off') (h2 : n = n') (h3 : c = c') :
  Calls Tryz.prog 66 #[.slice (some ⟨b, off, none⟩) n c] w fun e w' => ∃ a m c, e = .returned (.slice a m c) ∧ Own w' w.heap.size (.slice a m c) m (le4 (sumL bs)) ∧ Below w.heap.size w w' := by
 subst h1 h2 h3; exact sealed_any hb
theorem refSame_sl5 {a : Value} {b off off' n n' c c' : Nat} {xs ys : List Nat} {w : World} (ha : Rd w a xs) (hb : Rd w (.slice (some ⟨b, off', none⟩) n' c') ys) (h1 : off = off') (h2 : n = n') (h3 : c = c') :
  Calls Tryz.prog 65 #[a, .slice (some ⟨b, off, none⟩) n c] w fun e w' => e = .returned (.bool (decide (xs = ys))) ∧ w' = w := by
 subst h1 h2 h3; exact refSame_any ha hb
set_option maxRecDepth 100000 in
set_option maxHeartbeats 8000000 in
theorem refOpen5_in {W : World} {b off n c : Nat} {bs : List Nat} (hr : Rd W (.slice (some ⟨b, off, none⟩) n c) bs) (h9 : 9 ≤ n) (hl : n ≤ 131072) :
  Calls Tryz.prog 26 #[.slice (some ⟨b, off, none⟩) n c] W fun x w' => RoP W bs x w' := by
 obtain ⟨hn, hle, hm48, -⟩ := rd_lens hr
 obtain ⟨sm, hsm⟩ : ∃ sm, n - 4 = sm := ⟨_, rfl⟩
 have HN := Lib.hid hn
 have HR := Lib.hid hr
 have r1 : Hid (Rd W (.slice (some ⟨b, off, none⟩) sm c) (bs.take sm)) := hr.upto sm (by omega)
 have r2 : Hid (Rd W (.slice (some ⟨b, off + sm, none⟩) (n - sm) (c - sm)) (bs.drop sm)) := hr.past sm (by omega) rfl rfl rfl
 have BD : Below W.heap.size W W.drew := (Below.refl _ _).drew
 have HSB : Hid (∀ l : List Nat, Bys (le4 (sumL l))) := fun l => le4_bys _ (sumL_lt l)
 have h4 : sm + 4 = n := by omega
 have h4i : (n : Int) - 4 = (sm : Int) := by omega
 have hcf : n ≤ c := hle
 have hw4 : IntKind.i64.wrap (sm : Int) = (sm : Int) := IntWalk.i64_in _ ⟨by omega, by omega⟩
 have hc1 : (sm : Int) ≤ (c : Int) := by omega
 have hc2 : (sm : Int) ≤ (n : Int) := by omega
 have hcne : ¬ c = sm := by omega
 have HSb : Hid (le4 (sumL (bs.take sm)) = bs.drop sm ↔ sum4 bs = sumL (bs.take (bs.length - 4))) := by
  have := sum_bytes hr.1 (show 9 ≤ bs.length by omega)
  rw [← hn, hsm] at this
  rw [← hn, hsm]
  exact this
 obtain ⟨fo, hfo⟩ : ∃ fo, n - 9 = fo := ⟨_, rfl⟩
 obtain ⟨q4, hq4⟩ : ∃ q4, fo + 4 = q4 := ⟨_, rfl⟩
 have hfi : (n : Int) - 9 = (fo : Int) := by omega
 have hqi : (n : Int) - 5 = (q4 : Int) := by omega
 obtain ⟨cn, hcn⟩ : ∃ cn, cn = cntOf bs := ⟨_, rfl⟩
 obtain ⟨rs, hrs⟩ : ∃ rs, rs = rstOf bs := ⟨_, rfl⟩
 have hcell : Hid (∀ wx, Below W.heap.size W wx → wx.cell? ⟨b, off + q4, none⟩ = some (.int .u8 (rs : Int))) := fun wx hx => by
  have e : rs = bs.getD q4 0 := by rw [hrs]; unfold rstOf; rw [← hn, hfo, hq4]
  rw [e]; exact (rd_cell (hr.later hx) q4 (by omega)).1
 have hrl : rs < 256 := by rw [hrs]; exact getD_lt hr.1 _
 have HNu : Hid (∀ wx, Below W.heap.size W wx → Calls Tryz.prog 67 #[.slice (some ⟨b, off, none⟩) n c, .int .i64 (fo : Int)] wx fun e w' => e = .returned (.int .i64 (cn : Int)) ∧ Below wx.heap.size wx w') := fun wx hx => by
  have h := number5_any (hr.later hx) fo (by omega)
  have e : rdle (bs.getD (fo + 3) 0) (bs.getD (fo + 2) 0) (bs.getD (fo + 1) 0) (bs.getD fo 0) = cn := by
   rw [hcn]; unfold cntOf; rw [← hn, hfo]
  rw [e] at h
  exact h
 have hcl : cn < 4294967296 := by rw [hcn]; exact rdle_lt _ _ _ _ (getD_lt hr.1 _) (getD_lt hr.1 _) (getD_lt hr.1 _) (getD_lt hr.1 _)
 have HCr := Lib.hid (And.intro hcn (And.intro hrs (And.intro hfo hq4)))
 have hqn : (q4 : Int) < (n : Int) := by omega
 have hq0 : (0 : Int) ≤ (q4 : Int) := by omega
 have HLn := Lib.hid (And.intro h9 (And.intro hl hsm))
 clear hn hr hcn hrs hfo hq4 hsm
 go_enter Tryz.func26, Tryz.ntmps26
 go_upto_region 6 with fail
 go_region_held3 (fun wx => Below W.heap.size W wx) (first | exact BD | exact hbA | assumption) (first | (go_at_call 66; refine (sealed_sl5 (r1.out.later BD) (by first | rfl | omega | (simp; omega)) (by first | rfl | omega | (simp; omega)) (by first | rfl | omega | (simp; omega))).mono ?_; rintro e wa ⟨aa, ma, ca, rfl, owna, hba⟩; have ra := owna.rd (HSB.out _) (by rw [owna.1]; simp [le4]); have hbA : Below W.heap.size W wa := BD.trans (hba.mono (Nat.le_refl _)); clear owna hba) | (go_at_call 65; refine (refSame_sl5 ra (r2.out.later hbA) (by first | rfl | omega | (simp; omega)) (by first | rfl | omega | (simp; omega)) (by first | rfl | omega | (simp; omega))).mono ?_; rintro e wz ⟨rfl, rfl⟩))
 by_cases hsum : le4 (sumL (bs.take sm)) = bs.drop sm
 case neg =>
  have HEnd : Hid (RoP W bs (.returned (.tuple #[.slice none 0 0, .int .i64 52])) _) := RoP.err hbA (opE_sum (by rw [← HN.out]; exact hl) (by rw [← HN.out]; exact h9) (fun h => hsum (HSb.out.2 h))) (show (52 : Nat) ≠ 0 by decide)
  rw [decide_eq_false hsum]
  go_wp2
  go_ret2
  exact HEnd.out
 rw [decide_eq_true hsum]
 have HLate := Lib.hid (opE_late (bs := bs) (by rw [← HN.out]; exact hl) (by rw [← HN.out]; exact h9) (HSb.out.1 hsum))
 have HBA := Lib.hid hbA
 have HNu := Lib.hid (HNu.out _ hbA)
 have hc8 := hcell.out _ hbA
 clear hbA ra hsum BD hcell
 go_wp2_with fail
 refine HNu.out.mono ?_
 rintro z X1 ⟨rfl, b1⟩
 have HB1 := Lib.hid (HBA.out.trans (b1.mono HBA.out.size))
 clear b1 HNu HBA hc8
 go_wp2_with fail
 by_cases hrr : 1 ≤ rs ∧ rs ≤ 16
 case neg =>
  have HEnd : Hid (∀ X2, Below X1.heap.size X1 X2 → RoP W bs (.returned (.tuple #[.slice none 0 0, .int .i64 51])) X2) := fun X2 b2 => RoP.err (HB1.out.trans (b2.mono HB1.out.size)) (HLate.out (fun h => hrr (by rw [HCr.out.2.1]; exact (opE_sp h).2.1))) (show (51 : Nat) ≠ 0 by decide)
  have HBg := begin5_any (rs : Int) X1
  rw [if_neg (by omega)] at HBg
  refine HBg.mono ?_
  rintro z X2 ⟨rfl, rfl⟩
  have HEnd := Lib.hid (HEnd.out X2 (Below.refl _ _))
  clear HBg
  go_wp2
  go_ret2
  exact HEnd.out
 have HBg := begin5_any (rs : Int) X1
 rw [if_pos (by omega)] at HBg
 refine HBg.mono ?_
 rintro z X2 ⟨rfl, rfl⟩
 clear HBg
 have HFew : Hid (opE bs = 0 → 1 ≤ cn ∧ cn ≤ n) := fun h => by
  obtain ⟨l, q1, q2, q3⟩ := opE_blad HR.out.1 h
  have f1 := q1.few
  have f2 : l ≠ [] := q1.some_
  have f3 : (entsOf bs).length ≤ bs.length := by unfold entsOf; rw [List.length_take]; omega
  have f4 : 0 < l.length := List.length_pos_iff.2 f2
  have := HCr.out.1
  have := HN.out
  omega
 by_cases hcn1 : 1 ≤ cn
 case neg =>
  have HEnd := Lib.hid (RoP.err (W := W) (bs := bs) HB1.out (HLate.out (fun h => hcn1 (HFew.out h).1)) (show (51 : Nat) ≠ 0 by decide))
  have hi : (cn : Int) < 1 := by omega
  go_wp2
  go_ret2
  exact HEnd.out
 by_cases hcn2 : cn ≤ n
 case neg =>
  have HEnd := Lib.hid (RoP.err (W := W) (bs := bs) HB1.out (HLate.out (fun h => hcn2 (HFew.out h).2)) (show (51 : Nat) ≠ 0 by decide))
  have hi : ¬ (cn : Int) < 1 := by omega
  have hj : n < cn := by omega
  have hj2 : (n : Int) < (cn : Int) := by omega
  go_wp2
  go_ret2
  exact HEnd.out
 have hi : ¬ (cn : Int) < 1 := by omega
 have hj : ¬ n < cn := by omega
 have hj2 : ¬ (n : Int) < (cn : Int) := by omega
 have hrn : ¬ (rs : Int) = 0 := by omega
 go_upto_region 13 with fail
 obtain ⟨nr, hnr⟩ : ∃ nr, nr = (cn + rs - 1) / rs := ⟨_, rfl⟩
 have hnr2 : nr ≤ cn := by
  rw [hnr]
  refine Nat.div_le_of_le_mul ?_
  have : cn + rs - 1 ≤ rs * cn := by
   have h1 : 1 ≤ rs := hrr.1
   have h2 : (rs - 1) * 1 ≤ (rs - 1) * cn := Nat.mul_le_mul_left _ hcn1
   have h3 : rs * cn = (rs - 1) * cn + cn := by
    obtain ⟨k, rfl⟩ : ∃ k, rs = k + 1 := ⟨rs - 1, by omega⟩
    rw [Nat.add_sub_cancel, Nat.succ_mul]
   omega
  exact this
 have hdv : ((cn : Int) + (rs : Int) - 1) / (rs : Int) = (nr : Int) := by
  rw [hnr, Int.natCast_ediv]
  congr 1
  omega
 have hz : wrap64 ((fo : Int) - wrap64 (4 * (((cn : Int) + (rs : Int) - 1) / (rs : Int)))) = (fo : Int) - 4 * (nr : Int) := by
  rw [hdv, w64_5 (4 * (nr : Int)) (by omega) (by omega), w64_5 _ (by omega) (by omega)]
 rw [hz, hdv]
 have HNr : Hid (nrsOf bs = nr ∧ bs.length - 9 = fo) := ⟨by unfold nrsOf; rw [← HCr.out.1, ← HCr.out.2.1]; exact hnr.symm, by rw [← HN.out]; exact HCr.out.2.2.1⟩
 clear hz hdv hnr
 by_cases hbd : 4 * nr ≤ fo
 case neg =>
  have HEnd := Lib.hid (RoP.err (W := W) (bs := bs) HB1.out (HLate.out (fun h => hbd (by have := (opE_sp h).2.2; rw [HNr.out.1, HNr.out.2] at this; exact this))) (show (51 : Nat) ≠ 0 by decide))
  have hi9 : (fo : Int) - 4 * (nr : Int) < 0 := by omega
  go_wp2
  go_ret2
  exact HEnd.out
 obtain ⟨bd, hbd2⟩ : ∃ bd, bd = fo - 4 * nr := ⟨_, rfl⟩
 have hbi : (fo : Int) - 4 * (nr : Int) = (bd : Int) := by omega
 rw [hbi]
 have HE : Hid (entsOf bs = bs.take bd) := by unfold Hid entsOf plsOf; rw [HNr.out.1, HNr.out.2, hbd2]
 have hbn : bd ≤ n := by omega
 have HEl : Hid ((entsOf bs).length = bd) := by unfold Hid; rw [HE.out, List.length_take, ← HN.out]; omega
 have rE : Hid (∀ wx, Below W.heap.size W wx → Rd wx (.slice (some ⟨b, off, none⟩) bd c) (entsOf bs)) := fun wx hx => by
  have := (HR.out.later hx).upto bd hbn
  rw [HE.out]
  exact this
 have hb0 : (0 : Int) ≤ (bd : Int) := by omega
 have hbc : (bd : Int) ≤ (c : Int) := by omega
 have hbc2 : (bd : Int) ≤ (n : Int) := by omega
 have HSt : Hid (Oz W X2 bs (entsOf bs) 0 0 [] (.slice none 0 0) (.slice none 0 0) []) := by
  have h := Oz.start (W := W) HR.out.1
  exact ⟨World.ownsRow_nil _ _ _ _, (fun x hx => by cases hx), (fun x hx => by cases hx), rfl, ownNil _ _, h.bys, Nat.le_refl _, Nat.zero_le _, HB1.out, h.fact⟩
 clear hbi hbd2 hbd
 go_wp2
 go_loopw [8, 9, 10, 11, 12, 13, 14, 15] (fun vm vl pv iv _ _ _ _ wr => ∃ (k p nm nl : Nat) (am : Option Addr) (cm : Nat) (al : Option Addr) (cl : Nat) (xs : List EntD) (la : List Nat), k ≤ cn ∧ iv = .int .i64 (k : Int) ∧ pv = .int .i64 (p : Int) ∧ vm = .slice am nm cm ∧ vl = .slice al nl cl ∧ Hid (nm = xs.length ∧ nl = la.length ∧ Oz W wr bs (entsOf bs) k p xs (.slice am nm cm) (.slice al nl cl) la)) (fun _ _ _ iv _ _ _ _ _ => cn - (intOf iv).toNat)
 case atStart => exact ⟨0, 0, 0, 0, none, 0, none, 0, [], [], Nat.zero_le _, rfl, rfl, rfl, rfl, rfl, rfl, HSt.out⟩
 case round =>
  clear HSt
  obtain ⟨k, p, nm, nl, am, cm, al, cl, xs, la, hk, rfl, rfl, rfl, rfl, HU⟩ := hrel
  have k0 : (0 : Int) ≤ (k : Int) := by omega
  by_cases hlt : k < cn
  ·have hlt2 : (k : Int) < (cn : Int) := by omega
   have HEn : Hid (Calls Tryz.prog 68 #[.slice (some ⟨b, off, none⟩) bd c, .int .i64 (p : Int), .slice al nl cl] wr fun x w' => REp wr (entsOf bs) p la x w') := by
    obtain ⟨-, hnl, oz⟩ := HU.out
    have hol := oz.last
    rw [← hnl] at hol
    exact refEntry5_any (rE.out _ oz.bel) hol oz.bys p oz.le oz.lap (by have := HEl.out; omega)
   go_wp2_with fail
   refine HEn.out.mono ?_
   rintro z Y1 ⟨b1, ⟨hno, rfl⟩ | ⟨D, p', a1, m1, c1, hrf, hck, rfl, own1, hkb, hok, hown⟩⟩
   ·have HEnd : Hid (∀ Z, Below Y1.heap.size Y1 Z → RoP W bs (.returned (.tuple #[.slice none 0 0, .int .i64 51])) Z) := fun Z bz => by
     obtain ⟨-, -, oz⟩ := HU.out
     have bb := oz.bel.trans (b1.mono oz.bel.size)
     exact RoP.err (bb.trans (bz.mono bb.size)) (HLate.out (oz.stop (by rw [← HCr.out.1]; exact hlt) hno)) (show (51 : Nat) ≠ 0 by decide)
    have HEnd := Lib.hid (HEnd.out _ ((Below.refl Y1.heap.size Y1).alloc (Nat.le_refl _) (.cells #[.slice none 0 0, .int .i64 0, .slice none 0 0, .int .i64 0, .int .i64 0, .int .i64 0, .slice none 0 0] 40)))
    clear hno b1 HEn
    go_wp2
    go_ret2
    exact HEnd.out
   ·obtain ⟨_, p1, q1, e1, -⟩ := hok.1
    obtain ⟨_, p2, q2, e2, -⟩ := hok.2.1
    obtain ⟨_, p3, q3, e3, -⟩ := hok.2.2
    obtain ⟨z1, hz1⟩ : ∃ z, z = D.row.length := ⟨_, rfl⟩
    obtain ⟨z2, hz2⟩ : ∃ z, z = D.qual.length := ⟨_, rfl⟩
    obtain ⟨z3, hz3⟩ : ∃ z, z = D.val.length := ⟨_, rfl⟩
    have hce : D.cells = #[.slice p1 z1 q1, .int .i64 D.fam, .slice p2 z2 q2, .int .i64 D.ts, .int .i64 D.seq, .int .i64 D.kind, .slice p3 z3 q3] := by unfold EntD.cells; rw [e1, e2, e3, hz1, hz2, hz3]
    have bx := EBox.new Y1 D
    have b2 := (Below.refl Y1.heap.size Y1).alloc (Nat.le_refl _) (.cells D.cells 40)
    have b3 := b2.alloc b2.size (.cells D.cells 40)
    have one := RdL5.one (hok.later b2)
    have hs2 : (Y1.alloc (.cells D.cells 40)).heap.size = Y1.heap.size + 1 := by simp
    obtain ⟨Y2, hY2⟩ : ∃ Y2, Y2 = Y1.alloc (.cells D.cells 40) := ⟨_, rfl⟩
    rw [← hY2] at bx b2 b3 one hs2
    obtain ⟨d0, d1, d2, d3, d4, d5, d6⟩ := bx.cells7
    rw [e1, ← hz1] at d0
    rw [e2, ← hz2] at d2
    rw [e3, ← hz3] at d6
    have HOc := Lib.hid (one_cells hok)
    rw [hce] at hY2 b3 one ⊢
    obtain ⟨Y3, hY3⟩ : ∃ Y3, Y3 = Y2.alloc (.cells #[.slice p1 z1 q1, .int .i64 D.fam, .slice p2 z2 q2, .int .i64 D.ts, .int .i64 D.seq, .int .i64 D.kind, .slice p3 z3 q3] 40) := ⟨_, rfl⟩
    rw [← hY3] at b3 one
    have HOne := Lib.hid one
    have HD := Lib.hid (And.intro hrf (And.intro hck (And.intro own1 (And.intro hkb (And.intro hok hown)))))
    have HB3 := Lib.hid (And.intro b1 b3)
    have HRow : Hid (Y3.ownsRow W.heap.size 40 7 (.slice am nm cm) xs.length (evals5 xs) ∧ W.heap.size ≤ Y3.heap.size) := by
     obtain ⟨-, -, oz⟩ := HU.out
     have bb := b1.trans (b3.mono b1.size)
     exact ⟨row_same5 oz.row (fun g hg => bb.block g (oz.row.lt g hg).2), Nat.le_trans oz.bel.size bb.size⟩
    have hxl : Hid (xs.length = k) := HU.out.2.2.len
    have H2 := Lib.hid hY2
    subst hY3
    clear hrf hck own1 hkb hok hown b1 b2 b3 one bx e1 e2 e3 hz1 hz2 hz3 hce hY2 hs2 HEn
    go_upto_region 24 with fail
    rw [← H2.out]
    clear H2
    go_wp2_with (at_builtin; (refine wpl5_append_rd rfl _ _ rfl W.heap.size _ _ rfl HRow.out.1 _ _ _ [D] rfl rfl HOne.out (fun y hy => by simp at hy; subst hy; exact HOc.out) (by have := hxl.out; simp only [List.length_cons, List.length_nil]; omega) HRow.out.2 ?_); intro a2 n2' c2' Y4 hn2 r2' g2; have Hn2 := Lib.hid hn2; clear hn2; refine Hid.out ?_)
    refine Lib.hid ?_
    have HNx : Hid (n2' = (xs ++ [D]).length ∧ m1 = (keyL D).length ∧ Oz W Y4 bs (entsOf bs) (k + 1) p' (xs ++ [D]) (.slice a2 n2' c2') (.slice a1 m1 c1) (keyL D)) := by
     obtain ⟨-, -, oz⟩ := HU.out
     obtain ⟨j1, j2, j3, j4, j5, j6⟩ := HD.out
     have hm1 := j3.1
     refine ⟨Hn2.out, hm1, ?_⟩
     have b13 := HB3.out.2
     have kk := j3.later b13
     rw [hm1] at kk ⊢
     refine oz.next (by rw [← HCr.out.1]; exact hlt) (HB3.out.1.trans (b13.mono HB3.out.1.size)) j1 j2 kk j4 (j5.later b13) (j6.later b13) HRow.out.1 ?_ g2
     rw [Hn2.out] at r2' ⊢
     exact r2'
    clear r2' g2 HOne HOc HRow HD HB3 HU d0 d1 d2 d3 d4 d5 d6
    go_wp2
    go_roundw
    case rel => exact ⟨k + 1, p', n2', m1, a2, c2', a1, c1, xs ++ [D], keyL D, by omega, by go_num, rfl, rfl, rfl, HNx.out⟩
    case measure => simp [intOf]; omega
  ·have hge : ¬ (k : Int) < (cn : Int) := by omega
   obtain rfl : k = cn := by omega
   obtain ⟨-, -, oz⟩ := HU.out
   have hxl := oz.len
   obtain ⟨am', cap', hva, hrl5⟩ := row_rdl5 oz.row oz.ok
   have hnm := HU.out.1
   rw [← hnm] at hva
   simp only [Value.slice.injEq, true_and] at hva
   obtain ⟨rfl, rfl⟩ := hva
   have HBu : Hid (Calls Tryz.prog 19 #[.int .i64 (rs : Int), .slice am nm cm] wr fun x w' => RbA wr rs xs x w') := by
    have h := refBuild5_any hrl5 hrr.1 hrr.2 (by omega)
    rw [← hnm] at h
    exact h
   have HOz := Lib.hid oz
   have hadm : Hid (∀ k, adB am k → W.heap.size ≤ k ∧ k < wr.heap.size) := by
    rintro k ⟨ad, rfl, rfl⟩
    have := oz.row.lt ad.block (by
     rcases oz.row.2 with ⟨h1, h2⟩ | ⟨g, cap, cur, h3, h4, h5⟩
     ·cases h1
     ·simp only [Value.slice.injEq, Option.some.injEq] at h3
      rw [h3.1]
      rfl)
    exact this
   have HRl := Lib.hid hrl5
   have HXl := Lib.hid (And.intro hxl hnm)
   clear oz hrl5 HU hxl hnm
   go_wp2_with fail
   refine HBu.out.mono ?_
   rintro z Z1 ⟨b1, a1, m1, c1, E1, rfl, hr1, hr2, hr3⟩
   have HBz := Lib.hid (HOz.out.bel.trans (b1.mono HOz.out.bel.size))
   have hxne : xs ≠ [] := fun h => by have := HXl.out.1; rw [h] at this; simp at this; omega
   by_cases hb0 : (bldS rs Bs.zero xs).1 = 0
   case neg =>
    obtain ⟨hE1, -⟩ := hr1 hb0
    have HEnd : Hid (RoP W bs (.returned (.tuple #[.slice none 0 0, .int .i64 51])) Z1) := RoP.err HBz.out (HLate.out (fun h => hb0 (by
     have := (HOz.out)
     rw [HCr.out.1] at this
     have h2 := (this.built HR.out.1 h).1
     rw [HCr.out.2.1]
     exact h2))) (show (51 : Nat) ≠ 0 by decide)
    have hE9 : ¬ (E1 : Int) = 0 := by omega
    clear hr1 hr2 hr3 b1 HBu hE1
    go_wp2
    go_ret2
    exact HEnd.out
   obtain ⟨rfl, own1⟩ := hr3 hb0 hxne
   have hbyk : Bys (blockL (bldS rs Bs.zero xs).2.es (bldS rs Bs.zero xs).2.ps xs.length rs) := by
    have hla := laid_of hrr.1 hrr.2 hb0 hxne
    have hck := (bldS_fold rs xs Bs.zero hb0).2.1
    have := hla.bys (HRl.out.bys hck)
    rwa [kvL_len] at this
   have hlenk : (blockL (bldS rs Bs.zero xs).2.es (bldS rs Bs.zero xs).2.ps xs.length rs).length ≤ 131072 := by
    have hla := (laid_of hrr.1 hrr.2 hb0 hxne).size
    rw [blockL_len]
    exact hla
   have HSa := Lib.hid (refSame_any (own1.rd hbyk (by have := own1.1; omega)) (HR.out.later HBz.out))
   obtain ⟨BL, hBL⟩ : ∃ BL, BL = blockL (bldS rs Bs.zero xs).2.es (bldS rs Bs.zero xs).2.ps xs.length rs := ⟨_, rfl⟩
   rw [← hBL] at HSa
   have HBL := Lib.hid hBL
   clear hr1 hr2 hr3 own1 hbyk hlenk HBu hBL
   go_wp2_with fail
   refine HSa.out.mono ?_
   rintro z Z2 ⟨rfl, rfl⟩
   by_cases hsm : BL = bs
   case neg =>
    have HEnd : Hid (RoP W bs (.returned (.tuple #[.slice none 0 0, .int .i64 51])) Z2) := RoP.err HBz.out (HLate.out (fun h => hsm (by
     have := (HOz.out)
     rw [HCr.out.1] at this
     have h2 := (this.built HR.out.1 h).2.1
     rw [HBL.out, HCr.out.2.1]
     exact h2))) (show (51 : Nat) ≠ 0 by decide)
    rw [decide_eq_false hsm]
    clear HSa b1
    go_wp2
    go_ret2
    exact HEnd.out
   have HEnd : Hid (RoP W bs (.returned (.tuple #[.slice am nm cm, .int .i64 0])) Z2) := by
    have h0 : opE bs = 0 := opens_of hrr.1 hrr.2 hb0 hxne (by rw [← HBL.out]; exact hsm)
    have := (HOz.out)
    rw [HCr.out.1] at this
    obtain ⟨-, -, h3, h4⟩ := this.built HR.out.1 h0
    refine ⟨HBz.out, .inr ⟨h0, am, cm, xs, by rw [← HXl.out.2], ⟨HRl.out.later b1, h4, fun k hk => ⟨(hadm.out k hk).1, Nat.lt_of_lt_of_le (hadm.out k hk).2 b1.size⟩, fun e he k hk => ?_⟩, h3, HXl.out.1.trans HCr.out.1⟩⟩
    have hh := (HOz.out.own e he).adr2 k hk
    exact ⟨hh.1, Nat.lt_of_lt_of_le hh.2 b1.size⟩
   rw [decide_eq_true hsm]
   clear HSa b1
   go_wp2
   go_ret2
   exact HEnd.out
theorem refOpen5_any {W : World} {a : Option Addr} {n c : Nat} {bs : List Nat} (hr : Rd W (.slice a n c) bs) :
  Calls Tryz.prog 26 #[.slice a n c] W fun x w' => RoP W bs x w' := by
 obtain ⟨hn, hle, hm48, -⟩ := rd_lens hr
 by_cases h1 : n ≤ 131072
 ·by_cases h9 : 9 ≤ n
  ·rcases rd_some hr with ⟨-, h0, -⟩ | ⟨b, off, rfl⟩
   ·omega
   ·exact refOpen5_in hr h9 h1
  ·have HEnd : Hid (RoP W bs (.returned (.tuple #[.slice none 0 0, .int .i64 51])) W) := RoP.err (Below.refl _ _) (opE_short (by omega)) (show (51 : Nat) ≠ 0 by decide)
   have hi : (n : Int) < 9 := by omega
   have hj : n < 9 := by omega
   clear hr hn
   go_enter Tryz.func26, Tryz.ntmps26
   go_wp2
   go_ret2
   exact HEnd.out
 ·have HEnd : Hid (RoP W bs (.returned (.tuple #[.slice none 0 0, .int .i64 2])) W) := RoP.err (Below.refl _ _) (opE_long (by omega)) (show (2 : Nat) ≠ 0 by decide)
  have hi : (131072 : Int) < (n : Int) := by omega
  clear hr hn
  go_enter Tryz.func26, Tryz.ntmps26
  go_wp2
  go_ret2
  exact HEnd.out
end Go.Proofs.YtchebhafabhabaaGreatDoor

namespace Go.Proofs.YtchebhafabhabaaGreatDoor
open Go.RowKit
set_option linter.unusedVariables false

end Go.Proofs.YtchebhafabhabaaGreatDoor

namespace Go.Proofs.YtchebhafabhabaaGreatDoor
open Go.RowKit
set_option linter.unusedVariables false

end Go.Proofs.YtchebhafabhabaaGreatDoor

namespace Go.Proofs.YtchebhafabhabaaGreatDoor
open Go.RowKit
set_option linter.unusedVariables false

structure KeysMid (w0 w : World) (q1 q2 : Nat) (D1 D2 : EntD) (K P : List Nat) (b1 b2 b3 b4 b5 : Nat) (vb vw vp vv : Value) (mb mw mp mv : Nat) : Prop where
 e1 : EBox w q1 D1
 e2 : EBox w q2 D2
 l1 : LaidE w w0.heap.size D1
 l2 : LaidE w w0.heap.size D2
 n1 : ∀ g, D1.vr.ownBlock = some g ∨ D1.vq.ownBlock = some g ∨ D1.vv.ownBlock = some g → g < b1
 n2 : ∀ g, D2.vr.ownBlock = some g ∨ D2.vq.ownBlock = some g ∨ D2.vv.ownBlock = some g → g < b1
 ob : Own w b1 vb mb K
 ow : Own w b2 vw mw K
 op : Own w b3 vp mp P
 ov : Own w b4 vv mv P
 ib : ∀ g, vb.ownBlock = some g → b1 ≤ g ∧ g < b2
 iw : ∀ g, vw.ownBlock = some g → b2 ≤ g ∧ g < b3
 ip : ∀ g, vp.ownBlock = some g → b3 ≤ g ∧ g < b4
 iv : ∀ g, vv.ownBlock = some g → b4 ≤ g ∧ g < b5
 bs : w0.heap.size ≤ b1 ∧ b1 ≤ b2 ∧ b2 ≤ b3 ∧ b3 ≤ b4 ∧ b4 ≤ b5 ∧ b5 ≤ w.heap.size
 bel : Below w0.heap.size w0 w
end Go.Proofs.YtchebhafabhabaaGreatDoor

namespace Go.Proofs.YtchebhafabhabaaGreatDoor
open Go.RowKit
set_option linter.unusedVariables false

def Det (bs : List Nat) (D : EntD) (E : Nat) : Prop := (E = 0 ∧ checkS D = 0 ∧ keyL D = bs ∧ D.val = []) ∨ (¬ IsKey bs ∧ E = 27 ∧ D.fam = 0 ∧ D.ts = 0 ∧ D.seq = 0 ∧ D.kind = 0 ∧ D.row = [] ∧ D.qual = [] ∧ D.val = [])
structure OwnE (w : World) (b : Nat) (D : EntD) : Prop where
 br : Bys D.row ∧ D.row.length ≤ 256
 bq : Bys D.qual ∧ D.qual.length ≤ 256
 vv : D.vv = .slice none 0 0 ∧ D.val = []
 row : Own w b D.vr D.row.length D.row
 qual : Own w b D.vq D.qual.length D.qual
 apart : ∀ k, D.vr.ownBlock = some k → D.vq.ownBlock ≠ some k
end Go.Proofs.YtchebhafabhabaaGreatDoor

namespace Go.Proofs.YtchebhafabhabaaGreatDoor
open Go.RowKit
set_option linter.unusedVariables false

def ZeroD (D : EntD) : Prop := D.fam = 0 ∧ D.ts = 0 ∧ D.seq = 0 ∧ D.kind = 0 ∧ D.row = [] ∧ D.qual = [] ∧ D.val = []
def UDet (K V : List Nat) (E1 P2 E2 : Nat) (D : EntD) (P E : Nat) : Prop :=
 (E1 = 0 ∧ E2 = 0 ∧ checkS D = 0 ∧ D.val = V ∧ keyL D = K ∧ P = P2 ∧ E = 0) ∨
 (ZeroD D ∧ P = 0 ∧ ((E1 ≠ 0 ∧ E = E1) ∨ (E1 = 0 ∧ ¬ IsKey K ∧ E = 29) ∨ (E1 = 0 ∧ IsKey K ∧ E2 ≠ 0 ∧ E = E2) ∨ (E1 = 0 ∧ IsKey K ∧ E2 = 0 ∧ (¬ ∃ D : EntD, checkS D = 0 ∧ D.val = V ∧ keyL D = K) ∧ E = 29)))
structure OwnV (w : World) (b : Nat) (D : EntD) : Prop where
 br : Bys D.row ∧ D.row.length ≤ 256
 bq : Bys D.qual ∧ D.qual.length ≤ 256
 bv : Bys D.val ∧ D.val.length ≤ 4096
 row : Own w b D.vr D.row.length D.row
 qual : Own w b D.vq D.qual.length D.qual
 val : Own w b D.vv D.val.length D.val
 arq : ∀ k, D.vr.ownBlock = some k → D.vq.ownBlock ≠ some k
 arv : ∀ k, D.vr.ownBlock = some k → D.vv.ownBlock ≠ some k
 aqv : ∀ k, D.vq.ownBlock = some k → D.vv.ownBlock ≠ some k
end Go.Proofs.YtchebhafabhabaaGreatDoor

namespace Go.Proofs.YtchebhafabhabaaGreatDoor
open Go.RowKit
set_option linter.unusedVariables false

def ApE (D : EntD) : Prop := (∀ g, D.vr.ownBlock = some g → D.vq.ownBlock ≠ some g) ∧ (∀ g, D.vr.ownBlock = some g → D.vv.ownBlock ≠ some g) ∧ (∀ g, D.vq.ownBlock = some g → D.vv.ownBlock ≠ some g)
def Within (D : EntD) (lo hi : Nat) : Prop := ∀ g, D.vr.ownBlock = some g ∨ D.vq.ownBlock = some g ∨ D.vv.ownBlock = some g → lo ≤ g ∧ g < hi
end Go.Proofs.YtchebhafabhabaaGreatDoor

namespace Go.Proofs.YtchebhafabhabaaGreatDoor
open Go.RowKit
set_option linter.unusedVariables false

theorem same5_true {va vb : Value} {xs : List Nat} {w : World} (ha : Rd w va xs) (hb : Rd w vb xs) :
  Calls Tryz.prog 20 #[va, vb] w fun e w' => e = .returned (.bool true) ∧ Below w.heap.size w w' := by
 refine (same5_any ha hb).mono ?_
 rintro e w' ⟨rfl, h⟩
 exact ⟨by simp, h⟩
set_option maxRecDepth 100000 in
set_option maxHeartbeats 1000000 in
theorem cut5_any {v : Value} {bs : List Nat} {w : World} (N : Nat) (hr : Rd w v bs) :
  Calls Tryz.prog 23 #[v, .int .i64 (N : Int)] w fun e w' => ∃ a n c, e = .returned (.slice a n c) ∧ Rd w (.slice a n c) (bs.take N) ∧ w' = w := by
 obtain ⟨a, n, cap, rfl⟩ := rd_slice hr
 obtain ⟨hn, hle, hm, hl48⟩ := rd_lens hr
 by_cases h : N < n
 ·have h1 : (N : Int) < (n : Int) := by omega
  have h2 : (N : Int) ≤ (cap : Int) := by omega
  have h3 : (0 : Int) ≤ (N : Int) := by omega
  rcases rd_some hr with ⟨_, h0, _⟩ | ⟨ba, oa, rfl⟩
  ·omega
  have HR := Lib.hid (hr.upto N (by omega))
  clear hr hn
  go_enter Tryz.func23, Tryz.ntmps23
  go_wp2
  go_ret
  exact ⟨_, _, _, rfl, HR.out, rfl⟩
 ·have h1 : ¬ (N : Int) < (n : Int) := by omega
  have e : bs.take N = bs := List.take_of_length_le (by omega)
  rw [e]
  have HR := Lib.hid hr
  clear hr hn e
  go_enter Tryz.func23, Tryz.ntmps23
  go_wp2
  go_ret
  exact ⟨_, _, _, rfl, HR.out, rfl⟩
set_option maxRecDepth 100000 in
set_option maxHeartbeats 1000000 in
theorem copied5_any {v : Value} {bs : List Nat} {w : World} (hr : Rd w v bs) (hl : bs.length ≤ 140737488355328) :
  Calls Tryz.prog 24 #[v] w fun e w' => ∃ a m c, e = .returned (.slice a m c) ∧ Own w' w.heap.size (.slice a m c) m bs ∧ Below w.heap.size w w' := by
 obtain ⟨a, n, cap, rfl⟩ := rd_slice hr
 obtain ⟨hn, hle, hm, hl48⟩ := rd_lens hr
 rw [← hn] at hl
 clear hn
 go_enter Tryz.func24, Tryz.ntmps24
 go_wp2_with (at_builtin; refine wpList_append_at rfl _ _ rfl w.heap.size none 0 0 [] rfl ⟨rfl, World.ownsRow_nil _ _ _ _⟩ a n cap bs rfl hr (by omega) (Nat.le_refl _) ?_; intro a5 m5 c5 w5 own5 hb5)
 go_ret
 exact ⟨a5, m5, c5, rfl, by simpa using own5, hb5⟩

set_option maxRecDepth 100000 in
set_option maxHeartbeats 2000000 in
theorem laid5_any {a : Option Addr} {n cap : Nat} {bs : List Nat} {w : World} (hr : Rd w (.slice a n cap) bs) (hcut : n ≤ 140000) :
  Calls Tryz.prog 22 #[.slice a n cap] w fun e w' => ∃ u, e = .returned u ∧ Laid w' w.heap.size u bs ∧ Below w.heap.size w w' := by
 obtain ⟨hn, hle, hm, hl48⟩ := rd_lens hr
 have hcut' : (n : Int) ≤ (140000 : Int) := by omega
 have HK : Hid (bs.length = n) := hn.symm
 clear hn
 go_enter Tryz.func22, Tryz.ntmps22
 go_wp2_with fail
 refine (copied5_any hr (by rw [HK.out]; omega)).mono ?_
 rintro e w1 ⟨a1, m1, k1, rfl, own1, hb1⟩
 have hm1 : Hid (m1 = n) := by unfold Hid; rw [own1.1]; exact HK.out
 have hm1b : m1 ≤ 140000 := by have := hm1.out; omega
 go_wp2_with (at_builtin; refine wpList_append_new rfl _ _ rfl w.heap.size a1 m1 k1 _ rfl own1 [_, _, _, _, _] 5 rfl marks5 rfl rfl (by omega) hb1.size ?_; intro a6 m6 k6 w6 own6 hb6; refine Hid.out ?_)
 refine Lib.hid ?_
 have B6 := hb1.trans hb6
 have hm6 : Hid (m6 = n + 5) := by unfold Hid; rw [own6.1, List.length_append, ← own1.1, hm1.out]; rfl
 clear own1 hb1 hb6
 go_wp2
 go_loopw [3, 4] (fun s i wr => ∃ t a m c, t ≤ 70 ∧ i = .int .i64 ((t : Nat) : Int) ∧ s = .slice a m c ∧ Own wr w.heap.size (.slice a m c) m ((bs ++ marks5) ++ List.replicate t 206) ∧ Below w.heap.size w wr) (fun _ i _ => 70 - (intOf i).toNat)
 case atStart => exact ⟨0, a6, m6, k6, by omega, rfl, rfl, by simpa using own6, B6⟩
 case round =>
  obtain ⟨t, a7, m7, k7, ht, rfl, rfl, own7, B7⟩ := hrel
  have hm7 : Hid (m7 = n + 5 + t) := by unfold Hid; rw [own7.1, List.length_append, List.length_append, HK.out, List.length_replicate]; rfl
  have hm7b : m7 ≤ 140100 := by have := hm7.out; omega
  by_cases hlt : t < 70
  ·have hlt' : (t : Int) < 70 := by omega
   go_wp2_with (at_builtin; refine wpList_append_new rfl _ _ rfl w.heap.size a7 m7 k7 _ rfl own7 [_] 1 rfl [206] rfl rfl (by omega) B7.size ?_; intro a8 m8 k8 w8 own8 hb8)
   go_roundw
   case rel => exact ⟨t + 1, a8, m8, k8, by omega, by go_num, rfl, by rw [List.append_assoc, ← List.replicate_succ'] at own8; exact own8, B7.trans hb8⟩
   case measure => simp [intOf]; omega
  ·have hge : (70 : Int) ≤ (t : Int) := by omega
   obtain rfl : t = 70 := by omega
   obtain ⟨g, he, hc1, hc2⟩ : ∃ g, a7 = some ⟨g, 0, none⟩ ∧ m7 ≤ k7 ∧ k7 ≤ maxLen := by
    rcases own7.2.2 with ⟨h1, h2⟩ | ⟨g, cp, cur, h1, h2, h3, h4, h5, h6⟩
    ·have := hm7.out; omega
    ·simp only [Value.slice.injEq] at h1
     exact ⟨g, h1.1, by omega, by omega⟩
   subst he
   have j1 : (n : Int) ≤ (k7 : Int) := by have := hm7.out; omega
   have j2 : (0 : Int) ≤ (n : Int) := by omega
   go_wp2
   go_ret
   refine ⟨_, rfl, ?_, B7⟩
   have e7 : m7 = (bs).length + 75 := by rw [hm7.out, HK.out]
   subst e7
   refine ⟨g, k7, by rw [HK.out]; simp, by omega, hc2, own7⟩

set_option maxRecDepth 100000 in
set_option maxHeartbeats 1000000 in
theorem intact5_any {u v : Value} {B : Nat} {bs : List Nat} {w : World} (hl : Laid w B u bs) (hv : Rd w v bs) (h20 : bs.length ≤ 140000) :
  Calls Tryz.prog 27 #[u, v] w fun e w' => e = .returned (.bool true) ∧ Below w.heap.size w w' := by
 have ru := hl.rd hv.1 (by omega)
 obtain ⟨g, c, rfl, h2, h3, h4⟩ := hl
 have rall := Laid.all h4 hv.1 (by omega)
 obtain ⟨a, n, cap, rfl⟩ := rd_slice hv
 have hn : n = bs.length := (rd_lens hv).1
 have HM : Hid (∀ w', Below w.heap.size w w' → Rd w' (.slice (some ⟨g, n, none⟩) 5 (c - n)) marks5) := fun w' hb => by
  have r1 := ((rall.later hb).upto (bs.length + 5) (by omega)).past bs.length (by omega) (off' := n) (n' := 5) (cap' := c - n) (by omega) (by omega) (by omega)
  have e : (((bs ++ marks5) ++ List.replicate 70 206).take (bs.length + 5)).drop bs.length = marks5 := by
   have e1 : (((bs ++ marks5) ++ List.replicate 70 206).take (bs.length + 5)) = bs ++ marks5 := by
    rw [List.take_append_of_le_length (by simp [marks5]), List.take_of_length_le (by simp [marks5])]
   rw [e1, List.drop_left]
  rw [e] at r1
  exact r1
 have HN : Hid (n = bs.length) := hn
 have q1 : ((n : Int) + 5 ≤ (c : Int)) := by omega
 have q2 : (0 : Int) ≤ (n : Int) := by omega
 have q3 : (n : Int) ≤ 140000 := by omega
 rw [← hn] at ru ⊢
 clear h4 rall hn
 go_enter Tryz.func27, Tryz.ntmps27
 go_wp2_with fail
 refine (same5_true ru hv).mono ?_
 rintro e w1 ⟨rfl, hb1⟩
 have hb2 := hb1.trans (((Below.refl w1.heap.size w1).alloc (Nat.le_refl _) (.cells (bv marks5).toArray 5)).mono hb1.size)
 have rm : Rd (w1.alloc (.cells (bv marks5).toArray 5)) (.slice (some ⟨w1.heap.size, 0, none⟩) 5 5) marks5 := by
  have o : Own (w1.alloc (.cells (bv marks5).toArray 5)) w1.heap.size (.slice (some ⟨w1.heap.size, 0, none⟩) 5 5) 5 marks5 := ⟨rfl, rfl, .inr ⟨w1.heap.size, 5, (bv marks5).toArray, rfl, Nat.le_refl _, heap_new w1 _, Nat.le_refl _, by decide, rfl, rfl⟩⟩
  exact o.rd marks5_bys (by decide)
 have rm2 := HM.out _ hb2
 have HRM : Hid (_ ∧ _ ∧ _) := ⟨rm, rm2, hb2⟩
 clear rm rm2 hb2 HM
 simp only [bv, marks5, List.map_cons, List.map_nil] at HRM
 go_wp2_with fail
 refine (same5_true HRM.out.2.1 HRM.out.1).mono ?_
 rintro e w3 ⟨rfl, hb3⟩
 go_wp2
 go_ret
 exact ⟨rfl, HRM.out.2.2.trans (hb3.mono HRM.out.2.2.size)⟩
end Go.Proofs.YtchebhafabhabaaGreatDoor

namespace Go.Proofs.YtchebhafabhabaaGreatDoor
open Go.RowKit
set_option linter.unusedVariables false

def MkL (w : World) (O : Nat → Prop) (v : Value) (m : Nat) : Prop :=
 ∃ a n c, v = .slice a n c ∧ n ≤ 140737488355328 ∧ (n = 0 ∨ ∃ b, a = some ⟨b, 0, none⟩ ∧ O b ∧ ∀ i, i < n → w.cell? ⟨b, i, none⟩ = some (.int .u8 (m : Int)))
theorem MkL.keep {w w' : World} {O O' : Nat → Prop} {v : Value} {m : Nat} (h : MkL w O v m) (k : ∀ b, O b → w'.heap[b]? = w.heap[b]?) (ho : ∀ b, O b → O' b) : MkL w' O' v m := by
 obtain ⟨a, n, c, rfl, hn, h0 | ⟨b, rfl, hb, hc⟩⟩ := h
 ·exact ⟨a, n, c, rfl, hn, .inl h0⟩
 ·refine ⟨_, n, c, rfl, hn, .inr ⟨b, rfl, ho b hb, fun i hi => ?_⟩⟩
  rw [← hc i hi]
  unfold World.cell?
  rw [k b hb]
theorem MkL.of_own {w : World} {B n c m : Nat} {a : Option Addr} {O : Nat → Prop} (h : Own w B (.slice a n c) n (List.replicate n m)) (hn : n ≤ 140737488355328) (ho : ∀ g, (Value.slice a n c).ownBlock = some g → O g) : MkL w O (.slice a n c) m := by
 refine ⟨a, n, c, rfl, hn, ?_⟩
 rcases h.2.2 with ⟨h1, h0⟩ | ⟨g, cap, cur, h1, _⟩
 ·exact .inl h0
 ·simp only [Value.slice.injEq] at h1
  obtain ⟨rfl, -, -⟩ := h1
  refine .inr ⟨g, rfl, ho g rfl, fun i hi => ?_⟩
  rw [h.2.cellAt i (by omega)]
  simp [bv, hi]
structure Fu (w : World) (g : Nat) (O : Nat → Prop) (aL : Option Addr) (nL cL : Nat) (aM : Option Addr) (cM N : Nat) (vs : List Value) (ms : List Nat) : Prop where
 box : w.heap[g]? = some (.cells #[.slice aL nL cL, .slice aM nL cM, .int .i64 (N : Int)] 38 (0, 0))
 row : w.ownsRow 0 36 1 (.slice aL nL cL) nL vs
 own : Own w 0 (.slice aM nL cM) nL ms
 len : vs.length = nL
 bys : Bys ms
 marks : ∀ (i : Nat) v m, vs[i]? = some v → ms[i]? = some m → MkL w O v m
 few : nL * 50 ≤ N ∧ N ≤ 4000000
 lo : ∀ k, O k → k < w.heap.size
 ng : ¬ O g
 nL_ : ∀ k, (Value.slice aL nL cL).ownBlock = some k → ¬ O k ∧ k ≠ g
 nM : ∀ k, (Value.slice aM nL cM).ownBlock = some k → ¬ O k ∧ k ≠ g ∧ (Value.slice aL nL cL).ownBlock ≠ some k
def FuB (w : World) (g : Nat) (FO : Nat → Prop) : Prop := ∃ O aL nL cL aM cM N vs ms, Fu w g O aL nL cL aM cM N vs ms ∧ (∀ k, FO k → k < w.heap.size) ∧ FO g ∧ (∀ k, O k → FO k) ∧ (∀ k, (Value.slice aL nL cL).ownBlock = some k → FO k) ∧ (∀ k, (Value.slice aM nL cM).ownBlock = some k → FO k)
theorem row_same {w w' : World} {B ty n k : Nat} {v : Value} {xs : List Value} (h : w.ownsRow B ty k v n xs) (hs : ∀ g, v.ownBlock = some g → w'.heap[g]? = w.heap[g]?) : w'.ownsRow B ty k v n xs := by
 refine ⟨h.1, ?_⟩
 rcases h.2 with h2 | ⟨g, cap, cur, h3, h4, h5, h6⟩
 ·exact .inl h2
 ·exact .inr ⟨g, cap, cur, h3, h4, by rw [hs g (by rw [h3]; rfl)]; exact h5, h6⟩
theorem FuB.kept {w w' : World} {g : Nat} {FO : Nat → Prop} (h : FuB w g FO) (hsz : w.heap.size ≤ w'.heap.size) (k : ∀ i, FO i → w'.heap[i]? = w.heap[i]?) : FuB w' g FO := by
 obtain ⟨O, aL, nL, cL, aM, cM, N, vs, ms, h, f1, f2, f3, f4, f5⟩ := h
 refine ⟨O, aL, nL, cL, aM, cM, N, vs, ms, ⟨by rw [k g f2]; exact h.box, row_same h.row (fun i hi => k i (f4 i hi)), ⟨h.own.1, row_same h.own.2 (fun i hi => k i (f5 i hi))⟩, h.len, h.bys, fun i v m h1 h2 => (h.marks i v m h1 h2).keep (fun b hb => k b (f3 b hb)) (fun _ x => x), h.few, fun i hi => Nat.lt_of_lt_of_le (h.lo i hi) hsz, h.ng, h.nL_, h.nM⟩, fun i hi => Nat.lt_of_lt_of_le (f1 i hi) hsz, f2, f3, f4, f5⟩
theorem FuB.later {w w' : World} {g : Nat} {FO : Nat → Prop} (h : FuB w g FO) (b : Below w.heap.size w w') : FuB w' g FO := by
 have h1 := h
 obtain ⟨O, aL, nL, cL, aM, cM, N, vs, ms, h0, f1, f2, f3, f4, f5⟩ := h1
 exact h.kept b.size (fun i hi => b.block i (f1 i hi))
theorem FuB.fb {w w' : World} {g : Nat} {FO X : Nat → Prop} (h : FuB w g FO) (b : Fb w w' X) (hx : ∀ k, X k → ¬ FO k) : FuB w' g FO := by
 have h1 := h
 obtain ⟨O, aL, nL, cL, aM, cM, N, vs, ms, h0, f1, f2, f3, f4, f5⟩ := h1
 exact h.kept b.size (fun i hi => b.block i (f1 i hi) (fun k => hx i k hi))
theorem FuB.lt {w : World} {g : Nat} {FO : Nat → Prop} (h : FuB w g FO) : ∀ k, FO k → k < w.heap.size := by
 obtain ⟨O, aL, nL, cL, aM, cM, N, vs, ms, h0, f1, f2, f3, f4, f5⟩ := h
 exact f1
theorem Fu.cells {w : World} {g : Nat} {O : Nat → Prop} {aL : Option Addr} {nL cL : Nat} {aM : Option Addr} {cM N : Nat} {vs : List Value} {ms : List Nat} (h : Fu w g O aL nL cL aM cM N vs ms) :
  w.cell? ⟨g, 0, none⟩ = some (.slice aL nL cL) ∧ w.cell? ⟨g, 1, none⟩ = some (.slice aM nL cM) ∧ w.cell? ⟨g, 2, none⟩ = some (.int .i64 (N : Int)) := by
 have := h.box
 simp [World.cell?, this]
theorem Fu.fz {w : World} {g : Nat} {O : Nat → Prop} {aL : Option Addr} {nL cL : Nat} {aM : Option Addr} {cM N : Nat} {vs : List Value} {ms : List Nat} (h : Fu w g O aL nL cL aM cM N vs ms) (j : Nat) : w.frozen? ⟨g, j, none⟩ = false := by
 have := h.box
 simp [World.frozen?, this]
theorem fu_new {w : World} {g : Nat} (h : w.heap[g]? = some (.cells #[.slice none 0 0, .slice none 0 0, .int .i64 0] 38 (0, 0))) : FuB w g (fun k => k = g) := by
 refine ⟨fun _ => False, none, 0, 0, none, 0, 0, [], [], ⟨h, World.ownsRow_nil _ _ _ _, ⟨rfl, World.ownsRow_nil _ _ _ _⟩, rfl, fun x hx => (by cases hx), fun i v m h1 => (by cases h1), ⟨by omega, by omega⟩, fun k hk => hk.elim, id, fun k hk => (by cases hk), fun k hk => (by cases hk)⟩, fun k hk => ?_, rfl, fun k hk => hk.elim, fun k hk => (by cases hk), fun k hk => (by cases hk)⟩
 subst hk
 exact (Array.getElem?_eq_some_iff.1 h).1
end Go.Proofs.YtchebhafabhabaaGreatDoor

namespace Go.Proofs.YtchebhafabhabaaGreatDoor
open Go.RowKit
set_option linter.unusedVariables false

theorem FuB.more {w : World} {g : Nat} {FO FO' : Nat → Prop} (h : FuB w g FO) (k : ∀ i, FO i → FO' i) (l : ∀ i, FO' i → i < w.heap.size) : FuB w g FO' := by
 obtain ⟨O, aL, nL, cL, aM, cM, N, vs, ms, h0, f1, f2, f3, f4, f5⟩ := h
 exact ⟨O, aL, nL, cL, aM, cM, N, vs, ms, h0, l, k _ f2, fun i hi => k i (f3 i hi), fun i hi => k i (f4 i hi), fun i hi => k i (f5 i hi)⟩
def mkF (n : Nat) : Nat := n / 4 % 200 + 20
theorem mkF_lt (n : Nat) : mkF n < 256 := by unfold mkF; omega
theorem info_partsF : (Tryz.prog.info? 36).map (fun i => (i.zero, i.size, i.bytes)) = some (some (.slice none 0 0), 1, 24) := by kernel_rfl
theorem row_formF {w : World} {B n : Nat} {e : TypeId} {v : Value} {xs : List Value} (h : w.ownsRow B e 1 v n xs) : ∃ a c, v = .slice a n c := by
 rcases h.2 with ⟨h1, h2⟩ | ⟨g, cap, cur, h1, _⟩
 ·exact ⟨none, 0, by rw [h1, h2]⟩
 ·exact ⟨_, _, h1⟩
theorem add0F (b j : Nat) : (⟨b, 0, none⟩ : Addr).add j = ⟨b, j, none⟩ := by cases j <;> simp [Addr.add]
theorem wp_append_mk {a : Act} {w : World} {K : Act → World → Prop} {Q : Exit → Act → World → Prop} {p q B n cp k blk mk : Nat} {ap : Option Addr} {xs : List Nat} {d : Option Nat} {ps : String} {af : Array Edge} (hp : a.tmps[p]?.getD undef = .slice ap n cp) (hq : a.tmps[q]?.getD undef = .slice (some ⟨blk, 0, none⟩) k k) (ho : Own w B (.slice ap n cp) n xs) (hnew : ∀ j, j < k → w.cell? ⟨blk, j, none⟩ = some (.int .u8 (mk : Int))) (hk0 : 0 < k) (hl : n + k ≤ 140737488355328) (hB : B ≤ w.heap.size)
  (h : ∀ a' c' w', Own w' B (.slice a' (n + k) c') (n + k) (xs ++ List.replicate k mk) → w.grownBy w' (Value.slice ap n cp).ownBlock → Own w' B (.slice ap n cp) n xs → ((Value.slice a' (n + k) c').ownBlock = (Value.slice ap n cp).ownBlock ∨ ∀ g, (Value.slice a' (n + k) c').ownBlock = some g → w.heap.size ≤ g) → Keeps mk w w' → K (a.put d (.slice a' (n + k) c')) w') :
  Oper.wp Tryz.prog { dst := d, op := Op.call { callee := Callee.builtin Builtin.append, args := #[Operand.tmp p, Operand.tmp q], argTypes := #[36, 36] }, type := 36, pos := ps, after := af, guard := none } a w K Q := by
 have hnews : ∀ j u, (bv (List.replicate k mk))[j]? = some u → w.cell? ((⟨blk, 0, none⟩ : Addr).add j) = some u := by
  intro j u hj
  obtain ⟨hjl, rfl⟩ := bv_get _ j u hj
  simp at hjl
  rw [add0F, hnew j hjl]
  simp [hjl]
 obtain ⟨v', w', hr, h1, h2, h3, h4⟩ := append_keep (bs := List.replicate k mk) (c := k) 36 ho ⟨blk, 0, none⟩ (by simp) hnews hk0 hl hB
 have hk := append_marks 36 ho ⟨blk, 0, none⟩ hnews hk0 hl hr
 obtain ⟨a', c', rfl⟩ := own_form h1.2
 have e1 : a.eval (Operand.tmp p) = .slice ap n cp := by simpa [Act.eval] using hp
 have e2 : a.eval (Operand.tmp q) = .slice (some ⟨blk, 0, none⟩) k k := by simpa [Act.eval] using hq
 unfold Oper.wp execOp
 simp only [resolve, invoke, builtin, Sem.run_bind, Sem.run_pure, Result.andThen_ok, List.map_toArray, List.map_cons, List.map_nil, e1, e2, hr]
 refine h a' c' w' h1 h2 h3 ?_ hk
 rcases h4 with h4 | h4
 ·exact .inl h4
 ·refine .inr fun g hg => ?_
  rw [h4] at hg
  simp at hg
  omega
theorem wp_append_rowF {a : Act} {w : World} {K : Act → World → Prop} {Q : Exit → Act → World → Prop} {p q B n cp k blk : Nat} {ap : Option Addr} {vs us : List Value} {d : Option Nat} {ps : String} {af : Array Edge} (hp : a.tmps[p]?.getD undef = .slice ap n cp) (hq : a.tmps[q]?.getD undef = .slice (some ⟨blk, 0, none⟩) k k) (ho : w.ownsRow B 36 1 (.slice ap n cp) n vs) (hk : us.length = k) (hnew : ∀ j u, us[j]? = some u → w.cell? ⟨blk, j, none⟩ = some u) (h1 : ∀ u ∈ us, u.oneCell' = true) (hl : n + k ≤ 5864062014805) (hB : B ≤ w.heap.size)
  (h : ∀ a' c' w', w'.ownsRow B 36 1 (.slice a' (n + k) c') (n + k) (vs ++ us) → w.grownBy w' (Value.slice ap n cp).ownBlock → ((Value.slice a' (n + k) c').ownBlock = (Value.slice ap n cp).ownBlock ∨ ∀ g, (Value.slice a' (n + k) c').ownBlock = some g → w.heap.size ≤ g) → K (a.put d (.slice a' (n + k) c')) w') :
  Oper.wp Tryz.prog { dst := d, op := Op.call { callee := Callee.builtin Builtin.append, args := #[Operand.tmp p, Operand.tmp q], argTypes := #[35, 35] }, type := 35, pos := ps, after := af, guard := none } a w K Q := by
 obtain ⟨i0, hi, hz0, hz1, hz2⟩ := info_parts info_partsF
 obtain ⟨v', w', hr, h2, h3, h4, h5⟩ := run_append_own_at (P := Tryz.prog) w B 35 35 36 i0 (.slice none 0 0) 1 24 und_parts hi hz0 hz1 hz2 rfl (by decide) _ n vs ho ⟨blk, 0, none⟩ k k us (by omega) (fun j u hj => by rw [add0F]; exact hnew j u hj) h1 (by unfold maxLen; omega) (by omega) hB
 obtain ⟨a', c', rfl⟩ := row_formF h2
 have e1 : a.eval (Operand.tmp p) = .slice ap n cp := by simpa [Act.eval] using hp
 have e2 : a.eval (Operand.tmp q) = .slice (some ⟨blk, 0, none⟩) k k := by simpa [Act.eval] using hq
 unfold Oper.wp execOp
 simp only [resolve, invoke, builtin, Sem.run_bind, Sem.run_pure, Result.andThen_ok, List.map_toArray, List.map_cons, List.map_nil, e1, e2, hr]
 refine h a' c' w' h2 h3 ?_
 rcases h5 with h5 | h5
 ·exact .inl h5
 ·refine .inr fun g hg => ?_
  rw [h5] at hg
  simp at hg
  omega
theorem row_neF {w : World} {B B' n m : Nat} {v u : Value} {vs : List Value} {xs : List Nat} (hr : w.ownsRow B 36 1 v n vs) (ho : Own w B' u m xs) {k : Nat} (hv : v.ownBlock = some k) : u.ownBlock ≠ some k := by
 intro hu
 rcases hr.2 with ⟨h1, _⟩ | ⟨g, cap, cur, h1, h2, h3, _⟩
 ·rw [h1] at hv; cases hv
 ·rcases ho.2.2 with ⟨k1, _⟩ | ⟨g2, cap2, cur2, k1, k2, k3, _⟩
  ·rw [k1] at hu; cases hu
  ·rw [h1] at hv
   rw [k1] at hu
   cases hv
   cases hu
   rw [h3] at k3
   simp at k3
theorem Fb.grow {w w' w2 : World} {O : Nat → Prop} {o : Option Nat} (f : Fb w w' O) (k : w'.grownBy w2 o) (h : ∀ i, o = some i → i < w.heap.size → O i) : Fb w w2 O := ⟨k.os.trans f.os, k.tape.trans f.tape, k.output.trans f.output, Nat.le_trans f.size k.size, fun i hi ho => (k.block i (Nat.lt_of_lt_of_le hi f.size) (fun e => ho (h i e.symm hi))).trans (f.block i hi ho)⟩
theorem own_cellF {w : World} {B k g c : Nat} {xs : List Nat} (h : Own w B (.slice (some ⟨g, 0, none⟩) k c) k xs) {i : Nat} (hi : i < k) : w.cell? ⟨g, i, none⟩ = some (.int .u8 ((xs.getD i 0 : Nat) : Int)) := by
 rw [h.2.cellAt i (by omega)]
 exact bv_at _ _ (by rw [← h.1]; exact hi)
theorem own_againF {w w' : World} {B n k g c cu : Nat} {xs ys : List Nat} (o : Own w B (.slice (some ⟨g, 0, none⟩) n c) n xs) (o' : Own w' B (.slice (some ⟨g, 0, none⟩) n c) n xs) (ou : Own w B (.slice (some ⟨g, 0, none⟩) k cu) k ys) (hc : ∀ i, i < k → w'.cell? ⟨g, i, none⟩ = w.cell? ⟨g, i, none⟩) : Own w' B (.slice (some ⟨g, 0, none⟩) k cu) k ys := by
 rcases o.2.2 with ⟨h1, _⟩ | ⟨g1, cap1, cur1, h1, h2, h3, h4, h5, h6, h7⟩
 ·cases h1
 rcases o'.2.2 with ⟨k1, _⟩ | ⟨g2, cap2, cur2, k1, k2, k3, k4, k5, k6, k7⟩
 ·cases k1
 rcases ou.2.2 with ⟨l1, _⟩ | ⟨g3, cap3, cur3, l1, l2, l3, l4, l5, l6, l7⟩
 ·cases l1
 simp only [Value.slice.injEq, Option.some.injEq, Addr.mk.injEq, and_true, true_and] at h1 k1 l1
 obtain ⟨rfl, rfl⟩ := h1
 obtain ⟨rfl, rfl⟩ := k1
 obtain ⟨rfl, rfl⟩ := l1
 rw [h3] at l3
 simp only [Option.some.injEq, Obj.cells.injEq, and_true] at l3
 subst l3
 have hsz : cur2.size = cur1.size := by rw [k6, h6]
 refine ⟨ou.1, ou.2.1, .inr ⟨g, cu, cur2, rfl, l2, k3, l4, l5, by rw [hsz, l6], ?_⟩⟩
 rw [← l7]
 apply List.ext_getElem?
 intro i
 by_cases hi : i < k * 1
 ·rw [List.getElem?_take_of_lt hi, List.getElem?_take_of_lt hi]
  have := hc i (by omega)
  simp only [World.cell?, k3, h3] at this
  simpa using this
 ·rw [List.getElem?_take_eq_none (by omega), List.getElem?_take_eq_none (by omega)]
theorem own_nonilF {w : World} {B k c : Nat} {a : Option Addr} {xs : List Nat} (o : Own w B (.slice a k c) k xs) : (a = none ∧ k = 0 ∧ c = 0) ∨ ∃ g, a = some ⟨g, 0, none⟩ := by
 rcases o.2.2 with ⟨h1, h2⟩ | ⟨g, cap, cur, h1, _⟩
 ·simp only [Value.slice.injEq] at h1
  exact .inl ⟨h1.1, h2, h1.2.2⟩
 ·simp only [Value.slice.injEq] at h1
  exact .inr ⟨g, h1.1⟩
theorem own_keepF {w w' : World} {B N mk k cv cu : Nat} {av au : Option Addr} {xs : List Nat} (ov : Own w B (.slice av N cv) N xs) (ov' : Own w' B (.slice av N cv) N xs) (gr : w.grownBy w' (Value.slice av N cv).ownBlock) (kp : Keeps mk w w') (ou : Own w B (.slice au k cu) k (List.replicate k mk)) : Own w' B (.slice au k cu) k (List.replicate k mk) := by
 by_cases hb : (Value.slice au k cu).ownBlock = (Value.slice av N cv).ownBlock
 ·rcases own_nonilF ou with ⟨rfl, rfl, rfl⟩ | ⟨g, rfl⟩
  ·exact ⟨ou.1, ou.2.1, .inl ⟨rfl, rfl⟩⟩
  ·rcases own_nonilF ov with ⟨rfl, _, _⟩ | ⟨g2, rfl⟩
   ·cases hb
   ·simp only [Value.ownBlock, Option.some.injEq] at hb
    subst hb
    refine own_againF ov ov' ou (fun i hi => ?_)
    have hc := own_cellF ou hi
    have e : (List.replicate k mk).getD i 0 = mk := by simp [List.getD_eq_getElem?_getD, hi]
    rw [e] at hc
    rw [hc]
    exact kp _ hc
 ·exact ⟨ou.1, row_same ou.2 (fun x hx => gr.block x (ou.2.lt x hx).2 (fun e => hb (by rw [hx, e])))⟩
section
variable {P : Program} {ops : Array Oper} {Q : Exit → Act → World → Prop} {md : Region.Mode} {S : World → Prop} {E : Nat → Bool}
theorem AnyE.twoF {i j : Nat} {oi oj : Oper} {fuel : Nat} {listed : Array Bool} {a : Act} {w : World} (hi : ops[i]? = some oi) (hj : ops[j]? = some oj) (hr : Region.ready md ops listed = [i, j]) (hwi : Region.wanted oi (yielded ops a.tmps) = true) (hwj : Region.wanted oj (yielded ops a.tmps) = true)
  (h1 : ∀ K : Act → World → Prop, Hid (∀ a' w', ((E i = true → S w') ∧ AnyE P md ops Q S E fuel (listed.setIfInBounds i true) a' w') → K a' w') → Oper.wp P oi a w K Q)
  (h2 : ∀ K : Act → World → Prop, Hid (∀ a' w', ((E j = true → S w') ∧ AnyE P md ops Q S E fuel (listed.setIfInBounds j true) a' w') → K a' w') → Oper.wp P oj a w K Q) : AnyE P md ops Q S E (fuel + 1) listed a w :=
 ⟨fun k => (by rw [hr] at k; cases k), fun m hm => by
  rw [hr] at hm
  rcases List.mem_cons.1 hm with rfl | hm
  ·exact wpOp_step hi (fun K' hK => by rw [if_pos hwi]; exact h1 K' hK)
  ·obtain rfl : m = j := by simpa using hm
   exact wpOp_step hj (fun K' hK => by rw [if_pos hwj]; exact h2 K' hK)⟩
end
theorem box_cellF {W : World} {g : Nat} {l m : Value} {z : Int} (h : W.heap[g]? = some (.cells #[l, m, .int .i64 z] 38 (0, 0))) : W.cell? ⟨g, 0, none⟩ = some l := by simp [World.cell?, h]
theorem box_cellF1 {W : World} {g : Nat} {l m : Value} {z : Int} (h : W.heap[g]? = some (.cells #[l, m, .int .i64 z] 38 (0, 0))) : W.cell? ⟨g, 1, none⟩ = some m := by simp [World.cell?, h]
theorem box_fzF {W : World} {g : Nat} {l m : Value} {z : Int} (h : W.heap[g]? = some (.cells #[l, m, .int .i64 z] 38 (0, 0))) (j : Nat) : W.frozen? ⟨g, j, none⟩ = false := by simp [World.frozen?, h]
theorem box_setF0 {W : World} {g : Nat} {l m : Value} {z : Int} (h : W.heap[g]? = some (.cells #[l, m, .int .i64 z] 38 (0, 0))) (x : Value) : (W.setCell ⟨g, 0, none⟩ x).heap[g]? = some (.cells #[x, m, .int .i64 z] 38 (0, 0)) := by simp [World.setCell, Array.getElem?_modify, h]
theorem box_setF1 {W : World} {g : Nat} {l m : Value} {z : Int} (h : W.heap[g]? = some (.cells #[l, m, .int .i64 z] 38 (0, 0))) (x : Value) : (W.setCell ⟨g, 1, none⟩ x).heap[g]? = some (.cells #[l, x, .int .i64 z] 38 (0, 0)) := by simp [World.setCell, Array.getElem?_modify, h]
theorem one_mkF {W : World} {k mk j : Nat} (h : W.heap[k]? = some (.cells #[.int .u8 (mk : Int)] 5 (0, 0))) (hj : j < 1) : W.cell? ⟨k, j, none⟩ = some (.int .u8 (mk : Int)) := by
 obtain rfl : j = 0 := by omega
 simp [World.cell?, h]
def TwoF (W : World) (k mk : Nat) : Prop := W.cell? ⟨k, 0, none⟩ = some (.int .u8 (mk : Int)) ∧ W.cell? ⟨k, 1, none⟩ = some (.int .u8 (mk : Int))
theorem two_ofF {W : World} {k mk : Nat} (h : W.heap[k]? = some (.cells #[.int .u8 (mk : Int), .int .u8 (mk : Int)] 5 (0, 0))) : TwoF W k mk := by
 constructor <;> simp [World.cell?, h]
theorem two_mkF {W : World} {k mk j : Nat} (h : TwoF W k mk) (hj : j < 2) : W.cell? ⟨k, j, none⟩ = some (.int .u8 (mk : Int)) := by
 match j, hj with
 | 0, _ => exact h.1
 | 1, _ => exact h.2
theorem kp_two {W W' : World} {k mk : Nat} (kp : Keeps mk W W') (h : TwoF W k mk) : TwoF W' k mk := ⟨kp _ h.1, kp _ h.2⟩
theorem keep2F {W W' : World} {k mk : Nat} (b : Below W.heap.size W W') (h : TwoF W k mk) : TwoF W' k mk := kp_two (Keeps.below b) h
theorem keepF {W W' : World} {k : Nat} {o : Obj} (b : Below W.heap.size W W') (h : W.heap[k]? = some o) : W'.heap[k]? = some o := (b.block k (Array.getElem?_eq_some_iff.1 h).1).trans h
theorem four_cellF {W : World} {k j : Nat} {x1 x2 x3 x4 u : Value} (h : W.heap[k]? = some (.cells #[x1, x2, x3, x4] 36 (0, 0))) (hj : [x1, x2, x3, x4][j]? = some u) : W.cell? ⟨k, j, none⟩ = some u := by
 simp only [World.cell?, h]
 simpa using hj
theorem Fb.set1F {w : World} {O : Nat → Prop} {g : Nat} (h : O g) (j : Nat) (x : Value) : Fb w (w.setCell ⟨g, j, none⟩ x) O :=
 have b := (Below.refl g w).setCell (p := ⟨g, j, none⟩) (Nat.le_refl _) x
 ⟨b.os, b.tape, b.output, b.size, fun k _ ho => Below.heap_setCell _ _ _ _ (by rintro rfl; exact ho h)⟩
theorem Own.kept_rowF {w w' : World} {B B' n m : Nat} {v u : Value} {vs : List Value} {xs : List Nat} (ho : Own w B u m xs) (hr : w.ownsRow B' 36 1 v n vs) (hg : w.grownBy w' v.ownBlock) : Own w' B u m xs := ⟨ho.1, row_same ho.2 (fun k hk => hg.block k (ho.2.lt k hk).2 (fun e => row_neF hr ho e.symm hk))⟩
theorem Own.setF {w : World} {B m g j : Nat} {u x : Value} {xs : List Nat} (ho : Own w B u m xs) (hg : ∀ k, u.ownBlock = some k → k ≠ g) : Own (w.setCell ⟨g, j, none⟩ x) B u m xs := ⟨ho.1, row_same ho.2 (fun k hk => Below.heap_setCell _ _ _ _ (hg k hk))⟩
theorem own_boxF {w : World} {B m g : Nat} {u l mm : Value} {z : Int} {xs : List Nat} (ho : Own w B u m xs) (h : w.heap[g]? = some (.cells #[l, mm, .int .i64 z] 38 (0, 0))) : ∀ k, u.ownBlock = some k → k ≠ g := by
 rintro k hk rfl
 rcases ho.2.2 with ⟨k1, _⟩ | ⟨g2, cap2, cur2, k1, k2, k3, _⟩
 ·rw [k1] at hk; cases hk
 ·rw [k1] at hk
  cases hk
  rw [h] at k3
  simp at k3
theorem row_boxF {w : World} {B m g : Nat} {u l mm : Value} {z : Int} {vs : List Value} (ho : w.ownsRow B 36 1 u m vs) (h : w.heap[g]? = some (.cells #[l, mm, .int .i64 z] 38 (0, 0))) : ∀ k, u.ownBlock = some k → k ≠ g := by
 rintro k hk rfl
 rcases ho.2 with ⟨k1, _⟩ | ⟨g2, cap2, cur2, k1, k2, k3, _⟩
 ·rw [k1] at hk; cases hk
 ·rw [k1] at hk
  cases hk
  rw [h] at k3
  simp at k3
end Go.Proofs.YtchebhafabhabaaGreatDoor
