import Derived.Test.YtodejneceedglaaK03
import Derived.Test.YtodejneceedglaaRows
import Derived.ProofKit
import Derived.OpenShut
import Derived.Deep.DeepHandedRow
import Derived.Lib.LaidTab
import Derived.Deep.Slices
import Derived.ChangeSlices
namespace Go.Proofs.Ytodejneceedglaa
open Go.RowKit Go.Maps
set_option linter.unusedVariables false

set_option maxRecDepth 100000 in
set_option maxHeartbeats 8000000 in
theorem squashPicks_walk {W : World} {a : Option Addr} {cap : Nat} {w q m : Int} {l : List MtD} (hr : RdM W a cap l) (hl : l.length ≤ 1466015503658) :
    Calls Try.prog 3 #[.agg #[.int .i64 w, .int .i64 q, .int .i64 m], .slice a l.length cap] W fun e W' => e = .returned (.bool true) ∧ Below W.heap.size W W' := by
  obtain ⟨N, hN⟩ : ∃ N, N = l.length := ⟨_, rfl⟩
  obtain ⟨⟨AL, AM, AE⟩, hA⟩ : ∃ A, A = ansR w q m l := ⟨_, rfl⟩
  rw [← hN] at hl ⊢
  have HN := Lib.hid hN
  have HR := Lib.hid hr
  have HPk : Hid (∀ (Z : World) (a' : Option Addr) (c' : Nat), RdM Z a' c' l → Calls Try.prog 4 #[.agg #[.int .i64 w, .int .i64 q, .int .i64 m], .slice a' N c'] Z fun e W' => PickP Z (AL, AM, AE) e W') := fun Z a' c' h => by rw [hN, hA]; exact pick_any h
  have HRp : Hid (∀ (Z : World) (a' : Option Addr) (c' : Nat), RdM Z a' c' l → Calls Try.prog 7 #[.agg #[.int .i64 w, .int .i64 q, .int .i64 m], .slice a' N c'] Z fun e W' => PickP Z (AL, AM, AE) e W') := fun Z a' c' h => by rw [hN, hA]; exact refPick_any h
  have A1 := (Below.refl W.heap.size W).alloc (Nat.le_refl _) (.cells #[.int .i64 w, .int .i64 q, .int .i64 m] 23)
  have pb := PBox.new W w q m
  obtain ⟨X0, hX0⟩ : ∃ X0, X0 = W.alloc (.cells #[.int .i64 w, .int .i64 q, .int .i64 m] 23) := ⟨_, rfl⟩
  rw [← hX0] at A1 pb
  have HX0 := Lib.hid hX0
  have A2 := (Below.refl X0.heap.size X0).alloc (Nat.le_refl _) (.cells #[.int .i64 2, .int .i64 2, .int .i64 4] 23)
  have gb := PBox.new X0 2 2 4
  obtain ⟨X1, hX1⟩ : ∃ X1, X1 = X0.alloc (.cells #[.int .i64 2, .int .i64 2, .int .i64 4] 23) := ⟨_, rfl⟩
  rw [← hX1] at A2 gb
  have HX1 := Lib.hid hX1
  have A3 := (Below.refl X1.heap.size X1).alloc (Nat.le_refl _) (.cells (mvals three).toArray 31)
  have r3 := laid_runs (w := X1) (xs := three) (n := 3) rfl (by decide) in64_three
  obtain ⟨X2, hX2⟩ : ∃ X2, X2 = X1.alloc (.cells (mvals three).toArray 31) := ⟨_, rfl⟩
  rw [← hX2] at A3 r3
  rw [mvals_three] at hX2
  have HX2 := Lib.hid hX2
  have g0 := gb.c0
  have g1 := gb.c1
  have g2 := gb.c2
  have hp3 := pick_any (w := 2) (q := 2) (m := 4) r3
  rw [ans_three] at hp3
  have HP3 : Hid (Calls Try.prog 4 #[.agg #[.int .i64 2, .int .i64 2, .int .i64 4], .slice (some ⟨X1.heap.size, 0, none⟩) 3 3] X2 fun e W' => PickP X2 ([2, 1], false, 0) e W') := hp3
  have HB2 := Lib.hid ((A1.trans (A2.mono A1.size)).trans (A3.mono (A1.trans (A2.mono A1.size)).size))
  have HPb := Lib.hid ((pb.later A2).later A3)
  clear hN hr hA hX0 hX1 hX2 A1 A2 A3 r3 hp3 pb gb
  go_enter Try.func3, Try.ntmps3
  go_upto_region 1 with fail
  rw [← HX0.out]
  go_upto_region 2 with fail
  rw [← HX1.out]
  clear HX0 HX1
  go_wp2_with fail
  rw [← HX2.out]
  refine Calls.mono HP3.out ?_
  rintro z X3 ⟨v3, rfl, own3, b3⟩
  obtain ⟨a3, c3, rfl⟩ := own3.form
  have hown3 : OwnI X3 X2.heap.size (.slice a3 2 c3) [2, 1] := own3
  have A4 := (Below.refl X3.heap.size X3).alloc (Nat.le_refl _) (.cells #[.int .i64 2, .int .i64 1] 3)
  have r4 : RdI (X3.alloc (.cells #[.int .i64 2, .int .i64 1] 3)) (some ⟨X3.heap.size, 0, none⟩) 2 [2, 1] := laid_ints (w := X3) (xs := [2, 1]) (n := 2) rfl (by decide)
  have HS4 : Hid (Calls Try.prog 5 #[.slice a3 2 c3, .slice (some ⟨X3.heap.size, 0, none⟩) 2 2] (X3.alloc (.cells #[.int .i64 2, .int .i64 1] 3)) fun e W' => SaP (X3.alloc (.cells #[.int .i64 2, .int .i64 1] 3)) [2, 1] [2, 1] e W') := sameInts_any (hown3.rd.later A4) r4
  have b34 : Below X2.heap.size X2 (X3.alloc (.cells #[.int .i64 2, .int .i64 1] 3)) := b3.trans (A4.mono b3.size)
  have HB4 := Lib.hid (HB2.out.trans (b34.mono HB2.out.size))
  have HPb4 := Lib.hid (HPb.out.later b34)
  clear own3 b3 hown3 A4 r4 b34 HP3 g0 g1 g2 HX2 HB2 HPb
  dsimp only
  go_wp2_with fail
  refine Calls.mono HS4.out ?_
  rintro z X5 ⟨q5, rfl, hq5, b5⟩
  obtain rfl : q5 = true := hq5.2 rfl
  have HB5 := Lib.hid (HB4.out.trans (b5.mono HB4.out.size))
  have HPb5 := Lib.hid (HPb4.out.later b5)
  have HNum := Lib.hid (fun W n => num_any (W := W) n)
  clear HS4 hq5 b5 HB4 HPb4
  go_wp2_with fail
  refine Calls.mono (HNum.out _ _) ?_
  rintro z X ⟨rfl, rfl⟩
  have HRl := Lib.hid (HR.out.later HB5.out)
  obtain ⟨NB, hNB⟩ : ∃ NB, NB = N := ⟨_, rfl⟩
  go_upto_region 6 with fail
  go_wp2_with (at_builtin; refine wpl_append_runs rfl _ _ rfl X.heap.size (.slice none 0 0) [] rfl (World.ownsRow_nil _ _ _ _) a N cap l rfl HN.out HRl.out (by rw [← HN.out]; simp only [List.length_nil]; omega) (Nat.le_refl _) ?_)
  intro a6 n6 c6 X6 hn6 row6 gr6
  have e6 : N = n6 := by rw [hn6]; exact HN.out
  subst e6
  have b6 : Below X.heap.size X X6 := (Below.refl _ _).grown gr6 (Nat.le_refl _) (fun k hk => by cases hk)
  have H6 : Hid (X6.ownsRow X.heap.size 31 8 (.slice a6 N c6) l.length (mvals l)) := row6
  have z64 : In64 (mt0 (-9) 0).num ∧ In64 (mt0 (-9) 0).byt := ⟨⟨by decide, by decide⟩, ⟨by decide, by decide⟩⟩
  have A7 := (Below.refl X6.heap.size X6).alloc (Nat.le_refl _) (.cells (mt0 (-9) 0).cells 31)
  have hone := RdM.one (w := X6) z64
  have H7 := Lib.hid (row_later H6.out A7)
  have b7 := b6.trans (A7.mono b6.size)
  unfold MtD.cells at A7 hone H7 b7
  unfold mt0 at A7 hone H7 b7
  dsimp only at A7 hone H7 b7
  have HOne := Lib.hid hone
  have HB7 := Lib.hid b7
  clear A7 hone b7 row6 gr6 hn6 b6 H6 HRl hNB
  go_upto_region 7 with fail
  go_wp2_with (at_builtin; refine wpl_append_runs rfl _ _ rfl X.heap.size (.slice a6 N c6) l rfl H7.out (some ⟨X6.heap.size, 0, none⟩) 1 1 [⟨-9, 0, 0, 0, 0, 0, none, 0, 0, none, 0, 0⟩] rfl rfl HOne.out (by rw [← HN.out]; simp only [List.length_cons, List.length_nil]; omega) HB7.out.size ?_)
  intro a8 n8 c8 X8 hn8 row8 gr8
  have e8 : N + 1 = n8 := by rw [hn8, HN.out]
  subst e8
  obtain ⟨L1, hL1⟩ : ∃ L1, L1 = l ++ [⟨-9, 0, 0, 0, 0, 0, none, 0, 0, none, 0, 0⟩] := ⟨_, rfl⟩
  have hLx : L1.length = N + 1 := by rw [hL1, List.length_append, ← HN.out]; rfl
  rw [← hL1] at row8
  have row8' : X8.ownsRow X.heap.size 31 8 (.slice a8 L1.length c8) L1.length (mvals L1) := by rw [hLx]; rw [← HN.out] at row8; exact row8
  have b8 : Below X.heap.size X X8 := HB7.out.grown gr8 HB7.out.size (fun k hk => (H7.out.lt k hk).1)
  have hr8 : RdM X8 a8 c8 L1 := row_rdm row8' (fun x hx => by
    rw [hL1] at hx
    rcases List.mem_append.1 hx with h | h
    · exact HR.out.num x h
    · simp at h; rw [h]; exact z64)
  obtain ⟨g8, o8, rfl, -⟩ := hr8.cel (i := N) (x := ⟨-9, 0, 0, 0, 0, 0, none, 0, 0, none, 0, 0⟩) (by rw [hL1, List.getElem?_append_right (by rw [← HN.out]; exact Nat.le_refl _), ← HN.out, Nat.sub_self]; rfl)
  have hc8 : N + 1 ≤ c8 := by have := hr8.cap.1; rw [hLx] at this; exact this
  have hc9 : c8 ≤ 9223372036854775807 := by have := hr8.cap.2; unfold maxLen at this; exact this
  have htake : L1.take N = l := by rw [hL1, HN.out, List.take_left]
  have HR8 : Hid (∀ Z, Below X8.heap.size X8 Z → RdM Z (some ⟨g8, o8, none⟩) c8 l) := fun Z hZ => by
    have := (hr8.later hZ).take N
    rw [htake] at this
    exact this
  have HIn := Lib.hid hr8
  have HL1 := Lib.hid hL1
  have HB8 := Lib.hid (HB5.out.trans (b8.mono HB5.out.size))
  have HPb8 := Lib.hid (HPb5.out.later b8)
  clear row8 row8' gr8 hn8 hr8 hL1 hLx htake b8 HB7 H7 HOne z64 HB5 HPb5
  have i1 : (N : Int) ≤ (c8 : Int) := by omega
  have i0 : (0 : Int) ≤ (N : Int) := by omega
  go_upto_region 8 with fail
  have BD : Below X8.heap.size X8 X8.drew := (Below.refl _ _).drew
  refine wp_region_noPanic ?_
  refine wp_region_held_drew (S := fun wx => Below X8.heap.size X8 wx) (by kernel_rfl) BD (fun hHeld => ?_)
  refine wpAnyH_take (i := 0) (oi := { dst := some 49, op := _, type := _, pos := _, after := _, guard := _ }) (v := .agg #[.int .i64 w, .int .i64 q, .int .i64 m]) rfl (by kernel_rfl) (by kernel_rfl) (by kernel_rfl) (fun _ _ _ h => h) (Or.inl ⟨by kernel_rfl, fun wy hy => by (have pb := HPb8.out.later hy; have x0 := pb.c0; have x1 := pb.c1; have x2 := pb.c2; go_simp; done)⟩) (by assumption) ?_
  try simp only [Act.put, List.setIfInBounds_toArray, List.set_cons_zero, List.set_cons_succ]
  refine wpAnyH_take (i := 1) (oi := { dst := some 50, op := _, type := _, pos := _, after := _, guard := _ }) (v := .slice (some ⟨g8, o8, none⟩) (N + 1) c8) rfl (by kernel_rfl) (by kernel_rfl) (by kernel_rfl) (fun _ _ _ h => h) (Or.inl ⟨by kernel_rfl, fun wy hy => by first | (go_simp; done)⟩) (by assumption) ?_
  try simp only [Act.put, List.setIfInBounds_toArray, List.set_cons_zero, List.set_cons_succ]
  refine wpAnyH_take (i := 2) (oi := { dst := some 51, op := _, type := _, pos := _, after := _, guard := _ }) (v := .slice a N cap) rfl (by kernel_rfl) (by kernel_rfl) (by kernel_rfl) (fun _ _ _ h => h) (Or.inl ⟨by kernel_rfl, fun wy hy => by first | (go_simp; done)⟩) (by assumption) ?_
  try simp only [Act.put, List.setIfInBounds_toArray, List.set_cons_zero, List.set_cons_succ]
  refine wpAnyH_take (i := 3) (oi := { dst := some 52, op := _, type := _, pos := _, after := _, guard := _ }) (v := .int .i64 (N : Int)) rfl (by kernel_rfl) (by kernel_rfl) (by kernel_rfl) (fun _ _ _ h => h) (Or.inl ⟨by kernel_rfl, fun wy hy => by first | (go_simp; done)⟩) (by assumption) ?_
  try simp only [Act.put, List.setIfInBounds_toArray, List.set_cons_zero, List.set_cons_succ]
  refine wpAnyH_take (i := 4) (oi := { dst := some 53, op := _, type := _, pos := _, after := _, guard := _ }) (v := .slice (some ⟨g8, o8, none⟩) N c8) rfl (by kernel_rfl) (by kernel_rfl) (by kernel_rfl) (fun _ _ _ h => h) (Or.inl ⟨by kernel_rfl, fun wy hy => by first | (go_simp; done)⟩) (by assumption) ?_
  try simp only [Act.put, List.setIfInBounds_toArray, List.set_cons_zero, List.set_cons_succ]
  refine wpAnyH_ready (rs := [5]) (by kernel_rfl) (by simp) ?_
  refine AllReadyH.cons (o := { dst := some 54, op := _, type := _, pos := _, after := _, guard := _ }) rfl (fun K hK => ?_) AllReadyH.nil
  go_simp
  go_at_call 4
  refine (HPk.out _ _ _ (HR8.out _ BD)).mono ?_
  rintro e1 Y3 ⟨va, rfl, ownA, bA⟩
  obtain ⟨aa, ca, rfl⟩ := ownA.form
  dsimp only at ownA ⊢
  have hsz8 : X8.drew.heap.size = X8.heap.size := rfl
  rw [hsz8] at ownA bA
  have bA2 : Below X8.heap.size X8 Y3 := BD.trans bA
  obtain ⟨K1, hK1⟩ : ∃ K1, K1 = AL.length := ⟨_, rfl⟩
  rw [← hK1] at ownA ⊢
  have HK1 := Lib.hid hK1
  have HOA := Lib.hid ownA
  clear ownA bA BD hK1 hsz8
  go_wp2_with fail
  refine hK.out _ _ bA2 (fun hHeld => ?_)
  clear hK K
  try simp only [Act.put, List.setIfInBounds_toArray, List.set_cons_zero, List.set_cons_succ]
  refine wpAnyH_take (i := 6) (oi := { dst := some 48, op := _, type := _, pos := _, after := _, guard := _ }) (v := .tuple #[.slice aa K1 ca, .bool AM, .int .i64 AE]) rfl (by kernel_rfl) (by kernel_rfl) (by kernel_rfl) (fun _ _ _ h => h) (Or.inl ⟨by kernel_rfl, fun wy hy => by first | (go_simp; done)⟩) (by assumption) ?_
  try simp only [Act.put, List.setIfInBounds_toArray, List.set_cons_zero, List.set_cons_succ]
  refine wpAnyH_take (i := 7) (oi := { dst := some 55, op := _, type := _, pos := _, after := _, guard := _ }) (v := .slice aa K1 ca) rfl (by kernel_rfl) (by kernel_rfl) (by kernel_rfl) (fun _ _ _ h => h) (Or.inl ⟨by kernel_rfl, fun wy hy => by first | (go_simp; done)⟩) (by assumption) ?_
  try simp only [Act.put, List.setIfInBounds_toArray, List.set_cons_zero, List.set_cons_succ]
  refine wpAnyH_take (i := 8) (oi := { dst := some 56, op := _, type := _, pos := _, after := _, guard := _ }) (v := .bool AM) rfl (by kernel_rfl) (by kernel_rfl) (by kernel_rfl) (fun _ _ _ h => h) (Or.inl ⟨by kernel_rfl, fun wy hy => by first | (go_simp; done)⟩) (by assumption) ?_
  try simp only [Act.put, List.setIfInBounds_toArray, List.set_cons_zero, List.set_cons_succ]
  refine wpAnyH_take (i := 9) (oi := { dst := some 57, op := _, type := _, pos := _, after := _, guard := _ }) (v := .int .i64 AE) rfl (by kernel_rfl) (by kernel_rfl) (by kernel_rfl) (fun _ _ _ h => h) (Or.inl ⟨by kernel_rfl, fun wy hy => by first | (go_simp; done)⟩) (by assumption) ?_
  try simp only [Act.put, List.setIfInBounds_toArray, List.set_cons_zero, List.set_cons_succ]
  refine wpAnyH_take (i := 10) (oi := { dst := some 6, op := _, type := _, pos := _, after := _, guard := _ }) (v := .slice aa K1 ca) rfl (by kernel_rfl) (by kernel_rfl) (by kernel_rfl) (fun _ _ _ h => h) (Or.inl ⟨by kernel_rfl, fun wy hy => by first | (go_simp; done)⟩) (by assumption) ?_
  try simp only [Act.put, List.setIfInBounds_toArray, List.set_cons_zero, List.set_cons_succ]
  refine wpAnyH_take (i := 11) (oi := { dst := some 7, op := _, type := _, pos := _, after := _, guard := _ }) (v := .bool AM) rfl (by kernel_rfl) (by kernel_rfl) (by kernel_rfl) (fun _ _ _ h => h) (Or.inl ⟨by kernel_rfl, fun wy hy => by first | (go_simp; done)⟩) (by assumption) ?_
  try simp only [Act.put, List.setIfInBounds_toArray, List.set_cons_zero, List.set_cons_succ]
  refine wpAnyH_take (i := 12) (oi := { dst := some 8, op := _, type := _, pos := _, after := _, guard := _ }) (v := .int .i64 AE) rfl (by kernel_rfl) (by kernel_rfl) (by kernel_rfl) (fun _ _ _ h => h) (Or.inl ⟨by kernel_rfl, fun wy hy => by first | (go_simp; done)⟩) (by assumption) ?_
  try simp only [Act.put, List.setIfInBounds_toArray, List.set_cons_zero, List.set_cons_succ]
  refine wpAnyH_done (by kernel_rfl) (NoPanic.normal ?_) _
  have HBA := Lib.hid bA2
  have HXWe : Hid (W.heap.size < X8.heap.size) := (Array.getElem?_eq_some_iff.1 HPb8.out).1
  clear bA2 hHeld
  go_simp
  go_step
  have hB3 := HB8.out.trans (HBA.out.mono HB8.out.size)
  have pb3 := HPb8.out.later HBA.out
  have p0 := pb3.c0
  have p1 := pb3.c1
  have p2 := pb3.c2
  have HC9 := Lib.hid (HRp.out Y3 a cap (HR.out.later hB3))
  have HB3 := Lib.hid hB3
  have HPb3 := Lib.hid pb3
  clear hB3 pb3 HRp HB8 HPb8
  go_wp2_with fail
  refine Calls.mono HC9.out ?_
  rintro z Y4 ⟨vb, rfl, ownB, bB⟩
  obtain ⟨ab, cb, rfl⟩ := ownB.form
  dsimp only at ownB ⊢
  rw [← HK1.out] at ownB ⊢
  have hs10 := sameInts_any (HOA.out.rd.later bB) ownB.rd
  rw [← HK1.out] at hs10
  have HC10 := Lib.hid hs10
  have HOB := Lib.hid ownB
  have HB4 := Lib.hid bB
  have hbm : (AM != AM) = false := by cases AM <;> rfl
  have hbe : (AE != AE) = false := by simp
  clear ownB bB hs10 HC9 p0 p1 p2
  go_upto_region 10 with fail
  go_wp2_with fail
  refine Calls.mono HC10.out ?_
  rintro z Y5 ⟨q5, rfl, hq5, b5⟩
  obtain rfl : q5 = true := hq5.2 rfl
  have HB5 := Lib.hid b5
  have HB35 := Lib.hid (HB4.out.trans (b5.mono HB4.out.size))
  have HBI := Lib.hid (HBA.out.trans (HB35.out.mono HBA.out.size))
  obtain ⟨g', o', e1, ci⟩ := (HIn.out.later HBI.out).cel (i := N) (x := ⟨-9, 0, 0, 0, 0, 0, none, 0, 0, none, 0, 0⟩) (by rw [HL1.out, List.getElem?_append_right (by rw [← HN.out]; exact Nat.le_refl _), ← HN.out, Nat.sub_self]; rfl)
  cases e1
  have d9 := ci.c0
  have iN : (N : Int) < ((N + 1 : Nat) : Int) := by omega
  have iN2 : (N : Int) < (N : Int) + 1 := by omega
  clear ci hq5 b5 HC10
  go_wp2_with fail
  refine Calls.mono (HNum.out _ _) ?_
  rintro z Y6 ⟨rfl, rfl⟩
  have HBW := Lib.hid (HB3.out.trans (HB35.out.mono HB3.out.size))
  have HPb6 := Lib.hid (HPb3.out.later HB35.out)
  go_wp2
  clear d9 iN iN2 hbm hbe HNum
  go_loopw [13] (fun i wr => ∃ k : Nat, k ≤ N ∧ i = .int .i64 (k : Int) ∧ Hid (Below Y6.heap.size Y6 wr)) (fun i _ => N - (intOf i).toNat)
  case atStart => exact ⟨0, Nat.zero_le _, rfl, Below.refl _ _⟩
  case round =>
    obtain ⟨k, hk, rfl, HK⟩ := hrel
    have k0 : (0 : Int) ≤ (k : Int) := by omega
    by_cases hlt : k < N
    · have hlt2 := len_int hlt
      have hlt3 : (k : Int) < (N : Int) + 1 := by omega
      obtain ⟨x, hx⟩ : ∃ x, l[k]? = some x := ⟨l[k]'(by rw [← HN.out]; exact hlt), List.getElem?_eq_getElem _⟩
      have hbk := HBI.out.trans (HK.out.mono HBI.out.size)
      obtain ⟨g', o', e1, ci⟩ := (HR8.out wr hbk).cel hx
      cases e1
      have hbw := HBW.out.trans (HK.out.mono HBW.out.size)
      obtain ⟨b, off, rfl, cr⟩ := (HR.out.later hbw).cel hx
      have x0 := ci.c0
      have x5 := ci.c5
      have y0 := cr.c0
      have y5 := cr.c5
      have n0 : (x.num != x.num) = false := by simp
      have n5 : (x.byt != x.byt) = false := by simp
      clear ci cr hx hbk hbw
      go_upto_region 15 with fail
      go_quiet (fail)
      have B3 : Below wr.heap.size wr (wr.drewN nq) := below_dn (Below.refl _ _) nq
      obtain ⟨Z, hZ⟩ : ∃ Z, Z = wr.drewN nq := ⟨_, rfl⟩
      rw [← hZ] at B3 ⊢
      have HKZ := Lib.hid (HK.out.trans (B3.mono HK.out.size))
      clear hZ B3 x0 x5 y0 y5
      go_wp2
      go_roundw
      case rel => exact ⟨k + 1, by omega, by go_num, HKZ⟩
      case measure => simp only [intOf]; omega
    · have hge : ¬ (k : Int) < (N : Int) := by omega
      have HOw := Lib.hid ((HOA.out.later HB35.out).later HK.out)
      have HOb := Lib.hid ((HOB.out.later HB5.out).later HK.out)
      have HB9 := Lib.hid (HBW.out.trans (HK.out.mono HBW.out.size))
      have HPb9 := Lib.hid (HPb6.out.later HK.out)
      have Hlt : Hid (∀ g, (Value.slice aa K1 ca).ownBlock = some g → X8.heap.size ≤ g ∧ g < Y3.heap.size) := fun g hg => HOA.out.lt g hg
      have HXW : Hid (W.heap.size < X8.heap.size) := HXWe.out
      have hKm : K1 ≤ 9223372036854775807 := by
        have := HOA.out.rd.cap
        rw [← HK1.out] at this
        unfold maxLen at this
        omega
      clear HK HR8 HIn HBI HB35 HBW HPb6 HB3 HPb3 HBA HOA HOB HB4 HB5
      obtain ⟨Y7, hY7⟩ : ∃ Y7, Y7 = wr := ⟨_, rfl⟩
      rw [← hY7] at HOw HOb HB9 HPb9 ⊢
      clear hY7
      go_wp2
      go_loopw [14] (fun i wr => ∃ j : Nat, j ≤ K1 ∧ i = .int .i64 (j : Int) ∧ Hid (∃ ys : List Int, ys.length = K1 ∧ OwnI wr X8.heap.size (.slice aa K1 ca) ys ∧ Y7.grownBy wr (Value.slice aa K1 ca).ownBlock)) (fun i _ => K1 - (intOf i).toNat)
      case atStart => exact ⟨0, Nat.zero_le _, rfl, AL, HK1.out.symm, HOw.out, ⟨rfl, rfl, rfl, Nat.le_refl _, fun _ _ _ => rfl⟩⟩
      case round =>
        obtain ⟨j, hj, rfl, HJ⟩ := hrel
        have j0 : (0 : Int) ≤ (j : Int) := by omega
        by_cases hjl : j < K1
        · have hjl2 := len_int hjl
          obtain ⟨ys, hys, hoy, hgy⟩ := HJ.out
          obtain ⟨g, rfl⟩ : ∃ g, aa = some ⟨g, 0, none⟩ := by
            rcases hoy.2 with ⟨_, h2⟩ | ⟨g, cap, cur, h1, _⟩
            · omega
            · simp only [Value.slice.injEq] at h1; exact ⟨g, h1.1⟩
          obtain ⟨y, hy⟩ : ∃ y, ys[j]? = some y := ⟨ys[j]'(by omega), List.getElem?_eq_getElem _⟩
          obtain ⟨g', o', e1, dy⟩ := hoy.rd.cel hy
          cases e1
          simp only [Nat.zero_add] at dy
          have hoy2 : wr.ownsRow X8.heap.size 3 1 (.slice (some ⟨g, 0, none⟩) K1 ca) K1 (iv ys) := by have := hoy; unfold OwnI at this; rw [hys] at this; exact this
          have fz := hoy2.frozenAt j
          obtain ⟨st1, st2⟩ := hoy2.stored j (.int .i64 (-1))
          have hca : K1 ≤ ca := by have := hoy.rd.cap.1; omega
          have HJ2 : Hid (∃ ys : List Int, ys.length = K1 ∧ OwnI (wr.setCell ⟨g, j, none⟩ (.int .i64 (-1))) X8.heap.size (.slice (some ⟨g, 0, none⟩) K1 ca) ys ∧ Y7.grownBy (wr.setCell ⟨g, j, none⟩ (.int .i64 (-1))) (Value.slice (some ⟨g, 0, none⟩) K1 ca).ownBlock) := by
            refine ⟨ys.set j (-1), by rw [List.length_set, hys], ?_, hgy.trans st2⟩
            unfold OwnI
            have e : iv (ys.set j (-1)) = (iv ys).set j (.int .i64 (-1)) := by unfold iv; rw [List.map_set]
            rw [e, List.length_set, hys]
            exact st1
          clear hys hoy hgy hy hoy2 st1 st2 HJ
          go_wp2
          go_roundw
          case rel => exact ⟨j + 1, by omega, by go_num, HJ2⟩
          case measure => simp only [intOf]; omega
        · have hjge : ¬ (j : Int) < (K1 : Int) := by omega
          obtain ⟨ys, hys, hoy, hgy⟩ := HJ.out
          have hbk : ∀ g, (Value.slice aa K1 ca).ownBlock = some g → X8.heap.size ≤ g ∧ g < Y3.heap.size := Hlt.out
          have HBr : Hid (Below W.heap.size W wr) := HB9.out.grown hgy HB9.out.size (fun g hg => by have := (hbk g hg).1; have := HXW.out; omega)
          have hne : ∀ g, g < X8.heap.size ∨ Y3.heap.size ≤ g → some g ≠ (Value.slice aa K1 ca).ownBlock := fun g hg z => by have := hbk g z.symm; omega
          have hpb : PBox wr W.heap.size w q m := by
            have hp := HPb9.out
            unfold PBox at *
            rw [hgy.block _ (Array.getElem?_eq_some_iff.1 hp).1 (hne _ (.inl HXW.out))]
            exact hp
          have hob : OwnI wr Y3.heap.size (.slice ab K1 cb) AL := row_same HOb.out (fun g hg => hgy.block g (HOb.out.lt g hg).2 (hne g (.inr (HOb.out.lt g hg).1)))
          have p0 := hpb.c0
          have p1 := hpb.c1
          have p2 := hpb.c2
          have HC21 := Lib.hid (HPk.out wr a cap (HR.out.later HBr.out))
          have HObr := Lib.hid hob
          clear hys hoy hgy hbk hne hpb hob HJ HOb HOw HPb9 HPk
          go_wp2_with fail
          refine Calls.mono HC21.out ?_
          rintro z Z2 ⟨vc, rfl, ownC, bC⟩
          obtain ⟨ac, cc, rfl⟩ := ownC.form
          dsimp only at ownC ⊢
          rw [← HK1.out] at ownC ⊢
          have hs22 := sameInts_any ownC.rd (HObr.out.rd.later bC)
          rw [← HK1.out] at hs22
          have HC22 := Lib.hid hs22
          have HBC := Lib.hid (HBr.out.trans (bC.mono HBr.out.size))
          clear ownC bC hs22 HC21 p0 p1 p2
          go_wp2_with fail
          refine Calls.mono HC22.out ?_
          rintro z Z3 ⟨q6, rfl, hq6, b6⟩
          obtain rfl : q6 = true := hq6.2 rfl
          have HBD := Lib.hid (HBC.out.trans (b6.mono HBC.out.size))
          clear hq6 b6 HC22
          go_wp2
          go_ret
          exact ⟨rfl, HBD.out⟩
end Go.Proofs.Ytodejneceedglaa

namespace Go.Proofs.Ytodejneceedglaa
open Go.ChangeShapes Go.WideShapes Go.ChangeAt Go.RowKit
set_option linter.unusedVariables false

theorem own_knob : ownKnob Try.prog.godebug = none := by kernel_rfl
theorem laid_out : laidOutB Try.prog = true := by kernel_rfl
theorem und_bool : Try.prog.underlying 4 = some .bool := by kernel_rfl
theorem und_bytes : Try.prog.underlying 29 = some (.slice 5) := by kernel_rfl
theorem cells_bytes : Try.prog.cellsOf 29 = 1 := by kernel_rfl
theorem cells_int : Try.prog.cellsOf 3 = 1 := by kernel_rfl
theorem cells_run : Try.prog.cellsOf 31 = 8 := by kernel_rfl
theorem cells_policy : Try.prog.cellsOf 23 = 3 := by kernel_rfl
set_option maxRecDepth 100000 in
theorem und_run : Try.prog.underlying 31 = some (.struct #[{ name := "Num", type := 3, offset := 0, embedded := false, tag := "", pkgPath := "", byteOffset := 0 }, { name := "Count", type := 3, offset := 1, embedded := false, tag := "", pkgPath := "", byteOffset := 8 }, { name := "Index", type := 3, offset := 2, embedded := false, tag := "", pkgPath := "", byteOffset := 16 }, { name := "Low", type := 3, offset := 3, embedded := false, tag := "", pkgPath := "", byteOffset := 24 }, { name := "Clock", type := 3, offset := 4, embedded := false, tag := "", pkgPath := "", byteOffset := 32 }, { name := "Bytes", type := 3, offset := 5, embedded := false, tag := "", pkgPath := "", byteOffset := 40 }, { name := "First", type := 29, offset := 6, embedded := false, tag := "", pkgPath := "", byteOffset := 48 }, { name := "Last", type := 29, offset := 7, embedded := false, tag := "", pkgPath := "", byteOffset := 72 }]) := by kernel_rfl
set_option maxRecDepth 100000 in
theorem und_policy : Try.prog.underlying 23 = some (.struct #[{ name := "Width", type := 3, offset := 0, embedded := false, tag := "", pkgPath := "", byteOffset := 0 }, { name := "Ratio", type := 3, offset := 1, embedded := false, tag := "", pkgPath := "", byteOffset := 8 }, { name := "Most", type := 3, offset := 2, embedded := false, tag := "", pkgPath := "", byteOffset := 16 }]) := by kernel_rfl

theorem slice_one {H : Type} {enc : TypeId × Value → H} {W : World} {base fuel : Nat} {held : Bool} {t e : TypeId} {c : Value} {x : DataW H × List MemPlace} (hu : Try.prog.underlying t = some (.slice e)) (h : DataW.trod enc Try.prog W base (fun _ => true) held fuel t [c] = some x) : ∃ a n k, c = .slice a n k := by
  rcases DataW.trod_slice hu h with ⟨h0, _⟩ | ⟨a, len, cap, _, _, _, _, h0, _⟩
  · simp at h0; exact ⟨_, _, _, h0⟩
  · simp at h0; exact ⟨_, _, _, h0⟩
theorem in64_of {n : Int} (h : (Lit.int .i64 n).wf = true) : In64 n := by
  have e1 : IntKind.i64.min = -9223372036854775808 := by decide
  have e2 : IntKind.i64.max = 9223372036854775807 := by decide
  simp only [Lit.wf, e1, e2, Bool.and_eq_true, decide_eq_true_eq] at h
  exact h
set_option maxRecDepth 100000 in
theorem open_policy {H : Type} {enc : TypeId × Value → H} {W : World} {base : Nat} {held : Bool} {v : Value} {d : DataW H} {p : List MemPlace} (h0 : DataW.Trod enc Try.prog W base (fun _ => true) held 23 v d p) (hv : ∃ cs, v = .agg cs ∧ cs.size = Try.prog.cellsOf 23) :
    ∃ w q m : Int, v = .agg #[.int .i64 w, .int .i64 q, .int .i64 m] := by
  obtain ⟨csA, rfl, hcs⟩ := hv
  obtain ⟨fuel, h⟩ := h0
  obtain ⟨cs⟩ := csA
  simp only [Value.cells] at h
  obtain ⟨xs, n, hx, hdp, hcl, hxl, hf⟩ := DataW.trod_struct und_policy h
  rw [cells_policy] at hcl
  obtain ⟨c0, c1, c2, rfl⟩ : ∃ c0 c1 c2, cs = [c0, c1, c2] := by
    match cs, hcl with
    | [c0, c1, c2], _ => exact ⟨_, _, _, rfl⟩
  obtain ⟨x0, x1, x2, rfl⟩ : ∃ x0 x1 x2, xs = [x0, x1, x2] := by
    match xs, hxl with
    | [c0, c1, c2], _ => exact ⟨_, _, _, rfl⟩
  have f0 := hf 0 _ rfl
  have f1 := hf 1 _ rfl
  have f2 := hf 2 _ rfl
  simp [cells_int] at f0 f1 f2
  obtain ⟨n0, e0, b0, w0⟩ := DataW.trod_int und_int f0
  obtain ⟨n1, e1, b1, w1⟩ := DataW.trod_int und_int f1
  obtain ⟨n2, e2, b2, w2⟩ := DataW.trod_int und_int f2
  simp at e0 e1 e2
  subst e0 e1 e2
  exact ⟨n0, n1, n2, rfl⟩
set_option maxRecDepth 100000 in
theorem open_runc {H : Type} {enc : TypeId × Value → H} {W : World} {base fuel : Nat} {held : Bool} {cs : List Value} {x : DataW H × List MemPlace} (h : DataW.trod enc Try.prog W base (fun _ => true) held fuel 31 cs = some x) (hl : cs.length = 8) :
    ∃ e : MtD, cs = e.cells.toList ∧ In64 e.num ∧ In64 e.byt := by
  obtain ⟨xs, n, hx, hdp, hcl, hxl, hf⟩ := DataW.trod_struct und_run h
  obtain ⟨c0, c1, c2, c3, c4, c5, c6, c7, rfl⟩ : ∃ c0 c1 c2 c3 c4 c5 c6 c7, cs = [c0, c1, c2, c3, c4, c5, c6, c7] := by
    match cs, hl with
    | [c0, c1, c2, c3, c4, c5, c6, c7], _ => exact ⟨_, _, _, _, _, _, _, _, rfl⟩
  obtain ⟨x0, x1, x2, x3, x4, x5, x6, x7, rfl⟩ : ∃ x0 x1 x2 x3 x4 x5 x6 x7, xs = [x0, x1, x2, x3, x4, x5, x6, x7] := by
    match xs, hxl with
    | [c0, c1, c2, c3, c4, c5, c6, c7], _ => exact ⟨_, _, _, _, _, _, _, _, rfl⟩
  have f0 := hf 0 _ rfl
  have f1 := hf 1 _ rfl
  have f2 := hf 2 _ rfl
  have f3 := hf 3 _ rfl
  have f4 := hf 4 _ rfl
  have f5 := hf 5 _ rfl
  have f6 := hf 6 _ rfl
  have f7 := hf 7 _ rfl
  simp [cells_int, cells_bytes] at f0 f1 f2 f3 f4 f5 f6 f7
  obtain ⟨n0, e0, b0, w0⟩ := DataW.trod_int und_int f0
  obtain ⟨n1, e1, b1, w1⟩ := DataW.trod_int und_int f1
  obtain ⟨n2, e2, b2, w2⟩ := DataW.trod_int und_int f2
  obtain ⟨n3, e3, b3, w3⟩ := DataW.trod_int und_int f3
  obtain ⟨n4, e4, b4, w4⟩ := DataW.trod_int und_int f4
  obtain ⟨n5, e5, b5, w5⟩ := DataW.trod_int und_int f5
  simp at e0 e1 e2 e3 e4 e5
  subst e0 e1 e2 e3 e4 e5
  obtain ⟨a6, m6, k6, rfl⟩ := slice_one und_bytes f6
  obtain ⟨a7, m7, k7, rfl⟩ := slice_one und_bytes f7
  exact ⟨⟨n0, n1, n2, n3, n4, n5, a6, m6, k6, a7, m7, k7⟩, rfl, in64_of w0, in64_of w5⟩
set_option maxRecDepth 100000 in
theorem open_runs {H : Type} {enc : TypeId × Value → H} {W : World} {base : Nat} {held : Bool} {v : Value} {d : DataW H} {p : List MemPlace} (h0 : DataW.Trod enc Try.prog W base (fun _ => true) held 24 v d p) (hv : ∃ a n c, v = .slice a n c)
    (hk : (d.weights Try.prog 24).all (fun x => decide (x ≤ reachBytes)) = true) :
    ∃ (xs : List MtD) (a : Option Addr) (c : Nat), v = .slice a xs.length c ∧ RdM W a c xs ∧ xs.length ≤ 1466015503658 := by
  obtain ⟨a, n, c, rfl⟩ := hv
  obtain ⟨fuel2, hf2⟩ := h0
  have hs2 : (DataW.weightsEach Try.prog [24] ([d] ++ [])).all (fun x => decide (x ≤ reachBytes)) = true := by
    simpa [DataW.weightsEach] using hk
  rcases Deep.open_slice und_runs hf2 with ⟨hcs, hx⟩ | ⟨x, l, c', m, k, D, Pl, hcs, _, hl, hm, hmm, hx, hel⟩
  · simp [Value.cells] at hcs
    obtain ⟨rfl, rfl, rfl⟩ := hcs
    exact ⟨[], none, 0, rfl, ⟨⟨Nat.le_refl _, Nat.zero_le _⟩, .inl rfl, (fun x hx => by cases hx), fun _ => rfl⟩, by simp⟩
  · simp [Value.cells] at hcs
    obtain ⟨rfl, rfl, rfl⟩ := hcs
    simp only [if_true] at hmm
    simp only [Prod.mk.injEq] at hx
    obtain ⟨hx1, _⟩ := hx
    have hn : n ≤ 1466015503658 := by
      rw [hx1] at hs2
      have := sized_slice hs2 (j := 0) (t := 24) rfl rfl und_runs
      rw [show Try.prog.bytesOf 31 = 96 by kernel_rfl] at this
      simp at this
      unfold reachBytes at this
      omega
    rw [cells_run] at hel
    have hop : ∀ i, i < n → ∃ e : MtD, (∀ j y, e.cells.toList[j]? = some y → W.cell? ((x.add (i * 8)).add j) = some y) ∧ In64 e.num ∧ In64 e.byt := by
      intro i hi
      obtain ⟨cs', hc1, hc2⟩ := hel i (by omega)
      obtain ⟨_, hlen, hget⟩ := World.cells?_some hc1
      obtain ⟨e, rfl, hok⟩ := open_runc hc2 hlen
      refine ⟨e, fun j y hj => ?_, hok⟩
      have hj7 : j < 8 := by
        have := (List.getElem?_eq_some_iff.1 hj).1
        simpa [MtD.cells] using this
      rw [hget j hj7]
      exact hj
    have build : ∀ q, q ≤ n → ∃ fs : List MtD, fs.length = q ∧ ∀ i f, fs[i]? = some f → (∀ j y, f.cells.toList[j]? = some y → W.cell? ((x.add (i * 8)).add j) = some y) ∧ In64 f.num ∧ In64 f.byt := by
      intro q
      induction q with
      | zero => intro _; exact ⟨[], rfl, fun i o h => by simp at h⟩
      | succ q ih =>
        intro hq
        obtain ⟨os, hol, hos⟩ := ih (by omega)
        obtain ⟨o, ho⟩ := hop q (by omega)
        refine ⟨os ++ [o], by simp [hol], fun i o' h => ?_⟩
        by_cases hi : i < os.length
        · rw [List.getElem?_append_left hi] at h
          exact hos i o' h
        · rw [List.getElem?_append_right (by omega)] at h
          have hi2 : i = q := by
            by_cases h9 : i - os.length = 0
            · omega
            · rw [List.getElem?_eq_none (by simp; omega)] at h; cases h
          subst hi2
          rw [hol, Nat.sub_self] at h
          simp at h
          subst h
          exact ho
    obtain ⟨fs, hol, hos⟩ := build n (Nat.le_refl _)
    refine ⟨fs, some x, c, by rw [hol], ⟨⟨by omega, hm⟩, ?_, fun f hf => ?_, fun z => by cases z⟩, by omega⟩
    · by_cases h0 : fs = []
      · exact .inl h0
      · have hin : 0 < fs.length := List.length_pos_iff.2 h0
        obtain ⟨b, off, spot⟩ := x
        obtain ⟨o, hc, _⟩ := hop 0 (by omega)
        have hc0 := hc 0 _ rfl
        have hspot : spot = none := by simpa [Addr.add] using World.cell?_spot hc0
        subst hspot
        refine .inr ⟨b, off, rfl, fun i f hi j u hj => ?_⟩
        have := (hos i f hi).1 j u hj
        rw [add_at, add_at] at this
        exact this
    · obtain ⟨i, hi⟩ := List.getElem?_of_mem hf
      exact (hos i f hi).2
theorem weight_at {H : Type} : ∀ {ts : List TypeId} {ds : List (DataW H)} (h : (DataW.weightsEach Try.prog ts ds).all (fun x => decide (x ≤ reachBytes)) = true) (j : Nat) {t : TypeId} {d : DataW H} (ht : ts[j]? = some t) (hd : ds[j]? = some d), (d.weights Try.prog t).all (fun x => decide (x ≤ reachBytes)) = true
  | [], _, _, j, _, _, ht, _ => by simp at ht
  | _ :: _, [], _, j, _, _, _, hd => by simp at hd
  | t :: ts, d :: ds, h, 0, _, _, ht, hd => by
    simp only [List.getElem?_cons_zero, Option.some.injEq] at ht hd
    subst ht hd
    simp only [DataW.weightsEach, List.all_append, Bool.and_eq_true] at h
    exact h.1
  | t :: ts, d :: ds, h, j + 1, _, _, ht, hd => by
    simp only [DataW.weightsEach, List.all_append, Bool.and_eq_true] at h
    exact weight_at h.2 j (by simpa using ht) (by simpa using hd)
end Go.Proofs.Ytodejneceedglaa
