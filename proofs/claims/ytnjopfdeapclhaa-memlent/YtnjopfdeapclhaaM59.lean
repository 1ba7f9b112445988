import Derived.Test.YtnjopfdeapclhaaM58
import Derived.Deep.CutBlock
import Derived.Deep.DeepCutAuto
import Derived.Deep.RegionHeld3
namespace Go.Proofs.Ytnjopfdeapclhaa
open Go.RowKit Go.Shelf
set_option linter.unusedVariables false

set_option maxRecDepth 100000 in
set_option maxHeartbeats 8000000 in
theorem memLent_walk {w : World} {lv : Value} {ls : List EntD} {e : EntD} (hl : RdE w lv ls) (he : EntD.Ok w e) (h47 : e.row.length ≤ 140737488355328 ∧ e.qual.length ≤ 140737488355328) :
    Calls Try.prog 5 #[lv, .agg e.cells] w fun z w' => z = .returned (.bool true) ∧ Below w.heap.size w w' := by
  obtain ⟨al, cl, rfl, hl1, hl2, hl3, hl4⟩ := hl
  have HLS := Lib.hid hl4
  obtain ⟨N, hN⟩ : ∃ N, N = ls.length := ⟨_, rfl⟩
  rw [← hN] at hl1 hl3 ⊢
  have HN := Lib.hid hN
  have HE := Lib.hid he
  have HK47 := Lib.hid h47
  clear h47
  have A0 := (Below.refl w.heap.size w).alloc (Nat.le_refl _) (.cells e.cells 30)
  have eb0 := EBox.new w e
  obtain ⟨W0, hW0⟩ : ∃ W0, W0 = w.alloc (.cells e.cells 30) := ⟨_, rfl⟩
  have z0 : W0.heap.size = w.heap.size + 1 := by rw [hW0]; simp
  rw [← hW0] at A0 eb0
  have HW0 := Lib.hid hW0
  have Z0 := Lib.hid z0
  unfold EntD.cells at HW0
  clear hW0 hN hl4 he z0
  unfold EntD.cells
  go_enter Try.func5, Try.ntmps5
  go_wp2_with fail
  rw [← HW0.out]
  refine (told8_any _).mono ?_
  rintro z W1 ⟨rfl, hb1⟩
  go_wp2_with fail
  refine (new_any _).mono ?_
  rintro z W2 ⟨rfl, ta2, s2, hb2⟩
  obtain ⟨tA, htA⟩ : ∃ t, t = W1.heap.size := ⟨_, rfl⟩
  rw [← htA] at ta2 ⊢
  have HtA := Lib.hid htA
  have Hs2 := Lib.hid s2
  clear htA s2
  go_wp2_with fail
  refine (new_any _).mono ?_
  rintro z W3 ⟨rfl, tb3, s3, hb3⟩
  obtain ⟨tB, htB⟩ : ∃ t, t = W2.heap.size := ⟨_, rfl⟩
  rw [← htB] at tb3 ⊢
  have HS2 : Hid (tA = W1.heap.size ∧ W2.heap.size = tA + 1 ∧ tB = W2.heap.size ∧ W3.heap.size = tB + 1 ∧ w.heap.size < tA) := ⟨HtA.out, by have := HtA.out; have := Hs2.out; omega, htB, by omega, by have := Z0.out; have := hb1.size; have := HtA.out; omega⟩
  clear htB s3 HtA Hs2
  have rb4 := RBx.new W3 (.slice none 0 0) false
  have l4 := (Below.refl W3.heap.size W3).alloc (Nat.le_refl _) (.cells #[.slice none 0 0, .bool false] 44)
  obtain ⟨W4, hW4⟩ : ∃ W4, W4 = W3.alloc (.cells #[.slice none 0 0, .bool false] 44) := ⟨_, rfl⟩
  have z4 : W4.heap.size = W3.heap.size + 1 := by rw [hW4]; simp
  rw [← hW4] at rb4 l4
  have HW4 := Lib.hid hW4
  obtain ⟨rB, hrB⟩ : ∃ t, t = W3.heap.size := ⟨_, rfl⟩
  rw [← hrB] at rb4
  obtain ⟨B, hB⟩ : ∃ t, t = W4.heap.size := ⟨_, rfl⟩
  have hLn : Ln w tA tB rB B W4 [] [] [] (.slice none 0 0) := by
    obtain ⟨h1, h2, h3, h4, h5⟩ := HS2.out
    have k2 := hb3.trans (l4.mono hb3.size)
    exact ⟨⟨by omega, List.Pairwise.nil, by simp, by simp [pk], none, .leaf, ta2.later k2, rfl, rfl⟩, ⟨by omega, List.Pairwise.nil, by simp, by simp [pk], none, .leaf, tb3.later l4, rfl, rfl⟩, ⟨RdL.nil _, by simp, fun b e => by cases e⟩, rb4, A0.trans ((hb1.trans ((hb2.trans (k2.mono hb2.size)).mono hb1.size)).mono A0.size), by omega, by omega⟩
  have HLn := Lib.hid hLn
  have HEb : Hid (EBox W4 w.heap.size e) := (((eb0.later hb1).later hb2).later hb3).later l4
  clear hLn rb4 l4 ta2 tb3 hb1 hb2 hb3 A0 eb0 hW4 z4
  go_upto_block 0 with fail
  rw [← HW4.out, ← hrB]
  clear HW4 hrB hB HS2 HW0 Z0
  go_cut [8] (fun p8 Y => ∃ (L M R : List EntD) (rv : Value), Hid (Ln w tA tB rB B Y L M R rv ∧ Sm R L ∧ Sm R M ∧ L.length ≤ 30 ∧ M.length ≤ 30 ∧ EBox Y w.heap.size e))
  case first =>
    go_wp2_with fail
    go_loopw [8, 9, 10] (fun i p9 p10 X => ∃ (t : Nat) (L M R : List EntD) (rv : Value), t ≤ 30 ∧ t ≤ N ∧ i = .int .i64 (t : Int) ∧ Ln w tA tB rB B X L M R rv ∧ Sm R L ∧ Sm R M ∧ L.length ≤ t ∧ M.length ≤ t ∧ Hid (EBox X w.heap.size e)) (fun i _ _ _ => 31 - (intOf i).toNat)
    case atStart => exact ⟨0, [], [], [], _, by omega, by omega, rfl, HLn.out, trivial, trivial, by simp, by simp, HEb⟩
    case round =>
      obtain ⟨t, L, M, R, rv, ht30, htN, rfl, hLn, hSL, hSM, hlL, hlM, HEx⟩ := hrel
      have HL0 := Lib.hid hLn
      have HSL := Lib.hid hSL
      have HSM := Lib.hid hSM
      clear hLn hSL hSM
      have ht0 : (0 : Int) ≤ (t : Int) := by omega
      by_cases h1 : t < N
      · have h1' : (t : Int) < (N : Int) := by omega
        by_cases h2 : t < 30
        · have h2' : (t : Int) < 30 := by omega
          obtain ⟨x, hx⟩ : ∃ x, ls[t]? = some x := ⟨ls[t]'(by rw [← HN.out]; exact h1), by simp⟩
          obtain ⟨ox, ba, oa, rfl, cx⟩ := HLS.out t x hx
          obtain ⟨ra, rn, rc, rfl⟩ : ∃ a n c, rv = .slice a n c := by
            obtain ⟨a, c, h⟩ := HL0.out.ref.rd.slice
            exact ⟨_, _, _, h⟩
          have KS : Hid (∀ Z, Below wr.heap.size wr Z → (Z.cell? ⟨rB, 0, none⟩ = some (.slice ra rn rc) ∧ Z.cell? ⟨rB, 1, none⟩ = some (.bool false)) ∧ (Z.cell? ⟨ba, oa + t * 7, none⟩ = some x.vr ∧ Z.cell? ⟨ba, oa + t * 7 + 1, none⟩ = some (.int .i64 x.fam) ∧ Z.cell? ⟨ba, oa + t * 7 + 2, none⟩ = some x.vq ∧ Z.cell? ⟨ba, oa + t * 7 + 3, none⟩ = some (.int .i64 x.ts) ∧ Z.cell? ⟨ba, oa + t * 7 + 4, none⟩ = some (.int .i64 x.seq) ∧ Z.cell? ⟨ba, oa + t * 7 + 5, none⟩ = some (.int .i64 x.kind) ∧ Z.cell? ⟨ba, oa + t * 7 + 6, none⟩ = some x.vv)) := fun Z b => by
            have q := HL0.out.later b
            exact ⟨⟨q.rb.c0, q.rb.c1⟩, cx.later q.below⟩
          have HOx := Lib.hid ox
          have HCx := Lib.hid cx
          have HEn : Hid (∀ Z, Below wr.heap.size wr Z → Calls Try.prog 20 #[.agg #[x.vr, .int .i64 x.fam, x.vq, .int .i64 x.ts, .int .i64 x.seq, .int .i64 x.kind, x.vv]] Z fun r w' => ∃ K : EntD, r = .returned (.agg K.cells) ∧ EntD.Same K x.cut ∧ LaidE w' Z.heap.size K ∧ Below Z.heap.size Z w') := fun Z bb => by
            refine (entry8_any (HOx.out.later (HL0.out.later bb).below)).mono ?_
            rintro r w' ⟨K, rfl, k1, k2, k3, k4⟩
            exact ⟨K, rfl, k1, k2, k3⟩
          obtain ⟨⟨c0, c1⟩, d0, d1, d2, d3, d4, d5, d6⟩ := KS.out wr (Below.refl _ _)
          clear hx ox cx
          have HAd : Hid (∀ Z K, Below wr.heap.size wr Z → EntD.Ok Z K → Calls Try.prog 19 #[.agg #[.slice ra rn rc, .bool false], .agg K.cells] Z (AddP Z (.slice ra rn rc) R K)) := fun Z K b oK => refAdd_any (HL0.out.later b).ref.rd oK (by have := HSL.out.len; omega)
          have HFn : Hid (∀ K, EntD.Same K x.cut → EntD.Fine K) := fun K s => (EntD.cut_fine HOx.out).same s
          have D0 : Below wr.heap.size wr wr.drew := (Below.refl _ _).drew
          clear c0 c1 d0 d1 d2 d3 d4 d5 d6
          go_wp2_with fail
          go_region_held3 (fun Z => (Z.cell? ⟨rB, 0, none⟩ = some (.slice ra rn rc) ∧ Z.cell? ⟨rB, 1, none⟩ = some (.bool false)) ∧ (Z.cell? ⟨ba, oa + t * 7, none⟩ = some x.vr ∧ Z.cell? ⟨ba, oa + t * 7 + 1, none⟩ = some (.int .i64 x.fam) ∧ Z.cell? ⟨ba, oa + t * 7 + 2, none⟩ = some x.vq ∧ Z.cell? ⟨ba, oa + t * 7 + 3, none⟩ = some (.int .i64 x.ts) ∧ Z.cell? ⟨ba, oa + t * 7 + 4, none⟩ = some (.int .i64 x.seq) ∧ Z.cell? ⟨ba, oa + t * 7 + 5, none⟩ = some (.int .i64 x.kind) ∧ Z.cell? ⟨ba, oa + t * 7 + 6, none⟩ = some x.vv)) (first | exact KS.out _ ((D2.setCell (p := ⟨wr.heap.size, 0, none⟩) (Nat.le_refl _) _).setCell (p := ⟨wr.heap.size, 1, none⟩) (Nat.le_refl _) _) | exact KS.out _ ((D2.setCell (p := ⟨w1.heap.size, 0, none⟩) D1.size _).setCell (p := ⟨w1.heap.size, 1, none⟩) D1.size _) | exact KS.out _ (((D2.alloc D2.size _).setCell (p := ⟨w2.heap.size, 0, none⟩) D2.size _).setCell (p := ⟨w2.heap.size, 1, none⟩) D2.size _) | exact KS.out _ D2 | exact KS.out _ (D2.alloc D2.size _) | exact KS.out _ D1 | exact KS.out _ (D1.alloc D1.size _) | exact KS.out _ D0 | exact KS.out _ (D0.alloc D0.size _)) (first
            | (go_at_call 20; refine Calls.mono (HEn.out _ D0) ?_; rintro z1 w1 ⟨K, rfl, sK, lK, hbK⟩; have D1 := D0.trans (hbK.mono D0.size); have oK := lK.ok (HFn.out K sK))
            | (go_at_call 20; refine Calls.mono (HEn.out _ (D0.alloc D0.size _)) ?_; rintro z1 w1 ⟨K, rfl, sK, lK, hbK⟩; have D1 := (D0.alloc D0.size (.cells #[.slice none 0 0, .bool false] 44)).trans (hbK.mono (D0.alloc D0.size (.cells #[.slice none 0 0, .bool false] 44)).size); have oK := lK.ok (HFn.out K sK); have nb1 : RBx w1 wr.heap.size (.slice none 0 0) false := (RBx.new wr.drew (.slice none 0 0) false).later hbK)
            | (go_at_call 19; refine Calls.mono (HAd.out _ K D1 oK) ?_; rintro z2 w2 ⟨c, lv', R', rfl, rl, hb3, hcs⟩; have D2 := D1.trans (hb3.mono D1.size); obtain ⟨na, nn, nc, rfl⟩ := rl.form; try (have nb2 := nb1.later hb3; have n0 := nb2.c0; have n1 := nb2.c1; have f0 := nb2.fz 0; have f1 := nb2.fz 1))
            | (go_at_call 19; refine Calls.mono (HAd.out _ K (D1.alloc D1.size _) (oK.later ((Below.refl _ w1).alloc (Nat.le_refl _) _))) ?_; rintro z2 w2 ⟨c, lv', R', rfl, rl, hb3, hcs⟩; have D2 := (D1.alloc D1.size (.cells #[.slice none 0 0, .bool false] 44)).trans (hb3.mono (D1.alloc D1.size (.cells #[.slice none 0 0, .bool false] 44)).size); obtain ⟨na, nn, nc, rfl⟩ := rl.form; have nb2 := (RBx.new w1 (.slice none 0 0) false).later hb3; have n0 := nb2.c0; have n1 := nb2.c1; have f0 := nb2.fz 0; have f1 := nb2.fz 1))
          · obtain ⟨hq, hrow⟩ := addQ_of HL0.out HSL.out HSM.out sK D1 rl hb3 hcs
            have lb4 : LB (w2.alloc (.cells #[.slice na nn nc, .bool false] 44)) B (.slice na nn nc) R' := hq.ref.later ((Below.refl w2.heap.size w2).alloc (Nat.le_refl _) _)
            have nbF : RBx (w2.alloc (.cells #[.slice na nn nc, .bool false] 44)) (w2.heap.size) (.slice na nn nc) false := RBx.new w2 _ false
            have bX : Below wr.heap.size wr (w2.alloc (.cells #[.slice na nn nc, .bool false] 44)) := D2.alloc D2.size _
            obtain ⟨nB, hnB, hnle⟩ : ∃ q, q = w2.heap.size ∧ wr.heap.size ≤ q := ⟨_, rfl, D2.size⟩
            obtain ⟨X4, hX4⟩ : ∃ q, q = w2.alloc (.cells #[.slice na nn nc, .bool false] 44) := ⟨_, rfl⟩
            rw [← hX4] at lb4 nbF bX
            rw [← hnB] at nbF
            have HX4 := Lib.hid hX4
            have HnB := Lib.hid hnB
            have HQ := Lib.hid hq
            have HL4 := Lib.hid (HL0.out.later bX)
            have HEx4 := Lib.hid (HEx.out.later bX)
            have hBw : B ≤ wr.heap.size := HL0.out.size
            have HA1 := Lib.hid (add_q HL4.out.a (HOx.out.later HL4.out.below) (fun i hi => Nat.le_trans HL4.out.size hi) (by omega) HQ.out.qa)
            obtain ⟨d0, d1, d2, d3, d4, d5, d6⟩ := HCx.out.later HL4.out.below
            rw [hX4] at d0 d1 d2 d3 d4 d5 d6
            unfold EntD.cells at HA1
            clear hX4 hq hrow hcs rl hb3 hnB
            go_wp2_with fail
            rw [← HX4.out]
            (try rw [← HnB.out])
            clear HX4 d0 d1 d2 d3 d4 d5 d6
            refine Calls.mono HA1.out ?_
            rintro z X5 ⟨rfl, L', tbA, sA, lA, gA⟩
            have HL5 := Lib.hid (HL4.out.addA gA tbA)
            have hns := HL4.out.ns
            have nb5 := nbF.far gA (fun e => by cases e; omega)
            have lb5 := lb4.far gA (fun g e => by cases e; omega)
            have HEx5 := Lib.hid (HEx4.out.far' gA (fun e => by cases e; omega))
            have HA2 := Lib.hid (add_q HL5.out.b (HOx.out.later HL5.out.below) (fun i hi => Nat.le_trans HL5.out.size hi) (by omega) HQ.out.qb)
            obtain ⟨d0, d1, d2, d3, d4, d5, d6⟩ := HCx.out.later HL5.out.below
            unfold EntD.cells at HA2
            clear HA1
            go_wp2_with fail
            refine Calls.mono HA2.out ?_
            rintro z X6 ⟨rfl, M', tbB, sB, lB, gB⟩
            have HL6 := Lib.hid (HL5.out.addB gB tbB)
            have nb6 := nb5.far gB (fun e => by cases e; omega)
            have lb6 := lb5.far gB (fun g e => by cases e; omega)
            have HEx6 := Lib.hid (HEx5.out.far' gB (fun e => by cases e; omega))
            have HL7 := Lib.hid (HL6.out.setR (grown_two X6 rB (.slice na nn nc) (.bool false)) (HL6.out.rb.two (.slice na nn nc) false) lb6)
            have HEx7 := Lib.hid (HEx6.out.far' (grown_two X6 rB (.slice na nn nc) (.bool false)) (fun e => by cases e; omega))
            have n0 := nb6.c0
            have n1 := nb6.c1
            have c0 := HL6.out.rb.c0
            have c1 := HL6.out.rb.c1
            have f0 := HL6.out.rb.fz 0
            have f1 := HL6.out.rb.fz 1
            have HsA := Lib.hid sA
            have HsB := Lib.hid sB
            clear HA2 d0 d1 d2 d3 d4 d5 d6 sA sB
            go_wp2
            go_roundw
            case rel => exact ⟨t + 1, L', M', R', _, by omega, by omega, by go_num, HL7.out, HsA.out, HsB.out, by omega, by omega, HEx7⟩
            case measure => simp [intOf]; omega
          · obtain ⟨hq, hrow⟩ := addQ_of HL0.out HSL.out HSM.out sK (D1.alloc D1.size (.cells #[.slice none 0 0, .bool false] 44)) rl hb3 hcs
            have lb4 : LB ((w2.setCell ⟨w1.heap.size, 0, none⟩ (.slice na nn nc)).setCell ⟨w1.heap.size, 1, none⟩ (.bool false)) B (.slice na nn nc) R' := hq.ref.put nb2 (hrow.imp_right fun h b hb e => by
                have h1 := h b hb
                have h2 := D1.size
                have h3 := World.size_alloc w1 (.cells #[.slice none 0 0, .bool false] 44)
                omega) _ false
            have nbF : RBx ((w2.setCell ⟨w1.heap.size, 0, none⟩ (.slice na nn nc)).setCell ⟨w1.heap.size, 1, none⟩ (.bool false)) (w1.heap.size) (.slice na nn nc) false := nb2.two _ false
            have bX : Below wr.heap.size wr ((w2.setCell ⟨w1.heap.size, 0, none⟩ (.slice na nn nc)).setCell ⟨w1.heap.size, 1, none⟩ (.bool false)) := (D2.setCell (p := ⟨w1.heap.size, 0, none⟩) D1.size _).setCell (p := ⟨w1.heap.size, 1, none⟩) D1.size _
            obtain ⟨nB, hnB, hnle⟩ : ∃ q, q = w1.heap.size ∧ wr.heap.size ≤ q := ⟨_, rfl, D1.size⟩
            obtain ⟨X4, hX4⟩ : ∃ q, q = (w2.setCell ⟨w1.heap.size, 0, none⟩ (.slice na nn nc)).setCell ⟨w1.heap.size, 1, none⟩ (.bool false) := ⟨_, rfl⟩
            rw [← hX4] at lb4 nbF bX
            rw [← hnB] at nbF
            have HX4 := Lib.hid hX4
            have HnB := Lib.hid hnB
            have HQ := Lib.hid hq
            have HL4 := Lib.hid (HL0.out.later bX)
            have HEx4 := Lib.hid (HEx.out.later bX)
            have hBw : B ≤ wr.heap.size := HL0.out.size
            have HA1 := Lib.hid (add_q HL4.out.a (HOx.out.later HL4.out.below) (fun i hi => Nat.le_trans HL4.out.size hi) (by omega) HQ.out.qa)
            obtain ⟨d0, d1, d2, d3, d4, d5, d6⟩ := HCx.out.later HL4.out.below
            rw [hX4] at d0 d1 d2 d3 d4 d5 d6
            unfold EntD.cells at HA1
            clear hX4 hq hrow hcs rl hb3 hnB
            go_wp2_with fail
            rw [← HX4.out]
            (try rw [← HnB.out])
            clear HX4 d0 d1 d2 d3 d4 d5 d6
            refine Calls.mono HA1.out ?_
            rintro z X5 ⟨rfl, L', tbA, sA, lA, gA⟩
            have HL5 := Lib.hid (HL4.out.addA gA tbA)
            have hns := HL4.out.ns
            have nb5 := nbF.far gA (fun e => by cases e; omega)
            have lb5 := lb4.far gA (fun g e => by cases e; omega)
            have HEx5 := Lib.hid (HEx4.out.far' gA (fun e => by cases e; omega))
            have HA2 := Lib.hid (add_q HL5.out.b (HOx.out.later HL5.out.below) (fun i hi => Nat.le_trans HL5.out.size hi) (by omega) HQ.out.qb)
            obtain ⟨d0, d1, d2, d3, d4, d5, d6⟩ := HCx.out.later HL5.out.below
            unfold EntD.cells at HA2
            clear HA1
            go_wp2_with fail
            refine Calls.mono HA2.out ?_
            rintro z X6 ⟨rfl, M', tbB, sB, lB, gB⟩
            have HL6 := Lib.hid (HL5.out.addB gB tbB)
            have nb6 := nb5.far gB (fun e => by cases e; omega)
            have lb6 := lb5.far gB (fun g e => by cases e; omega)
            have HEx6 := Lib.hid (HEx5.out.far' gB (fun e => by cases e; omega))
            have HL7 := Lib.hid (HL6.out.setR (grown_two X6 rB (.slice na nn nc) (.bool false)) (HL6.out.rb.two (.slice na nn nc) false) lb6)
            have HEx7 := Lib.hid (HEx6.out.far' (grown_two X6 rB (.slice na nn nc) (.bool false)) (fun e => by cases e; omega))
            have n0 := nb6.c0
            have n1 := nb6.c1
            have c0 := HL6.out.rb.c0
            have c1 := HL6.out.rb.c1
            have f0 := HL6.out.rb.fz 0
            have f1 := HL6.out.rb.fz 1
            have HsA := Lib.hid sA
            have HsB := Lib.hid sB
            clear HA2 d0 d1 d2 d3 d4 d5 d6 sA sB
            go_wp2
            go_roundw
            case rel => exact ⟨t + 1, L', M', R', _, by omega, by omega, by go_num, HL7.out, HsA.out, HsB.out, by omega, by omega, HEx7⟩
            case measure => simp [intOf]; omega
          · obtain ⟨hq, hrow⟩ := addQ_of HL0.out HSL.out HSM.out sK D1 rl hb3 hcs
            have lb4 : LB ((w2.setCell ⟨wr.heap.size, 0, none⟩ (.slice na nn nc)).setCell ⟨wr.heap.size, 1, none⟩ (.bool false)) B (.slice na nn nc) R' := hq.ref.put nb2 (hrow.imp_right fun h b hb e => by
                have h1 := h b hb
                have h2 := Nat.le_refl wr.heap.size
                have h3 : wr.heap.size + 1 ≤ w1.heap.size := by
                  have := hbK.size
                  simpa using this
                omega) _ false
            have nbF : RBx ((w2.setCell ⟨wr.heap.size, 0, none⟩ (.slice na nn nc)).setCell ⟨wr.heap.size, 1, none⟩ (.bool false)) (wr.heap.size) (.slice na nn nc) false := nb2.two _ false
            have bX : Below wr.heap.size wr ((w2.setCell ⟨wr.heap.size, 0, none⟩ (.slice na nn nc)).setCell ⟨wr.heap.size, 1, none⟩ (.bool false)) := (D2.setCell (p := ⟨wr.heap.size, 0, none⟩) (Nat.le_refl _) _).setCell (p := ⟨wr.heap.size, 1, none⟩) (Nat.le_refl _) _
            obtain ⟨nB, hnB, hnle⟩ : ∃ q, q = wr.heap.size ∧ wr.heap.size ≤ q := ⟨_, rfl, (Nat.le_refl _)⟩
            obtain ⟨X4, hX4⟩ : ∃ q, q = (w2.setCell ⟨wr.heap.size, 0, none⟩ (.slice na nn nc)).setCell ⟨wr.heap.size, 1, none⟩ (.bool false) := ⟨_, rfl⟩
            rw [← hX4] at lb4 nbF bX
            rw [← hnB] at nbF
            have HX4 := Lib.hid hX4
            have HnB := Lib.hid hnB
            have HQ := Lib.hid hq
            have HL4 := Lib.hid (HL0.out.later bX)
            have HEx4 := Lib.hid (HEx.out.later bX)
            have hBw : B ≤ wr.heap.size := HL0.out.size
            have HA1 := Lib.hid (add_q HL4.out.a (HOx.out.later HL4.out.below) (fun i hi => Nat.le_trans HL4.out.size hi) (by omega) HQ.out.qa)
            obtain ⟨d0, d1, d2, d3, d4, d5, d6⟩ := HCx.out.later HL4.out.below
            rw [hX4] at d0 d1 d2 d3 d4 d5 d6
            unfold EntD.cells at HA1
            clear hX4 hq hrow hcs rl hb3 hnB
            go_wp2_with fail
            rw [← HX4.out]
            (try rw [← HnB.out])
            clear HX4 d0 d1 d2 d3 d4 d5 d6
            refine Calls.mono HA1.out ?_
            rintro z X5 ⟨rfl, L', tbA, sA, lA, gA⟩
            have HL5 := Lib.hid (HL4.out.addA gA tbA)
            have hns := HL4.out.ns
            have nb5 := nbF.far gA (fun e => by cases e; omega)
            have lb5 := lb4.far gA (fun g e => by cases e; omega)
            have HEx5 := Lib.hid (HEx4.out.far' gA (fun e => by cases e; omega))
            have HA2 := Lib.hid (add_q HL5.out.b (HOx.out.later HL5.out.below) (fun i hi => Nat.le_trans HL5.out.size hi) (by omega) HQ.out.qb)
            obtain ⟨d0, d1, d2, d3, d4, d5, d6⟩ := HCx.out.later HL5.out.below
            unfold EntD.cells at HA2
            clear HA1
            go_wp2_with fail
            refine Calls.mono HA2.out ?_
            rintro z X6 ⟨rfl, M', tbB, sB, lB, gB⟩
            have HL6 := Lib.hid (HL5.out.addB gB tbB)
            have nb6 := nb5.far gB (fun e => by cases e; omega)
            have lb6 := lb5.far gB (fun g e => by cases e; omega)
            have HEx6 := Lib.hid (HEx5.out.far' gB (fun e => by cases e; omega))
            have HL7 := Lib.hid (HL6.out.setR (grown_two X6 rB (.slice na nn nc) (.bool false)) (HL6.out.rb.two (.slice na nn nc) false) lb6)
            have HEx7 := Lib.hid (HEx6.out.far' (grown_two X6 rB (.slice na nn nc) (.bool false)) (fun e => by cases e; omega))
            have n0 := nb6.c0
            have n1 := nb6.c1
            have c0 := HL6.out.rb.c0
            have c1 := HL6.out.rb.c1
            have f0 := HL6.out.rb.fz 0
            have f1 := HL6.out.rb.fz 1
            have HsA := Lib.hid sA
            have HsB := Lib.hid sB
            clear HA2 d0 d1 d2 d3 d4 d5 d6 sA sB
            go_wp2
            go_roundw
            case rel => exact ⟨t + 1, L', M', R', _, by omega, by omega, by go_num, HL7.out, HsA.out, HsB.out, by omega, by omega, HEx7⟩
            case measure => simp [intOf]; omega
        · have h2' : ¬ (t : Int) < 30 := by omega
          go_wp2_with fail
          go_meet
          exact ⟨L, M, R, rv, HL0.out, HSL.out, HSM.out, by omega, by omega, HEx.out⟩
      · have h1' : ¬ (t : Int) < (N : Int) := by omega
        go_wp2_with fail
        go_meet
        exact ⟨L, M, R, rv, HL0.out, HSL.out, HSM.out, by omega, by omega, HEx.out⟩
  case rest =>
  obtain ⟨X0, hX0⟩ : ∃ X, X = wc := ⟨_, rfl⟩
  subst hX0
  obtain ⟨L, M, R, rv, HC⟩ := hcut
  obtain ⟨N0, hN0⟩ : ∃ q, q = X0.heap.size := ⟨_, rfl⟩
  have HB0 : Hid (Bk (X0.alloc (.cells #[.slice none 0 0, .slice none 0 0] 51)) N0 N0 0 []) := by unfold Hid; rw [hN0]; exact (KBox.new8 X0).empty8
  have HBel0 : Hid (Below N0 X0 (X0.alloc (.cells #[.slice none 0 0, .slice none 0 0] 51)) ∧ N0 < (X0.alloc (.cells #[.slice none 0 0, .slice none 0 0] 51)).heap.size) := by unfold Hid; rw [hN0]; exact ⟨(Below.refl _ _).alloc (Nat.le_refl _) _, by simp⟩
  have HN0 := Lib.hid hN0
  have HLr : Hid (∀ Z, Below N0 X0 Z → Ln w tA tB rB B Z L M R rv ∧ EBox Z w.heap.size e ∧ EntD.Ok Z e) := fun Z b => by
    rw [HN0.out] at b
    have l := HC.out.1.later b
    exact ⟨l, HC.out.2.2.2.2.2.later b, HE.out.later l.below⟩
  have HLL : Hid (Sm R L ∧ Sm R M ∧ L.length ≤ 30 ∧ M.length ≤ 30 ∧ R.length ≤ 30) := ⟨HC.out.2.1, HC.out.2.2.1, HC.out.2.2.2.1, HC.out.2.2.2.2.1, by rw [HC.out.2.1.len]; exact HC.out.2.2.2.1⟩
  obtain ⟨ra, rn, rc, hrv⟩ : ∃ a n c, rv = .slice a n c := (HLr.out X0 (Below.refl _ _)).1.ref.rd.form
  subst hrv
  obtain ⟨D, hD⟩ : ∃ D, D = R.dropWhile (fun y => decide (compareS y e < 0)) := ⟨_, rfl⟩
  have HD := Lib.hid hD
  have HFr : Hid (∀ Z t Q, Below N0 X0 Z → (t = tA ∧ Q = L ∨ t = tB ∧ Q = M) → Calls Try.prog 21 #[.pointer (some ⟨t, 0, none⟩), .agg #[e.vr, .int .i64 e.fam, e.vq, .int .i64 e.ts, .int .i64 e.seq, .int .i64 e.kind, e.vv]] Z (FrP Z D)) := fun Z t Q b h => by
    rw [HD.out]
    rcases h with ⟨rfl, rfl⟩ | ⟨rfl, rfl⟩
    · exact from_frp (HLr.out Z b).1.a (HLr.out Z b).2.2 HK47.out HLL.out.1 HLL.out.2.2.1
    · exact from_frp (HLr.out Z b).1.b (HLr.out Z b).2.2 HK47.out HLL.out.2.1 HLL.out.2.2.2.1
  have HRo : Hid (∀ Z t Q, Below N0 X0 Z → (t = tA ∧ Q = L ∨ t = tB ∧ Q = M) → Calls Try.prog 10 #[.pointer (some ⟨t, 0, none⟩)] Z (FrP Z R)) := fun Z t Q b h => by
    rcases h with ⟨rfl, rfl⟩ | ⟨rfl, rfl⟩
    · exact rows_frp (HLr.out Z b).1.a HLL.out.1 HLL.out.2.2.1
    · exact rows_frp (HLr.out Z b).1.b HLL.out.2.1 HLL.out.2.2.2.1
  have HRf : Hid (∀ Z, Below N0 X0 Z → Calls Try.prog 22 #[.agg #[.slice ra rn rc, .bool false], .agg #[e.vr, .int .i64 e.fam, e.vq, .int .i64 e.ts, .int .i64 e.seq, .int .i64 e.kind, e.vv]] Z fun z w' => ∃ v, z = .returned v ∧ RdL w' v D ∧ Below Z.heap.size Z w') := fun Z b => by
    rw [HD.out]
    exact refFrom_any (HLr.out Z b).1.ref.rd (HLr.out Z b).2.2
  have KSe : Hid (∀ Z, Below N0 X0 Z → (Z.cell? ⟨rB, 0, none⟩ = some (.slice ra rn rc) ∧ Z.cell? ⟨rB, 1, none⟩ = some (.bool false)) ∧ Z.cell? ⟨w.heap.size, 0, none⟩ = some e.vr ∧ Z.cell? ⟨w.heap.size, 1, none⟩ = some (.int .i64 e.fam) ∧ Z.cell? ⟨w.heap.size, 2, none⟩ = some e.vq ∧ Z.cell? ⟨w.heap.size, 3, none⟩ = some (.int .i64 e.ts) ∧ Z.cell? ⟨w.heap.size, 4, none⟩ = some (.int .i64 e.seq) ∧ Z.cell? ⟨w.heap.size, 5, none⟩ = some (.int .i64 e.kind) ∧ Z.cell? ⟨w.heap.size, 6, none⟩ = some e.vv) := fun Z b => ⟨⟨(HLr.out Z b).1.rb.c0, (HLr.out Z b).1.rb.c1⟩, (HLr.out Z b).2.1.cells7⟩
  have hNe : X0.heap.size = N0 := hN0.symm
  clear hN0 hD
  go_wp2_with fail
  (try rw [hNe])
  clear hNe
  go_loopw [12, 13, 14, 15, 16] (fun i l c wt q Y => ∃ t : Nat, t ≤ 2 ∧ i = .int .i64 (t : Int) ∧ ∃ m its, m ≤ 360 * t ∧ Hid (Below N0 X0 Y ∧ Bk Y N0 N0 m its ∧ N0 < Y.heap.size)) (fun i _ _ _ _ _ => 2 - (intOf i).toNat)
  case atStart => exact ⟨0, by omega, rfl, 0, [], by omega, HBel0.out.1, HB0.out, HBel0.out.2⟩
  case round =>
    clear HBel0 HB0
    obtain ⟨t, ht2, rfl, m, its, hm, HS⟩ := hrel
    by_cases hlt : t < 2
    · have hlt' : (t : Int) < 2 := by omega
      have HUp : Hid (∀ Z, Below wr.heap.size wr Z → Below N0 X0 Z) := fun Z b => HS.out.1.trans (b.mono (Nat.le_of_lt HS.out.2.2))
      have D0 : Below wr.heap.size wr wr.drew := (Below.refl _ _).drew
      have KS : Hid (∀ Z, Below wr.heap.size wr Z → Z.cell? ⟨w.heap.size, 0, none⟩ = some e.vr ∧ Z.cell? ⟨w.heap.size, 1, none⟩ = some (.int .i64 e.fam) ∧ Z.cell? ⟨w.heap.size, 2, none⟩ = some e.vq ∧ Z.cell? ⟨w.heap.size, 3, none⟩ = some (.int .i64 e.ts) ∧ Z.cell? ⟨w.heap.size, 4, none⟩ = some (.int .i64 e.seq) ∧ Z.cell? ⟨w.heap.size, 5, none⟩ = some (.int .i64 e.kind) ∧ Z.cell? ⟨w.heap.size, 6, none⟩ = some e.vv) := fun Z b => (KSe.out Z (HUp.out Z b)).2
      go_wp2_with fail
      go_region_held3 (fun Z => Z.cell? ⟨w.heap.size, 0, none⟩ = some e.vr ∧ Z.cell? ⟨w.heap.size, 1, none⟩ = some (.int .i64 e.fam) ∧ Z.cell? ⟨w.heap.size, 2, none⟩ = some e.vq ∧ Z.cell? ⟨w.heap.size, 3, none⟩ = some (.int .i64 e.ts) ∧ Z.cell? ⟨w.heap.size, 4, none⟩ = some (.int .i64 e.seq) ∧ Z.cell? ⟨w.heap.size, 5, none⟩ = some (.int .i64 e.kind) ∧ Z.cell? ⟨w.heap.size, 6, none⟩ = some e.vv)
        (first | exact KS.out _ (D4.alloc D4.size _) | exact KS.out _ D4 | exact KS.out _ D3 | exact KS.out _ D2 | exact KS.out _ D1 | exact KS.out _ D0)
        (first
          | (go_at_call 10; have hgd := D3; clear hgd; refine Calls.mono (HRo.out _ tB M (HUp.out _ D3) (.inr ⟨rfl, rfl⟩)) ?_; rintro z4 w4 ⟨v4, x4, rfl, e4, m4, s4, o4, b4⟩; have D4 := D3.trans (b4.mono D3.size); obtain ⟨a4, n4, c4, rfl⟩ := e4.rd.form)
          | (go_at_call 10; have hgd := D2; clear hgd; refine Calls.mono (HRo.out _ tA L (HUp.out _ D2) (.inl ⟨rfl, rfl⟩)) ?_; rintro z3 w3 ⟨v3, x3, rfl, e3, m3, s3, o3, b3⟩; have D3 := D2.trans (b3.mono D2.size); obtain ⟨a3, n3, c3, rfl⟩ := e3.rd.form)
          | (go_at_call 21; have hgd := D1; clear hgd; refine Calls.mono (HFr.out _ tB M (HUp.out _ D1) (.inr ⟨rfl, rfl⟩)) ?_; rintro z2 w2 ⟨v2, x2, rfl, e2, m2, s2, o2, b2⟩; have D2 := D1.trans (b2.mono D1.size); obtain ⟨a2, n2, c2, rfl⟩ := e2.rd.form)
          | (go_at_call 21; have hgd := D0; clear hgd; refine Calls.mono (HFr.out _ tA L (HUp.out _ D0) (.inl ⟨rfl, rfl⟩)) ?_; rintro z1 w1 ⟨v1, x1, rfl, e1, m1, s1, o1, b1⟩; have D1 := D0.trans (b1.mono D0.size); obtain ⟨a1, n1, c1, rfl⟩ := e1.rd.form))
      have HLf0 := Lib.hid (Lf.start HS.out.1 HS.out.2.1 HS.out.2.2 D0 e1 s1 o1 b1 e2 s2 o2 b2 e3 s3 o3 b3 e4 s4 o4 b4)
      have HFo : Hid (Four [((Value.slice a1 n1 c1), x1), (.slice a2 n2 c2, x2), (.slice a3 n3 c3, x3), (.slice a4 n4 c4, x4)] R D) := Four.mk4 m1 m2 m3 m4 s1 s2 s3 s4
      obtain ⟨vs, hvs⟩ : ∃ vs, vs = [((Value.slice a1 n1 c1), x1), (.slice a2 n2 c2, x2), (.slice a3 n3 c3, x3), (.slice a4 n4 c4, x4)] := ⟨_, rfl⟩
      rw [← hvs] at HLf0 HFo
      clear hvs HUp KS D0 D1 D2 D3 D4 e1 s1 o1 b1 e2 s2 o2 b2 e3 s3 o3 b3 e4 s4 o4 b4 m1 m2 m3 m4
      obtain ⟨gl, hgl⟩ : ∃ q, q = w4.heap.size := ⟨_, rfl⟩
      rw [← hgl] at HLf0
      have hgl' : w4.heap.size = gl := hgl.symm
      clear hgl
      go_wp2_with fail
      (try rw [hgl'])
      clear hgl'
      go_loopw [14, 15, 16] (fun c wt q Y => ∃ u : Nat, u ≤ 4 ∧ c = .int .i64 (u : Int) ∧ ∃ m its, m ≤ 360 * t + 90 * u ∧ Hid (Lf X0 N0 gl m its vs ((vs.drop u).flatMap Prod.snd) Y)) (fun c _ _ _ => 4 - (intOf c).toNat)
      case atStart => exact ⟨0, by omega, rfl, m, its, by omega, HLf0⟩
      case round =>
        clear HLf0
        obtain ⟨u, hu4, rfl, m, its, hm, HLf⟩ := hrel
        by_cases hlu : u < 4
        · have hlu' : (u : Int) < 4 := by omega
          have hu0 : (0 : Int) ≤ (u : Int) := by omega
          obtain ⟨p, hp⟩ : ∃ p, vs[u]? = some p := ⟨vs[u]'(by rw [HFo.out.len]; exact hlu), by simp⟩
          have HP := Lib.hid hp
          have HPm := Lib.hid (List.mem_of_getElem? hp)
          obtain ⟨a5, c5, e5⟩ := (HLf.out.er p HPm.out).rd.slice
          obtain ⟨xs, hxs⟩ : ∃ xs, xs = p.2 := ⟨_, rfl⟩
          obtain ⟨nx, hnx⟩ : ∃ nx, nx = xs.length := ⟨_, rfl⟩
          rw [← hxs, ← hnx] at e5
          have HX : Hid (p = (.slice a5 nx c5, xs) ∧ nx = xs.length ∧ nx ≤ 30) := ⟨by rw [hxs, ← e5], hnx, by rw [hnx, hxs]; exact (HLf.out.er p HPm.out).few⟩
          have HSm : Hid (Sm xs (if u < 2 then D else R)) := by have := HFo.out.sm u p hp; rw [← hxs] at this; exact this
          have HSl : Hid (∀ x ∈ xs, Small x) := by have := HFo.out.small p HPm.out; rw [← hxs] at this; exact this
          have cr := HLf.out.row.cell hp
          rw [e5] at cr
          obtain ⟨⟨r0, r1⟩, q0, q1, q2, q3, q4, q5, q6⟩ := KSe.out wr HLf.out.bel
          clear hp hxs hnx e5
          go_upto_if 91 with fail
          go_cut [15] (fun wt Z => ∃ W a6 n6 c6, wt = .slice a6 n6 c6 ∧ Hid (RdL Z (.slice a6 n6 c6) W ∧ Sm xs W ∧ Below wr.heap.size wr Z))
          case first =>
            by_cases h2 : u < 2
            · have h2' : (u : Int) < 2 := by omega
              have HCl := Lib.hid (HRf.out wr HLf.out.bel)
              go_wp2_with fail
              refine Calls.mono HCl.out ?_
              rintro z w5 ⟨v5, rfl, rl5, b5⟩
              obtain ⟨a6, n6, c6, rfl⟩ := rl5.form
              go_wp2
              go_meet
              have hs := HSm.out
              rw [if_pos h2] at hs
              exact ⟨D, a6, n6, c6, rfl, rl5, hs, b5⟩
            · have h2' : ¬ (u : Int) < 2 := by omega
              go_wp2
              go_meet
              have hs := HSm.out
              rw [if_neg h2] at hs
              exact ⟨R, ra, rn, rc, rfl, (HLr.out wr HLf.out.bel).1.ref.rd, hs, Below.refl _ _⟩
          case rest =>
          obtain ⟨W, a6, n6, c6, rfl, HW⟩ := hcut
          have HLf1 := Lib.hid (HLf.out.later HW.out.2.2)
          clear cr r0 r1 q0 q1 q2 q3 q4 q5 q6 HLf
          have cr := HLf1.out.row.cell HP.out
          rw [HX.out.1] at cr
          have HSa : Hid (Calls Try.prog 23 #[.slice a5 nx c5, .slice a6 n6 c6] wc fun e w' => e = .returned (.bool true) ∧ Below wc.heap.size wc w') := by
            have er := (HLf1.out.er p HPm.out).rd
            rw [HX.out.1] at er
            exact sameList_ok er HW.out.1 HW.out.2.1
          go_wp2_with fail
          refine Calls.mono HSa.out ?_
          rintro z w6 ⟨rfl, b6⟩
          have HLf2 := Lib.hid (HLf1.out.later b6)
          clear cr HSa HLf1 HW b6
          have cr := HLf2.out.row.cell HP.out
          rw [HX.out.1] at cr
          obtain ⟨zs, hzs⟩ : ∃ zs, zs = (vs.drop (u + 1)).flatMap Prod.snd := ⟨_, rfl⟩
          have HLf3 : Hid (Lf X0 N0 gl m its vs (xs.drop 0 ++ zs) w6) := by
            have h := HLf2.out
            rw [flat_drop HP.out, HX.out.1, ← hzs] at h
            exact h
          have HZS := Lib.hid hzs
          clear HLf2 hzs
          go_wp2_with fail
          go_loopw [16] (fun q Y => ∃ j : Nat, j ≤ nx ∧ q = .int .i64 (j : Int) ∧ ∃ m its, m ≤ 360 * t + 90 * u + 3 * j ∧ Hid (Lf X0 N0 gl m its vs (xs.drop j ++ zs) Y)) (fun q _ => nx - (intOf q).toNat)
          case atStart => exact ⟨0, by omega, rfl, m, its, by omega, HLf3⟩
          case round =>
            clear cr HLf3
            obtain ⟨j, hj, rfl, m, its, hm, HLf⟩ := hrel
            have cr := HLf.out.row.cell HP.out
            rw [HX.out.1] at cr
            by_cases hlj : j < nx
            · have hlj' : (j : Int) < (nx : Int) := by omega
              have hj0 : (0 : Int) ≤ (j : Int) := by omega
              obtain ⟨x, hx⟩ : ∃ x, xs[j]? = some x := ⟨xs[j]'(by rw [← HX.out.2.1]; exact hlj), by simp⟩
              have rl := (HLf.out.er p HPm.out).rd
              rw [HX.out.1] at rl
              obtain ⟨a7, c7, e7, -, -, -, -, h7⟩ := rl
              obtain ⟨ox, gb, of, ea, cx⟩ := h7 j x hx
              simp only [Value.slice.injEq] at e7
              obtain ⟨e71, -, -⟩ := e7
              subst e71
              subst ea
              have pe := HLf.out.pend
              rw [strs_drop hx] at pe
              have sx := HSl.out x (List.mem_of_getElem? hx)
              have n30 := HX.out.2.2
              have HEn := Lib.hid (kentry_pend HLf.out.bk (pe.ownV sx) pe (by omega) (Nat.le_of_lt HLf.out.gs) (Nat.le_refl _))
              obtain ⟨d0, d1, d2, d3, d4, d5, d6⟩ := cx
              unfold EntD.cells at HEn
              clear pe sx h7 ox hx
              go_wp2_with fail
              refine Calls.mono HEn.out ?_
              rintro z w7 ⟨rfl, js, -, bk, pe, bel, T⟩
              have HLf7 := Lib.hid (HLf.out.keep bk pe bel T)
              clear d0 d1 d2 d3 d4 d5 d6 cr HEn bk pe bel T
              go_wp2
              go_roundw
              case rel => exact ⟨j + 1, by omega, by go_num, m + 3, its ++ js, by omega, HLf7⟩
              case measure => simp [intOf]; omega
            · have hgj : ¬ (j : Int) < (nx : Int) := by omega
              have n30 := HX.out.2.2
              have HLf8 : Hid (Lf X0 N0 gl m its vs ((vs.drop (u + 1)).flatMap Prod.snd) wr) := by
                have h := HLf.out
                rw [List.drop_of_length_le (by rw [← HX.out.2.1]; omega), List.nil_append, HZS.out] at h
                exact h
              go_wp2
              go_roundw
              case rel => exact ⟨u + 1, by omega, by go_num, m, its, by omega, HLf8⟩
              case measure => simp [intOf]; omega
        · have hgu : ¬ (u : Int) < 4 := by omega
          obtain rfl : u = 4 := by omega
          have HNx : Hid (Below N0 X0 wr ∧ Bk wr N0 N0 m its ∧ N0 < wr.heap.size) := ⟨HLf.out.bel, HLf.out.bk, HLf.out.gs⟩
          go_wp2
          go_roundw
          case rel => exact ⟨t + 1, by omega, by go_num, m, its, by omega, HNx⟩
          case measure => simp [intOf]; omega
    · have hgt : ¬ (t : Int) < 2 := by omega
      have hm1 : m ≤ 1000 := by omega
      have D0 : Below wr.heap.size wr wr.drew := (Below.refl _ _).drew
      have E0 : Below N0 X0 wr.drew := HS.out.1.trans (D0.mono (Nat.le_of_lt HS.out.2.2))
      have HSe := Lib.hid (settle_any (w0 := wr) (w := wr.drew) HS.out.2.1 D0 hm1 (Nat.le_trans (Nat.le_of_lt HS.out.2.2) D0.size))
      have HSz : Hid (N0 < wr.heap.size ∧ wr.heap.size ≤ wr.drew.heap.size) := ⟨HS.out.2.2, D0.size⟩
      clear D0
      go_wp2_with fail
      go_region_held3 (fun Z => (Z.cell? ⟨rB, 0, none⟩ = some (.slice ra rn rc) ∧ Z.cell? ⟨rB, 1, none⟩ = some (.bool false)) ∧ Z.cell? ⟨w.heap.size, 0, none⟩ = some e.vr ∧ Z.cell? ⟨w.heap.size, 1, none⟩ = some (.int .i64 e.fam) ∧ Z.cell? ⟨w.heap.size, 2, none⟩ = some e.vq ∧ Z.cell? ⟨w.heap.size, 3, none⟩ = some (.int .i64 e.ts) ∧ Z.cell? ⟨w.heap.size, 4, none⟩ = some (.int .i64 e.seq) ∧ Z.cell? ⟨w.heap.size, 5, none⟩ = some (.int .i64 e.kind) ∧ Z.cell? ⟨w.heap.size, 6, none⟩ = some e.vv)
        (first | exact KSe.out _ (HEE.out _ G8) | exact KSe.out _ (HEE.out _ G7) | exact KSe.out _ (HEE.out _ G6) | exact KSe.out _ (HEE.out _ G5) | exact KSe.out _ (HEE.out _ G4) | exact KSe.out _ (HEE.out _ G3) | exact KSe.out _ (HEE.out _ G2) | exact KSe.out _ E1 | exact KSe.out _ E0)
        (first
          | (go_at_call 26; have hgd := G8; clear hgd; refine Calls.mono (settled_any (HBs.out _ G8) hm1) ?_; rintro z9 w9 ⟨rfl, rfl⟩)
          | (go_at_call 23; have hgd := G7; clear hgd; refine Calls.mono (sameList_ok (e6.later b7).rd rl7 m6) ?_; rintro z8 w8 ⟨rfl, b8⟩; have G8 := G7.trans (b8.mono G7.size))
          | (go_at_call 22; have hgd := G6; clear hgd; refine Calls.mono (HRf.out _ (HEE.out _ G6)) ?_; rintro z7 w7 ⟨v7, rfl, rl7, b7⟩; have G7 := G6.trans (b7.mono G6.size); obtain ⟨a7, n7, c7, rfl⟩ := rl7.form)
          | (go_at_call 21; have hgd := G5; clear hgd; refine Calls.mono (HFr.out _ tA L (HEE.out _ G5) (.inl ⟨rfl, rfl⟩)) ?_; rintro z6 w6 ⟨v6, x6, rfl, e6, m6, s6, o6, b6⟩; have G6 := G5.trans (b6.mono G5.size); obtain ⟨a6, n6, c6, rfl⟩ := e6.rd.form)
          | (go_at_call 23; have hgd := G4; clear hgd; refine Calls.mono (sameList_ok e4.rd (HLr.out _ (HEE.out _ G4)).1.ref.rd m4) ?_; rintro z5 w5 ⟨rfl, b5⟩; have G5 := G4.trans (b5.mono G4.size))
          | (go_at_call 10; have hgd := G3; clear hgd; refine Calls.mono (HRo.out _ tB M (HEE.out _ G3) (.inr ⟨rfl, rfl⟩)) ?_; rintro z4 w4 ⟨v4, x4, rfl, e4, m4, s4, o4, b4⟩; have G4 := G3.trans (b4.mono G3.size); obtain ⟨a4, n4, c4, rfl⟩ := e4.rd.form)
          | (go_at_call 23; have hgd := G2; clear hgd; refine Calls.mono (sameList_ok e2.rd (HLr.out _ (HEE.out _ G2)).1.ref.rd m2) ?_; rintro z3 w3 ⟨rfl, b3⟩; have G3 := G2.trans (b3.mono G2.size))
          | (go_at_call 10; have hgd := E1; clear hgd; refine Calls.mono (HRo.out _ tA L E1 (.inl ⟨rfl, rfl⟩)) ?_; rintro z2 w2 ⟨v2, x2, rfl, e2, m2, s2, o2, G2⟩; obtain ⟨a2, n2, c2, rfl⟩ := e2.rd.form)
          | (go_at_call 25; have hgd := E0; clear hgd; refine Calls.mono HSe.out ?_; rintro z1 w1 ⟨rfl, b1, -, bs1⟩; have E1 := E0.trans b1; have HEE : Hid (∀ Z, Below w1.heap.size w1 Z → Below N0 X0 Z) := fun Z b => E1.trans (b.mono (by have := HSz.out; have := b1.size; omega)); have HBs : Hid (∀ Z, Below w1.heap.size w1 Z → Bs Z N0 N0 m its) := fun Z b => bs1 Z (b.mono (by have := HSz.out; have := b1.size; omega))))
      have HFin := Lib.hid (HLr.out _ (HEE.out _ G8)).1.below
      clear G2 G3 G4 G5 G6 G7 G8
      go_wp2
      go_ret
      exact ⟨rfl, HFin.out⟩
end Go.Proofs.Ytnjopfdeapclhaa
