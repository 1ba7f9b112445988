import Derived.Test.YthhkpkfpifllkaaGreatK24
import Derived.Deep.CutBlock
namespace Go.Proofs.YthhkpkfpifllkaaGreat
open Go.RowKit
set_option linter.unusedVariables false

theorem CBx.fz {w : World} {b : Nat} {fa : Option Addr} {K fc : Nat} {clock low t nv : Int} {major : Bool} (h : CBx w b fa K fc clock major low t nv) (i : Nat) : w.frozen? ⟨b, i, none⟩ = false := by unfold CBx at h; simp [World.frozen?, h]
theorem CBx.set6 {w : World} {b : Nat} {fa : Option Addr} {K fc : Nat} {clock low t nv : Int} {major : Bool} (h : CBx w b fa K fc clock major low t nv) (fa2 : Option Addr) (K2 fc2 : Nat) (k2 l2 t2 n2 : Int) (m2 : Bool) : ∃ Y, Y = (((((w.setCell ⟨b, 0, none⟩ (.slice fa2 K2 fc2)).setCell ⟨b, 1, none⟩ (.int .i64 k2)).setCell ⟨b, 2, none⟩ (.bool m2)).setCell ⟨b, 3, none⟩ (.int .i64 l2)).setCell ⟨b, 4, none⟩ (.int .i64 t2)).setCell ⟨b, 5, none⟩ (.int .i64 n2) ∧ CBx Y b fa2 K2 fc2 k2 m2 l2 t2 n2 ∧ w.grownBy Y (some b) := by
  refine ⟨_, rfl, ?_, grownQ (grownQ (grownQ (grownQ (grownQ (grown1 _ _ _ _) (grown1 _ _ _ _)) (grown1 _ _ _ _)) (grown1 _ _ _ _)) (grown1 _ _ _ _)) (grown1 _ _ _ _)⟩
  unfold CBx at *
  simp [World.setCell, Array.getElem?_modify, h]
theorem two_box (w : World) (fa1 fa2 : Option Addr) (K1 fc1 K2 fc2 : Nat) (k1 l1 t1 n1 k2 l2 t2 n2 : Int) (m1 m2 : Bool) : ∃ X, X = (w.alloc (.cells #[.slice fa1 K1 fc1, .int .i64 k1, .bool m1, .int .i64 l1, .int .i64 t1, .int .i64 n1] 62)).alloc (.cells #[.slice fa2 K2 fc2, .int .i64 k2, .bool m2, .int .i64 l2, .int .i64 t2, .int .i64 n2] 62) ∧ Below w.heap.size w X ∧ X.heap.size = w.heap.size + 2 ∧ CBx X w.heap.size fa1 K1 fc1 k1 m1 l1 t1 n1 ∧ CBx X (w.heap.size + 1) fa2 K2 fc2 k2 m2 l2 t2 n2 := by
  refine ⟨_, rfl, ((Below.refl _ w).alloc (Nat.le_refl _) _).alloc (by rw [World.size_alloc]; exact Nat.le_succ _) _, by rw [World.size_alloc, World.size_alloc], ?_, ?_⟩
  · unfold CBx
    exact ((Below.refl _ (w.alloc (.cells #[.slice fa1 K1 fc1, .int .i64 k1, .bool m1, .int .i64 l1, .int .i64 t1, .int .i64 n1] 62))).alloc (Nat.le_refl _) (.cells #[.slice fa2 K2 fc2, .int .i64 k2, .bool m2, .int .i64 l2, .int .i64 t2, .int .i64 n2] 62)).block w.heap.size (by rw [World.size_alloc]; exact Nat.lt_succ_self _) |>.trans (heap_new w _)
  · have := heap_new (w.alloc (.cells #[.slice fa1 K1 fc1, .int .i64 k1, .bool m1, .int .i64 l1, .int .i64 t1, .int .i64 n1] 62)) (.cells #[.slice fa2 K2 fc2, .int .i64 k2, .bool m2, .int .i64 l2, .int .i64 t2, .int .i64 n2] 62)
    rwa [World.size_alloc] at this
set_option maxRecDepth 100000 in
set_option maxHeartbeats 16000000 in
theorem streams_any {W : World} {rd : Bool} {fa1 fa2 : Option Addr} {fc1 fc2 : Nat} {fs1 fs2 : List FamD} {k1 l1 t1 n1 k2 l2 t2 n2 : Int} {m1 m2 : Bool} {aL : Option Addr} {cL : Nat} {ls : List EntD} {vj : Value} {js : List Int} (hr1 : RdF W (.slice fa1 fs1.length fc1) fs1) (hr2 : RdF W (.slice fa2 fs2.length fc2) fs2) (hl : RdL3 W aL cL ls) (hlen : ls.length ≤ 1353245080300) (hsh : ∀ x ∈ ls, ShrtW x) (hj : RdJ W vj js)
    (M1 : ∀ (w : World) (B0 : Nat), B0 ≤ w.heap.size → RdF w (.slice fa1 fs1.length fc1) fs1 → Calls Tryz.prog 67 #[.agg #[.slice fa1 fs1.length fc1, .int .i64 k1, .bool m1, .int .i64 l1, .int .i64 t1, .int .i64 n1], .bool rd] w fun r w' => Made B0 (.agg #[.slice fa1 fs1.length fc1, .int .i64 k1, .bool m1, .int .i64 l1, .int .i64 t1, .int .i64 n1]) (fun Z => RdF Z (.slice fa1 fs1.length fc1) fs1) w w' r)
    (M2 : ∀ (w : World) (B0 : Nat), B0 ≤ w.heap.size → RdF w (.slice fa2 fs2.length fc2) fs2 → Calls Tryz.prog 67 #[.agg #[.slice fa2 fs2.length fc2, .int .i64 k2, .bool m2, .int .i64 l2, .int .i64 t2, .int .i64 n2], .bool rd] w fun r w' => Made B0 (.agg #[.slice fa2 fs2.length fc2, .int .i64 k2, .bool m2, .int .i64 l2, .int .i64 t2, .int .i64 n2]) (fun Z => RdF Z (.slice fa2 fs2.length fc2) fs2) w w' r) :
    Calls Tryz.prog 29 #[.agg #[.slice fa1 fs1.length fc1, .int .i64 k1, .bool m1, .int .i64 l1, .int .i64 t1, .int .i64 n1], .agg #[.slice fa2 fs2.length fc2, .int .i64 k2, .bool m2, .int .i64 l2, .int .i64 t2, .int .i64 n2], .slice aL ls.length cL, vj, .bool rd] W fun r w' => r = .returned (.bool true) ∧ Below W.heap.size W w' := by
  obtain ⟨X, hX, A, hXs, cb1, cb2⟩ := two_box W fa1 fa2 fs1.length fc1 fs2.length fc2 k1 l1 t1 n1 k2 l2 t2 n2 m1 m2
  obtain ⟨aj, cj, rfl, hjc, hjm, hja⟩ := hj
  obtain ⟨nj, hnj⟩ : ∃ k, k = js.length := ⟨_, rfl⟩
  obtain ⟨N, hNl⟩ : ∃ k, k = ls.length := ⟨_, rfl⟩
  have HR1 : Hid (∀ Z, Below X.heap.size X Z → RdF Z (.slice fa1 fs1.length fc1) fs1) := fun Z b => hr1.later (A.trans (b.mono A.size))
  have HR2 : Hid (∀ Z, Below X.heap.size X Z → RdF Z (.slice fa2 fs2.length fc2) fs2) := fun Z b => hr2.later (A.trans (b.mono A.size))
  have HLs : Hid (∀ Z, Below X.heap.size X Z → RdL3 Z aL cL ls) := fun Z b => hl.later (A.trans (b.mono A.size))
  have HJs : Hid (∀ Z, Below X.heap.size X Z → RdJ Z (.slice aj js.length cj) js) := fun Z b => RdJ.later ⟨aj, cj, rfl, hjc, hjm, hja⟩ (A.trans (b.mono A.size))
  have HM1 := Lib.hid M1
  have HM2 := Lib.hid M2
  have HSh := Lib.hid hsh
  have HNl := Lib.hid hNl
  have Hnj := Lib.hid hnj
  have HA := Lib.hid A
  have HX := Lib.hid hX
  have HN : Hid (N ≤ 1353245080300) := by unfold Hid; rw [hNl]; exact hlen
  obtain ⟨cN, hcN⟩ : ∃ k, k = W.heap.size := ⟨_, rfl⟩
  have hcN' := hcN.symm
  rw [← hcN] at cb1 cb2 hXs
  have HXs := Lib.hid hXs
  have HcN := Lib.hid hcN
  have Hc1 : Hid (∀ Z, Below X.heap.size X Z → CBx Z cN fa1 fs1.length fc1 k1 m1 l1 t1 n1) := fun Z b => (b.block cN (by omega)).trans cb1
  have Hc2 : Hid (∀ Z, Below X.heap.size X Z → CBx Z (cN + 1) fa2 fs2.length fc2 k2 m2 l2 t2 n2) := fun Z b => (b.block (cN + 1) (by omega)).trans cb2
  have hlc := hl.cap
  rw [← hNl] at hlc ⊢
  rw [← hnj] at hjc ⊢
  clear hX A hXs cb1 cb2 hr1 hr2 hl hlen hsh M1 M2 hNl hnj hcN hja
  go_enter Tryz.func29, Tryz.ntmps29
  go_upto_region 1 with fail
  rw [← HX.out]
  (try rw [hcN'])
  clear HX hcN'
  go_wp2_with fail
  refine Calls.mono (started3 X) ?_
  rintro r X1 ⟨rfl, b1⟩
  have HB1 := Lib.hid b1
  clear b1
  have HC1 := Lib.hid (HM1.out X1 X.heap.size HB1.out.size (HR1.out X1 HB1.out))
  obtain ⟨y0, y1, y2, y3, y4, y5⟩ := (Hc1.out X1 HB1.out).cells
  go_wp2_with fail
  refine Calls.mono HC1.out ?_
  rintro r X2 ⟨pp, Pp, rfl, f1, b2, p2⟩
  clear y0 y1 y2 y3 y4 y5 HC1
  have HB2 := Lib.hid (HB1.out.trans (b2.mono HB1.out.size))
  have HC2 := Lib.hid (HM2.out X2 X.heap.size HB2.out.size (HR2.out X2 HB2.out))
  obtain ⟨y0, y1, y2, y3, y4, y5⟩ := (Hc2.out X2 HB2.out).cells
  have HF1 := Lib.hid f1
  clear b2 f1 p2
  go_wp2_with fail
  refine Calls.mono HC2.out ?_
  rintro r X3 ⟨qq, Pq, rfl, f2, b3, p3⟩
  clear y0 y1 y2 y3 y4 y5 HC2
  have HTw0 : Hid (Tw X (.agg #[.slice fa1 fs1.length fc1, .int .i64 k1, .bool m1, .int .i64 l1, .int .i64 t1, .int .i64 n1]) (.agg #[.slice fa2 fs2.length fc2, .int .i64 k2, .bool m2, .int .i64 l2, .int .i64 t2, .int .i64 n2]) (fun Z => RdF Z (.slice fa1 fs1.length fc1) fs1) (fun Z => RdF Z (.slice fa2 fs2.length fc2) fs2) pp qq X3 0) := ⟨⟨Pp, Pq, HF1.out.keep (Nat.le_refl _) b3.size (fun i hi => b3.block i (HF1.out.lt i hi).2), f2, fun i hi hj => by have := (HF1.out.lt i hi).2; have := p3 i hj; omega⟩, HB2.out.trans (b3.mono HB2.out.size)⟩
  clear f2 b3 p3
  go_wp2
  go_loopw [11, 14, 15, 16] (fun ok i x k wr => ∃ t : Nat, t ≤ N ∧ ok = .bool true ∧ i = .int .i64 (t : Int) ∧ Hid (Tw X (.agg #[.slice fa1 fs1.length fc1, .int .i64 k1, .bool m1, .int .i64 l1, .int .i64 t1, .int .i64 n1]) (.agg #[.slice fa2 fs2.length fc2, .int .i64 k2, .bool m2, .int .i64 l2, .int .i64 t2, .int .i64 n2]) (fun Z => RdF Z (.slice fa1 fs1.length fc1) fs1) (fun Z => RdF Z (.slice fa2 fs2.length fc2) fs2) pp qq wr t)) (fun ok i x k _ => N - (intOf i).toNat)
  case atStart => exact ⟨0, Nat.zero_le _, rfl, rfl, HTw0.out⟩
  case round =>
    obtain ⟨t, ht, rfl, rfl, HTw⟩ := hrel
    have t0 : (0 : Int) ≤ (t : Int) := by omega
    by_cases hlt : t < N
    · have hlt2 : (t : Int) < (N : Int) := by omega
      have hNb : N ≤ 1353245080300 := HN.out
      have hlc2 : (t : Int) < (cL : Int) := by omega
      obtain ⟨x, hx⟩ : ∃ x, ls[t]? = some x := ⟨_, List.getElem?_eq_getElem (by have := HNl.out; omega)⟩
      obtain ⟨bL, oL, eaL, hcells⟩ : ∃ bL oL, aL = some ⟨bL, oL, none⟩ ∧ ∀ Z, Below X.heap.size X Z → Z.cell? ⟨bL, oL + t * 7, none⟩ = some x.vr ∧ Z.cell? ⟨bL, oL + t * 7 + 1, none⟩ = some (.int .i64 x.fam) ∧ Z.cell? ⟨bL, oL + t * 7 + 2, none⟩ = some x.vq ∧ Z.cell? ⟨bL, oL + t * 7 + 3, none⟩ = some (.int .i64 x.ts) ∧ Z.cell? ⟨bL, oL + t * 7 + 4, none⟩ = some (.int .i64 x.seq) ∧ Z.cell? ⟨bL, oL + t * 7 + 5, none⟩ = some (.int .i64 x.kind) ∧ Z.cell? ⟨bL, oL + t * 7 + 6, none⟩ = some x.vv := by
        rcases (HLs.out X (Below.refl _ _)).at_ with z | ⟨b, off, e1, _⟩
        · rw [z] at hx; cases hx
        · refine ⟨b, off, e1, fun Z bz => ?_⟩
          rcases (HLs.out Z bz).at_ with z | ⟨b', off', e2, hc⟩
          · rw [z] at hx; cases hx
          · rw [e1] at e2
            cases e2
            have q := fun j u hj => hc t x hx j u hj
            exact ⟨q 0 _ rfl, q 1 _ rfl, q 2 _ rfl, q 3 _ rfl, q 4 _ rfl, q 5 _ rfl, q 6 _ rfl⟩
      subst eaL
      have HCells := Lib.hid hcells
      have HOk : Hid (∀ Z, Below X.heap.size X Z → EntD.Ok Z x) := fun Z b => (HLs.out Z b).ok x (List.mem_of_getElem? hx)
      have HShx : Hid (ShrtW x) := HSh.out x (List.mem_of_getElem? hx)
      clear hx hcells
      have HBw := Lib.hid HTw.out.below
      obtain ⟨y0, y1, y2, y3, y4, y5⟩ := (Hc1.out wr HBw.out).cells
      obtain ⟨V, hV⟩ : ∃ Y, Y = wr.alloc (.cells #[.slice fa1 fs1.length fc1, .int .i64 k1, .bool m1, .int .i64 l1, .int .i64 t1, .int .i64 n1] 62) := ⟨_, rfl⟩
      obtain ⟨kb, hkb⟩ : ∃ k, k = wr.heap.size := ⟨_, rfl⟩
      have HbV : Hid (Below wr.heap.size wr V) := by unfold Hid; rw [hV]; exact (Below.refl _ _).alloc (Nat.le_refl _) _
      have HcV : Hid (CBx V kb fa1 fs1.length fc1 k1 m1 l1 t1 n1) := by unfold Hid; rw [hV, hkb]; exact heap_new wr _
      have HV := Lib.hid hV
      have Hkb := Lib.hid hkb
      have hkb' := hkb.symm
      clear hV hkb
      go_upto_region 15 with fail
      rw [← HV.out]
      (try rw [hkb'])
      clear y0 y1 y2 y3 y4 y5 HV
      have HBV : Hid (Below X.heap.size X V) := HBw.out.trans (HbV.out.mono HBw.out.size)
      go_cut [58] (fun c wx => ∃ b : Bool, c = .bool b ∧ wx = V)
      case first =>
        by_cases hj : t < nj
        · have hj2 : (t : Int) < (nj : Int) := by omega
          have hj3 : (t : Int) < (cj : Int) := by omega
          obtain ⟨jv, hjv⟩ : ∃ v, js[t]? = some v := ⟨_, List.getElem?_eq_getElem (by have := Hnj.out; omega)⟩
          obtain ⟨a', c', e1, -, -, e4⟩ := HJs.out V HBV.out
          cases e1
          rcases e4 with z | ⟨b, off, rfl, hc⟩
          · rw [z] at hjv; cases hjv
          · have g1 := hc t jv hjv
            clear hc hjv
            go_wp2_with fail
            go_meet
            exact ⟨_, rfl, rfl⟩
        · have hj2 : ¬ (t : Int) < (nj : Int) := by omega
          go_wp2_with fail
          go_meet
          exact ⟨_, rfl, rfl⟩
      case rest =>
      obtain ⟨b, rfl, rfl⟩ := hcut
      have HTV : Hid (Tw X (.agg #[.slice fa1 fs1.length fc1, .int .i64 k1, .bool m1, .int .i64 l1, .int .i64 t1, .int .i64 n1]) (.agg #[.slice fa2 fs2.length fc2, .int .i64 k2, .bool m2, .int .i64 l2, .int .i64 t2, .int .i64 n2]) (fun Z => RdF Z (.slice fa1 fs1.length fc1) fs1) (fun Z => RdF Z (.slice fa2 fs2.length fc2) fs2) pp qq wc t) := HTw.out.later HbV.out (Nat.le_refl _)
      have g1 := (HCells.out wc HBV.out).2.1
      cases b with
      | false =>
        have HKV : Hid (∀ Z, Below wc.heap.size wc Z → (Z.cell? ⟨kb, 0, none⟩ = some (.slice fa1 fs1.length fc1) ∧ Z.cell? ⟨kb, 1, none⟩ = some (.int .i64 k1) ∧ Z.cell? ⟨kb, 2, none⟩ = some (.bool m1) ∧ Z.cell? ⟨kb, 3, none⟩ = some (.int .i64 l1) ∧ Z.cell? ⟨kb, 4, none⟩ = some (.int .i64 t1) ∧ Z.cell? ⟨kb, 5, none⟩ = some (.int .i64 n1)) ∧ (Z.cell? ⟨bL, oL + t * 7, none⟩ = some x.vr ∧ Z.cell? ⟨bL, oL + t * 7 + 1, none⟩ = some (.int .i64 x.fam) ∧ Z.cell? ⟨bL, oL + t * 7 + 2, none⟩ = some x.vq ∧ Z.cell? ⟨bL, oL + t * 7 + 3, none⟩ = some (.int .i64 x.ts) ∧ Z.cell? ⟨bL, oL + t * 7 + 4, none⟩ = some (.int .i64 x.seq) ∧ Z.cell? ⟨bL, oL + t * 7 + 5, none⟩ = some (.int .i64 x.kind) ∧ Z.cell? ⟨bL, oL + t * 7 + 6, none⟩ = some x.vv)) := fun Z b => ⟨CBx.cells ((b.block kb (Array.getElem?_eq_some_iff.1 HcV.out).1).trans HcV.out), HCells.out Z (HBV.out.trans (b.mono HBV.out.size))⟩
        have HKG : Hid (∀ Z : World, Below X.heap.size X Z → Z.heap[kb]? = wc.heap[kb]? → (Z.cell? ⟨kb, 0, none⟩ = some (.slice fa1 fs1.length fc1) ∧ Z.cell? ⟨kb, 1, none⟩ = some (.int .i64 k1) ∧ Z.cell? ⟨kb, 2, none⟩ = some (.bool m1) ∧ Z.cell? ⟨kb, 3, none⟩ = some (.int .i64 l1) ∧ Z.cell? ⟨kb, 4, none⟩ = some (.int .i64 t1) ∧ Z.cell? ⟨kb, 5, none⟩ = some (.int .i64 n1)) ∧ (Z.cell? ⟨bL, oL + t * 7, none⟩ = some x.vr ∧ Z.cell? ⟨bL, oL + t * 7 + 1, none⟩ = some (.int .i64 x.fam) ∧ Z.cell? ⟨bL, oL + t * 7 + 2, none⟩ = some x.vq ∧ Z.cell? ⟨bL, oL + t * 7 + 3, none⟩ = some (.int .i64 x.ts) ∧ Z.cell? ⟨bL, oL + t * 7 + 4, none⟩ = some (.int .i64 x.seq) ∧ Z.cell? ⟨bL, oL + t * 7 + 5, none⟩ = some (.int .i64 x.kind) ∧ Z.cell? ⟨bL, oL + t * 7 + 6, none⟩ = some x.vv)) := fun Z b h => ⟨CBx.cells (h.trans HcV.out), HCells.out Z b⟩
        obtain ⟨y0, y1, y2, y3, y4, y5⟩ := HcV.out.cells
        cases pp with
        | none =>
          go_wp2
          go_roundw
          case rel => exact ⟨t + 1, by omega, rfl, by go_num, HTV.out.later (Below.refl _ _) (Nat.le_succ _)⟩
          case measure => simp only [intOf]; omega
        | some a =>
          have HRx : Hid (∀ Z, Below X.heap.size X Z → RdF Z (.slice fa1 fs1.length fc1) fs1) := HR1.out
          by_cases hf : x.fam = 100
          · have hfb : (x.fam == 100) = true := by simp [hf]
            have HCe := Lib.hid (Tw.end_ HTV.out HRx.out (by have := HN.out; omega))
            go_wp2_with fail
            refine Calls.mono HCe.out ?_
            rintro r w1 ⟨rfl, tw⟩
            have HT2 := Lib.hid tw
            clear tw HCe
            go_wp2
            go_roundw
            case rel => exact ⟨t + 1, by omega, rfl, by go_num, (HT2.out.later (Below.refl _ _) (Nat.le_succ _))⟩
            case measure => simp only [intOf]; omega
          · have hfb : (x.fam == 100) = false := by simp [hf]
            have DV : Below wc.heap.size wc wc.drew := (Below.refl _ _).drew
            have HCp := Lib.hid (Tw.push (e := x) HTw.out (HbV.out.trans (DV.mono HbV.out.size)) (fun Z b => ⟨HRx.out Z b, HOk.out Z b⟩) HShx.out (by have := HN.out; omega))
            have zF := HKV.out _ DV
            unfold EntD.cells at HCp
            go_upto_region 21 with fail
            clear y0 y1 y2 y3 y4 y5 g1
            go_region_held3 (fun Z => (Z.cell? ⟨kb, 0, none⟩ = some (.slice fa1 fs1.length fc1) ∧ Z.cell? ⟨kb, 1, none⟩ = some (.int .i64 k1) ∧ Z.cell? ⟨kb, 2, none⟩ = some (.bool m1) ∧ Z.cell? ⟨kb, 3, none⟩ = some (.int .i64 l1) ∧ Z.cell? ⟨kb, 4, none⟩ = some (.int .i64 t1) ∧ Z.cell? ⟨kb, 5, none⟩ = some (.int .i64 n1)) ∧ (Z.cell? ⟨bL, oL + t * 7, none⟩ = some x.vr ∧ Z.cell? ⟨bL, oL + t * 7 + 1, none⟩ = some (.int .i64 x.fam) ∧ Z.cell? ⟨bL, oL + t * 7 + 2, none⟩ = some x.vq ∧ Z.cell? ⟨bL, oL + t * 7 + 3, none⟩ = some (.int .i64 x.ts) ∧ Z.cell? ⟨bL, oL + t * 7 + 4, none⟩ = some (.int .i64 x.seq) ∧ Z.cell? ⟨bL, oL + t * 7 + 5, none⟩ = some (.int .i64 x.kind) ∧ Z.cell? ⟨bL, oL + t * 7 + 6, none⟩ = some x.vv)) (first | exact zF | exact zG) ((go_at_call 69; refine Calls.mono HCp.out ?_; rintro r w1 ⟨rfl, tw, kk⟩; have zG := HKG.out w1 tw.below (kk kb (by rw [Hkb.out]; exact Nat.le_refl _) (Array.getElem?_eq_some_iff.1 HcV.out).1)))
            have HT2 := Lib.hid tw
            clear tw kk HCp zF zG
            go_wp2
            go_roundw
            case rel => exact ⟨t + 1, by omega, rfl, by go_num, HT2.out⟩
            case measure => simp only [intOf]; omega
      | true =>
        obtain ⟨V2, hV2, c2V, gV2⟩ := CBx.set6 HcV.out fa2 fs2.length fc2 k2 l2 t2 n2 m2
        obtain ⟨y0, y1, y2, y3, y4, y5⟩ := HcV.out.cells
        have fzk := CBx.fz HcV.out
        obtain ⟨u0, u1, u2, u3, u4, u5⟩ := (Hc2.out wc HBV.out).cells
        go_upto_if 62 with fail
        rw [← hV2]
        clear y0 y1 y2 y3 y4 y5 u0 u1 u2 u3 u4 u5 fzk hV2 g1
        have hb2 : Below wr.heap.size wr V2 := below_of_heap HbV.out HbV.out.size gV2.os gV2.tape gV2.output gV2.size (fun i h1 h2 => gV2.block i h1 (fun z => by have := Option.some.inj z; have := Hkb.out; omega))
        clear HTV HbV HBV
        have HcV1 := Lib.hid c2V
        clear HcV gV2 c2V
        have HcV := HcV1
        have HbV := Lib.hid hb2
        clear hb2
        have HBV : Hid (Below X.heap.size X V2) := HBw.out.trans (HbV.out.mono HBw.out.size)
        have HTV : Hid (Tw X (.agg #[.slice fa1 fs1.length fc1, .int .i64 k1, .bool m1, .int .i64 l1, .int .i64 t1, .int .i64 n1]) (.agg #[.slice fa2 fs2.length fc2, .int .i64 k2, .bool m2, .int .i64 l2, .int .i64 t2, .int .i64 n2]) (fun Z => RdF Z (.slice fa1 fs1.length fc1) fs1) (fun Z => RdF Z (.slice fa2 fs2.length fc2) fs2) pp qq V2 t) := HTw.out.later HbV.out (Nat.le_refl _)
        have g1 := (HCells.out V2 HBV.out).2.1
        have HKV : Hid (∀ Z, Below V2.heap.size V2 Z → (Z.cell? ⟨kb, 0, none⟩ = some (.slice fa2 fs2.length fc2) ∧ Z.cell? ⟨kb, 1, none⟩ = some (.int .i64 k2) ∧ Z.cell? ⟨kb, 2, none⟩ = some (.bool m2) ∧ Z.cell? ⟨kb, 3, none⟩ = some (.int .i64 l2) ∧ Z.cell? ⟨kb, 4, none⟩ = some (.int .i64 t2) ∧ Z.cell? ⟨kb, 5, none⟩ = some (.int .i64 n2)) ∧ (Z.cell? ⟨bL, oL + t * 7, none⟩ = some x.vr ∧ Z.cell? ⟨bL, oL + t * 7 + 1, none⟩ = some (.int .i64 x.fam) ∧ Z.cell? ⟨bL, oL + t * 7 + 2, none⟩ = some x.vq ∧ Z.cell? ⟨bL, oL + t * 7 + 3, none⟩ = some (.int .i64 x.ts) ∧ Z.cell? ⟨bL, oL + t * 7 + 4, none⟩ = some (.int .i64 x.seq) ∧ Z.cell? ⟨bL, oL + t * 7 + 5, none⟩ = some (.int .i64 x.kind) ∧ Z.cell? ⟨bL, oL + t * 7 + 6, none⟩ = some x.vv)) := fun Z b => ⟨CBx.cells ((b.block kb (Array.getElem?_eq_some_iff.1 HcV.out).1).trans HcV.out), HCells.out Z (HBV.out.trans (b.mono HBV.out.size))⟩
        have HKG : Hid (∀ Z : World, Below X.heap.size X Z → Z.heap[kb]? = V2.heap[kb]? → (Z.cell? ⟨kb, 0, none⟩ = some (.slice fa2 fs2.length fc2) ∧ Z.cell? ⟨kb, 1, none⟩ = some (.int .i64 k2) ∧ Z.cell? ⟨kb, 2, none⟩ = some (.bool m2) ∧ Z.cell? ⟨kb, 3, none⟩ = some (.int .i64 l2) ∧ Z.cell? ⟨kb, 4, none⟩ = some (.int .i64 t2) ∧ Z.cell? ⟨kb, 5, none⟩ = some (.int .i64 n2)) ∧ (Z.cell? ⟨bL, oL + t * 7, none⟩ = some x.vr ∧ Z.cell? ⟨bL, oL + t * 7 + 1, none⟩ = some (.int .i64 x.fam) ∧ Z.cell? ⟨bL, oL + t * 7 + 2, none⟩ = some x.vq ∧ Z.cell? ⟨bL, oL + t * 7 + 3, none⟩ = some (.int .i64 x.ts) ∧ Z.cell? ⟨bL, oL + t * 7 + 4, none⟩ = some (.int .i64 x.seq) ∧ Z.cell? ⟨bL, oL + t * 7 + 5, none⟩ = some (.int .i64 x.kind) ∧ Z.cell? ⟨bL, oL + t * 7 + 6, none⟩ = some x.vv)) := fun Z b h => ⟨CBx.cells (h.trans HcV.out), HCells.out Z b⟩
        obtain ⟨y0, y1, y2, y3, y4, y5⟩ := HcV.out.cells
        cases qq with
        | none =>
          go_wp2
          go_roundw
          case rel => exact ⟨t + 1, by omega, rfl, by go_num, HTV.out.later (Below.refl _ _) (Nat.le_succ _)⟩
          case measure => simp only [intOf]; omega
        | some a =>
          have HRx : Hid (∀ Z, Below X.heap.size X Z → RdF Z (.slice fa2 fs2.length fc2) fs2) := HR2.out
          by_cases hf : x.fam = 100
          · have hfb : (x.fam == 100) = true := by simp [hf]
            have HCe := Lib.hid (Tw.end_ HTV.out.swap HRx.out (by have := HN.out; omega))
            go_wp2_with fail
            refine Calls.mono HCe.out ?_
            rintro r w1 ⟨rfl, tw⟩
            have HT2 := Lib.hid tw
            clear tw HCe
            go_wp2
            go_roundw
            case rel => exact ⟨t + 1, by omega, rfl, by go_num, (HT2.out.later (Below.refl _ _) (Nat.le_succ _)).swap⟩
            case measure => simp only [intOf]; omega
          · have hfb : (x.fam == 100) = false := by simp [hf]
            have DV : Below V2.heap.size V2 V2.drew := (Below.refl _ _).drew
            have HCp := Lib.hid (Tw.push (e := x) HTw.out.swap (HbV.out.trans (DV.mono HbV.out.size)) (fun Z b => ⟨HRx.out Z b, HOk.out Z b⟩) HShx.out (by have := HN.out; omega))
            have zF := HKV.out _ DV
            unfold EntD.cells at HCp
            go_upto_region 21 with fail
            clear y0 y1 y2 y3 y4 y5 g1
            go_region_held3 (fun Z => (Z.cell? ⟨kb, 0, none⟩ = some (.slice fa2 fs2.length fc2) ∧ Z.cell? ⟨kb, 1, none⟩ = some (.int .i64 k2) ∧ Z.cell? ⟨kb, 2, none⟩ = some (.bool m2) ∧ Z.cell? ⟨kb, 3, none⟩ = some (.int .i64 l2) ∧ Z.cell? ⟨kb, 4, none⟩ = some (.int .i64 t2) ∧ Z.cell? ⟨kb, 5, none⟩ = some (.int .i64 n2)) ∧ (Z.cell? ⟨bL, oL + t * 7, none⟩ = some x.vr ∧ Z.cell? ⟨bL, oL + t * 7 + 1, none⟩ = some (.int .i64 x.fam) ∧ Z.cell? ⟨bL, oL + t * 7 + 2, none⟩ = some x.vq ∧ Z.cell? ⟨bL, oL + t * 7 + 3, none⟩ = some (.int .i64 x.ts) ∧ Z.cell? ⟨bL, oL + t * 7 + 4, none⟩ = some (.int .i64 x.seq) ∧ Z.cell? ⟨bL, oL + t * 7 + 5, none⟩ = some (.int .i64 x.kind) ∧ Z.cell? ⟨bL, oL + t * 7 + 6, none⟩ = some x.vv)) (first | exact zF | exact zG) ((go_at_call 69; refine Calls.mono HCp.out ?_; rintro r w1 ⟨rfl, tw, kk⟩; have zG := HKG.out w1 tw.swap.below (kk kb (by rw [Hkb.out]; exact Nat.le_refl _) (Array.getElem?_eq_some_iff.1 HcV.out).1)))
            have HT2 := Lib.hid tw
            clear tw kk HCp zF zG
            go_wp2
            go_roundw
            case rel => exact ⟨t + 1, by omega, rfl, by go_num, HT2.out.swap⟩
            case measure => simp only [intOf]; omega
    · have hge : ¬ (t : Int) < (N : Int) := by omega
      have hNb : N ≤ 1353245080300 := HN.out
      obtain rfl : t = N := by omega
      have HTe := HTw
      obtain ⟨y0, y1, y2, y3, y4, y5⟩ := (Hc1.out wr HTe.out.below).cells
      cases pp with
      | none =>
        clear y0 y1 y2 y3 y4 y5
        obtain ⟨y0, y1, y2, y3, y4, y5⟩ := (Hc2.out wr HTe.out.below).cells
        cases qq with
        | none =>
          go_wp2
          go_ret
          exact ⟨rfl, HA.out.trans (HTe.out.below.mono HA.out.size)⟩
        | some a2 =>
          have HCq := Lib.hid (Tw.end_ HTe.out.swap HR2.out HN.out)
          go_wp2_with fail
          refine Calls.mono HCq.out ?_
          rintro r wq ⟨rfl, tw⟩
          have HTq := Lib.hid tw
          clear tw HCq y0 y1 y2 y3 y4 y5
          go_wp2
          go_ret
          exact ⟨rfl, HA.out.trans (HTq.out.below.mono HA.out.size)⟩
      | some a =>
        have HCe := Lib.hid (Tw.end_ HTe.out HR1.out HN.out)
        go_wp2_with fail
        refine Calls.mono HCe.out ?_
        rintro r w1 ⟨rfl, tw⟩
        have HT2 := Lib.hid tw
        clear tw HCe y0 y1 y2 y3 y4 y5
        obtain ⟨y0, y1, y2, y3, y4, y5⟩ := (Hc1.out w1 HT2.out.below).cells
        have HCf := Lib.hid (Tw.end_ HT2.out HR1.out HN.out)
        go_wp2_with fail
        refine Calls.mono HCf.out ?_
        rintro r w2 ⟨rfl, tw⟩
        have HT3 := Lib.hid tw
        clear tw HCf y0 y1 y2 y3 y4 y5
        obtain ⟨y0, y1, y2, y3, y4, y5⟩ := (Hc2.out w2 HT3.out.below).cells
        cases qq with
        | none =>
          go_wp2
          go_ret
          exact ⟨rfl, HA.out.trans (HT3.out.below.mono HA.out.size)⟩
        | some a2 =>
          have HCq := Lib.hid (Tw.end_ HT3.out.swap HR2.out HN.out)
          go_wp2_with fail
          refine Calls.mono HCq.out ?_
          rintro r wq ⟨rfl, tw⟩
          have HTq := Lib.hid tw
          clear tw HCq y0 y1 y2 y3 y4 y5
          go_wp2
          go_ret
          exact ⟨rfl, HA.out.trans (HTq.out.below.mono HA.out.size)⟩

end Go.Proofs.YthhkpkfpifllkaaGreat

namespace Go.Proofs.YthhkpkfpifllkaaGreat
open Go.RowKit
set_option linter.unusedVariables false

abbrev Tv (A : Act) (x : Nat) (v : Value) : Prop := A.tmps[x]?.getD undef = v
theorem tn {A B : Act} {d x : Nat} {v u : Value} (e : B = A.put (some d) v) (h : x ≠ d) (k : Tv A x u) : Tv B x u := by rw [e]; exact put_ne h k
theorem te {A B : Act} {d n : Nat} {v : Value} (e : B = A.put (some d) v) (hs : A.tmps.size = n) (h : d < n) : Tv B d v := by rw [e]; exact put_eq hs h
theorem tz {A B : Act} {d n : Nat} {v : Value} (e : B = A.put (some d) v) (hs : A.tmps.size = n) : B.tmps.size = n := by rw [e]; exact put_sz hs
section
variable {P : Program} {ops : Array Oper} {Q : Exit → Act → World → Prop} {md : Region.Mode} {S : World → Prop} {E : Nat → Bool}
theorem AnyE.tk {i : Nat} {oi : Oper} {fuel : Nat} {listed : Array Bool} {a : Act} {w : World} (v : Value) (hi : ops[i]? = some oi) (hb : (Region.noSelect ops && (Region.free md ops listed i && (eFree md ops listed i E && (Region.ready md ops listed).contains i))) = true) (hQ : ∀ c a w, Q (.panic c) (a.put oi.dst v) w → Q (.panic c) a w) (hg : Region.wanted oi (yielded ops a.tmps) = true) (hy : ∀ wq, S wq → (execOp a.eval oi).run P wq = .ok (.value v) wq) (hS : S w) (h : AnyE P md ops Q S E fuel (listed.setIfInBounds i true) (a.put oi.dst v) w) : AnyE P md ops Q S E (fuel + 1) listed a w := by
  simp only [Bool.and_eq_true] at hb
  exact AnyE.take v hi hb.1 hb.2.1 hb.2.2.1 hb.2.2.2 hQ (.inl ⟨hg, hy⟩) hS h
end
end Go.Proofs.YthhkpkfpifllkaaGreat
