import Derived.Test.YtnjopfdeapclhaaJ18
import Derived.Deep.Cut
namespace Go.Proofs.Ytnjopfdeapclhaa
open Go.RowKit Go.Shelf
set_option linter.unusedVariables false

set_option maxRecDepth 100000 in
set_option maxHeartbeats 16000000 in
theorem memAny_A {w : World} {lv : Value} {ls : List EntD} {fr : Int} (hl : RdE w lv ls) (hlen : ls.length ≤ 200) :
    Calls Try.prog 4 #[lv, .int .i64 fr] w fun e w' => e = .returned (.bool true) ∧ Below w.heap.size w w' := by
  obtain ⟨al, cl, rfl, hl1, hl2, hl3, hl4⟩ := hl
  have HLS : Hid (∀ i x, ls[i]? = some x → EntD.Ok w x ∧ ∃ b off, al = some ⟨b, off, none⟩ ∧ Cs w b (off + i * 7) x) := hl4
  obtain ⟨N, hN⟩ : ∃ N, N = ls.length := ⟨_, rfl⟩
  rw [← hN] at hl1 hl3 hlen ⊢
  have HNL : Hid (ls.length = N) := hN.symm
  clear hN hl4
  have d200 : decide ((200 : Int) < (N : Int)) = false := by simp; omega
  have hmx : Try.prog.follows .mixedOrders = true := by kernel_rfl
  go_enter Try.func4, Try.ntmps4
  go_wp2_with fail
  refine (told8_any _).mono ?_
  rintro z W1 ⟨rfl, hb1⟩
  go_wp2_with fail
  refine (new_any _).mono ?_
  rintro z W2 ⟨rfl, tb2, s2, hb2⟩
  obtain ⟨t, ht⟩ : ∃ t, t = W1.heap.size := ⟨_, rfl⟩
  go_wp2_with fail
  refine (new_any _).mono ?_
  rintro z W3 ⟨rfl, tb3, s3, hb3⟩
  rw [s2] at tb3 ⊢
  rw [← ht] at tb2 tb3 ⊢
  have HA : Hid (A2 w t (.slice none 0 0) [] W3) := ⟨⟨tb2.later hb3, tb3, by rw [ht]; exact hb1.size, (hb1.trans (hb2.mono hb1.size)).trans (hb3.mono (Nat.le_trans hb1.size hb2.size))⟩, World.ownsRow_nil _ _ _ _, List.Pairwise.nil, by simp⟩
  clear tb2 tb3 hb1 hb2 hb3 s2 s3 ht
  go_wp2
  go_loopw [7, 8] (fun v i wr => ∃ (j : Nat) (es : List EntD), i = .int .i64 (j : Int) ∧ j ≤ N ∧ es.length ≤ j ∧ Hid (A2 w t v es wr)) (fun _ i _ => N - (intOf i).toNat)
  case atStart => exact ⟨0, [], rfl, Nat.zero_le _, Nat.le_refl _, HA⟩
  case round =>
    obtain ⟨j, es, rfl, hj, hes, HI⟩ := hrel
    obtain ⟨av, cv, rfl⟩ := HI.out.slice
    obtain ⟨n, hn⟩ : ∃ n, n = es.length := ⟨_, rfl⟩
    rw [← hn] at hes HI ⊢
    have HN : Hid (n = es.length) := hn
    clear hn
    by_cases hjN : j < N
    · have hjN' : (j : Int) < (N : Int) := by omega
      have hj0 : (0 : Int) ≤ (j : Int) := by omega
      obtain ⟨x, hx⟩ : ∃ x, ls[j]? = some x := ⟨_, List.getElem?_eq_getElem (by rw [HNL.out]; exact hjN)⟩
      obtain ⟨hox, b, off, rfl, hcs⟩ := HLS.out j x hx
      have hcs1 := hcs.later HI.out.tabs.below
      have HO : Hid (EntD.Ok w x) := hox
      have HC : Hid (Cs w b (off + j * 7) x) := hcs
      have HCk : Hid (∀ Z, Below wr.heap.size wr Z → Calls Try.prog 14 #[.agg #[x.vr, .int .i64 x.fam, x.vq, .int .i64 x.ts, .int .i64 x.seq, .int .i64 x.kind, x.vv]] Z fun r w' => r = .returned (.int .i64 ((checkS x : Nat) : Int)) ∧ Below Z.heap.size Z w') := fun Z hZ => refCheck_any ((HO.out.later HI.out.tabs.below).later hZ)
      obtain ⟨c0, c1, c2, c3, c4, c5, c6⟩ := hcs1
      clear hcs hox
      obtain ⟨ck, hck⟩ : ∃ ck, ck = checkS x := ⟨_, rfl⟩
      rw [← hck] at HCk
      have HCE : Hid (ck = checkS x) := hck
      clear hck
      by_cases h0 : ck = 0
      · subst h0
        go_wp2_with fail
        refine (HCk.out _ (Below.refl _ _)).mono ?_
        rintro z W4 ⟨rfl, hb4⟩
        have HI4 : Hid (A2 w t (.slice av n cv) es W4) := HI.out.later hb4
        clear hb4 HCk HI c0 c1 c2 c3 c4 c5 c6
        go_wp2
        go_loopw [9, 10] (fun tw k wq => ∃ (c : Bool) (q : Nat), tw = .bool c ∧ k = .int .i64 (q : Int) ∧ q ≤ n ∧ Hid (A2 w t (.slice av n cv) es wq ∧ (c = false → ∀ y ∈ es.take q, compareS y x ≠ 0))) (fun _ k _ => n - (intOf k).toNat)
        case atStart => exact ⟨false, 0, rfl, rfl, Nat.zero_le _, HI4.out, by simp⟩
        case round =>
          obtain ⟨c, q, rfl, rfl, hq, HQ⟩ := hrel
          by_cases hqn : q < n
          · have hqn' : (q : Int) < (n : Int) := by omega
            have hq0 : (0 : Int) ≤ (q : Int) := by omega
            cases c with
            | true =>
              go_wp2_with fail
              go_region
              go_wp2
              go_roundw
              case rel => exact ⟨true, q + 1, rfl, by go_num, by omega, HQ.out.1.later ((Below.refl _ _).drew), by simp⟩
              case measure => simp [intOf]; omega
            | false =>
              obtain ⟨y, hy⟩ : ∃ y, es[q]? = some y := ⟨_, List.getElem?_eq_getElem (by rw [← HN.out]; exact hqn)⟩
              obtain ⟨g, cg, eg, hg, csy⟩ := row_cells HQ.out.1.row hy
              cases eg
              have hym : y ∈ es := List.mem_of_getElem? hy
              have csx := HC.out.later HQ.out.1.tabs.below
              obtain ⟨cm, hcm⟩ : ∃ cm, cm = compareS y x := ⟨_, rfl⟩
              have HCm : Hid (∀ Z, Below wr.heap.size wr Z → Calls Try.prog 15 #[.agg #[y.vr, .int .i64 y.fam, y.vq, .int .i64 y.ts, .int .i64 y.seq, .int .i64 y.kind, y.vv], .agg #[x.vr, .int .i64 x.fam, x.vq, .int .i64 x.ts, .int .i64 x.seq, .int .i64 x.kind, x.vv]] Z fun r w' => r = .returned (.int .i64 cm) ∧ Below Z.heap.size Z w') := fun Z hZ => by rw [hcm]; exact refCompare_any (((HQ.out.1.good y hym).1.later HQ.out.1.tabs.below).later hZ) ((HO.out.later HQ.out.1.tabs.below).later hZ)
              have HCMe : Hid (cm = compareS y x) := hcm
              clear hcm
              have KS : Hid (∀ wx, Below wr.heap.size wr wx → (wx.cell? ⟨g, q * 7, none⟩ = some y.vr ∧ wx.cell? ⟨g, q * 7 + 1, none⟩ = some (.int .i64 y.fam) ∧ wx.cell? ⟨g, q * 7 + 2, none⟩ = some y.vq ∧ wx.cell? ⟨g, q * 7 + 3, none⟩ = some (.int .i64 y.ts) ∧ wx.cell? ⟨g, q * 7 + 4, none⟩ = some (.int .i64 y.seq) ∧ wx.cell? ⟨g, q * 7 + 5, none⟩ = some (.int .i64 y.kind) ∧ wx.cell? ⟨g, q * 7 + 6, none⟩ = some y.vv) ∧ (wx.cell? ⟨b, off + j * 7, none⟩ = some x.vr ∧ wx.cell? ⟨b, off + j * 7 + 1, none⟩ = some (.int .i64 x.fam) ∧ wx.cell? ⟨b, off + j * 7 + 2, none⟩ = some x.vq ∧ wx.cell? ⟨b, off + j * 7 + 3, none⟩ = some (.int .i64 x.ts) ∧ wx.cell? ⟨b, off + j * 7 + 4, none⟩ = some (.int .i64 x.seq) ∧ wx.cell? ⟨b, off + j * 7 + 5, none⟩ = some (.int .i64 x.kind) ∧ wx.cell? ⟨b, off + j * 7 + 6, none⟩ = some x.vv)) := fun wx h => ⟨csy.later h, csx.later h⟩
              have D0 : Below wr.heap.size wr wr.drew := (Below.refl _ _).drew
              clear csx csy
              have tkq : ∀ z ∈ es.take (q + 1), z ∈ es.take q ∨ z = y := fun z hz => by
                rw [List.take_add_one, hy] at hz
                simpa using hz
              by_cases hz : cm = 0
              · subst hz
                go_wp2_with fail
                go_region_held3 (fun wx => (wx.cell? ⟨g, q * 7, none⟩ = some y.vr ∧ wx.cell? ⟨g, q * 7 + 1, none⟩ = some (.int .i64 y.fam) ∧ wx.cell? ⟨g, q * 7 + 2, none⟩ = some y.vq ∧ wx.cell? ⟨g, q * 7 + 3, none⟩ = some (.int .i64 y.ts) ∧ wx.cell? ⟨g, q * 7 + 4, none⟩ = some (.int .i64 y.seq) ∧ wx.cell? ⟨g, q * 7 + 5, none⟩ = some (.int .i64 y.kind) ∧ wx.cell? ⟨g, q * 7 + 6, none⟩ = some y.vv) ∧ (wx.cell? ⟨b, off + j * 7, none⟩ = some x.vr ∧ wx.cell? ⟨b, off + j * 7 + 1, none⟩ = some (.int .i64 x.fam) ∧ wx.cell? ⟨b, off + j * 7 + 2, none⟩ = some x.vq ∧ wx.cell? ⟨b, off + j * 7 + 3, none⟩ = some (.int .i64 x.ts) ∧ wx.cell? ⟨b, off + j * 7 + 4, none⟩ = some (.int .i64 x.seq) ∧ wx.cell? ⟨b, off + j * 7 + 5, none⟩ = some (.int .i64 x.kind) ∧ wx.cell? ⟨b, off + j * 7 + 6, none⟩ = some x.vv)) (first | exact KS.out _ D0 | exact KS.out _ D1) (first | (go_at_call 15; refine Calls.mono (HCm.out _ D0) ?_; rintro e1 wk ⟨rfl, hbk⟩; have D1 := D0.trans (hbk.mono D0.size)))
                go_wp2
                go_roundw
                case rel => exact ⟨true, q + 1, rfl, by go_num, by omega, HQ.out.1.later D1, by simp⟩
                case measure => simp [intOf]; omega
              · have hzb : (cm == 0) = false := by simp [hz]
                go_wp2_with fail
                go_region_held3 (fun wx => (wx.cell? ⟨g, q * 7, none⟩ = some y.vr ∧ wx.cell? ⟨g, q * 7 + 1, none⟩ = some (.int .i64 y.fam) ∧ wx.cell? ⟨g, q * 7 + 2, none⟩ = some y.vq ∧ wx.cell? ⟨g, q * 7 + 3, none⟩ = some (.int .i64 y.ts) ∧ wx.cell? ⟨g, q * 7 + 4, none⟩ = some (.int .i64 y.seq) ∧ wx.cell? ⟨g, q * 7 + 5, none⟩ = some (.int .i64 y.kind) ∧ wx.cell? ⟨g, q * 7 + 6, none⟩ = some y.vv) ∧ (wx.cell? ⟨b, off + j * 7, none⟩ = some x.vr ∧ wx.cell? ⟨b, off + j * 7 + 1, none⟩ = some (.int .i64 x.fam) ∧ wx.cell? ⟨b, off + j * 7 + 2, none⟩ = some x.vq ∧ wx.cell? ⟨b, off + j * 7 + 3, none⟩ = some (.int .i64 x.ts) ∧ wx.cell? ⟨b, off + j * 7 + 4, none⟩ = some (.int .i64 x.seq) ∧ wx.cell? ⟨b, off + j * 7 + 5, none⟩ = some (.int .i64 x.kind) ∧ wx.cell? ⟨b, off + j * 7 + 6, none⟩ = some x.vv)) (first | exact KS.out _ D0 | exact KS.out _ D1) (first | (go_at_call 15; refine Calls.mono (HCm.out _ D0) ?_; rintro e1 wk ⟨rfl, hbk⟩; have D1 := D0.trans (hbk.mono D0.size)))
                go_wp2
                go_roundw
                case rel => exact ⟨false, q + 1, rfl, by go_num, by omega, HQ.out.1.later D1, fun _ z hz' => by
                  rcases tkq z hz' with h | rfl
                  · exact HQ.out.2 (by simp) z h
                  · rw [← HCMe.out]; exact hz⟩
                case measure => simp [intOf]; omega
          · have hqE : q = n := by omega
            subst hqE
            cases c with
            | true =>
              go_wp2
              go_roundw
              case rel => exact ⟨j + 1, es, by go_num, by omega, by have := HN.out; omega, HQ.out.1⟩
              case measure => simp [intOf]; omega
            | false =>
              have HF : Hid (∀ y ∈ es, compareS y x ≠ 0) := fun y hy => HQ.out.2 rfl y (by rw [HN.out, List.take_length]; exact hy)
              have hesl : es.length ≤ 200 := by have := HN.out; omega
              have htl := HQ.out.1.tabs.lt
              obtain ⟨vr, fam, vq, ts, seq, kind, vv, row, qual, val⟩ := x
              have r1 : Rd w vr row := HO.out.1
              have r2 : Rd w vq qual := HO.out.2.1
              have r3 : Rd w vv val := HO.out.2.2
              obtain ⟨ar, nr, cr, rfl⟩ := rd_slice r1
              obtain ⟨aq, nq, cq, rfl⟩ := rd_slice r2
              obtain ⟨ax, nx, cx, rfl⟩ := rd_slice r3
              obtain ⟨xe, hxe⟩ : ∃ xe : EntD, xe = ⟨.slice ar nr cr, fam, .slice aq nq cq, ts, seq, kind, .slice ax nx cx, row, qual, val⟩ := ⟨_, rfl⟩
              obtain ⟨i0, hi, hz0, hz1, hz2⟩ := info_parts info_ent
              have HK : Hid (wr.ownsRow (t + 2) 30 7 (.slice av q cv) es.length (evals es)) := HQ.out.1.row
              have csx := HC.out.later HQ.out.1.tabs.below
              obtain ⟨c0, c1, c2, c3, c4, c5, c6⟩ := csx
              simp only at c0 c1 c2 c3 c4 c5 c6
              have hcells : ∀ j u, (EntD.cells xe).toList[j]? = some u → (wr.alloc (.cells xe.cells 30)).cell? ((⟨wr.heap.size, 0, none⟩ : Addr).add j) = some u := fun j u hu => by
                have e : (⟨wr.heap.size, 0, none⟩ : Addr).add j = ⟨wr.heap.size, j, none⟩ := by unfold Addr.add; split <;> simp_all
                rw [e]
                have hb := World.alloc_heap_new wr (.cells xe.cells 30)
                simp only [World.cell?, hb]
                rw [← Array.getElem?_toList]; exact hu
              have hone : ∀ u ∈ (EntD.cells xe).toList, u.oneCell' = true := by rw [hxe]; simp [EntD.cells, Value.oneCell']
              have hxl : (EntD.cells xe).toList.length = 1 * 7 := by rw [hxe]; simp [EntD.cells]
              have exe : xe.cells = #[.slice ar nr cr, .int .i64 fam, .slice aq nq cq, .int .i64 ts, .int .i64 seq, .int .i64 kind, .slice ax nx cx] := by rw [hxe]; rfl
              rw [exe] at hcells hone hxl
              clear r1 r2 r3
              go_wp2_with (at_builtin; refine wpList_append_own _ rfl _ _ 22 rfl (t + 2) 30 i0 _ 7 104 und_ents hi hz0 hz1 hz2 rfl (by decide) _ _ _ rfl (HK.out.alloc _) ⟨wr.heap.size, 0, none⟩ 1 1 _ rfl hxl hcells hone (by show _ ≤ maxLen; unfold maxLen; omega) (by omega) (by rw [World.size_alloc]; omega) ?_; intro v' w1 hown' hgrow hnil; obtain ⟨g', cap', rfl⟩ := ownsRow_succ hown')
              go_roundw
              case rel =>
                refine ⟨j + 1, es ++ [xe], by go_num, by omega, by have := HN.out; simp; omega, ?_, ?_, HQ.out.1.apt.snoc (by rw [hxe]; exact HF.out), fun e he => ?_⟩
                · refine A1.grown (HQ.out.1.tabs.later ((Below.refl _ wr).alloc (Nat.le_refl _) _)) hgrow (fun r hr => (own_at HK.out hr).1)
                · rw [evals_snoc, List.length_append, exe]; exact hown'
                · simp only [List.mem_append, List.mem_singleton] at he
                  rcases he with he | rfl
                  · exact HQ.out.1.good e he
                  · rw [hxe]; exact ⟨HO.out, HCE.out.symm⟩
              case measure => simp [intOf]; omega
      · have h0' : ((ck : Int) == 0) = false := by simp; omega
        go_wp2_with fail
        refine (HCk.out _ (Below.refl _ _)).mono ?_
        rintro z W4 ⟨rfl, hb4⟩
        go_wp2
        go_roundw
        case rel => exact ⟨j + 1, es, by go_num, by omega, by have := HN.out; omega, HI.out.later hb4⟩
        case measure => simp [intOf]; omega
    · have hjE : j = N := by omega
      subst hjE
      go_upto_region 18 with fail
      go_cut [74] from 67 (fun s wc => ∃ c : Bool, s = .bool c ∧ (c = false → 0 ≤ fr ∧ fr ≤ (n : Int)) ∧ wc = wr)
      case first =>
        by_cases h1 : fr < 0
        · go_wp2_with fail
          go_meet
          case rel => exact ⟨true, rfl, by simp, rfl⟩
        · by_cases h2 : (n : Int) < fr
          · go_wp2_with fail
            go_meet
            case rel => exact ⟨true, rfl, by simp, rfl⟩
          · go_wp2_with fail
            go_meet
            case rel => exact ⟨false, rfl, fun _ => ⟨by omega, by omega⟩, rfl⟩
      case rest =>
        obtain ⟨c, rfl, hc, rfl⟩ := hcut
        go_upto_if 74 with fail
        go_cut [1] from 67 (fun s wx => ∃ r : Nat, r ≤ n ∧ s = .int .i64 (r : Int) ∧ wx = wc)
        case first =>
          cases c with
          | true =>
            go_wp2_with fail
            go_meet
            case rel => exact ⟨0, by omega, rfl, rfl⟩
          | false =>
            obtain ⟨q1, q2⟩ := hc rfl
            go_wp2_with fail
            go_meet
            case rel => exact ⟨fr.toNat, by omega, by rw [Int.toNat_of_nonneg q1], rfl⟩
        case rest =>
          obtain ⟨r, hr, rfl, rfl⟩ := hcut
          have HB0 := Lib.hid (A3.of HI.out)
          have HG : Hid (Apt es ∧ (∀ e ∈ es, EntD.Ok w e ∧ checkS e = 0)) := ⟨HI.out.apt, HI.out.good⟩
          have hn200 : n ≤ 200 := by omega
          have HOP : Hid (Apt (oth r es) ∧ (oth r es).length = n) := ⟨HI.out.apt.perm (oth_perm r es).symm, by rw [oth_len, HN.out]⟩
          clear HI hc
          go_wp2
          go_loopw [11] (fun i wr => ∃ (q : Nat) (La Lb : List EntD), i = .int .i64 (q : Int) ∧ q ≤ n ∧ Hid (A3 w t (.slice av n cv) es La Lb wr ∧ Hold La (es.take q) ∧ Hold Lb ((oth r es).take q))) (fun i _ => n - (intOf i).toNat)
          case atStart => exact ⟨0, [], [], rfl, Nat.zero_le _, HB0.out, Hold.nil, Hold.nil⟩
          case round =>
            obtain ⟨q, La, Lb, rfl, hq, HJ⟩ := hrel
            by_cases hqn : q < n
            · have hqn' : (q : Int) < (n : Int) := by omega
              have hq0 : (0 : Int) ≤ (q : Int) := by omega
              obtain ⟨e, he⟩ : ∃ e, es[q]? = some e := ⟨_, List.getElem?_eq_getElem (by rw [← HN.out]; exact hqn)⟩
              obtain ⟨ix, hix⟩ : ∃ ix, ix = (r + n - 1 - q) % n := ⟨_, rfl⟩
              have hixn : ix < n := by rw [hix]; exact Nat.mod_lt _ (by omega)
              obtain ⟨f, hf⟩ : ∃ f, es[ix]? = some f := ⟨_, List.getElem?_eq_getElem (by rw [← HN.out]; exact hixn)⟩
              have hfo : (oth r es)[q]? = some f := by rw [oth_get (by rw [← HN.out]; exact hr) (by rw [← HN.out]; exact hqn), ← HN.out, ← hix]; exact hf
              obtain ⟨g, cg, eg, hg, cse⟩ := row_cells HJ.out.1.row he
              subst hix
              cases eg
              have HAd : Hid (Calls Try.prog 9 #[.pointer (some ⟨t, 0, none⟩), .agg #[e.vr, .int .i64 e.fam, e.vq, .int .i64 e.ts, .int .i64 e.seq, .int .i64 e.kind, e.vv]] wr fun z X' => z = .returned (.int .i64 0) ∧ ∃ La', A3 w t (.slice (some ⟨g, 0, none⟩) es.length cv) es La' Lb X' ∧ Hold La' (es.take q ++ [e])) := HJ.out.1.addA ((HG.out.2 e (List.mem_of_getElem? he)).1.later HJ.out.1.below) (HG.out.2 e (List.mem_of_getElem? he)).2 (HG.out.1.fresh he HJ.out.2.1) (by rw [HJ.out.2.1.len, List.length_take, ← HN.out]; omega) HJ.out.2.1
              obtain ⟨c0, c1, c2, c3, c4, c5, c6⟩ := cse
              go_wp2_with fail
              refine HAd.out.mono ?_
              rintro z W5 ⟨rfl, La', h5, k5⟩
              obtain ⟨g2, cg2, eg2, hg2, csf⟩ := row_cells h5.row hf
              cases eg2
              obtain ⟨d0, d1, d2, d3, d4, d5, d6⟩ := csf
              have hi1 : (0 : Int) ≤ ((r : Int) + (es.length : Int) - 1 - (q : Int)) % (es.length : Int) := Int.emod_nonneg _ (by omega)
              have hi2 : ((r : Int) + (es.length : Int) - 1 - (q : Int)) % (es.length : Int) < (es.length : Int) := Int.emod_lt_of_pos _ (by omega)
              have HA2 : Hid (Calls Try.prog 9 #[.pointer (some ⟨t + 1, 0, none⟩), .agg #[f.vr, .int .i64 f.fam, f.vq, .int .i64 f.ts, .int .i64 f.seq, .int .i64 f.kind, f.vv]] W5 fun z X' => z = .returned (.int .i64 0) ∧ ∃ Lb', A3 w t (.slice (some ⟨g, 0, none⟩) es.length cv) es La' Lb' X' ∧ Hold Lb' ((oth r es).take q ++ [f])) := h5.addB ((HG.out.2 f (List.mem_of_getElem? hf)).1.later h5.below) (HG.out.2 f (List.mem_of_getElem? hf)).2 (HOP.out.1.fresh hfo HJ.out.2.2) (by rw [HJ.out.2.2.len, List.length_take]; omega) HJ.out.2.2
              have HK5 := Lib.hid k5
              clear k5 h5
              go_wp2_with fail
              refine HA2.out.mono ?_
              rintro z W6 ⟨rfl, Lb', h6, k6⟩
              go_wp2
              go_roundw
              case rel =>
                have t1 : Hold La' (es.take (q + 1)) := by rw [List.take_add_one, he]; exact HK5.out
                have t2 : Hold Lb' ((oth r es).take (q + 1)) := by rw [List.take_add_one, hfo]; exact k6
                first
                  | exact ⟨q + 1, La', Lb', by go_num, by omega, h6, t1, t2⟩
                  | ((repeat apply Exists.intro); exact ⟨⟨q + 1, La', Lb', by go_num, by omega, h6, t1, t2⟩, rfl⟩)
              case measure => simp [intOf]; omega
            · have hqE : q = n := by omega
              subst hqE
              have HRa : Hid (Calls _ _ _ _ _) := rows_any HJ.out.1.a (by rw [HJ.out.2.1.len, List.length_take]; omega)
              go_wp2_with fail
              refine HRa.out.mono ?_
              rintro z W7 ⟨xv, xs, rfl, rx7, sx7, ox7, hb7⟩
              have h7 := HJ.out.1.later hb7
              have HRb : Hid (Calls _ _ _ _ _) := rows_any h7.b (by rw [HJ.out.2.2.len, List.length_take]; omega)
              have H7 := Lib.hid (And.intro rx7 (And.intro sx7 (And.intro ox7 (And.intro hb7 h7))))
              clear rx7 sx7 ox7 hb7 h7 HRa
              go_wp2_with fail
              refine HRb.out.mono ?_
              rintro z W8 ⟨yv, ys, rfl, ry8, sy8, oy8, hb8⟩
              obtain ⟨rx7, sx7, ox7, hb7, h7⟩ := H7.out
              have h8 := h7.later hb8
              have hold1 : Hold La es := by have := HJ.out.2.1; rwa [HN.out, List.take_length] at this
              have hold2 : Hold Lb (oth r es) := by have := HJ.out.2.2; rwa [← HOP.out.2, List.take_length] at this
              obtain ⟨f1, f2, f3, f4, f5, f6, f7, f8, f9⟩ := any_facts h8 hold1 hold2 sx7 sy8
              rw [← HN.out] at f1 f2 f3 f4
              obtain ⟨pa, Ta, ta8, -, -⟩ := h8.a.tree
              obtain ⟨pb, Tb8, tb8, -, -⟩ := h8.b.tree
              rw [f3] at ta8
              rw [f4, f5] at tb8
              obtain ⟨ax, cx, rfl⟩ := row_slice (by decide) rx7
              obtain ⟨ay, cy, rfl⟩ := row_slice (by decide) ry8
              have H8 : Hid (A4 w t (.slice ax xs.length cx) (.slice ay ys.length cy) xs ys ((pk La : Nat) : Int) W8) := ⟨⟨_, ownsRow_below rx7 hb8⟩, ⟨_, ry8⟩, fun x hx => ((ox7 x hx).ok).later hb8, fun y hy => (oy8 y hy).ok, ⟨pa, _, ta8⟩, h8.below⟩
              have HTa := Lib.hid ta8
              have HTb := Lib.hid tb8
              have HS : Hid (pk xs = pk La ∧ Sm xs ys ∧ Srt xs ∧ (∀ x ∈ xs, checkS x = 0) ∧ xs.length = q ∧ ys.length = q) := ⟨f6, f7, f8, f9, f1, f2⟩
              rw [f1, f2] at H8 ⊢
              clear rx7 sx7 ox7 hb7 h7 ry8 sy8 oy8 hb8 h8 hold1 hold2 f3 f4 f5 f6 f7 f8 f9 ta8 tb8 H7 HRb f1 f2
              go_wp2_with fail
              refine (tbytes_any HTa.out).mono ?_
              rintro z W9 ⟨rfl, rfl⟩
              go_wp2_with fail
              refine (tbytes_any HTb.out).mono ?_
              rintro z W9 ⟨rfl, rfl⟩
              go_wp2_with fail
              refine (len_any HTa.out).mono ?_
              rintro z W9 ⟨rfl, rfl⟩
              go_wp2_with fail
              refine (len_any HTb.out).mono ?_
              rintro z W9 ⟨rfl, rfl⟩
              go_wp2
              go_loopw [14, 15] (fun m i wr => ∃ (p : Nat), i = .int .i64 (p : Int) ∧ p ≤ q ∧ m = .int .i64 ((pk (xs.take p) : Nat) : Int) ∧ Hid (A4 w t (.slice ax q cx) (.slice ay q cy) xs ys ((pk La : Nat) : Int) wr)) (fun _ i _ => q - (intOf i).toNat)
              case atStart => exact ⟨0, rfl, Nat.zero_le _, rfl, H8.out⟩
              case round =>
                obtain ⟨p, rfl, hp, rfl, HP⟩ := hrel
                by_cases hpq : p < q
                · have hpq' : (p : Int) < (q : Int) := by omega
                  have hp0 : (0 : Int) ≤ (p : Int) := by omega
                  obtain ⟨x, hx⟩ : ∃ x, xs[p]? = some x := ⟨_, List.getElem?_eq_getElem (by rw [HS.out.2.2.2.2.1]; exact hpq)⟩
                  obtain ⟨y, hy⟩ : ∃ y, ys[p]? = some y := ⟨_, List.getElem?_eq_getElem (by rw [HS.out.2.2.2.2.2]; exact hpq)⟩
                  obtain ⟨v, hv⟩ : ∃ v, xs[p - 1]? = some v := ⟨_, List.getElem?_eq_getElem (by rw [HS.out.2.2.2.2.1]; omega)⟩
                  have hxm := List.mem_of_getElem? hx
                  have hym := List.mem_of_getElem? hy
                  have hvm := List.mem_of_getElem? hv
                  have hcx := HS.out.2.2.2.1 x hxm
                  obtain ⟨B1, r1⟩ := HP.out.rx
                  obtain ⟨B2, r2⟩ := HP.out.ry
                  obtain ⟨g1, cg1, e1, hg1, cs1⟩ := row_cells r1 hx
                  rw [HS.out.2.2.2.2.1] at e1
                  cases e1
                  obtain ⟨g2, cg2, e2, hg2, cs2⟩ := row_cells r2 hy
                  rw [HS.out.2.2.2.2.2] at e2
                  cases e2
                  obtain ⟨g3, cg3, e3, hg3, cs3⟩ := row_cells r1 hv
                  rw [HS.out.2.2.2.2.1] at e3
                  cases e3
                  obtain ⟨S, hS⟩ : ∃ S, S = pk (xs.take p) := ⟨_, rfl⟩
                  have hS1 : S ≤ 4000000 := by
                    have h1 := pk_len (xs := xs.take p) (fun z hz => packL_len (HP.out.ox z (List.mem_of_mem_take hz)) (HS.out.2.2.2.1 z (List.mem_of_mem_take hz)))
                    rw [List.length_take] at h1
                    omega
                  have HSS : Hid (S + (packL x).length = pk (xs.take (p + 1))) := by unfold Hid; rw [pk_take hx, hS]
                  rw [← hS]
                  have hpl := packL_len (HP.out.ox x hxm) hcx
                  have HPk := Lib.hid (pack_ok (HP.out.ox x hxm) hcx)
                  have HCc := Lib.hid (And.intro cs1 (And.intro cs2 cs3))
                  have HXY : Hid (EntD.Same x y) := HS.out.2.1.get p x y hx hy
                  have HVX : Hid (0 < p → compareS v x = -1) := fun h0 => by
                    obtain ⟨h1, h2⟩ := List.getElem?_eq_some_iff.1 hv
                    obtain ⟨h3, h4⟩ := List.getElem?_eq_some_iff.1 hx
                    have h5 := List.pairwise_iff_getElem.1 HS.out.2.2.1 (p - 1) p h1 h3 (by omega)
                    rw [h2, h4] at h5
                    have := compareS_small v x
                    omega
                  obtain ⟨c0, c1, c2, c3, c4, c5, c6⟩ := cs1
                  simp only [EntD.cells] at HPk
                  clear hS cs2 cs3 r1 r2
                  go_wp2_with fail
                  refine HPk.out.mono ?_
                  rintro z W5 ⟨a5, m5, c5', rfl, own5, hb5⟩
                  have hm5 : m5 = (packL x).length := own5.1
                  have hm5b : m5 ≤ 20000 := by omega
                  have HMm : Hid (m5 = (packL x).length) := hm5
                  have H5 := Lib.hid (HP.out.later hb5)
                  have KS : Hid (∀ wx, Below W5.heap.size W5 wx → (wx.cell? ⟨g1, p * 7, none⟩ = some x.vr ∧ wx.cell? ⟨g1, p * 7 + 1, none⟩ = some (.int .i64 x.fam) ∧ wx.cell? ⟨g1, p * 7 + 2, none⟩ = some x.vq ∧ wx.cell? ⟨g1, p * 7 + 3, none⟩ = some (.int .i64 x.ts) ∧ wx.cell? ⟨g1, p * 7 + 4, none⟩ = some (.int .i64 x.seq) ∧ wx.cell? ⟨g1, p * 7 + 5, none⟩ = some (.int .i64 x.kind) ∧ wx.cell? ⟨g1, p * 7 + 6, none⟩ = some x.vv) ∧ (wx.cell? ⟨g2, p * 7, none⟩ = some y.vr ∧ wx.cell? ⟨g2, p * 7 + 1, none⟩ = some (.int .i64 y.fam) ∧ wx.cell? ⟨g2, p * 7 + 2, none⟩ = some y.vq ∧ wx.cell? ⟨g2, p * 7 + 3, none⟩ = some (.int .i64 y.ts) ∧ wx.cell? ⟨g2, p * 7 + 4, none⟩ = some (.int .i64 y.seq) ∧ wx.cell? ⟨g2, p * 7 + 5, none⟩ = some (.int .i64 y.kind) ∧ wx.cell? ⟨g2, p * 7 + 6, none⟩ = some y.vv) ∧ (wx.cell? ⟨g1, (p - 1) * 7, none⟩ = some v.vr ∧ wx.cell? ⟨g1, (p - 1) * 7 + 1, none⟩ = some (.int .i64 v.fam) ∧ wx.cell? ⟨g1, (p - 1) * 7 + 2, none⟩ = some v.vq ∧ wx.cell? ⟨g1, (p - 1) * 7 + 3, none⟩ = some (.int .i64 v.ts) ∧ wx.cell? ⟨g1, (p - 1) * 7 + 4, none⟩ = some (.int .i64 v.seq) ∧ wx.cell? ⟨g1, (p - 1) * 7 + 5, none⟩ = some (.int .i64 v.kind) ∧ wx.cell? ⟨g1, (p - 1) * 7 + 6, none⟩ = some v.vv)) := fun wx h => ⟨(HCc.out.1.later hb5).later h, (HCc.out.2.1.later hb5).later h, (HCc.out.2.2.later hb5).later h⟩
                  have HSe : Hid (∀ Z, Below W5.heap.size W5 Z → Calls Try.prog 12 #[.agg #[x.vr, .int .i64 x.fam, x.vq, .int .i64 x.ts, .int .i64 x.seq, .int .i64 x.kind, x.vv], .agg #[y.vr, .int .i64 y.fam, y.vq, .int .i64 y.ts, .int .i64 y.seq, .int .i64 y.kind, y.vv]] Z fun r w' => r = .returned (.bool true) ∧ Below Z.heap.size Z w') := fun Z hZ => by
                    refine (se_any ((H5.out.ox x hxm).later hZ) ((H5.out.oy y hym).later hZ)).mono ?_
                    rintro r w' ⟨rfl, hb⟩
                    exact ⟨by rw [decide_eq_true HXY.out], hb⟩
                  have HCm : Hid (∀ Z, Below W5.heap.size W5 Z → 0 < p → Calls Try.prog 18 #[.agg #[v.vr, .int .i64 v.fam, v.vq, .int .i64 v.ts, .int .i64 v.seq, .int .i64 v.kind, v.vv], .agg #[x.vr, .int .i64 x.fam, x.vq, .int .i64 x.ts, .int .i64 x.seq, .int .i64 x.kind, x.vv]] Z fun r w' => r = .returned (.int .i64 (-1)) ∧ Below Z.heap.size Z w') := fun Z hZ h0 => by
                    have := compare_any ((H5.out.ox v hvm).later hZ) ((H5.out.ox x hxm).later hZ)
                    rwa [HVX.out h0] at this
                  have D0 : Below W5.heap.size W5 W5.drew := (Below.refl _ _).drew
                  clear hm5 own5 c0 c1 c2 c3 c4 c5 c6 HPk hb5 hpl
                  by_cases hpz : 0 < p
                  · have hpz' : (0 : Int) < (p : Int) := by omega
                    have hpm : (0 : Int) ≤ (p : Int) - 1 := by omega
                    have hpm2 : (p : Int) - 1 < (q : Int) := by omega
                    have hpm3 : (1 : Int) ≤ (p : Int) := by omega
                    have hpm4 : 1 ≤ p := by omega
                    have hpm5 : (p : Int) ≤ (q : Int) := by omega
                    have hpm6 : (p : Int) < (q : Int) + 1 := by omega
                    have hpm7 : p < q + 1 := by omega
                    have hpm8 : p - 1 < q := by omega
                    have hpm9 : IntKind.i64.wrap ((p : Int) - 1) = ((p - 1 : Nat) : Int) := by rw [wrap_ok _ (by omega) (by omega)]; omega
                    have hpm10 : (0 : Int) ≤ ((p - 1 : Nat) : Int) := by omega
                    have hpm11 : ((p - 1 : Nat) : Int) < (q : Int) := by omega
                    clear hpm hpm2 hpm3 hpm4 hpm5 hpm6 hpm7
                    go_wp2_with fail
                    go_region_held3 (fun wx => (wx.cell? ⟨g1, p * 7, none⟩ = some x.vr ∧ wx.cell? ⟨g1, p * 7 + 1, none⟩ = some (.int .i64 x.fam) ∧ wx.cell? ⟨g1, p * 7 + 2, none⟩ = some x.vq ∧ wx.cell? ⟨g1, p * 7 + 3, none⟩ = some (.int .i64 x.ts) ∧ wx.cell? ⟨g1, p * 7 + 4, none⟩ = some (.int .i64 x.seq) ∧ wx.cell? ⟨g1, p * 7 + 5, none⟩ = some (.int .i64 x.kind) ∧ wx.cell? ⟨g1, p * 7 + 6, none⟩ = some x.vv) ∧ (wx.cell? ⟨g2, p * 7, none⟩ = some y.vr ∧ wx.cell? ⟨g2, p * 7 + 1, none⟩ = some (.int .i64 y.fam) ∧ wx.cell? ⟨g2, p * 7 + 2, none⟩ = some y.vq ∧ wx.cell? ⟨g2, p * 7 + 3, none⟩ = some (.int .i64 y.ts) ∧ wx.cell? ⟨g2, p * 7 + 4, none⟩ = some (.int .i64 y.seq) ∧ wx.cell? ⟨g2, p * 7 + 5, none⟩ = some (.int .i64 y.kind) ∧ wx.cell? ⟨g2, p * 7 + 6, none⟩ = some y.vv) ∧ (wx.cell? ⟨g1, (p - 1) * 7, none⟩ = some v.vr ∧ wx.cell? ⟨g1, (p - 1) * 7 + 1, none⟩ = some (.int .i64 v.fam) ∧ wx.cell? ⟨g1, (p - 1) * 7 + 2, none⟩ = some v.vq ∧ wx.cell? ⟨g1, (p - 1) * 7 + 3, none⟩ = some (.int .i64 v.ts) ∧ wx.cell? ⟨g1, (p - 1) * 7 + 4, none⟩ = some (.int .i64 v.seq) ∧ wx.cell? ⟨g1, (p - 1) * 7 + 5, none⟩ = some (.int .i64 v.kind) ∧ wx.cell? ⟨g1, (p - 1) * 7 + 6, none⟩ = some v.vv)) (first | exact KS.out _ D2 | exact KS.out _ D1 | exact KS.out _ D0) (first | (go_at_call 18; refine Calls.mono (HCm.out _ D1 hpz) ?_; rintro e2 wl ⟨rfl, hbl⟩; have D2 := D1.trans (hbl.mono D1.size)) | (go_at_call 12; refine Calls.mono (HSe.out _ D0) ?_; rintro e1 wk ⟨rfl, hbk⟩; have D1 := D0.trans (hbk.mono D0.size)))
                    go_wp2
                    go_roundw
                    case rel => exact ⟨p + 1, by go_num, by omega, by rw [← HSS.out, ← HMm.out]; go_num, H5.out.later D2⟩
                    case measure => simp [intOf]; omega
                  · have hpz' : ¬ (0 : Int) < (p : Int) := by omega
                    have hpzd : decide ((0 : Int) < (p : Int)) = false := by simp; omega
                    go_wp2_with fail
                    refine wp_region_held_drew (S := fun wx => (wx.cell? ⟨g1, p * 7, none⟩ = some x.vr ∧ wx.cell? ⟨g1, p * 7 + 1, none⟩ = some (.int .i64 x.fam) ∧ wx.cell? ⟨g1, p * 7 + 2, none⟩ = some x.vq ∧ wx.cell? ⟨g1, p * 7 + 3, none⟩ = some (.int .i64 x.ts) ∧ wx.cell? ⟨g1, p * 7 + 4, none⟩ = some (.int .i64 x.seq) ∧ wx.cell? ⟨g1, p * 7 + 5, none⟩ = some (.int .i64 x.kind) ∧ wx.cell? ⟨g1, p * 7 + 6, none⟩ = some x.vv) ∧ (wx.cell? ⟨g2, p * 7, none⟩ = some y.vr ∧ wx.cell? ⟨g2, p * 7 + 1, none⟩ = some (.int .i64 y.fam) ∧ wx.cell? ⟨g2, p * 7 + 2, none⟩ = some y.vq ∧ wx.cell? ⟨g2, p * 7 + 3, none⟩ = some (.int .i64 y.ts) ∧ wx.cell? ⟨g2, p * 7 + 4, none⟩ = some (.int .i64 y.seq) ∧ wx.cell? ⟨g2, p * 7 + 5, none⟩ = some (.int .i64 y.kind) ∧ wx.cell? ⟨g2, p * 7 + 6, none⟩ = some y.vv) ∧ (wx.cell? ⟨g1, (p - 1) * 7, none⟩ = some v.vr ∧ wx.cell? ⟨g1, (p - 1) * 7 + 1, none⟩ = some (.int .i64 v.fam) ∧ wx.cell? ⟨g1, (p - 1) * 7 + 2, none⟩ = some v.vq ∧ wx.cell? ⟨g1, (p - 1) * 7 + 3, none⟩ = some (.int .i64 v.ts) ∧ wx.cell? ⟨g1, (p - 1) * 7 + 4, none⟩ = some (.int .i64 v.seq) ∧ wx.cell? ⟨g1, (p - 1) * 7 + 5, none⟩ = some (.int .i64 v.kind) ∧ wx.cell? ⟨g1, (p - 1) * 7 + 6, none⟩ = some v.vv)) (by kernel_rfl) (KS.out _ D0) (fun hHeld => ?_)
                    refine wpAnyH_take (i := 0) (oi := { dst := some 154, op := Op.move (Operand.tmp 17), type := 26, pos := "law.go:333", after := #[], guard := none }) (v := ?_) rfl (by kernel_rfl) (by kernel_rfl) (by kernel_rfl) (fun _ _ _ h => h) (Or.inl ⟨by rfl, ?_⟩) (by assumption) ?_
                    rotate_left
                    · intro w hSw; (try dsimp only at hSw); go_simp; all_goals (with_reducible rfl)
                    try simp only [Act.put, List.setIfInBounds_toArray, List.set_cons_zero, List.set_cons_succ]
                    refine wpAnyH_take (i := 1) (oi := { dst := some 155, op := Op.binOp BinOp.neq 26 (Operand.tmp 154) (Operand.const (Value.int IntKind.i64 0)) 26, type := 4, pos := "law.go:333", after := #[{ on := 0, ground := Ground.data }], guard := none }) (v := ?_) rfl (by kernel_rfl) (by kernel_rfl) (by kernel_rfl) (fun _ _ _ h => h) (Or.inl ⟨by rfl, ?_⟩) (by assumption) ?_
                    rotate_left
                    · intro w hSw; (try dsimp only at hSw); go_simp; all_goals (with_reducible rfl)
                    try simp only [Act.put, List.setIfInBounds_toArray, List.set_cons_zero, List.set_cons_succ]
                    refine wpAnyH_take (i := 2) (oi := { dst := some 156, op := Op.move (Operand.tmp 155), type := 4, pos := "law.go:333", after := #[{ on := 1, ground := Ground.data }], guard := none }) (v := ?_) rfl (by kernel_rfl) (by kernel_rfl) (by kernel_rfl) (fun _ _ _ h => h) (Or.inl ⟨by rfl, ?_⟩) (by assumption) ?_
                    rotate_left
                    · intro w hSw; (try dsimp only at hSw); go_simp; all_goals (with_reducible rfl)
                    try simp only [Act.put, List.setIfInBounds_toArray, List.set_cons_zero, List.set_cons_succ]
                    refine wpAnyH_take (i := 3) (oi := { dst := some 157, op := Op.move (Operand.tmp 12), type := 22, pos := "law.go:333", after := #[{ on := 2, ground := Ground.guard }], guard := some (2, false) }) (v := ?_) rfl (by kernel_rfl) (by kernel_rfl) (by kernel_rfl) (fun _ _ _ h => h) (Or.inl ⟨by rfl, ?_⟩) (by assumption) ?_
                    rotate_left
                    · intro w hSw; (try dsimp only at hSw); go_simp; all_goals (with_reducible rfl)
                    try simp only [Act.put, List.setIfInBounds_toArray, List.set_cons_zero, List.set_cons_succ]
                    refine wpAnyH_take (i := 4) (oi := { dst := some 158, op := Op.move (Operand.tmp 15), type := 3, pos := "law.go:333", after := #[{ on := 2, ground := Ground.guard }], guard := some (2, false) }) (v := ?_) rfl (by kernel_rfl) (by kernel_rfl) (by kernel_rfl) (fun _ _ _ h => h) (Or.inl ⟨by rfl, ?_⟩) (by assumption) ?_
                    rotate_left
                    · intro w hSw; (try dsimp only at hSw); go_simp; all_goals (with_reducible rfl)
                    try simp only [Act.put, List.setIfInBounds_toArray, List.set_cons_zero, List.set_cons_succ]
                    refine wpAnyH_take (i := 5) (oi := { dst := some 159, op := Op.indexAddr 22 (Operand.tmp 157) (Operand.tmp 158), type := 0, pos := "law.go:333", after := #[{ on := 3, ground := Ground.data }, { on := 4, ground := Ground.data }, { on := 2, ground := Ground.guard }], guard := some (2, false) }) (v := ?_) rfl (by kernel_rfl) (by kernel_rfl) (by kernel_rfl) (fun _ _ _ h => h) (Or.inl ⟨by rfl, ?_⟩) (by assumption) ?_
                    rotate_left
                    · intro w hSw; (try dsimp only at hSw); go_simp; all_goals (with_reducible rfl)
                    try simp only [Act.put, List.setIfInBounds_toArray, List.set_cons_zero, List.set_cons_succ]
                    refine wpAnyH_take (i := 6) (oi := { dst := some 160, op := Op.load 30 (Operand.tmp 159), type := 30, pos := "law.go:333", after := #[{ on := 5, ground := Ground.data }, { on := 2, ground := Ground.guard }], guard := some (2, false) }) (v := ?_) rfl (by kernel_rfl) (by kernel_rfl) (by kernel_rfl) (fun _ _ _ h => h) (Or.inl ⟨by rfl, ?_⟩) (by assumption) ?_
                    rotate_left
                    · intro w hSw; (try dsimp only at hSw); go_simp; all_goals (with_reducible rfl)
                    try simp only [Act.put, List.setIfInBounds_toArray, List.set_cons_zero, List.set_cons_succ]
                    refine wpAnyH_take (i := 7) (oi := { dst := some 161, op := Op.move (Operand.tmp 13), type := 22, pos := "law.go:333", after := #[{ on := 2, ground := Ground.guard }], guard := some (2, false) }) (v := ?_) rfl (by kernel_rfl) (by kernel_rfl) (by kernel_rfl) (fun _ _ _ h => h) (Or.inl ⟨by rfl, ?_⟩) (by assumption) ?_
                    rotate_left
                    · intro w hSw; (try dsimp only at hSw); go_simp; all_goals (with_reducible rfl)
                    try simp only [Act.put, List.setIfInBounds_toArray, List.set_cons_zero, List.set_cons_succ]
                    refine wpAnyH_take (i := 8) (oi := { dst := some 162, op := Op.move (Operand.tmp 15), type := 3, pos := "law.go:333", after := #[{ on := 2, ground := Ground.guard }], guard := some (2, false) }) (v := ?_) rfl (by kernel_rfl) (by kernel_rfl) (by kernel_rfl) (fun _ _ _ h => h) (Or.inl ⟨by rfl, ?_⟩) (by assumption) ?_
                    rotate_left
                    · intro w hSw; (try dsimp only at hSw); go_simp; all_goals (with_reducible rfl)
                    try simp only [Act.put, List.setIfInBounds_toArray, List.set_cons_zero, List.set_cons_succ]
                    refine wpAnyH_take (i := 9) (oi := { dst := some 163, op := Op.indexAddr 22 (Operand.tmp 161) (Operand.tmp 162), type := 0, pos := "law.go:333", after := #[{ on := 7, ground := Ground.data }, { on := 8, ground := Ground.data }, { on := 2, ground := Ground.guard }], guard := some (2, false) }) (v := ?_) rfl (by kernel_rfl) (by kernel_rfl) (by kernel_rfl) (fun _ _ _ h => h) (Or.inl ⟨by rfl, ?_⟩) (by assumption) ?_
                    rotate_left
                    · intro w hSw; (try dsimp only at hSw); go_simp; all_goals (with_reducible rfl)
                    try simp only [Act.put, List.setIfInBounds_toArray, List.set_cons_zero, List.set_cons_succ]
                    refine wpAnyH_take (i := 10) (oi := { dst := some 164, op := Op.load 30 (Operand.tmp 163), type := 30, pos := "law.go:333", after := #[{ on := 9, ground := Ground.data }, { on := 2, ground := Ground.guard }], guard := some (2, false) }) (v := ?_) rfl (by kernel_rfl) (by kernel_rfl) (by kernel_rfl) (fun _ _ _ h => h) (Or.inl ⟨by rfl, ?_⟩) (by assumption) ?_
                    rotate_left
                    · intro w hSw; (try dsimp only at hSw); go_simp; all_goals (with_reducible rfl)
                    try simp only [Act.put, List.setIfInBounds_toArray, List.set_cons_zero, List.set_cons_succ]
                    refine wpAnyH_ready (rs := [11]) (by kernel_rfl) (by simp) ?_
                    refine AllReadyH.cons (o := { dst := some 165, op := Op.call { callee := Callee.value (Operand.func 12), args := #[Operand.tmp 160, Operand.tmp 164], argTypes := #[30, 30] }, type := 4, pos := "law.go:333", after := #[{ on := 6, ground := Ground.data }, { on := 10, ground := Ground.data }, { on := 2, ground := Ground.chain }, { on := 2, ground := Ground.guard }], guard := some (2, false) }) rfl (fun K hK => ?_) AllReadyH.nil
                    go_simp
                    refine Calls.mono (HSe.out _ D0) ?_
                    rintro e1 wk ⟨rfl, hbk⟩
                    have D1 := D0.trans (hbk.mono D0.size)
                    go_wp2_with fail
                    refine hK.out _ _ (KS.out _ D1) (fun hHeld => ?_)
                    clear hK K
                    try simp only [Act.put, List.setIfInBounds_toArray, List.set_cons_zero, List.set_cons_succ]
                    refine wpAnyH_take (i := 12) (oi := { dst := some 166, op := Op.unOp UnOp.not 4 (Operand.tmp 165), type := 4, pos := "law.go:333", after := #[{ on := 11, ground := Ground.data }, { on := 2, ground := Ground.guard }], guard := some (2, false) }) (v := ?_) rfl (by kernel_rfl) (by kernel_rfl) (by kernel_rfl) (fun _ _ _ h => h) (Or.inl ⟨by rfl, ?_⟩) (by assumption) ?_
                    rotate_left
                    · intro w hSw; (try dsimp only at hSw); go_simp; all_goals (with_reducible rfl)
                    try simp only [Act.put, List.setIfInBounds_toArray, List.set_cons_zero, List.set_cons_succ]
                    refine wpAnyH_take (i := 13) (oi := { dst := some 167, op := Op.pick (Operand.tmp 156) (Operand.const (Value.bool true)) (Operand.tmp 166), type := 4, pos := "law.go:333", after := #[{ on := 2, ground := Ground.data }, { on := 12, ground := Ground.data }], guard := none }) (v := ?_) rfl (by kernel_rfl) (by kernel_rfl) (by kernel_rfl) (fun _ _ _ h => h) (Or.inl ⟨by rfl, ?_⟩) (by assumption) ?_
                    rotate_left
                    · intro w hSw; (try dsimp only at hSw); go_simp; all_goals (with_reducible rfl)
                    try simp only [Act.put, List.setIfInBounds_toArray, List.set_cons_zero, List.set_cons_succ]
                    refine wpAnyH_take (i := 14) (oi := { dst := some 168, op := Op.move (Operand.tmp 167), type := 4, pos := "law.go:333", after := #[{ on := 13, ground := Ground.data }, { on := 11, ground := Ground.chain }], guard := none }) (v := ?_) rfl (by kernel_rfl) (by kernel_rfl) (by kernel_rfl) (fun _ _ _ h => h) (Or.inl ⟨by rfl, ?_⟩) (by assumption) ?_
                    rotate_left
                    · intro w hSw; (try dsimp only at hSw); go_simp; all_goals (with_reducible rfl)
                    try simp only [Act.put, List.setIfInBounds_toArray, List.set_cons_zero, List.set_cons_succ]
                    refine wpAnyH_take (i := 15) (oi := { dst := some 169, op := Op.move (Operand.tmp 15), type := 3, pos := "law.go:333", after := #[{ on := 14, ground := Ground.guard }], guard := some (14, false) }) (v := ?_) rfl (by kernel_rfl) (by kernel_rfl) (by kernel_rfl) (fun _ _ _ h => h) (Or.inl ⟨by rfl, ?_⟩) (by assumption) ?_
                    rotate_left
                    · intro w hSw; (try dsimp only at hSw); go_simp; all_goals (with_reducible rfl)
                    try simp only [Act.put, List.setIfInBounds_toArray, List.set_cons_zero, List.set_cons_succ]
                    refine wpAnyH_take (i := 16) (oi := { dst := some 170, op := Op.binOp BinOp.gtr 3 (Operand.tmp 169) (Operand.const (Value.int IntKind.i64 0)) 3, type := 4, pos := "law.go:333", after := #[{ on := 15, ground := Ground.data }, { on := 14, ground := Ground.guard }], guard := some (14, false) }) (v := ?_) rfl (by kernel_rfl) (by kernel_rfl) (by kernel_rfl) (fun _ _ _ h => h) (Or.inl ⟨by rfl, ?_⟩) (by assumption) ?_
                    rotate_left
                    · intro w hSw; (try dsimp only at hSw); go_simp; all_goals (with_reducible rfl)
                    try simp only [Act.put, List.setIfInBounds_toArray, List.set_cons_zero, List.set_cons_succ]
                    refine wpAnyH_take (i := 17) (oi := { dst := some 171, op := Op.move (Operand.tmp 170), type := 4, pos := "law.go:333", after := #[{ on := 16, ground := Ground.data }, { on := 14, ground := Ground.chain }, { on := 14, ground := Ground.guard }], guard := some (14, false) }) (v := ?_) rfl (by kernel_rfl) (by kernel_rfl) (by kernel_rfl) (fun _ _ _ h => h) (Or.inl ⟨by rfl, ?_⟩) (by assumption) ?_
                    rotate_left
                    · intro w hSw; (try dsimp only at hSw); go_simp; all_goals (with_reducible rfl)
                    try simp only [Act.put, List.setIfInBounds_toArray, List.set_cons_zero, List.set_cons_succ]
                    refine wpAnyH_take (i := 18) (oi := { dst := some 172, op := Op.move (Operand.tmp 12), type := 22, pos := "law.go:333", after := #[{ on := 17, ground := Ground.guard }], guard := some (17, true) }) (v := undef) rfl (by kernel_rfl) (by kernel_rfl) (by kernel_rfl) (fun _ _ _ h => h) (Or.inr ⟨by rfl, rfl⟩) (by assumption) ?_
                    try simp only [Act.put, List.setIfInBounds_toArray, List.set_cons_zero, List.set_cons_succ]
                    refine wpAnyH_take (i := 19) (oi := { dst := some 173, op := Op.move (Operand.tmp 15), type := 3, pos := "law.go:333", after := #[{ on := 17, ground := Ground.guard }], guard := some (17, true) }) (v := undef) rfl (by kernel_rfl) (by kernel_rfl) (by kernel_rfl) (fun _ _ _ h => h) (Or.inr ⟨by rfl, rfl⟩) (by assumption) ?_
                    try simp only [Act.put, List.setIfInBounds_toArray, List.set_cons_zero, List.set_cons_succ]
                    refine wpAnyH_take (i := 20) (oi := { dst := some 174, op := Op.binOp BinOp.sub 3 (Operand.tmp 173) (Operand.const (Value.int IntKind.i64 1)) 3, type := 3, pos := "law.go:333", after := #[{ on := 19, ground := Ground.data }, { on := 17, ground := Ground.guard }], guard := some (17, true) }) (v := undef) rfl (by kernel_rfl) (by kernel_rfl) (by kernel_rfl) (fun _ _ _ h => h) (Or.inr ⟨by rfl, rfl⟩) (by assumption) ?_
                    try simp only [Act.put, List.setIfInBounds_toArray, List.set_cons_zero, List.set_cons_succ]
                    refine wpAnyH_take (i := 21) (oi := { dst := some 175, op := Op.indexAddr 22 (Operand.tmp 172) (Operand.tmp 174), type := 0, pos := "law.go:333", after := #[{ on := 18, ground := Ground.data }, { on := 20, ground := Ground.data }, { on := 17, ground := Ground.guard }], guard := some (17, true) }) (v := undef) rfl (by kernel_rfl) (by kernel_rfl) (by kernel_rfl) (fun _ _ _ h => h) (Or.inr ⟨by rfl, rfl⟩) (by assumption) ?_
                    try simp only [Act.put, List.setIfInBounds_toArray, List.set_cons_zero, List.set_cons_succ]
                    refine wpAnyH_take (i := 22) (oi := { dst := some 176, op := Op.load 30 (Operand.tmp 175), type := 30, pos := "law.go:333", after := #[{ on := 21, ground := Ground.data }, { on := 17, ground := Ground.guard }], guard := some (17, true) }) (v := undef) rfl (by kernel_rfl) (by kernel_rfl) (by kernel_rfl) (fun _ _ _ h => h) (Or.inr ⟨by rfl, rfl⟩) (by assumption) ?_
                    try simp only [Act.put, List.setIfInBounds_toArray, List.set_cons_zero, List.set_cons_succ]
                    refine wpAnyH_take (i := 23) (oi := { dst := some 177, op := Op.move (Operand.tmp 12), type := 22, pos := "law.go:333", after := #[{ on := 17, ground := Ground.guard }], guard := some (17, true) }) (v := undef) rfl (by kernel_rfl) (by kernel_rfl) (by kernel_rfl) (fun _ _ _ h => h) (Or.inr ⟨by rfl, rfl⟩) (by assumption) ?_
                    try simp only [Act.put, List.setIfInBounds_toArray, List.set_cons_zero, List.set_cons_succ]
                    refine wpAnyH_take (i := 24) (oi := { dst := some 178, op := Op.move (Operand.tmp 15), type := 3, pos := "law.go:333", after := #[{ on := 17, ground := Ground.guard }], guard := some (17, true) }) (v := undef) rfl (by kernel_rfl) (by kernel_rfl) (by kernel_rfl) (fun _ _ _ h => h) (Or.inr ⟨by rfl, rfl⟩) (by assumption) ?_
                    try simp only [Act.put, List.setIfInBounds_toArray, List.set_cons_zero, List.set_cons_succ]
                    refine wpAnyH_take (i := 25) (oi := { dst := some 179, op := Op.indexAddr 22 (Operand.tmp 177) (Operand.tmp 178), type := 0, pos := "law.go:333", after := #[{ on := 23, ground := Ground.data }, { on := 24, ground := Ground.data }, { on := 17, ground := Ground.guard }], guard := some (17, true) }) (v := undef) rfl (by kernel_rfl) (by kernel_rfl) (by kernel_rfl) (fun _ _ _ h => h) (Or.inr ⟨by rfl, rfl⟩) (by assumption) ?_
                    try simp only [Act.put, List.setIfInBounds_toArray, List.set_cons_zero, List.set_cons_succ]
                    refine wpAnyH_take (i := 26) (oi := { dst := some 180, op := Op.load 30 (Operand.tmp 179), type := 30, pos := "law.go:333", after := #[{ on := 25, ground := Ground.data }, { on := 17, ground := Ground.guard }], guard := some (17, true) }) (v := undef) rfl (by kernel_rfl) (by kernel_rfl) (by kernel_rfl) (fun _ _ _ h => h) (Or.inr ⟨by rfl, rfl⟩) (by assumption) ?_
                    try simp only [Act.put, List.setIfInBounds_toArray, List.set_cons_zero, List.set_cons_succ]
                    refine wpAnyH_take (i := 27) (oi := { dst := some 181, op := Op.call { callee := Callee.value (Operand.func 18), args := #[Operand.tmp 176, Operand.tmp 180], argTypes := #[30, 30] }, type := 3, pos := "law.go:333", after := #[{ on := 22, ground := Ground.data }, { on := 26, ground := Ground.data }, { on := 17, ground := Ground.chain }, { on := 17, ground := Ground.guard }], guard := some (17, true) }) (v := undef) rfl (by kernel_rfl) (by kernel_rfl) (by kernel_rfl) (fun _ _ _ h => h) (Or.inr ⟨by rfl, rfl⟩) (by assumption) ?_
                    try simp only [Act.put, List.setIfInBounds_toArray, List.set_cons_zero, List.set_cons_succ]
                    refine wpAnyH_take (i := 28) (oi := { dst := some 182, op := Op.binOp BinOp.neq 3 (Operand.tmp 181) (Operand.const (Value.int IntKind.i64 (-1))) 3, type := 4, pos := "law.go:333", after := #[{ on := 27, ground := Ground.data }, { on := 17, ground := Ground.guard }], guard := some (17, true) }) (v := undef) rfl (by kernel_rfl) (by kernel_rfl) (by kernel_rfl) (fun _ _ _ h => h) (Or.inr ⟨by rfl, rfl⟩) (by assumption) ?_
                    try simp only [Act.put, List.setIfInBounds_toArray, List.set_cons_zero, List.set_cons_succ]
                    refine wpAnyH_take (i := 29) (oi := { dst := some 183, op := Op.pick (Operand.tmp 171) (Operand.tmp 182) (Operand.const (Value.bool false)), type := 4, pos := "law.go:333", after := #[{ on := 17, ground := Ground.data }, { on := 28, ground := Ground.data }, { on := 14, ground := Ground.guard }], guard := some (14, false) }) (v := ?_) rfl (by kernel_rfl) (by kernel_rfl) (by kernel_rfl) (fun _ _ _ h => h) (Or.inl ⟨by rfl, ?_⟩) (by assumption) ?_
                    rotate_left
                    · intro w hSw; (try dsimp only at hSw); go_simp; all_goals (with_reducible rfl)
                    try simp only [Act.put, List.setIfInBounds_toArray, List.set_cons_zero, List.set_cons_succ]
                    refine wpAnyH_take (i := 30) (oi := { dst := some 184, op := Op.pick (Operand.tmp 168) (Operand.const (Value.bool true)) (Operand.tmp 183), type := 4, pos := "law.go:333", after := #[{ on := 14, ground := Ground.data }, { on := 29, ground := Ground.data }], guard := none }) (v := ?_) rfl (by kernel_rfl) (by kernel_rfl) (by kernel_rfl) (fun _ _ _ h => h) (Or.inl ⟨by rfl, ?_⟩) (by assumption) ?_
                    rotate_left
                    · intro w hSw; (try dsimp only at hSw); go_simp; all_goals (with_reducible rfl)
                    try simp only [Act.put, List.setIfInBounds_toArray, List.set_cons_zero, List.set_cons_succ]
                    refine wpAnyH_done (by kernel_rfl) ?_ _
                    go_wp2
                    go_roundw
                    case rel => exact ⟨p + 1, by go_num, by omega, by rw [← HSS.out, ← HMm.out]; go_num, H5.out.later D1⟩
                    case measure => simp [intOf]; omega
                · have hpE : p = q := by omega
                  subst hpE
                  have hlast : pk (xs.take p) = pk La := by
                    have := HS.out.2.2.2.2.1
                    rw [← this, List.take_length]; exact HS.out.1
                  rw [hlast]
                  obtain ⟨p1, n1, ta1⟩ := HP.out.ta
                  go_wp2_with fail
                  refine (tbytes_any ta1).mono ?_
                  rintro z W9 ⟨rfl, rfl⟩
                  go_wp2
                  go_ret
                  exact ⟨rfl, HP.out.below⟩
end Go.Proofs.Ytnjopfdeapclhaa
