import Derived.Test.YtbheifelfeekmaaK08
import Derived.Test.YtbheifelfeekmaaRows
import Derived.ProofKit
import Derived.OpenShut
import Derived.Deep.DeepHandedRow
import Derived.Lib.LaidTab
import Derived.Deep.Slices
namespace Go.Proofs.Ytbheifelfeekmaa
open Go.RowKit Go.MapKept Go.Sort
set_option linter.unusedVariables false
set_option linter.unusedSimpArgs false
variable {w w' W X X' : World} {O O' O1 O2 : Nat → Prop} {dB cB : Nat} {d c : Dk4}
theorem FLs.same {B n : Nat} {v : Value} {l : List (PF × Value)} (h : FLs w B v n l) (k : ∀ i, B ≤ i → i < w.heap.size → w'.heap[i]? = w.heap[i]?) : FLs w' B v n l := by
  refine ⟨h.len, ⟨h.row.1, ?_⟩, fun x hx => (h.dat x hx).kept (fun q hq => ⟨k q ((h.dat x hx).blk q hq) ?_, (h.dat x hx).blk q hq⟩)⟩
  · rcases h.row.2 with h2 | ⟨q, cap, cur, h3, h4, h5, h6⟩
    · exact .inl h2
    · exact .inr ⟨q, cap, cur, h3, h4, by rw [k q h4 (Array.getElem?_eq_some_iff.1 h5).1]; exact h5, h6⟩
  · obtain ⟨cur, ht⟩ := (h.dat x hx).typ hq
    exact (Array.getElem?_eq_some_iff.1 ht).1
theorem files_rd (hD : Dsk w O dB d) : Calls Try.prog 22 #[.pointer (some ⟨dB, 0, none⟩)] w fun e w' => ∃ a n k l, e = .returned (.slice a n k) ∧ l.map (·.1) = filesP d ∧ Below w.heap.size w w' ∧ n = l.length ∧ RdF4 w' a k l ∧ n ≤ 256 ∧ ∀ x ∈ l, x.1.2.1.length ≤ 67108864 := by
  refine (files_any hD).mono ?_
  rintro e w' ⟨a, n, k, l, rfl, h1, h2, h3⟩
  have h4 := h1.rdF h2 hD.1
  exact ⟨a, n, k, l, rfl, h2, h3, h4.1, h4.2.1, h4.2.2.1, h4.2.2.2⟩
theorem FLs.small {B n k : Nat} {a : Option Addr} {l : List (PF × Value)} {l0 : List (PF × Value)} (h : FLs w B (.slice a n k) n l) (hl : l.map (·.1) = l0.map (·.1)) (hs : ∀ x ∈ l0, x.1.2.1.length ≤ 67108864) : n = l.length ∧ RdF4 w a k l := by
  refine h.rd (fun x hx => ?_)
  have hm : x.1 ∈ l0.map (·.1) := by rw [← hl]; exact List.mem_map.2 ⟨x, hx, rfl⟩
  obtain ⟨y, hy, e⟩ := List.mem_map.1 hm
  have := hs y hy
  rw [← e]
  omega
structure Idle (w X : World) (O : Nat → Prop) (dB : Nat) (d : Dk4) (A B : Nat) (S : World) : Prop where
  mad : Mad w X O dB d
  fr : ∀ i, A ≤ i → i < B → X.heap[i]? = S.heap[i]?
  own : ∀ i, O i → i < A ∨ B ≤ i
  size : B ≤ X.heap.size
theorem Idle.later {A B : Nat} {S : World} (h : Idle w X O dB d A B S) (b : Below X.heap.size X X') : Idle w X' O dB d A B S :=
  ⟨h.mad.later b, fun i h1 h2 => (b.block i (Nat.lt_of_lt_of_le h2 h.size)).trans (h.fr i h1 h2), h.own, Nat.le_trans h.size b.size⟩
theorem Idle.step {A B : Nat} {S : World} {r : Int × Dk4} {e : Ending} (h : Idle w X O dB d A B S) (k : AnsD X O dB r e X') : e = .returned (.int .i64 r.1) ∧ ∃ O', Idle w X' O' dB r.2 A B S := by
  obtain ⟨h1, O2, h2, h3⟩ := k
  refine ⟨h1, O2, ⟨h2, h.mad.bel.trans (h3.below h.mad.bel.size h.mad.own), fun i hi => (h3.new i hi).elim (h.mad.own i) (fun q => Nat.le_trans h.mad.bel.size q)⟩, fun i p q => ?_, fun i hi => ?_, Nat.le_trans h.size h3.size⟩
  · refine (h3.block i (Nat.lt_of_lt_of_le q h.size) (fun z => ?_)).trans (h.fr i p q)
    rcases h.own i z with y | y <;> omega
  · rcases h3.new i hi with z | z
    · exact h.own i z
    · exact .inr (Nat.le_trans h.size z)
set_option maxRecDepth 100000 in
set_option maxHeartbeats 8000000 in
theorem diskStops_walk {aA : Option Addr} {nA kA : Nat} {acts : List DidD} {n : Int} (hA : nA = acts.length) (hr : RdDid w aA kA acts) :
    Calls Try.prog 5 #[.slice aA nA kA, .int .i64 n] w fun e w' => e = .returned (.bool true) ∧ Below w.heap.size w w' := by
  have hax : nA ≤ 9223372036854775807 := by have := hr.cap; unfold maxLen at this; omega
  have HA := Lib.hid hA
  have HR := Lib.hid hr
  have HMADE := fun W => Lib.hid (made_any (n := 4096) (by decide) (by decide) W)
  clear hA hr
  go_enter Try.func5, Try.ntmps5
  go_upto_region 1 with fail
  go_cut [22] from 17 (fun s wc => ∃ b : Bool, s = .bool b ∧ (b = false → 1 ≤ n ∧ n ≤ 200) ∧ wc = w)
  case first =>
    by_cases h1 : n < 1
    · go_wp2_with fail
      go_meet
      case rel => exact ⟨true, rfl, by simp, rfl⟩
    · by_cases h2 : (200 : Int) < n
      · go_wp2_with fail
        go_meet
        case rel => exact ⟨true, rfl, by simp, rfl⟩
      · go_wp2_with fail
        go_meet
        case rel => exact ⟨false, rfl, fun _ => ⟨by omega, by omega⟩, rfl⟩
  case rest =>
    obtain ⟨b, rfl, hb, rfl⟩ := hcut
    go_upto_if 22 with fail
    go_cut [1] from 17 (fun s wx => ∃ N : Nat, 1 ≤ N ∧ N ≤ 200 ∧ s = .int .i64 (N : Int) ∧ wx = wc)
    case first =>
      cases b with
      | true =>
        go_wp2_with fail
        go_meet
        case rel => exact ⟨3, by omega, by omega, rfl, rfl⟩
      | false =>
        obtain ⟨q1, q2⟩ := hb rfl
        go_wp2_with fail
        go_meet
        case rel => exact ⟨n.toNat, by omega, by omega, by rw [Int.toNat_of_nonneg (by omega)], rfl⟩
    case rest =>
      obtain ⟨N, hN1, hN2, rfl, rfl⟩ := hcut
      clear hb
      go_wp2_with fail
      refine (HMADE _).out.mono ?_
      rintro e w1 ⟨O1, dB, c1, rfl, m1⟩
      have M1 := Lib.hid m1
      clear m1
      go_wp2_with fail
      refine (HMADE _).out.mono ?_
      rintro e w2 ⟨O2, cB, c2, rfl, m2⟩
      have T0 := Lib.hid (Two.new M1.out m2)
      clear m2
      go_wp2_with fail
      refine (arm_any T0.out.l.dsk (N : Int) (by omega)).mono ?_
      rintro e w3 ⟨rfl, d3, g3⟩
      have T1 := Lib.hid (T0.out.goL d3 g3)
      clear d3 g3
      go_wp2_with fail
      go_loopw [6, 7, 8] (fun cv kv i wr => ∃ (t k : Nat) (O1 O2 : Nat → Prop) (d c : Dk4), t ≤ nA ∧ i = .int .i64 (t : Int) ∧ kv = .int .i64 (k : Int) ∧ k < N ∧ cv = .pointer (some ⟨cB, 0, none⟩) ∧ Two wc wr O1 O2 dB cB d c ∧ Like d c ∧ d.arm = (N : Int) - (k : Int)) (fun _ _ i _ => nA - (intOf i).toNat)
      case atStart => exact ⟨0, 0, O1, O2, _, _, Nat.zero_le _, rfl, rfl, by omega, rfl, T1.out, ⟨rfl, rfl, rfl, rfl, rfl⟩, by unfold armD; simp <;> omega⟩
      case round =>
        obtain ⟨t, k, O1, O2, d, c, ht, rfl, rfl, hk, rfl, htwo, hlike, harm⟩ := hrel
        have HT := Lib.hid (And.intro htwo (And.intro hlike harm))
        clear htwo hlike harm
        have hdd := HT.out.2.1.2.2.1
        by_cases hlt : t < nA
        · have j1 : (t : Int) < (nA : Int) := by omega
          have j2 : (0 : Int) ≤ (t : Int) := by omega
          skip
          have hx : ∃ x, acts[t]? = some x := ⟨_, List.getElem?_eq_getElem (by rw [← HA.out]; exact hlt)⟩
          obtain ⟨x, hx⟩ := hx
          have hcx := HR.out.cel t x hx
          obtain ⟨g, hcx⟩ := hcx
          obtain ⟨off, hcx⟩ := hcx
          have hag := hcx.1
          subst hag
          have lg := World.block_lt_of_cell? _ _ hcx.2.1
          simp only at lg
          have HCX := Lib.hid hcx.2
          have HDX := Lib.hid (HR.out.dat x (List.mem_of_getElem? hx))
          clear hcx hx
          have hrd : ∃ rd, rd = actD d x.kind x.file x.too x.bs := ⟨_, rfl⟩
          obtain ⟨rd, hrd⟩ := hrd
          have hrc : ∃ rc, rc = actD c x.kind x.file x.too x.bs := ⟨_, rfl⟩
          obtain ⟨rc, hrc⟩ := hrc
          obtain ⟨re, d'⟩ := rd
          obtain ⟨rf, c'⟩ := rc
          have HOUT := Lib.hid (fun hk => act_out (kind := x.kind) (file := x.file) (too := x.too) (bs := x.bs) HT.out.2.1 hk)
          have HNON := Lib.hid (fun hk => act_none (kind := x.kind) (file := x.file) (too := x.too) (bs := x.bs) (d := d) hk)
          have HAD := Lib.hid (act_any (kind := x.kind) (file := x.file) (too := x.too) HT.out.1.l.dsk (HDX.out.mad HT.out.1.l))
          rw [← hrd] at HOUT HNON HAD
          rw [← hrc] at HOUT
          have HRC := Lib.hid hrc
          clear hrd hrc
          have HDW := Lib.hid (down_any HT.out.1.l.dsk)
          rw [hdd] at HDW
          go_wp2_with fail
          refine HDW.out.mono ?_
          rintro e w4 ⟨rfl, rfl⟩
          have q0 := (HT.out.1.l.bel.cell (p := ⟨g, off + t * 4, none⟩) lg).trans HCX.out.1
          have q1 := (HT.out.1.l.bel.cell (p := ⟨g, off + t * 4 + 1, none⟩) lg).trans HCX.out.2.1
          have q2 := (HT.out.1.l.bel.cell (p := ⟨g, off + t * 4 + 2, none⟩) lg).trans HCX.out.2.2.1
          have q3 := (HT.out.1.l.bel.cell (p := ⟨g, off + t * 4 + 3, none⟩) lg).trans HCX.out.2.2.2
          clear HDW
          go_wp2_with fail
          refine HAD.out.mono ?_
          intro e w5 hans
          have hst := HT.out.1.left hans
          simp only at hst
          have he := hst.1
          have hst2 := hst.2
          obtain ⟨O5, t5⟩ := hst2
          subst he
          have T5 := Lib.hid t5
          clear hans hst t5 q0 q1 q2 q3 HAD
          have q0 := (T5.out.l.bel.cell (p := ⟨g, off + t * 4, none⟩) lg).trans HCX.out.1
          by_cases hk1 : x.kind < 1
          · have hz := HNON.out (by omega)
            have HZ := Lib.hid hz
            clear hz
            go_wp2
            go_roundw
            case rel =>
              have hz := HZ.out
              simp only [Prod.mk.injEq] at hz
              obtain ⟨_, rfl⟩ := hz
              exact ⟨t + 1, k, O5, O2, _, c, by omega, by go_num, rfl, hk, rfl, T5.out, HT.out.2.1, HT.out.2.2⟩
            case measure => simp [intOf]; omega
          by_cases hk5 : 5 < x.kind
          · have hz := HNON.out (by omega)
            have HZ := Lib.hid hz
            clear hz
            go_wp2
            go_roundw
            case rel =>
              have hz := HZ.out
              simp only [Prod.mk.injEq] at hz
              obtain ⟨_, rfl⟩ := hz
              exact ⟨t + 1, k, O5, O2, _, c, by omega, by go_num, rfl, hk, rfl, T5.out, HT.out.2.1, HT.out.2.2⟩
            case measure => simp [intOf]; omega
          have hout := HOUT.out ⟨by omega, by omega⟩
          have HO := Lib.hid hout
          clear hout
          go_wp2_with fail
          refine (files_rd T5.out.r.dsk).mono ?_
          rintro e w6 ⟨a1, n1, k1, l1, rfl, f1, b6, r1⟩
          have T6 := Lib.hid (T5.out.later b6)
          have HF1 := Lib.hid (And.intro f1 r1)
          clear f1 b6 r1 q0
          go_wp2_with fail
          refine (copied_any HF1.out.2.2.1 HF1.out.2.1 HF1.out.2.2.2.1 HF1.out.2.2.2.2).mono ?_
          rintro e w7 ⟨a2, n2, k2, l2, rfl, fl2, m2, b7⟩
          have T7 := Lib.hid (T6.out.later b7)
          have HL2 := Lib.hid (And.intro fl2 m2)
          have HB6 := Lib.hid (fun i (hi : O2 i) => T6.out.r.dsk.lt i hi)
          clear fl2 m2 b7
          have q0 := (T7.out.l.bel.cell (p := ⟨g, off + t * 4, none⟩) lg).trans HCX.out.1
          have q1 := (T7.out.l.bel.cell (p := ⟨g, off + t * 4 + 1, none⟩) lg).trans HCX.out.2.1
          have q2 := (T7.out.l.bel.cell (p := ⟨g, off + t * 4 + 2, none⟩) lg).trans HCX.out.2.2.1
          have q3 := (T7.out.l.bel.cell (p := ⟨g, off + t * 4 + 3, none⟩) lg).trans HCX.out.2.2.2
          have HAC := Lib.hid (act_any (kind := x.kind) (file := x.file) (too := x.too) T7.out.r.dsk (HDX.out.mad T7.out.r))
          rw [← HRC.out] at HAC
          go_wp2_with fail
          refine HAC.out.mono ?_
          intro e w8 hans
          have hst := T7.out.right hans
          simp only at hst
          have he := hst.1
          have hst2 := hst.2
          obtain ⟨O8, hst2⟩ := hst2
          have t8 := hst2.1
          have fl8 := HL2.out.1.go hst2.2 HB6.out
          subst he
          have T8 := Lib.hid t8
          have HL8 := Lib.hid fl8
          clear hans hst hst2 t8 fl8 q0 q1 q2 q3 HAC
          go_wp2_with fail
          refine (num_any _ _).mono ?_
          rintro e w9 ⟨rfl, rfl⟩
          have hout := HO.out
          unfold Out at hout
          simp only at hout
          rcases hout with hout | hout
          · have h1 := hout.1
            have h2 := hout.2.1
            have h3 := hout.2.2
            simp only [Prod.mk.injEq, true_and] at h2 h3
            obtain ⟨rfl, rfl⟩ := h2
            subst h3
            clear hout HO HOUT HNON
            have HDW := Lib.hid (down_any T8.out.l.dsk)
            rw [hdd] at HDW
            go_wp2_with fail
            refine (num_any _ _).mono ?_
            rintro e w10 ⟨rfl, rfl⟩
            go_wp2_with fail
            refine (num_any _ _).mono ?_
            rintro e w11 ⟨rfl, rfl⟩
            go_wp2_with fail
            refine HDW.out.mono ?_
            rintro e w12 ⟨rfl, rfl⟩
            go_wp2
            go_roundw
            case rel => exact ⟨t + 1, k, O5, O8, _, _, by omega, by go_num, rfl, hk, rfl, T8.out, HT.out.2.1, HT.out.2.2⟩
            case measure => simp [intOf]; omega
          have h0 := hout.1
          subst h0
          have ho := hout.2.2.2.2
          have HC' := Lib.hid (And.intro hout.2.1 (And.intro hout.2.2.1 hout.2.2.2.1))
          clear hout HO HOUT HNON
          rcases ho with ho | ho
          · have h1 := ho.1
            have h2 := ho.2.1
            subst h2
            have h3 := ho.2.2.1
            have h4 := ho.2.2.2
            have HD' := Lib.hid (And.intro h3 h4)
            have hkN : ¬ ((k : Int) + 1 < (N : Int)) := by have := HT.out.2.2; omega
            clear ho h1 h3 h4
            by_cases hk2 : x.kind = 2
            · have q0 := (T8.out.l.bel.cell (p := ⟨g, off + t * 4, none⟩) lg).trans HCX.out.1
              rw [hk2] at q0
              go_wp2_with fail
              refine (files_rd T8.out.r.dsk).mono ?_
              rintro e w10 ⟨aw, nw, kw, lw, rfl, fw, b10, rw_⟩
              have TT := Lib.hid (T8.out.later b10)
              have HWANT := Lib.hid (And.intro (fw.trans (filesP_eq (c := d') (by rw [HD'.out.2, if_pos (by simp [hk2])]))) (And.intro rw_.1 rw_.2.1))
              clear fw b10 rw_ q0
              have HDW := Lib.hid (down_any TT.out.l.dsk)
              rw [HD'.out.1] at HDW
              go_wp2_with fail
              refine (num_any _ _).mono ?_
              rintro e w20 ⟨rfl, rfl⟩
              go_wp2_with fail
              refine HDW.out.mono ?_
              rintro e w21 ⟨rfl, rfl⟩
              clear HDW
              go_wp2_with fail
              refine (files_rd TT.out.l.dsk).mono ?_
              rintro e w22 ⟨a4, n4, k4, l4, rfl, f4, b22, r4⟩
              have T22 := Lib.hid (TT.out.later b22)
              have HF4 := Lib.hid (And.intro f4 r4)
              have HW2 := Lib.hid (HWANT.out.2.2.later b22)
              clear f4 b22 r4
              go_wp2_with fail
              refine (sameFiles_any HF4.out.2.2.1 HW2.out HF4.out.2.1 HWANT.out.2.1).mono ?_
              rintro e w23 ⟨rfl, b23⟩
              have heq : decide (l4.map (·.1) = lw.map (·.1)) = true := by rw [HF4.out.1, HWANT.out.1]; exact decide_eq_true rfl
              rw [heq]
              have T23 := Lib.hid (T22.out.later b23)
              clear b23 heq HW2 HF4
              go_wp2_with fail
              refine (files_rd T23.out.l.dsk).mono ?_
              rintro e w24 ⟨a5, n5, k5, l5, rfl, f5, b24, r5⟩
              have T24 := Lib.hid (T23.out.later b24)
              have HF5 := Lib.hid (And.intro f5 r5)
              clear f5 b24 r5
              go_wp2_with fail
              refine (copied_any HF5.out.2.2.1 HF5.out.2.1 HF5.out.2.2.2.1 HF5.out.2.2.2.2).mono ?_
              rintro e wS ⟨a6, n6, k6, l6, rfl, fl6, m6, b25⟩
              have T25 := Lib.hid (Idle.mk (S := wS) (T24.out.later b25).l (fun _ _ _ => rfl) (fun i hi => .inl (T24.out.l.dsk.lt i hi)) (Nat.le_refl _))
              have HL6 := Lib.hid (And.intro fl6 m6)
              clear fl6 m6 b25
              go_wp2_with fail
              go_loopw [14] (fun j wy => ∃ (s : Nat) (O' : Nat → Prop), t + 1 ≤ s ∧ s ≤ nA ∧ j = .int .i64 (s : Int) ∧ Idle wc wy O' dB d' w24.heap.size wS.heap.size wS) (fun j _ => nA - (intOf j).toNat)
              case atStart => exact ⟨t + 1, O5, Nat.le_refl _, by omega, by go_num, T25.out⟩
              case round =>
                obtain ⟨s, O', hs1, hs2, rfl, hm⟩ := hrel
                have HM := Lib.hid hm
                clear hm
                by_cases hlt2 : s < nA
                · have j3 : (s : Int) < (nA : Int) := by omega
                  have j4 : (0 : Int) ≤ (s : Int) := by omega
                  have hx : ∃ y, acts[s]? = some y := ⟨_, List.getElem?_eq_getElem (by rw [← HA.out]; exact hlt2)⟩
                  obtain ⟨y, hx⟩ := hx
                  have hcx := HR.out.cel s y hx
                  obtain ⟨gy, hcx⟩ := hcx
                  obtain ⟨offy, hcx⟩ := hcx
                  have hag := hcx.1
                  simp only [Option.some.injEq, Addr.mk.injEq, and_true] at hag
                  obtain ⟨rfl, rfl⟩ := hag
                  have HCY := Lib.hid hcx.2
                  have HDY := Lib.hid (HR.out.dat y (List.mem_of_getElem? hx))
                  clear hcx hx
                  have q0 := (HM.out.mad.bel.cell (p := ⟨g, off + s * 4, none⟩) lg).trans HCY.out.1
                  by_cases hy1 : y.kind < 1
                  · go_wp2
                    go_roundw
                    case rel => exact ⟨s + 1, O', by omega, by omega, by go_num, HM.out⟩
                    case measure => simp [intOf]; omega
                  by_cases hy5 : 5 < y.kind
                  · go_wp2
                    go_roundw
                    case rel => exact ⟨s + 1, O', by omega, by omega, by go_num, HM.out⟩
                    case measure => simp [intOf]; omega
                  have q1 := (HM.out.mad.bel.cell (p := ⟨g, off + s * 4 + 1, none⟩) lg).trans HCY.out.2.1
                  have q2 := (HM.out.mad.bel.cell (p := ⟨g, off + s * 4 + 2, none⟩) lg).trans HCY.out.2.2.1
                  have q3 := (HM.out.mad.bel.cell (p := ⟨g, off + s * 4 + 3, none⟩) lg).trans HCY.out.2.2.2
                  have HAY := Lib.hid (act_any (kind := y.kind) (file := y.file) (too := y.too) HM.out.mad.dsk (HDY.out.mad HM.out.mad))
                  have HDD := Lib.hid (act_down (kind := y.kind) (file := y.file) (too := y.too) (bs := y.bs) HD'.out.1)
                  go_wp2_with fail
                  refine HAY.out.mono ?_
                  intro e wz hans
                  have hst := HM.out.step hans
                  rw [HDD.out.1, HDD.out.2 ⟨by omega, by omega⟩] at hst
                  have he := hst.1
                  have hst2 := hst.2
                  obtain ⟨O9, t9⟩ := hst2
                  subst he
                  have T9 := Lib.hid t9
                  clear hans hst t9 q0 q1 q2 q3 HAY
                  go_wp2_with fail
                  refine (num_any _ _).mono ?_
                  rintro e w30 ⟨rfl, rfl⟩
                  go_wp2
                  go_roundw
                  case rel => exact ⟨s + 1, O9, by omega, by omega, by go_num, T9.out⟩
                  case measure => simp [intOf]; omega
                · have j3 : (nA : Int) ≤ (s : Int) := by omega
                  have HLT := Lib.hid hlt2
                  clear hlt2
                  go_wp2_with fail
                  refine (name4_any 0 _).mono ?_
                  rintro e w30 ⟨rfl, b30⟩
                  have M30 := Lib.hid (HM.out.later b30)
                  clear b30
                  go_wp2_with fail
                  refine (read_down M30.out.mad.dsk HD'.out.1 0 0).mono ?_
                  rintro e w31 ⟨rfl, b31⟩
                  have M31 := Lib.hid (M30.out.later b31)
                  clear b31
                  go_wp2_with fail
                  refine (num_any _ _).mono ?_
                  rintro e w32 ⟨rfl, rfl⟩
                  go_wp2_with fail
                  refine (files_rd M31.out.mad.dsk).mono ?_
                  rintro e w33 ⟨a7, n7, k7, l7, rfl, f7, b33, r7⟩
                  have M33 := Lib.hid (M31.out.later b33)
                  have HF7 := Lib.hid (And.intro f7 r7)
                  clear f7 b33 r7
                  have hfs := (HL6.out.1.same M33.out.fr).small HL6.out.2 HF5.out.2.2.2.2
                  have HFS := Lib.hid hfs
                  clear hfs
                  go_wp2_with fail
                  refine (sameFiles_any HF7.out.2.2.1 HFS.out.2 HF7.out.2.1 HFS.out.1).mono ?_
                  rintro e w34 ⟨rfl, b34⟩
                  have heq : decide (l7.map (·.1) = l6.map (·.1)) = true := by rw [HF7.out.1, HL6.out.2, HF5.out.1]; exact decide_eq_true rfl
                  rw [heq]
                  have M34 := Lib.hid (M33.out.later b34)
                  clear b34 heq
                  go_wp2
                  go_ret
                  exact ⟨by simp, M34.out.mad.bel⟩
            · have q0 := (T8.out.l.bel.cell (p := ⟨g, off + t * 4, none⟩) lg).trans HCX.out.1
              have TT := Lib.hid T8.out
              have hsm := HL8.out.small HL2.out.2 HF1.out.2.2.2.2
              have HWANT := Lib.hid (And.intro ((HL2.out.2.trans HF1.out.1).trans (filesP_eq (c := d') (by rw [HD'.out.2, if_neg (by simp [hk2])]))) hsm)
              clear hsm
              have HDW := Lib.hid (down_any TT.out.l.dsk)
              rw [HD'.out.1] at HDW
              go_wp2_with fail
              refine (num_any _ _).mono ?_
              rintro e w20 ⟨rfl, rfl⟩
              go_wp2_with fail
              refine HDW.out.mono ?_
              rintro e w21 ⟨rfl, rfl⟩
              clear HDW
              go_wp2_with fail
              refine (files_rd TT.out.l.dsk).mono ?_
              rintro e w22 ⟨a4, n4, k4, l4, rfl, f4, b22, r4⟩
              have T22 := Lib.hid (TT.out.later b22)
              have HF4 := Lib.hid (And.intro f4 r4)
              have HW2 := Lib.hid (HWANT.out.2.2.later b22)
              clear f4 b22 r4
              go_wp2_with fail
              refine (sameFiles_any HF4.out.2.2.1 HW2.out HF4.out.2.1 HWANT.out.2.1).mono ?_
              rintro e w23 ⟨rfl, b23⟩
              have heq : decide (l4.map (·.1) = l2.map (·.1)) = true := by rw [HF4.out.1, HWANT.out.1]; exact decide_eq_true rfl
              rw [heq]
              have T23 := Lib.hid (T22.out.later b23)
              clear b23 heq HW2 HF4
              go_wp2_with fail
              refine (files_rd T23.out.l.dsk).mono ?_
              rintro e w24 ⟨a5, n5, k5, l5, rfl, f5, b24, r5⟩
              have T24 := Lib.hid (T23.out.later b24)
              have HF5 := Lib.hid (And.intro f5 r5)
              clear f5 b24 r5
              go_wp2_with fail
              refine (copied_any HF5.out.2.2.1 HF5.out.2.1 HF5.out.2.2.2.1 HF5.out.2.2.2.2).mono ?_
              rintro e wS ⟨a6, n6, k6, l6, rfl, fl6, m6, b25⟩
              have T25 := Lib.hid (Idle.mk (S := wS) (T24.out.later b25).l (fun _ _ _ => rfl) (fun i hi => .inl (T24.out.l.dsk.lt i hi)) (Nat.le_refl _))
              have HL6 := Lib.hid (And.intro fl6 m6)
              clear fl6 m6 b25
              go_wp2_with fail
              go_loopw [14] (fun j wy => ∃ (s : Nat) (O' : Nat → Prop), t + 1 ≤ s ∧ s ≤ nA ∧ j = .int .i64 (s : Int) ∧ Idle wc wy O' dB d' w24.heap.size wS.heap.size wS) (fun j _ => nA - (intOf j).toNat)
              case atStart => exact ⟨t + 1, O5, Nat.le_refl _, by omega, by go_num, T25.out⟩
              case round =>
                obtain ⟨s, O', hs1, hs2, rfl, hm⟩ := hrel
                have HM := Lib.hid hm
                clear hm
                by_cases hlt2 : s < nA
                · have j3 : (s : Int) < (nA : Int) := by omega
                  have j4 : (0 : Int) ≤ (s : Int) := by omega
                  have hx : ∃ y, acts[s]? = some y := ⟨_, List.getElem?_eq_getElem (by rw [← HA.out]; exact hlt2)⟩
                  obtain ⟨y, hx⟩ := hx
                  have hcx := HR.out.cel s y hx
                  obtain ⟨gy, hcx⟩ := hcx
                  obtain ⟨offy, hcx⟩ := hcx
                  have hag := hcx.1
                  simp only [Option.some.injEq, Addr.mk.injEq, and_true] at hag
                  obtain ⟨rfl, rfl⟩ := hag
                  have HCY := Lib.hid hcx.2
                  have HDY := Lib.hid (HR.out.dat y (List.mem_of_getElem? hx))
                  clear hcx hx
                  have q0 := (HM.out.mad.bel.cell (p := ⟨g, off + s * 4, none⟩) lg).trans HCY.out.1
                  by_cases hy1 : y.kind < 1
                  · go_wp2
                    go_roundw
                    case rel => exact ⟨s + 1, O', by omega, by omega, by go_num, HM.out⟩
                    case measure => simp [intOf]; omega
                  by_cases hy5 : 5 < y.kind
                  · go_wp2
                    go_roundw
                    case rel => exact ⟨s + 1, O', by omega, by omega, by go_num, HM.out⟩
                    case measure => simp [intOf]; omega
                  have q1 := (HM.out.mad.bel.cell (p := ⟨g, off + s * 4 + 1, none⟩) lg).trans HCY.out.2.1
                  have q2 := (HM.out.mad.bel.cell (p := ⟨g, off + s * 4 + 2, none⟩) lg).trans HCY.out.2.2.1
                  have q3 := (HM.out.mad.bel.cell (p := ⟨g, off + s * 4 + 3, none⟩) lg).trans HCY.out.2.2.2
                  have HAY := Lib.hid (act_any (kind := y.kind) (file := y.file) (too := y.too) HM.out.mad.dsk (HDY.out.mad HM.out.mad))
                  have HDD := Lib.hid (act_down (kind := y.kind) (file := y.file) (too := y.too) (bs := y.bs) HD'.out.1)
                  go_wp2_with fail
                  refine HAY.out.mono ?_
                  intro e wz hans
                  have hst := HM.out.step hans
                  rw [HDD.out.1, HDD.out.2 ⟨by omega, by omega⟩] at hst
                  have he := hst.1
                  have hst2 := hst.2
                  obtain ⟨O9, t9⟩ := hst2
                  subst he
                  have T9 := Lib.hid t9
                  clear hans hst t9 q0 q1 q2 q3 HAY
                  go_wp2_with fail
                  refine (num_any _ _).mono ?_
                  rintro e w30 ⟨rfl, rfl⟩
                  go_wp2
                  go_roundw
                  case rel => exact ⟨s + 1, O9, by omega, by omega, by go_num, T9.out⟩
                  case measure => simp [intOf]; omega
                · have j3 : (nA : Int) ≤ (s : Int) := by omega
                  have HLT := Lib.hid hlt2
                  clear hlt2
                  go_wp2_with fail
                  refine (name4_any 0 _).mono ?_
                  rintro e w30 ⟨rfl, b30⟩
                  have M30 := Lib.hid (HM.out.later b30)
                  clear b30
                  go_wp2_with fail
                  refine (read_down M30.out.mad.dsk HD'.out.1 0 0).mono ?_
                  rintro e w31 ⟨rfl, b31⟩
                  have M31 := Lib.hid (M30.out.later b31)
                  clear b31
                  go_wp2_with fail
                  refine (num_any _ _).mono ?_
                  rintro e w32 ⟨rfl, rfl⟩
                  go_wp2_with fail
                  refine (files_rd M31.out.mad.dsk).mono ?_
                  rintro e w33 ⟨a7, n7, k7, l7, rfl, f7, b33, r7⟩
                  have M33 := Lib.hid (M31.out.later b33)
                  have HF7 := Lib.hid (And.intro f7 r7)
                  clear f7 b33 r7
                  have hfs := (HL6.out.1.same M33.out.fr).small HL6.out.2 HF5.out.2.2.2.2
                  have HFS := Lib.hid hfs
                  clear hfs
                  go_wp2_with fail
                  refine (sameFiles_any HF7.out.2.2.1 HFS.out.2 HF7.out.2.1 HFS.out.1).mono ?_
                  rintro e w34 ⟨rfl, b34⟩
                  have heq : decide (l7.map (·.1) = l6.map (·.1)) = true := by rw [HF7.out.1, HL6.out.2, HF5.out.1]; exact decide_eq_true rfl
                  rw [heq]
                  have M34 := Lib.hid (M33.out.later b34)
                  clear b34 heq
                  go_wp2
                  go_ret
                  exact ⟨by simp, M34.out.mad.bel⟩
          · have h1 := ho.1
            have h2 := ho.2.1
            subst h2
            have h3 := ho.2.2.1
            have h5 := ho.2.2.2.2.2
            have HD' := Lib.hid ho.2.2.2
            have hkN : (k : Int) + 1 < (N : Int) := by have := HT.out.2.2; omega
            have HDW := Lib.hid (down_any T8.out.l.dsk)
            rw [h3] at HDW
            have H3 := Lib.hid h3
            have H1 := Lib.hid h1
            clear ho h5 h3 h1
            go_wp2_with fail
            refine (num_any _ _).mono ?_
            rintro e w10 ⟨rfl, rfl⟩
            go_wp2_with fail
            refine HDW.out.mono ?_
            rintro e w11 ⟨rfl, rfl⟩
            go_wp2
            go_roundw
            case rel =>
              refine ⟨t + 1, k + 1, O5, O8, d', c', by omega, by go_num, by go_num, by omega, rfl, T8.out, ⟨HD'.out.1, by rw [HD'.out.2.1, HC'.out.2.2], H3.out, HC'.out.2.1, HC'.out.1⟩, ?_⟩
              rw [HD'.out.2.2]
              have := HT.out.2.2
              rw [if_pos (by omega)]
              omega
            case measure => simp [intOf]; omega
        · have j1 : (nA : Int) ≤ (t : Int) := by omega
          have HDN := Lib.hid (And.intro hdd hlt)
          clear hlt hdd
          go_wp2_with fail
          refine (files_rd HT.out.1.l.dsk).mono ?_
          rintro e w4 ⟨a1, n1, k1, l1, rfl, f1, b4, r1⟩
          have T4 := Lib.hid (HT.out.1.later b4)
          have HF1 := Lib.hid (And.intro f1 r1)
          clear f1 b4 r1
          go_wp2_with fail
          refine (files_rd T4.out.r.dsk).mono ?_
          rintro e w5 ⟨a2, n2, k2, l2, rfl, f2, b5, r2⟩
          have T5 := Lib.hid (T4.out.later b5)
          have HF2 := Lib.hid (And.intro f2 r2)
          have HF3 := Lib.hid (HF1.out.2.2.1.later b5)
          clear f2 b5 r2
          go_wp2_with fail
          refine (sameFiles_any HF3.out HF2.out.2.2.1 HF1.out.2.1 HF2.out.2.1).mono ?_
          rintro e w6 ⟨rfl, b6⟩
          have heq : decide (l1.map (·.1) = l2.map (·.1)) = true := by rw [HF1.out.1, HF2.out.1]; exact decide_eq_true (filesP_eq HT.out.2.1.1)
          rw [heq]
          have T6 := Lib.hid (T5.out.later b6)
          have HDW := Lib.hid (down_any T6.out.l.dsk)
          rw [HDN.out.1] at HDW
          clear b6 heq
          go_wp2_with fail
          refine HDW.out.mono ?_
          rintro e w7 ⟨rfl, rfl⟩
          go_wp2
          go_ret
          exact ⟨by simp, T6.out.l.bel⟩
end Go.Proofs.Ytbheifelfeekmaa

namespace Go.Proofs.Ytbheifelfeekmaa
open Go.RowKit
set_option linter.unusedVariables false

def RdP (w : World) (v : Value) (ps : List (List Nat)) : Prop :=
  ps.length ≤ 281474976710656 ∧ ∃ a cap, v = .slice a ps.length cap ∧ (ps = [] ∨ ∃ b off, a = some ⟨b, off, none⟩ ∧ ∀ i, i < ps.length → ∃ u, w.cell? ⟨b, off + i, none⟩ = some u ∧ Rd w u (ps.getD i []))

theorem RdP.later {w w' : World} {v : Value} {ps : List (List Nat)} (h : RdP w v ps) (hb : Below w.heap.size w w') : RdP w' v ps := by
  obtain ⟨h0, a, cap, h1, h2⟩ := h
  refine ⟨h0, a, cap, h1, ?_⟩
  rcases h2 with h2 | ⟨b, off, rfl, hc⟩
  · exact .inl h2
  · refine .inr ⟨b, off, rfl, fun i hi => ?_⟩
    obtain ⟨u, hu, hr⟩ := hc i hi
    refine ⟨u, ?_, hr.later hb⟩
    rw [hb.cell (p := ⟨b, off + i, none⟩) (World.block_lt_of_cell? w _ hu)]
    exact hu

theorem flat_snoc (ps : List (List Nat)) (k : Nat) (h : k < ps.length) : (ps.take (k + 1)).flatten = (ps.take k).flatten ++ ps.getD k [] := by
  rw [List.take_succ_eq_append_getElem h, List.flatten_append]; simp [List.getD, List.getElem?_eq_getElem h]

end Go.Proofs.Ytbheifelfeekmaa

namespace Go.Proofs.Ytbheifelfeekmaa
open Go.ChangeShapes Go.WideShapes Go.ChangeAt Go.RowKit
set_option linter.unusedVariables false

theorem own_knob : ownKnob Try.prog.godebug = none := by kernel_rfl
theorem laid_out : laidOutB Try.prog = true := by kernel_rfl
theorem und_int : Try.prog.underlying 3 = some (.int .i64) := by kernel_rfl
theorem und_u64 : Try.prog.underlying 103 = some (.int .u64) := by kernel_rfl
theorem und_bool : Try.prog.underlying 4 = some .bool := by kernel_rfl
theorem cells_byte : Try.prog.cellsOf 5 = 1 := by kernel_rfl
theorem cells_bytes : Try.prog.cellsOf 29 = 1 := by kernel_rfl

theorem bulk_pos {H : Type} (d : DataW H) : 1 ≤ Rows.uptoBulk d := by
  cases d with
  | lit l => cases l <;> simp [Rows.uptoBulk]
  | nil => simp [Rows.uptoBulk]
  | ptr d => simp [Rows.uptoBulk]
  | slice elems spare => simp [Rows.uptoBulk]
  | agg parts => simp [Rows.uptoBulk]
  | iface t d => simp [Rows.uptoBulk]
  | map entries => simp [Rows.uptoBulk]
  | held h => simp [Rows.uptoBulk]
theorem bulk_len {H : Type} (l : List (DataW H)) : l.length ≤ Rows.uptoBulkAll l := by
  induction l with
  | nil => simp [Rows.uptoBulkAll]
  | cons x r ih => have := bulk_pos x; simp only [Rows.uptoBulkAll, List.length_cons]; omega

theorem open_bytes {H : Type} {enc : TypeId × Value → H} {W : World} {v : Value} {d : DataW H} {p : List MemPlace} {base : Nat} {held : Bool} (h : DataW.Trod enc Try.prog W base (fun _ => true) held 29 v d p) (hs : ∃ a n c, v = .slice a n c) :
    ∃ bs : List Nat, (bs.length ≤ 281474976710656 → Rd W v bs) ∧ bs.length + 1 ≤ Rows.uptoBulk d ∧ (bs = [] ∨ ∃ elems spare, d = .slice elems spare ∧ elems.length = bs.length) := by
  obtain ⟨a, n, c, rfl⟩ := hs
  obtain ⟨fuel, hf⟩ := h
  rcases open_ints und_bytes und_byte cells_byte hf with ⟨hcs, hx⟩ | ⟨x, l, c', zs, hcs, _, hl, hm, hz, hx, hcell, hwz⟩
  · simp [Value.cells] at hcs
    obtain ⟨rfl, rfl, rfl⟩ := hcs
    refine ⟨[], fun _ => Rd.nil W, ?_, .inl rfl⟩
    have := bulk_pos d
    simpa using this
  · simp [Value.cells] at hcs
    obtain ⟨rfl, rfl, rfl⟩ := hcs
    simp only [if_true] at hz
    simp only [Prod.mk.injEq] at hx
    obtain ⟨rfl, _⟩ := hx
    have hby : ∀ i, i < zs.length → 0 ≤ zs.getD i 0 ∧ zs.getD i 0 < 256 := by
      intro i hi
      have hmem : zs.getD i 0 ∈ zs := by simp [List.getD, List.getElem?_eq_getElem hi]
      have := bounds_u8 (hwz _ hmem)
      omega
    refine ⟨(zs.take n).map Int.toNat, fun hlen => ⟨?_, some x, c, ?_, ?_, hm, hlen, ?_, ?_⟩, ?_, .inr ⟨_, _, rfl, by simp [lits]⟩⟩
    · intro y hy
      simp only [List.mem_map] at hy
      obtain ⟨z, hz1, rfl⟩ := hy
      have := bounds_u8 (hwz z (List.mem_of_mem_take hz1))
      omega
    · simp; omega
    · simp; omega
    · by_cases hc0 : c = 0
      · exact .inl hc0
      · right
        obtain ⟨b, off, spot⟩ := x
        have hc := hcell 0 (by omega)
        have hspot : spot = none := by simpa [Addr.add] using World.cell?_spot hc
        subst hspot
        exact ⟨b, off, rfl⟩
    · by_cases hn0 : n = 0
      · left; simp [hn0]
      · right
        obtain ⟨b, off, spot⟩ := x
        have hc := hcell 0 (by omega)
        have hspot : spot = none := by simpa [Addr.add] using World.cell?_spot hc
        subst hspot
        refine ⟨b, off, rfl, fun i hi => ?_⟩
        have hin : i < n := by simp at hi; omega
        have hc := hcell i (by omega)
        have e : (⟨b, off, none⟩ : Addr).add i = ⟨b, off + i, none⟩ := by unfold Addr.add; split <;> simp_all
        rw [e] at hc
        rw [hc]
        have hb := hby i (by omega)
        have e2 : ((zs.take n).map Int.toNat).getD i 0 = (zs.getD i 0).toNat := by
          simp [List.getElem?_take_of_lt hin, List.getElem?_eq_getElem (show i < zs.length by omega)]
        rw [e2, Int.toNat_of_nonneg hb.1]
    · have h1 := bulk_len (H := H) (lits .u8 (zs.take n))
      simp only [Rows.uptoBulk]
      simp [lits] at h1 ⊢
      omega

theorem reach_bytes {H : Type} {ts : List TypeId} {ds gs : List (DataW H)} (h : (DataW.weightsEach Try.prog ts (ds ++ gs)).all (fun x => decide (x ≤ reachBytes)) = true) (j : Nat) (ht : ts[j]? = some 29) {d : DataW H} (hd : ds[j]? = some d) {bs : List Nat} (hx : bs = [] ∨ ∃ elems spare, d = .slice elems spare ∧ elems.length = bs.length) : bs.length ≤ 140737488351232 := by
  rcases hx with rfl | ⟨elems, spare, rfl, hl⟩
  · simp
  · have hd2 : (ds ++ gs)[j]? = some (.slice elems spare) := by
      rw [List.getElem?_append_left (List.getElem?_eq_some_iff.1 hd).1]
      exact hd
    have := sized_slice h ht hd2 und_bytes
    rw [show Try.prog.bytesOf 5 = 1 by kernel_rfl] at this
    unfold reachBytes at this
    omega

end Go.Proofs.Ytbheifelfeekmaa
