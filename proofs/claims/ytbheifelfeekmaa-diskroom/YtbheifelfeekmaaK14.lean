import Derived.Test.YtbheifelfeekmaaK13
import Derived.ChangeMaps5
namespace Go.Proofs.Ytbheifelfeekmaa
open Go.RowKit Go.MapKept Go.Sort
set_option linter.unusedVariables false
set_option linter.unusedSimpArgs false
variable {w w' W X : World} {O O' : Nat → Prop} {dB : Nat} {d : Dk4}
def UpD (d : Dk4) : Prop := d.arm = 0 ∧ d.down = false
theorem create_up {s : ByteArray} (h : UpD d) : UpD (createD d s).2 := by
  unfold createD actP UpD at *
  obtain ⟨h1, h2⟩ := h
  rw [h1]
  split
  · exact ⟨h1, h2⟩
  · split
    · exact ⟨h1, h2⟩
    · split
      · exact ⟨h1, h2⟩
      · simpa using h2
def wrongS (bad : ByteArray) (t : Nat) : Bool := decide (bad.size = 0 ∨ 64 < bad.size ∨ ∃ j, j < t ∧ (byt4 bad j ≤ 32 ∨ 126 < byt4 bad j))
theorem RdA.nil (w : World) (O : Nat → Prop) : RdA w O (.slice none 0 0) [] := ⟨Rd.nil w, fun b off n c h => by simp at h⟩
theorem wrong_step (bad : ByteArray) (t : Nat) : wrongS bad (t + 1) = (wrongS bad t || decide (byt4 bad t ≤ 32 ∨ 126 < byt4 bad t)) := by
  unfold wrongS
  rw [Bool.eq_iff_iff]
  simp only [Bool.or_eq_true, decide_eq_true_eq]
  constructor
  · rintro (h | h | ⟨j, hj, h⟩)
    · exact .inl (.inl h)
    · exact .inl (.inr (.inl h))
    · by_cases e : j = t
      · subst e; exact .inr h
      · exact .inl (.inr (.inr ⟨j, by omega, h⟩))
  · rintro ((h | h | ⟨j, hj, h⟩) | h)
    · exact .inl h
    · exact .inr (.inl h)
    · exact .inr (.inr ⟨j, by omega, h⟩)
    · exact .inr (.inr ⟨t, by omega, h⟩)
theorem wrong_bad {bad : ByteArray} (h : wrongS bad bad.size = true) : ¬ DkName bad := by
  intro k
  rcases of_decide_eq_true h with h | h | ⟨j, hj, h⟩
  · have := k.1; omega
  · have := k.2.1; omega
  · have := k.2.2 j hj
    unfold DkCh at this
    omega
theorem RdN4.next {w : World} {g o k : Nat} {s : ByteArray} {ss : List ByteArray} (h : RdN4 w (some ⟨g, o, none⟩) k (s :: ss)) : RdN4 w (if k = 1 then some ⟨g, o, none⟩ else some ⟨g, o + 1, none⟩) (k - 1) ss := by
  have hc := h.cap
  rw [List.length_cons] at hc
  refine ⟨⟨by omega, by omega⟩, fun i x hx => ?_⟩
  have hl := (List.getElem?_eq_some_iff.1 hx).1
  rw [if_neg (by omega)]
  obtain ⟨g', o', e, h2⟩ := h.cel (i + 1) x (by simpa using hx)
  cases e
  exact ⟨g, o + 1, rfl, by rw [Nat.add_assoc, Nat.add_comm 1 i]; exact h2⟩
theorem lsP_size {d : Dk4} (ok : d.Ok) {pre : ByteArray} {l : List UInt8} (h : l ∈ lsP d.fs pre) : (ofL l).size ≤ 64 := by
  unfold lsP at h
  have h := (List.mergeSort_perm _ leB).mem_iff.1 h
  obtain ⟨s, hs, rfl⟩ := List.mem_map.1 h
  have hs := (List.mem_filter.1 hs).1
  obtain ⟨p, hp, rfl⟩ := List.mem_map.1 hs
  rw [ofL_nmL]
  exact (ok.nam p hp).2.1
set_option maxRecDepth 100000 in
set_option maxHeartbeats 8000000 in
theorem diskNames_walk {a : Option Addr} {N kN : Nat} {names : List ByteArray} {pre bad : ByteArray} (hN : N = names.length) (hr : RdN4 w a kN names) (hp : pre.size ≤ maxLen) (hb : bad.size ≤ maxLen) (hp48 : pre.size ≤ 281474976710656) :
    Calls Try.prog 3 #[.slice a N kN, .string pre, .string bad] w fun e w' => e = .returned (.bool true) ∧ Below w.heap.size w w' := by
  have hmx : N ≤ 9223372036854775807 := by have := hr.cap; unfold maxLen at this; omega
  have HN := Lib.hid hN
  have HR := Lib.hid hr
  have HPB := Lib.hid (And.intro hp hb)
  have HMADE := Lib.hid (made_any (n := 64) (by decide) (by decide) w)
  have HP48_ := Lib.hid hp48
  clear hN hr hp hb hp48
  go_enter Try.func3, Try.ntmps3
  go_wp2_with fail
  refine HMADE.out.mono ?_
  rintro e w1 ⟨O1, dB, c1, rfl, m1⟩
  have M1 := Lib.hid (And.intro m1 (show UpD ⟨[], 64, 0, false, c1⟩ from ⟨rfl, rfl⟩))
  clear m1
  go_wp2_with fail
  go_loopw [8] (fun i wr => ∃ (t : Nat) (O : Nat → Prop) (d : Dk4), t ≤ N ∧ i = .int .i64 (t : Int) ∧ Mad w wr O dB d ∧ UpD d) (fun i _ => N - (intOf i).toNat)
  case atStart => exact ⟨0, O1, _, Nat.zero_le _, rfl, M1.out.1, M1.out.2⟩
  case round =>
    obtain ⟨t, O, d, ht, rfl, m, hup⟩ := hrel
    have HM := Lib.hid (And.intro m hup)
    clear m hup
    by_cases hlt : t < N
    · have j1 : (t : Int) < (N : Int) := by omega
      have j2 : (0 : Int) ≤ (t : Int) := by omega
      obtain ⟨s, hs⟩ : ∃ s, names[t]? = some s := ⟨_, List.getElem?_eq_getElem (by rw [← HN.out]; exact hlt)⟩
      obtain ⟨g, off, rfl, hc⟩ := (HR.out.later HM.out.1.bel).cel t s hs
      have HC := Lib.hid (create_any (s := s) HM.out.1.dsk)
      clear hs
      go_wp2_with fail
      refine HC.out.mono ?_
      intro e w2 ha
      obtain ⟨rfl, O2, m2⟩ := HM.out.1.step ha
      have HM2 := Lib.hid (And.intro m2 (create_up (s := s) HM.out.2))
      clear m2 ha hc
      go_wp2_with fail
      go_roundw
      case rel => exact ⟨t + 1, O2, _, by omega, by go_num, HM2.out.1, HM2.out.2⟩
      case measure => simp [intOf]; omega
    · have j1 : (N : Int) ≤ (t : Int) := by omega
      clear hlt
      have HL1 := Lib.hid (list_dsk HM.out.1.dsk ⟨#[]⟩)
      go_wp2_with fail
      refine HL1.out.mono ?_
      rintro e w2 ⟨al, nl, kl, rfl, o1, b1⟩
      have HM2 := Lib.hid (HM.out.1.later b1)
      have HO1 := Lib.hid o1
      have HL2 := Lib.hid (list_dsk HM2.out.dsk pre)
      have HB1 := Lib.hid b1
      clear o1 b1
      go_wp2_with fail
      refine HL2.out.mono ?_
      rintro e w3 ⟨am, nm, km, rfl, o2, b2⟩
      have HM3 := Lib.hid (HM2.out.later b2)
      obtain ⟨L, hL⟩ : ∃ L, L = lsP d.fs ⟨#[]⟩ := ⟨_, rfl⟩
      have hl1 : nl = L.length ∧ RdN4 w3 al kl (L.map ofL) := by
        rw [hL]
        have := HO1.out.rd
        exact ⟨this.1, this.2.later b2⟩
      have hl2 : nm = (L.filter (fun l => preB pre (ofL l))).length ∧ RdN4 w3 am km ((L.filter (fun l => preB pre (ofL l))).map ofL) := by
        have := o2.rd
        rw [lsP_pre, ← hL] at this
        exact this
      have hlt2 : L.Pairwise (· < ·) := by rw [hL]; exact lsP_lt HM3.out.dsk.1.nod
      have HL := Lib.hid (And.intro hl1 (And.intro hl2 hlt2))
      have HLL := Lib.hid hL
      have HP48 : Hid (pre.size ≤ 281474976710656) := HP48_.out
      clear o2 b2 hl1 hl2 hlt2 hL
      go_wp2_with fail
      have hnlx : nl ≤ 9223372036854775807 := by have := HL.out.1.2.cap; rw [List.length_map, ← HL.out.1.1] at this; unfold maxLen at this; omega
      go_loopw [10, 11] (fun v i wx => ∃ (t : Nat) (am : Option Addr) (nm km : Nat), t ≤ nl ∧ i = .int .i64 (t : Int) ∧ v = .slice am nm km ∧ Below w3.heap.size w3 wx ∧ nm = ((L.drop t).filter (fun l => preB pre (ofL l))).length ∧ RdN4 wx am km (((L.drop t).filter (fun l => preB pre (ofL l))).map ofL)) (fun _ i _ => nl - (intOf i).toNat)
      case atStart => exact ⟨0, am, nm, km, Nat.zero_le _, rfl, rfl, Below.refl _ _, HL.out.2.1.1, HL.out.2.1.2⟩
      case round =>
        obtain ⟨t2, am2, nm2, km2, ht2, rfl, rfl, hb2, hnm2, hrm2⟩ := hrel
        have HB2 := Lib.hid hb2
        have HM2' := Lib.hid (And.intro hnm2 hrm2)
        clear hb2 hnm2 hrm2
        by_cases hlt2 : t2 < nl
        · have k1 : (t2 : Int) < (nl : Int) := by omega
          have k2 : (0 : Int) ≤ (t2 : Int) := by omega
          have ht2L : t2 < L.length := by rw [← HL.out.1.1]; exact hlt2
          obtain ⟨l, hl⟩ : ∃ l, L[t2]? = some l := ⟨_, List.getElem?_eq_getElem ht2L⟩
          have hdrop : L.drop t2 = l :: L.drop (t2 + 1) := by
            rw [List.drop_eq_getElem_cons ht2L]
            rw [List.getElem?_eq_getElem ht2L] at hl
            cases hl
            rfl
          have hrl := HL.out.1.2.later HB2.out
          obtain ⟨gl, ol, rfl, hcl⟩ := hrl.cel t2 (ofL l) (by rw [List.getElem?_map, hl]; rfl)
          have HCL := Lib.hid hcl
          have HDROP := Lib.hid (And.intro hl hdrop)
          clear hl hdrop hrl hcl
          have hlz : (ofL l).size ≤ 64 := by
            have hm : l ∈ lsP d.fs ⟨#[]⟩ := by rw [← HLL.out]; exact List.mem_of_getElem? HDROP.out.1
            exact lsP_size HM3.out.dsk.1 hm
          have HLZ : Hid ((ofL l).size ≤ maxLen ∧ (ofL l).size ≤ 281474976710656) := ⟨by unfold maxLen; omega, by omega⟩
          clear hlz
          by_cases hz2 : t2 = 0
          · have z1 : decide ((0 : Int) < (t2 : Int)) = false := by simp; omega
            have z2 : ¬ (0 : Int) < (t2 : Int) := by omega
            clear hz2
            go_upto_region 13 with fail
            have BD : Below wr.heap.size wr wr.drew := (Below.refl _ _).drew
            refine wp_region_noPanic ?_
            refine wp_region_anyE (S := fun wx => Below wr.heap.size wr wx) (E := fun j => true) (by kernel_rfl) ?_
            have hHeld : Below wr.heap.size wr wr.drew := BD
            have HB := Lib.hid BD
            have hZ0 : ∃ z, z = wr.drew := ⟨_, rfl⟩
            obtain ⟨Z0, hZ0⟩ := hZ0
            rw [← hZ0] at HB hHeld ⊢
            clear hZ0 BD
            refine AnyE.take (i := 0) (.int .i64 (t2 : Int)) rfl (by kernel_rfl) (by kernel_rfl) (by kernel_rfl) (by kernel_rfl) (fun _ _ _ h => h) (.inl ⟨by kernel_rfl, fun wy hy => by (go_simp; done)⟩) hHeld ?_
            try simp only [Act.put, List.setIfInBounds_toArray, List.set_cons_zero, List.set_cons_succ]
            refine AnyE.take (i := 1) (.bool false) rfl (by kernel_rfl) (by kernel_rfl) (by kernel_rfl) (by kernel_rfl) (fun _ _ _ h => h) (.inl ⟨by kernel_rfl, fun wy hy => by (go_simp; omega)⟩) hHeld ?_
            try simp only [Act.put, List.setIfInBounds_toArray, List.set_cons_zero, List.set_cons_succ]
            refine AnyE.take (i := 2) (.bool false) rfl (by kernel_rfl) (by kernel_rfl) (by kernel_rfl) (by kernel_rfl) (fun _ _ _ h => h) (.inl ⟨by kernel_rfl, fun wy hy => by (go_simp; done)⟩) hHeld ?_
            try simp only [Act.put, List.setIfInBounds_toArray, List.set_cons_zero, List.set_cons_succ]
            refine AnyE.take (i := 3) undef rfl (by kernel_rfl) (by kernel_rfl) (by kernel_rfl) (by kernel_rfl) (fun _ _ _ h => h) (.inr ⟨by kernel_rfl, rfl⟩) hHeld ?_
            try simp only [Act.put, List.setIfInBounds_toArray, List.set_cons_zero, List.set_cons_succ]
            refine AnyE.take (i := 4) undef rfl (by kernel_rfl) (by kernel_rfl) (by kernel_rfl) (by kernel_rfl) (fun _ _ _ h => h) (.inr ⟨by kernel_rfl, rfl⟩) hHeld ?_
            try simp only [Act.put, List.setIfInBounds_toArray, List.set_cons_zero, List.set_cons_succ]
            refine AnyE.take (i := 5) undef rfl (by kernel_rfl) (by kernel_rfl) (by kernel_rfl) (by kernel_rfl) (fun _ _ _ h => h) (.inr ⟨by kernel_rfl, rfl⟩) hHeld ?_
            try simp only [Act.put, List.setIfInBounds_toArray, List.set_cons_zero, List.set_cons_succ]
            refine AnyE.take (i := 6) undef rfl (by kernel_rfl) (by kernel_rfl) (by kernel_rfl) (by kernel_rfl) (fun _ _ _ h => h) (.inr ⟨by kernel_rfl, rfl⟩) hHeld ?_
            try simp only [Act.put, List.setIfInBounds_toArray, List.set_cons_zero, List.set_cons_succ]
            refine AnyE.take (i := 7) undef rfl (by kernel_rfl) (by kernel_rfl) (by kernel_rfl) (by kernel_rfl) (fun _ _ _ h => h) (.inr ⟨by kernel_rfl, rfl⟩) hHeld ?_
            try simp only [Act.put, List.setIfInBounds_toArray, List.set_cons_zero, List.set_cons_succ]
            refine AnyE.take (i := 8) undef rfl (by kernel_rfl) (by kernel_rfl) (by kernel_rfl) (by kernel_rfl) (fun _ _ _ h => h) (.inr ⟨by kernel_rfl, rfl⟩) hHeld ?_
            try simp only [Act.put, List.setIfInBounds_toArray, List.set_cons_zero, List.set_cons_succ]
            refine AnyE.take (i := 9) undef rfl (by kernel_rfl) (by kernel_rfl) (by kernel_rfl) (by kernel_rfl) (fun _ _ _ h => h) (.inr ⟨by kernel_rfl, rfl⟩) hHeld ?_
            try simp only [Act.put, List.setIfInBounds_toArray, List.set_cons_zero, List.set_cons_succ]
            refine AnyE.take (i := 10) undef rfl (by kernel_rfl) (by kernel_rfl) (by kernel_rfl) (by kernel_rfl) (fun _ _ _ h => h) (.inr ⟨by kernel_rfl, rfl⟩) hHeld ?_
            try simp only [Act.put, List.setIfInBounds_toArray, List.set_cons_zero, List.set_cons_succ]
            refine AnyE.take (i := 11) undef rfl (by kernel_rfl) (by kernel_rfl) (by kernel_rfl) (by kernel_rfl) (fun _ _ _ h => h) (.inr ⟨by kernel_rfl, rfl⟩) hHeld ?_
            try simp only [Act.put, List.setIfInBounds_toArray, List.set_cons_zero, List.set_cons_succ]
            refine AnyE.take (i := 12) undef rfl (by kernel_rfl) (by kernel_rfl) (by kernel_rfl) (by kernel_rfl) (fun _ _ _ h => h) (.inr ⟨by kernel_rfl, rfl⟩) hHeld ?_
            try simp only [Act.put, List.setIfInBounds_toArray, List.set_cons_zero, List.set_cons_succ]
            refine AnyE.take (i := 13) (.bool false) rfl (by kernel_rfl) (by kernel_rfl) (by kernel_rfl) (by kernel_rfl) (fun _ _ _ h => h) (.inl ⟨by kernel_rfl, fun wy hy => by (go_simp; done)⟩) hHeld ?_
            try simp only [Act.put, List.setIfInBounds_toArray, List.set_cons_zero, List.set_cons_succ]
            refine AnyE.done (by kernel_rfl) (NoPanic.normal ?_) _
            clear hHeld
            go_simp
            go_step
            have HZB := Lib.hid HB.out
            have hcl2 : Z0.cell? ⟨gl, ol + t2, none⟩ = some (.string (ofL l)) := (HB.out.cell (p := ⟨gl, ol + t2, none⟩) (World.block_lt_of_cell? _ _ HCL.out)).trans HCL.out
            have hq1 := conv_sb pre HPB.out.1 HP48.out Z0
            obtain ⟨kk1, hq1⟩ := hq1
            obtain ⟨V1, hq1⟩ := hq1
            have hcv1 := hq1.1
            have rd1 := hq1.2.1
            have bv1 := hq1.2.2
            clear hq1
            have hcl3 : V1.cell? ⟨gl, ol + t2, none⟩ = some (.string (ofL l)) := (bv1.cell (p := ⟨gl, ol + t2, none⟩) (World.block_lt_of_cell? _ _ hcl2)).trans hcl2
            have hq2 := conv_sb (ofL l) HLZ.out.1 HLZ.out.2 V1
            obtain ⟨kk2, hq2⟩ := hq2
            obtain ⟨V2, hq2⟩ := hq2
            have hcv2 := hq2.1
            have rd2 := hq2.2.1
            have bv2 := hq2.2.2
            clear hq2
            have HBEG := Lib.hid (begins_any (rd1.later bv2) rd2)
            rw [begL_pre] at HBEG
            have HV := Lib.hid (show Below wr.heap.size wr V2 from (HZB.out.trans (bv1.mono HZB.out.size)).trans (bv2.mono (Nat.le_trans HZB.out.size bv1.size)))
            have hg1 : ∃ g1, g1 = Z0.heap.size := ⟨_, rfl⟩; obtain ⟨g1, hg1⟩ := hg1
            have hg2 : ∃ g2, g2 = V1.heap.size := ⟨_, rfl⟩; obtain ⟨g2, hg2⟩ := hg2
            have hs1 : ∃ s1, s1 = pre.size := ⟨_, rfl⟩; obtain ⟨s1, hs1⟩ := hs1
            have hs2 : ∃ s2, s2 = (ofL l).size := ⟨_, rfl⟩; obtain ⟨s2, hs2⟩ := hs2
            rw [← hg1, ← hs1] at hcv1 HBEG
            rw [← hg2, ← hs2] at hcv2 HBEG
            clear rd1 rd2 bv1 bv2 hg1 hg2 hs1 hs2 hcl2
            go_wp2_with fail
            refine HBEG.out.mono ?_
            rintro e V3 ⟨rfl, rfl⟩
            clear hcv1 hcv2 hcl3
            have hpb : ∃ pb, pb = preB pre (ofL l) := ⟨_, rfl⟩; obtain ⟨pb, hpb⟩ := hpb
            rw [← hpb]
            have HPBB := Lib.hid hpb
            clear hpb HBEG
            have hrm3 := HM2'.out.2.later HV.out
            have hnm3 := HM2'.out.1
            rw [HDROP.out.2] at hrm3 hnm3
            cases pb with
            | false =>
              rw [List.filter_cons, if_neg (by rw [← HPBB.out]; simp)] at hrm3 hnm3
              have HRM3 := Lib.hid (And.intro hnm3 hrm3)
              clear hrm3 hnm3
              go_wp2
              go_roundw
              case rel => exact ⟨t2 + 1, am2, nm2, km2, by omega, by go_num, rfl, HB2.out.trans (HV.out.mono HB2.out.size), HRM3.out.1, HRM3.out.2⟩
              case measure => simp [intOf]; omega
            | true =>
              rw [List.filter_cons, if_pos (by rw [← HPBB.out])] at hrm3 hnm3
              have hq3 := hrm3.cel 0 (ofL l) (by simp)
              obtain ⟨gm, hq3⟩ := hq3
              obtain ⟨om, hq3⟩ := hq3
              have ham := hq3.1
              have hcm := hq3.2
              subst ham
              clear hq3
              have hn3 : ∃ n3, n3 = ((L.drop (t2 + 1)).filter (fun l => preB pre (ofL l))).length := ⟨_, rfl⟩; obtain ⟨n3, hn3⟩ := hn3
              rw [List.length_cons, ← hn3] at hnm3
              have hkm : n3 + 1 ≤ km2 ∧ km2 ≤ maxLen := by
                have := hrm3.cap
                rw [List.length_map, List.length_cons, ← hn3] at this
                exact this
              have HRM3 := Lib.hid (And.intro hn3 hrm3)
              have HCM : Hid (V3.cell? ⟨gm, om, none⟩ = some (.string (ofL l))) := hcm
              have hclV : V3.cell? ⟨gl, ol + t2, none⟩ = some (.string (ofL l)) := (HV.out.cell (p := ⟨gl, ol + t2, none⟩) (World.block_lt_of_cell? _ _ HCL.out)).trans HCL.out
              have HCV := Lib.hid hclV
              subst hnm3
              clear hn3 hrm3 hcm hclV
              have i3 : ¬ ((n3 + 1 : Nat) : Int) = 0 := by omega
              have i4 : (((n3 + 1 : Nat) : Int) == 0) = false := by simp; omega
              have i5 : (0 : Int) < ((n3 + 1 : Nat) : Int) := by omega
              have hkx : km2 ≤ 9223372036854775807 := by have := hkm.2; unfold maxLen at this; omega
              go_upto_region 16 with fail
              have BD : Below V3.heap.size V3 V3.drew := (Below.refl _ _).drew
              refine wp_region_noPanic ?_
              refine wp_region_anyE (S := fun wx => Below V3.heap.size V3 wx) (E := fun j => true) (by kernel_rfl) ?_
              have hHeld : Below V3.heap.size V3 V3.drew := BD
              have HB := Lib.hid BD
              have hZ0 : ∃ z, z = V3.drew := ⟨_, rfl⟩
              obtain ⟨Z0, hZ0⟩ := hZ0
              rw [← hZ0] at HB hHeld ⊢
              clear hZ0 BD
              refine AnyE.take (i := 0) (.slice (some ⟨gm, om, none⟩) (n3 + 1) km2) rfl (by kernel_rfl) (by kernel_rfl) (by kernel_rfl) (by kernel_rfl) (fun _ _ _ h => h) (.inl ⟨by kernel_rfl, fun wy hy => by (go_simp; done)⟩) hHeld ?_
              try simp only [Act.put, List.setIfInBounds_toArray, List.set_cons_zero, List.set_cons_succ]
              refine AnyE.take (i := 1) (.int .i64 ((n3 + 1 : Nat) : Int)) rfl (by kernel_rfl) (by kernel_rfl) (by kernel_rfl) (by kernel_rfl) (fun _ _ _ h => h) (.inl ⟨by kernel_rfl, fun wy hy => by (go_simp; done)⟩) hHeld ?_
              try simp only [Act.put, List.setIfInBounds_toArray, List.set_cons_zero, List.set_cons_succ]
              refine AnyE.take (i := 2) (.bool false) rfl (by kernel_rfl) (by kernel_rfl) (by kernel_rfl) (by kernel_rfl) (fun _ _ _ h => h) (.inl ⟨by kernel_rfl, fun wy hy => by (go_simp; omega)⟩) hHeld ?_
              try simp only [Act.put, List.setIfInBounds_toArray, List.set_cons_zero, List.set_cons_succ]
              refine AnyE.take (i := 3) (.bool false) rfl (by kernel_rfl) (by kernel_rfl) (by kernel_rfl) (by kernel_rfl) (fun _ _ _ h => h) (.inl ⟨by kernel_rfl, fun wy hy => by (go_simp; done)⟩) hHeld ?_
              try simp only [Act.put, List.setIfInBounds_toArray, List.set_cons_zero, List.set_cons_succ]
              refine AnyE.take (i := 4) (.slice (some ⟨gm, om, none⟩) (n3 + 1) km2) rfl (by kernel_rfl) (by kernel_rfl) (by kernel_rfl) (by kernel_rfl) (fun _ _ _ h => h) (.inl ⟨by kernel_rfl, fun wy hy => by (go_simp; done)⟩) hHeld ?_
              try simp only [Act.put, List.setIfInBounds_toArray, List.set_cons_zero, List.set_cons_succ]
              refine AnyE.take (i := 5) (.pointer (some ⟨gm, om, none⟩)) rfl (by kernel_rfl) (by kernel_rfl) (by kernel_rfl) (by kernel_rfl) (fun _ _ _ h => h) (.inl ⟨by kernel_rfl, fun wy hy => by (go_simp; done)⟩) hHeld ?_
              try simp only [Act.put, List.setIfInBounds_toArray, List.set_cons_zero, List.set_cons_succ]
              refine AnyE.take (i := 6) (.string (ofL l)) rfl (by kernel_rfl) (by kernel_rfl) (by kernel_rfl) (by kernel_rfl) (fun _ _ _ h => h) (.inl ⟨by kernel_rfl, fun wy hy => by (have q0 := (hy.cell (p := ⟨gm, om, none⟩) (World.block_lt_of_cell? _ _ HCM.out)).trans HCM.out; go_simp; done)⟩) hHeld ?_
              try simp only [Act.put, List.setIfInBounds_toArray, List.set_cons_zero, List.set_cons_succ]
              refine AnyE.take (i := 7) (.slice (some ⟨gl, ol, none⟩) nl kl) rfl (by kernel_rfl) (by kernel_rfl) (by kernel_rfl) (by kernel_rfl) (fun _ _ _ h => h) (.inl ⟨by kernel_rfl, fun wy hy => by (go_simp; done)⟩) hHeld ?_
              try simp only [Act.put, List.setIfInBounds_toArray, List.set_cons_zero, List.set_cons_succ]
              refine AnyE.take (i := 8) (.int .i64 (t2 : Int)) rfl (by kernel_rfl) (by kernel_rfl) (by kernel_rfl) (by kernel_rfl) (fun _ _ _ h => h) (.inl ⟨by kernel_rfl, fun wy hy => by (go_simp; done)⟩) hHeld ?_
              try simp only [Act.put, List.setIfInBounds_toArray, List.set_cons_zero, List.set_cons_succ]
              refine AnyE.take (i := 9) (.pointer (some ⟨gl, ol + t2, none⟩)) rfl (by kernel_rfl) (by kernel_rfl) (by kernel_rfl) (by kernel_rfl) (fun _ _ _ h => h) (.inl ⟨by kernel_rfl, fun wy hy => by (go_simp; done)⟩) hHeld ?_
              try simp only [Act.put, List.setIfInBounds_toArray, List.set_cons_zero, List.set_cons_succ]
              refine AnyE.take (i := 10) (.string (ofL l)) rfl (by kernel_rfl) (by kernel_rfl) (by kernel_rfl) (by kernel_rfl) (fun _ _ _ h => h) (.inl ⟨by kernel_rfl, fun wy hy => by (have q0 := (hy.cell (p := ⟨gl, ol + t2, none⟩) (World.block_lt_of_cell? _ _ HCV.out)).trans HCV.out; go_simp; done)⟩) hHeld ?_
              try simp only [Act.put, List.setIfInBounds_toArray, List.set_cons_zero, List.set_cons_succ]
              refine AnyE.take (i := 11) (.bool false) rfl (by kernel_rfl) (by kernel_rfl) (by kernel_rfl) (by kernel_rfl) (fun _ _ _ h => h) (.inl ⟨by kernel_rfl, fun wy hy => by (go_simp; done)⟩) hHeld ?_
              try simp only [Act.put, List.setIfInBounds_toArray, List.set_cons_zero, List.set_cons_succ]
              refine AnyE.take (i := 12) (.bool false) rfl (by kernel_rfl) (by kernel_rfl) (by kernel_rfl) (by kernel_rfl) (fun _ _ _ h => h) (.inl ⟨by kernel_rfl, fun wy hy => by (go_simp; done)⟩) hHeld ?_
              try simp only [Act.put, List.setIfInBounds_toArray, List.set_cons_zero, List.set_cons_succ]
              refine AnyE.done (by kernel_rfl) (NoPanic.normal ?_) _
              clear hHeld
              go_simp
              go_step
              have HZ9 := Lib.hid (show Below V3.heap.size V3 Z0 from HB.out)
              have i6 : (1 : Int) ≤ ((n3 + 1 : Nat) : Int) := by omega
              have i7 : ((n3 + 1 : Nat) : Int) ≤ (km2 : Int) := by omega
              have hnext : RdN4 V3 (some ⟨gm, om, none⟩) km2 ((l :: (L.drop (t2 + 1)).filter (fun l => preB pre (ofL l))).map ofL) := HRM3.out.2
              go_wp2
              go_roundw
              case rel => exact ⟨t2 + 1, _, n3, km2 - 1, by omega, by go_num, rfl, (HB2.out.trans (HV.out.mono HB2.out.size)).trans (HZ9.out.mono (Nat.le_trans HB2.out.size HV.out.size)), HRM3.out.1, RdN4.next (hnext.later HZ9.out)⟩
              case measure => simp [intOf]; omega
          · have z1 : decide ((0 : Int) < (t2 : Int)) = true := by simp; omega
            have z2 : (0 : Int) < (t2 : Int) := by omega
            have z3 : (1 : Int) ≤ (t2 : Int) := by omega
            obtain ⟨l0, hl0⟩ : ∃ l0, L[t2 - 1]? = some l0 := ⟨_, List.getElem?_eq_getElem (by omega)⟩
            have hls : Op.bytesLess (ofL l0).toList (ofL l).toList = true := by
              rw [bytesLess_eq, ByteArray.toList_eq, ByteArray.toList_eq]
              have e0 := (List.getElem?_eq_some_iff.1 hl0)
              have e1 := (List.getElem?_eq_some_iff.1 HDROP.out.1)
              obtain ⟨h0, e0⟩ := e0
              obtain ⟨h1, e1⟩ := e1
              have := List.pairwise_iff_getElem.1 HL.out.2.2 (t2 - 1) t2 h0 h1 (by omega)
              rw [e0, e1] at this
              exact decide_eq_true (by simpa [ofL] using this)
            have hc0 : wr.cell? ⟨gl, ol + (t2 - 1), none⟩ = some (.string (ofL l0)) := by
              obtain ⟨g9, o9, e9, h9⟩ := (HL.out.1.2.later HB2.out).cel (t2 - 1) (ofL l0) (by rw [List.getElem?_map, hl0]; rfl)
              cases e9
              exact h9
            have HLS := Lib.hid hls
            have HC0 := Lib.hid hc0
            clear hz2 hl0 hls hc0
            go_upto_region 13 with fail
            have BD : Below wr.heap.size wr wr.drew := (Below.refl _ _).drew
            refine wp_region_noPanic ?_
            refine wp_region_anyE (S := fun wx => Below wr.heap.size wr wx) (E := fun j => true) (by kernel_rfl) ?_
            have hHeld : Below wr.heap.size wr wr.drew := BD
            have HB := Lib.hid BD
            have hZ0 : ∃ z, z = wr.drew := ⟨_, rfl⟩
            obtain ⟨Z0, hZ0⟩ := hZ0
            rw [← hZ0] at HB hHeld ⊢
            clear hZ0 BD
            refine AnyE.take (i := 0) (.int .i64 (t2 : Int)) rfl (by kernel_rfl) (by kernel_rfl) (by kernel_rfl) (by kernel_rfl) (fun _ _ _ h => h) (.inl ⟨by kernel_rfl, fun wy hy => by (go_simp; done)⟩) hHeld ?_
            try simp only [Act.put, List.setIfInBounds_toArray, List.set_cons_zero, List.set_cons_succ]
            refine AnyE.take (i := 1) (.bool true) rfl (by kernel_rfl) (by kernel_rfl) (by kernel_rfl) (by kernel_rfl) (fun _ _ _ h => h) (.inl ⟨by kernel_rfl, fun wy hy => by (go_simp; omega)⟩) hHeld ?_
            try simp only [Act.put, List.setIfInBounds_toArray, List.set_cons_zero, List.set_cons_succ]
            refine AnyE.take (i := 2) (.bool true) rfl (by kernel_rfl) (by kernel_rfl) (by kernel_rfl) (by kernel_rfl) (fun _ _ _ h => h) (.inl ⟨by kernel_rfl, fun wy hy => by (go_simp; done)⟩) hHeld ?_
            try simp only [Act.put, List.setIfInBounds_toArray, List.set_cons_zero, List.set_cons_succ]
            refine AnyE.take (i := 3) (.slice (some ⟨gl, ol, none⟩) nl kl) rfl (by kernel_rfl) (by kernel_rfl) (by kernel_rfl) (by kernel_rfl) (fun _ _ _ h => h) (.inl ⟨by kernel_rfl, fun wy hy => by (go_simp; done)⟩) hHeld ?_
            try simp only [Act.put, List.setIfInBounds_toArray, List.set_cons_zero, List.set_cons_succ]
            refine AnyE.take (i := 4) (.int .i64 (t2 : Int)) rfl (by kernel_rfl) (by kernel_rfl) (by kernel_rfl) (by kernel_rfl) (fun _ _ _ h => h) (.inl ⟨by kernel_rfl, fun wy hy => by (go_simp; done)⟩) hHeld ?_
            try simp only [Act.put, List.setIfInBounds_toArray, List.set_cons_zero, List.set_cons_succ]
            refine AnyE.take (i := 5) (.int .i64 ((t2 : Int) - 1)) rfl (by kernel_rfl) (by kernel_rfl) (by kernel_rfl) (by kernel_rfl) (fun _ _ _ h => h) (.inl ⟨by kernel_rfl, fun wy hy => by (go_simp; exact IntWalk.i64_in _ ⟨by omega, by omega⟩)⟩) hHeld ?_
            try simp only [Act.put, List.setIfInBounds_toArray, List.set_cons_zero, List.set_cons_succ]
            refine AnyE.take (i := 6) (.pointer (some ⟨gl, ol + (t2 - 1), none⟩)) rfl (by kernel_rfl) (by kernel_rfl) (by kernel_rfl) (by kernel_rfl) (fun _ _ _ h => h) (.inl ⟨by kernel_rfl, fun wy hy => by (have q0 : ((t2 : Int) - 1).toNat = t2 - 1 := (by omega); have q1 : ((t2 : Int) - 1) < (nl : Int) := (by omega); have q2 : (0 : Int) ≤ (t2 : Int) - 1 := (by omega); have q3 : ¬ (nl : Int) ≤ (t2 : Int) - 1 := (by omega); go_simp; done)⟩) hHeld ?_
            try simp only [Act.put, List.setIfInBounds_toArray, List.set_cons_zero, List.set_cons_succ]
            refine AnyE.take (i := 7) (.string (ofL l0)) rfl (by kernel_rfl) (by kernel_rfl) (by kernel_rfl) (by kernel_rfl) (fun _ _ _ h => h) (.inl ⟨by kernel_rfl, fun wy hy => by (have q0 := (hy.cell (p := ⟨gl, ol + (t2 - 1), none⟩) (World.block_lt_of_cell? _ _ HC0.out)).trans HC0.out; go_simp; done)⟩) hHeld ?_
            try simp only [Act.put, List.setIfInBounds_toArray, List.set_cons_zero, List.set_cons_succ]
            refine AnyE.take (i := 8) (.slice (some ⟨gl, ol, none⟩) nl kl) rfl (by kernel_rfl) (by kernel_rfl) (by kernel_rfl) (by kernel_rfl) (fun _ _ _ h => h) (.inl ⟨by kernel_rfl, fun wy hy => by (go_simp; done)⟩) hHeld ?_
            try simp only [Act.put, List.setIfInBounds_toArray, List.set_cons_zero, List.set_cons_succ]
            refine AnyE.take (i := 9) (.int .i64 (t2 : Int)) rfl (by kernel_rfl) (by kernel_rfl) (by kernel_rfl) (by kernel_rfl) (fun _ _ _ h => h) (.inl ⟨by kernel_rfl, fun wy hy => by (go_simp; done)⟩) hHeld ?_
            try simp only [Act.put, List.setIfInBounds_toArray, List.set_cons_zero, List.set_cons_succ]
            refine AnyE.take (i := 10) (.pointer (some ⟨gl, ol + t2, none⟩)) rfl (by kernel_rfl) (by kernel_rfl) (by kernel_rfl) (by kernel_rfl) (fun _ _ _ h => h) (.inl ⟨by kernel_rfl, fun wy hy => by (go_simp; done)⟩) hHeld ?_
            try simp only [Act.put, List.setIfInBounds_toArray, List.set_cons_zero, List.set_cons_succ]
            refine AnyE.take (i := 11) (.string (ofL l)) rfl (by kernel_rfl) (by kernel_rfl) (by kernel_rfl) (by kernel_rfl) (fun _ _ _ h => h) (.inl ⟨by kernel_rfl, fun wy hy => by (have q0 := (hy.cell (p := ⟨gl, ol + t2, none⟩) (World.block_lt_of_cell? _ _ HCL.out)).trans HCL.out; go_simp; done)⟩) hHeld ?_
            try simp only [Act.put, List.setIfInBounds_toArray, List.set_cons_zero, List.set_cons_succ]
            refine AnyE.take (i := 12) (.bool false) rfl (by kernel_rfl) (by kernel_rfl) (by kernel_rfl) (by kernel_rfl) (fun _ _ _ h => h) (.inl ⟨by kernel_rfl, fun wy hy => by (have q0 := HLS.out; go_simp; done)⟩) hHeld ?_
            try simp only [Act.put, List.setIfInBounds_toArray, List.set_cons_zero, List.set_cons_succ]
            refine AnyE.take (i := 13) (.bool false) rfl (by kernel_rfl) (by kernel_rfl) (by kernel_rfl) (by kernel_rfl) (fun _ _ _ h => h) (.inl ⟨by kernel_rfl, fun wy hy => by (go_simp; done)⟩) hHeld ?_
            try simp only [Act.put, List.setIfInBounds_toArray, List.set_cons_zero, List.set_cons_succ]
            refine AnyE.done (by kernel_rfl) (NoPanic.normal ?_) _
            clear hHeld
            go_simp
            go_step
            have HZB := Lib.hid HB.out
            have hcl2 : Z0.cell? ⟨gl, ol + t2, none⟩ = some (.string (ofL l)) := (HB.out.cell (p := ⟨gl, ol + t2, none⟩) (World.block_lt_of_cell? _ _ HCL.out)).trans HCL.out
            have hq1 := conv_sb pre HPB.out.1 HP48.out Z0
            obtain ⟨kk1, hq1⟩ := hq1
            obtain ⟨V1, hq1⟩ := hq1
            have hcv1 := hq1.1
            have rd1 := hq1.2.1
            have bv1 := hq1.2.2
            clear hq1
            have hcl3 : V1.cell? ⟨gl, ol + t2, none⟩ = some (.string (ofL l)) := (bv1.cell (p := ⟨gl, ol + t2, none⟩) (World.block_lt_of_cell? _ _ hcl2)).trans hcl2
            have hq2 := conv_sb (ofL l) HLZ.out.1 HLZ.out.2 V1
            obtain ⟨kk2, hq2⟩ := hq2
            obtain ⟨V2, hq2⟩ := hq2
            have hcv2 := hq2.1
            have rd2 := hq2.2.1
            have bv2 := hq2.2.2
            clear hq2
            have HBEG := Lib.hid (begins_any (rd1.later bv2) rd2)
            rw [begL_pre] at HBEG
            have HV := Lib.hid (show Below wr.heap.size wr V2 from (HZB.out.trans (bv1.mono HZB.out.size)).trans (bv2.mono (Nat.le_trans HZB.out.size bv1.size)))
            have hg1 : ∃ g1, g1 = Z0.heap.size := ⟨_, rfl⟩; obtain ⟨g1, hg1⟩ := hg1
            have hg2 : ∃ g2, g2 = V1.heap.size := ⟨_, rfl⟩; obtain ⟨g2, hg2⟩ := hg2
            have hs1 : ∃ s1, s1 = pre.size := ⟨_, rfl⟩; obtain ⟨s1, hs1⟩ := hs1
            have hs2 : ∃ s2, s2 = (ofL l).size := ⟨_, rfl⟩; obtain ⟨s2, hs2⟩ := hs2
            rw [← hg1, ← hs1] at hcv1 HBEG
            rw [← hg2, ← hs2] at hcv2 HBEG
            clear rd1 rd2 bv1 bv2 hg1 hg2 hs1 hs2 hcl2
            go_wp2_with fail
            refine HBEG.out.mono ?_
            rintro e V3 ⟨rfl, rfl⟩
            clear hcv1 hcv2 hcl3
            have hpb : ∃ pb, pb = preB pre (ofL l) := ⟨_, rfl⟩; obtain ⟨pb, hpb⟩ := hpb
            rw [← hpb]
            have HPBB := Lib.hid hpb
            clear hpb HBEG
            have hrm3 := HM2'.out.2.later HV.out
            have hnm3 := HM2'.out.1
            rw [HDROP.out.2] at hrm3 hnm3
            cases pb with
            | false =>
              rw [List.filter_cons, if_neg (by rw [← HPBB.out]; simp)] at hrm3 hnm3
              have HRM3 := Lib.hid (And.intro hnm3 hrm3)
              clear hrm3 hnm3
              go_wp2
              go_roundw
              case rel => exact ⟨t2 + 1, am2, nm2, km2, by omega, by go_num, rfl, HB2.out.trans (HV.out.mono HB2.out.size), HRM3.out.1, HRM3.out.2⟩
              case measure => simp [intOf]; omega
            | true =>
              rw [List.filter_cons, if_pos (by rw [← HPBB.out])] at hrm3 hnm3
              have hq3 := hrm3.cel 0 (ofL l) (by simp)
              obtain ⟨gm, hq3⟩ := hq3
              obtain ⟨om, hq3⟩ := hq3
              have ham := hq3.1
              have hcm := hq3.2
              subst ham
              clear hq3
              have hn3 : ∃ n3, n3 = ((L.drop (t2 + 1)).filter (fun l => preB pre (ofL l))).length := ⟨_, rfl⟩; obtain ⟨n3, hn3⟩ := hn3
              rw [List.length_cons, ← hn3] at hnm3
              have hkm : n3 + 1 ≤ km2 ∧ km2 ≤ maxLen := by
                have := hrm3.cap
                rw [List.length_map, List.length_cons, ← hn3] at this
                exact this
              have HRM3 := Lib.hid (And.intro hn3 hrm3)
              have HCM : Hid (V3.cell? ⟨gm, om, none⟩ = some (.string (ofL l))) := hcm
              have hclV : V3.cell? ⟨gl, ol + t2, none⟩ = some (.string (ofL l)) := (HV.out.cell (p := ⟨gl, ol + t2, none⟩) (World.block_lt_of_cell? _ _ HCL.out)).trans HCL.out
              have HCV := Lib.hid hclV
              subst hnm3
              clear hn3 hrm3 hcm hclV
              have i3 : ¬ ((n3 + 1 : Nat) : Int) = 0 := by omega
              have i4 : (((n3 + 1 : Nat) : Int) == 0) = false := by simp; omega
              have i5 : (0 : Int) < ((n3 + 1 : Nat) : Int) := by omega
              have hkx : km2 ≤ 9223372036854775807 := by have := hkm.2; unfold maxLen at this; omega
              go_upto_region 16 with fail
              have BD : Below V3.heap.size V3 V3.drew := (Below.refl _ _).drew
              refine wp_region_noPanic ?_
              refine wp_region_anyE (S := fun wx => Below V3.heap.size V3 wx) (E := fun j => true) (by kernel_rfl) ?_
              have hHeld : Below V3.heap.size V3 V3.drew := BD
              have HB := Lib.hid BD
              have hZ0 : ∃ z, z = V3.drew := ⟨_, rfl⟩
              obtain ⟨Z0, hZ0⟩ := hZ0
              rw [← hZ0] at HB hHeld ⊢
              clear hZ0 BD
              refine AnyE.take (i := 0) (.slice (some ⟨gm, om, none⟩) (n3 + 1) km2) rfl (by kernel_rfl) (by kernel_rfl) (by kernel_rfl) (by kernel_rfl) (fun _ _ _ h => h) (.inl ⟨by kernel_rfl, fun wy hy => by (go_simp; done)⟩) hHeld ?_
              try simp only [Act.put, List.setIfInBounds_toArray, List.set_cons_zero, List.set_cons_succ]
              refine AnyE.take (i := 1) (.int .i64 ((n3 + 1 : Nat) : Int)) rfl (by kernel_rfl) (by kernel_rfl) (by kernel_rfl) (by kernel_rfl) (fun _ _ _ h => h) (.inl ⟨by kernel_rfl, fun wy hy => by (go_simp; done)⟩) hHeld ?_
              try simp only [Act.put, List.setIfInBounds_toArray, List.set_cons_zero, List.set_cons_succ]
              refine AnyE.take (i := 2) (.bool false) rfl (by kernel_rfl) (by kernel_rfl) (by kernel_rfl) (by kernel_rfl) (fun _ _ _ h => h) (.inl ⟨by kernel_rfl, fun wy hy => by (go_simp; omega)⟩) hHeld ?_
              try simp only [Act.put, List.setIfInBounds_toArray, List.set_cons_zero, List.set_cons_succ]
              refine AnyE.take (i := 3) (.bool false) rfl (by kernel_rfl) (by kernel_rfl) (by kernel_rfl) (by kernel_rfl) (fun _ _ _ h => h) (.inl ⟨by kernel_rfl, fun wy hy => by (go_simp; done)⟩) hHeld ?_
              try simp only [Act.put, List.setIfInBounds_toArray, List.set_cons_zero, List.set_cons_succ]
              refine AnyE.take (i := 4) (.slice (some ⟨gm, om, none⟩) (n3 + 1) km2) rfl (by kernel_rfl) (by kernel_rfl) (by kernel_rfl) (by kernel_rfl) (fun _ _ _ h => h) (.inl ⟨by kernel_rfl, fun wy hy => by (go_simp; done)⟩) hHeld ?_
              try simp only [Act.put, List.setIfInBounds_toArray, List.set_cons_zero, List.set_cons_succ]
              refine AnyE.take (i := 5) (.pointer (some ⟨gm, om, none⟩)) rfl (by kernel_rfl) (by kernel_rfl) (by kernel_rfl) (by kernel_rfl) (fun _ _ _ h => h) (.inl ⟨by kernel_rfl, fun wy hy => by (go_simp; done)⟩) hHeld ?_
              try simp only [Act.put, List.setIfInBounds_toArray, List.set_cons_zero, List.set_cons_succ]
              refine AnyE.take (i := 6) (.string (ofL l)) rfl (by kernel_rfl) (by kernel_rfl) (by kernel_rfl) (by kernel_rfl) (fun _ _ _ h => h) (.inl ⟨by kernel_rfl, fun wy hy => by (have q0 := (hy.cell (p := ⟨gm, om, none⟩) (World.block_lt_of_cell? _ _ HCM.out)).trans HCM.out; go_simp; done)⟩) hHeld ?_
              try simp only [Act.put, List.setIfInBounds_toArray, List.set_cons_zero, List.set_cons_succ]
              refine AnyE.take (i := 7) (.slice (some ⟨gl, ol, none⟩) nl kl) rfl (by kernel_rfl) (by kernel_rfl) (by kernel_rfl) (by kernel_rfl) (fun _ _ _ h => h) (.inl ⟨by kernel_rfl, fun wy hy => by (go_simp; done)⟩) hHeld ?_
              try simp only [Act.put, List.setIfInBounds_toArray, List.set_cons_zero, List.set_cons_succ]
              refine AnyE.take (i := 8) (.int .i64 (t2 : Int)) rfl (by kernel_rfl) (by kernel_rfl) (by kernel_rfl) (by kernel_rfl) (fun _ _ _ h => h) (.inl ⟨by kernel_rfl, fun wy hy => by (go_simp; done)⟩) hHeld ?_
              try simp only [Act.put, List.setIfInBounds_toArray, List.set_cons_zero, List.set_cons_succ]
              refine AnyE.take (i := 9) (.pointer (some ⟨gl, ol + t2, none⟩)) rfl (by kernel_rfl) (by kernel_rfl) (by kernel_rfl) (by kernel_rfl) (fun _ _ _ h => h) (.inl ⟨by kernel_rfl, fun wy hy => by (go_simp; done)⟩) hHeld ?_
              try simp only [Act.put, List.setIfInBounds_toArray, List.set_cons_zero, List.set_cons_succ]
              refine AnyE.take (i := 10) (.string (ofL l)) rfl (by kernel_rfl) (by kernel_rfl) (by kernel_rfl) (by kernel_rfl) (fun _ _ _ h => h) (.inl ⟨by kernel_rfl, fun wy hy => by (have q0 := (hy.cell (p := ⟨gl, ol + t2, none⟩) (World.block_lt_of_cell? _ _ HCV.out)).trans HCV.out; go_simp; done)⟩) hHeld ?_
              try simp only [Act.put, List.setIfInBounds_toArray, List.set_cons_zero, List.set_cons_succ]
              refine AnyE.take (i := 11) (.bool false) rfl (by kernel_rfl) (by kernel_rfl) (by kernel_rfl) (by kernel_rfl) (fun _ _ _ h => h) (.inl ⟨by kernel_rfl, fun wy hy => by (go_simp; done)⟩) hHeld ?_
              try simp only [Act.put, List.setIfInBounds_toArray, List.set_cons_zero, List.set_cons_succ]
              refine AnyE.take (i := 12) (.bool false) rfl (by kernel_rfl) (by kernel_rfl) (by kernel_rfl) (by kernel_rfl) (fun _ _ _ h => h) (.inl ⟨by kernel_rfl, fun wy hy => by (go_simp; done)⟩) hHeld ?_
              try simp only [Act.put, List.setIfInBounds_toArray, List.set_cons_zero, List.set_cons_succ]
              refine AnyE.done (by kernel_rfl) (NoPanic.normal ?_) _
              clear hHeld
              go_simp
              go_step
              have HZ9 := Lib.hid (show Below V3.heap.size V3 Z0 from HB.out)
              have i6 : (1 : Int) ≤ ((n3 + 1 : Nat) : Int) := by omega
              have i7 : ((n3 + 1 : Nat) : Int) ≤ (km2 : Int) := by omega
              have hnext : RdN4 V3 (some ⟨gm, om, none⟩) km2 ((l :: (L.drop (t2 + 1)).filter (fun l => preB pre (ofL l))).map ofL) := HRM3.out.2
              go_wp2
              go_roundw
              case rel => exact ⟨t2 + 1, _, n3, km2 - 1, by omega, by go_num, rfl, (HB2.out.trans (HV.out.mono HB2.out.size)).trans (HZ9.out.mono (Nat.le_trans HB2.out.size HV.out.size)), HRM3.out.1, RdN4.next (hnext.later HZ9.out)⟩
              case measure => simp [intOf]; omega
        · have k1 : (nl : Int) ≤ (t2 : Int) := by omega
          have hend : t2 = nl := by omega
          have hm0 : nm2 = 0 := by
            have := HM2'.out.1
            rw [hend, HL.out.1.1, List.drop_length] at this
            simpa using this
          subst hm0
          clear hlt2
          obtain ⟨wx_, hwx⟩ : ∃ x, x = wr := ⟨_, rfl⟩
          have HM4 : Hid (Mad w wx_ O dB d) := by rw [hwx]; exact HM3.out.later HB2.out
          rw [← hwx]
          clear hwx
          by_cases hz : bad.size = 0
          · have hz1 : ((bad.size : Int) == 0) = true := by simp [hz]
            have HW0 : Hid (wrongS bad 0 = true) := by unfold Hid wrongS; simp [hz]
            clear hz
            have hbx : bad.size ≤ 9223372036854775807 := by have := HPB.out.2; unfold maxLen at this; omega
            go_wp2_with fail
            go_loopw [12, 13] (fun b i wy => ∃ t : Nat, t ≤ bad.size ∧ i = .int .i64 (t : Int) ∧ wy = wx_ ∧ b = .bool (wrongS bad t)) (fun _ i _ => bad.size - (intOf i).toNat)
            case atStart => exact ⟨0, Nat.zero_le _, rfl, rfl, by rw [HW0.out]⟩
            case round =>
              obtain ⟨t3, ht3, rfl, rfl, rfl⟩ := hrel
              by_cases hlt3 : t3 < bad.size
              · have k1 : (t3 : Int) < (bad.size : Int) := by omega
                have k2 : (0 : Int) ≤ (t3 : Int) := by omega
                have HBY : Hid (byt4 bad t3 = (bad[t3]'hlt3).toNat) := byt4_in hlt3
                have hstep := wrong_step bad t3
                rw [HBY.out] at hstep
                obtain ⟨B, hB⟩ : ∃ B, B = wrongS bad t3 := ⟨_, rfl⟩
                rw [← hB] at hstep ⊢
                have HST := Lib.hid hstep
                clear hstep hB
                cases B with
                | true =>
                  go_wp2
                  go_roundw
                  case rel => exact ⟨t3 + 1, by omega, by go_num, trivial, by rw [HST.out]; rfl⟩
                  case measure => simp [intOf]; omega
                | false =>
                  by_cases c1 : ((bad[t3]'hlt3).toNat : Int) ≤ 32
                  · have c2 : (bad[t3]'hlt3).toNat ≤ 32 := by omega
                    have c3 : decide (((bad[t3]'hlt3).toNat : Int) ≤ 32) = true := decide_eq_true c1
                    go_wp2
                    go_roundw
                    case rel => exact ⟨t3 + 1, by omega, by go_num, trivial, by rw [HST.out]; simp [c2]⟩
                    case measure => simp [intOf]; omega
                  · have c2 : ¬ (bad[t3]'hlt3).toNat ≤ 32 := by omega
                    have c3 : decide (((bad[t3]'hlt3).toNat : Int) ≤ 32) = false := decide_eq_false c1
                    go_wp2
                    go_roundw
                    case rel => exact ⟨t3 + 1, by omega, by go_num, trivial, by rw [HST.out]; congr 1; simp [c2]; omega⟩
                    case measure => simp [intOf]; omega
              · have k1 : (bad.size : Int) ≤ (t3 : Int) := by omega
                have hend3 : t3 = bad.size := by omega
                have HEND := Lib.hid hend3
                clear hlt3 hend3
                obtain ⟨B, hB⟩ : ∃ B, B = wrongS bad t3 := ⟨_, rfl⟩
                rw [← hB]
                have HBB := Lib.hid hB
                clear hB
                cases B with
                | false =>
                  go_wp2
                  go_ret
                  exact ⟨rfl, HM4.out.bel⟩
                | true =>
                  have HBAD : Hid (¬ DkName bad) := wrong_bad (by rw [← HEND.out]; exact HBB.out.symm)
                  clear HBB
                  have HUP : Hid (UpD d) := HM.out.2
                  have HNUM : ∀ (W : World), Hid (Calls Try.prog 14 #[.int .i64 40] W fun e w' => e = .returned (.int .i64 40) ∧ w' = W) := fun W => num_any 40 W
                  go_wp2_with fail
                  refine (read_bad HM4.out.dsk HBAD.out HUP.out.2 (-1) (-1)).mono ?_
                  rintro e y1 ⟨rfl, b9⟩
                  have HM5 := Lib.hid (HM4.out.later b9)
                  clear b9
                  go_wp2_with fail
                  refine (size_bad HM5.out.dsk HBAD.out HUP.out.2).mono ?_
                  rintro e y2 ⟨rfl, b9⟩
                  have HM6 := Lib.hid (HM5.out.later b9)
                  clear b9
                  go_wp2_with fail
                  refine (create_any (s := bad) HM6.out.dsk).mono ?_
                  intro e y7 ha
                  obtain ⟨rfl, Q7, m9⟩ := HM6.out.step ha
                  rw [create_bad HBAD.out HUP.out.2] at m9 ⊢
                  have HM7 := Lib.hid m9
                  clear m9 ha
                  simp only
                  go_wp2_with fail
                  refine (HNUM _).out.mono ?_
                  rintro e z7 ⟨rfl, rfl⟩
                  go_wp2_with fail
                  refine (append_any (s := bad) (bs := []) HM7.out.dsk (RdA.nil _ _)).mono ?_
                  intro e y8 ha
                  obtain ⟨rfl, Q8, m9⟩ := HM7.out.step ha
                  rw [append_bad HBAD.out HUP.out.2 []] at m9 ⊢
                  have HM8 := Lib.hid m9
                  clear m9 ha
                  simp only
                  go_wp2_with fail
                  refine (HNUM _).out.mono ?_
                  rintro e z8 ⟨rfl, rfl⟩
                  go_wp2_with fail
                  refine (sync_any (s := bad) HM8.out.dsk).mono ?_
                  intro e y9 ha
                  obtain ⟨rfl, Q9, m9⟩ := HM8.out.step ha
                  rw [sync_bad HBAD.out HUP.out.2] at m9 ⊢
                  have HM9 := Lib.hid m9
                  clear m9 ha
                  simp only
                  go_wp2_with fail
                  refine (HNUM _).out.mono ?_
                  rintro e z9 ⟨rfl, rfl⟩
                  go_wp2_with fail
                  refine (rename_any (s := bad) (t := ⟨#[120]⟩) HM9.out.dsk).mono ?_
                  intro e y10 ha
                  obtain ⟨rfl, Q10, m9⟩ := HM9.out.step ha
                  rw [rename_bad (.inl HBAD.out) HUP.out.2] at m9 ⊢
                  have HM10 := Lib.hid m9
                  clear m9 ha
                  simp only
                  go_wp2_with fail
                  refine (HNUM _).out.mono ?_
                  rintro e z10 ⟨rfl, rfl⟩
                  go_wp2_with fail
                  refine (rename_any (s := ⟨#[120]⟩) (t := bad) HM10.out.dsk).mono ?_
                  intro e y11 ha
                  obtain ⟨rfl, Q11, m9⟩ := HM10.out.step ha
                  rw [rename_bad (.inr HBAD.out) HUP.out.2] at m9 ⊢
                  have HM11 := Lib.hid m9
                  clear m9 ha
                  simp only
                  go_wp2_with fail
                  refine (HNUM _).out.mono ?_
                  rintro e z11 ⟨rfl, rfl⟩
                  go_wp2_with fail
                  refine (delete_any (s := bad) HM11.out.dsk).mono ?_
                  intro e y12 ha
                  obtain ⟨rfl, Q12, m9⟩ := HM11.out.step ha
                  rw [delete_bad HBAD.out HUP.out.2] at m9 ⊢
                  have HM12 := Lib.hid m9
                  clear m9 ha
                  simp only
                  go_wp2_with fail
                  refine (HNUM _).out.mono ?_
                  rintro e z12 ⟨rfl, rfl⟩
                  go_wp2_with fail
                  refine (flip_bad HBAD.out 0).mono ?_
                  rintro e y20 ⟨rfl, b9⟩
                  have HMF := Lib.hid (HM12.out.later b9)
                  clear b9
                  go_wp2_with fail
                  refine (HNUM _).out.mono ?_
                  rintro e z20 ⟨rfl, rfl⟩
                  go_wp2_with fail
                  refine (HNUM _).out.mono ?_
                  rintro e z21 ⟨rfl, rfl⟩
                  go_wp2_with fail
                  refine (HNUM _).out.mono ?_
                  rintro e z22 ⟨rfl, rfl⟩
                  go_wp2
                  go_ret
                  exact ⟨rfl, HMF.out.bel⟩
          · have hz1 : ((bad.size : Int) == 0) = false := by simp [hz]
            have HW0 : Hid (wrongS bad 0 = decide ((64 : Int) < (bad.size : Int))) := by unfold Hid wrongS; simp [hz]; omega
            clear hz
            have hbx : bad.size ≤ 9223372036854775807 := by have := HPB.out.2; unfold maxLen at this; omega
            go_wp2_with fail
            go_loopw [12, 13] (fun b i wy => ∃ t : Nat, t ≤ bad.size ∧ i = .int .i64 (t : Int) ∧ wy = wx_ ∧ b = .bool (wrongS bad t)) (fun _ i _ => bad.size - (intOf i).toNat)
            case atStart => exact ⟨0, Nat.zero_le _, rfl, rfl, by rw [HW0.out]⟩
            case round =>
              obtain ⟨t3, ht3, rfl, rfl, rfl⟩ := hrel
              by_cases hlt3 : t3 < bad.size
              · have k1 : (t3 : Int) < (bad.size : Int) := by omega
                have k2 : (0 : Int) ≤ (t3 : Int) := by omega
                have HBY : Hid (byt4 bad t3 = (bad[t3]'hlt3).toNat) := byt4_in hlt3
                have hstep := wrong_step bad t3
                rw [HBY.out] at hstep
                obtain ⟨B, hB⟩ : ∃ B, B = wrongS bad t3 := ⟨_, rfl⟩
                rw [← hB] at hstep ⊢
                have HST := Lib.hid hstep
                clear hstep hB
                cases B with
                | true =>
                  go_wp2
                  go_roundw
                  case rel => exact ⟨t3 + 1, by omega, by go_num, trivial, by rw [HST.out]; rfl⟩
                  case measure => simp [intOf]; omega
                | false =>
                  by_cases c1 : ((bad[t3]'hlt3).toNat : Int) ≤ 32
                  · have c2 : (bad[t3]'hlt3).toNat ≤ 32 := by omega
                    have c3 : decide (((bad[t3]'hlt3).toNat : Int) ≤ 32) = true := decide_eq_true c1
                    go_wp2
                    go_roundw
                    case rel => exact ⟨t3 + 1, by omega, by go_num, trivial, by rw [HST.out]; simp [c2]⟩
                    case measure => simp [intOf]; omega
                  · have c2 : ¬ (bad[t3]'hlt3).toNat ≤ 32 := by omega
                    have c3 : decide (((bad[t3]'hlt3).toNat : Int) ≤ 32) = false := decide_eq_false c1
                    go_wp2
                    go_roundw
                    case rel => exact ⟨t3 + 1, by omega, by go_num, trivial, by rw [HST.out]; congr 1; simp [c2]; omega⟩
                    case measure => simp [intOf]; omega
              · have k1 : (bad.size : Int) ≤ (t3 : Int) := by omega
                have hend3 : t3 = bad.size := by omega
                have HEND := Lib.hid hend3
                clear hlt3 hend3
                obtain ⟨B, hB⟩ : ∃ B, B = wrongS bad t3 := ⟨_, rfl⟩
                rw [← hB]
                have HBB := Lib.hid hB
                clear hB
                cases B with
                | false =>
                  go_wp2
                  go_ret
                  exact ⟨rfl, HM4.out.bel⟩
                | true =>
                  have HBAD : Hid (¬ DkName bad) := wrong_bad (by rw [← HEND.out]; exact HBB.out.symm)
                  clear HBB
                  have HUP : Hid (UpD d) := HM.out.2
                  have HNUM : ∀ (W : World), Hid (Calls Try.prog 14 #[.int .i64 40] W fun e w' => e = .returned (.int .i64 40) ∧ w' = W) := fun W => num_any 40 W
                  go_wp2_with fail
                  refine (read_bad HM4.out.dsk HBAD.out HUP.out.2 (-1) (-1)).mono ?_
                  rintro e y1 ⟨rfl, b9⟩
                  have HM5 := Lib.hid (HM4.out.later b9)
                  clear b9
                  go_wp2_with fail
                  refine (size_bad HM5.out.dsk HBAD.out HUP.out.2).mono ?_
                  rintro e y2 ⟨rfl, b9⟩
                  have HM6 := Lib.hid (HM5.out.later b9)
                  clear b9
                  go_wp2_with fail
                  refine (create_any (s := bad) HM6.out.dsk).mono ?_
                  intro e y7 ha
                  obtain ⟨rfl, Q7, m9⟩ := HM6.out.step ha
                  rw [create_bad HBAD.out HUP.out.2] at m9 ⊢
                  have HM7 := Lib.hid m9
                  clear m9 ha
                  simp only
                  go_wp2_with fail
                  refine (HNUM _).out.mono ?_
                  rintro e z7 ⟨rfl, rfl⟩
                  go_wp2_with fail
                  refine (append_any (s := bad) (bs := []) HM7.out.dsk (RdA.nil _ _)).mono ?_
                  intro e y8 ha
                  obtain ⟨rfl, Q8, m9⟩ := HM7.out.step ha
                  rw [append_bad HBAD.out HUP.out.2 []] at m9 ⊢
                  have HM8 := Lib.hid m9
                  clear m9 ha
                  simp only
                  go_wp2_with fail
                  refine (HNUM _).out.mono ?_
                  rintro e z8 ⟨rfl, rfl⟩
                  go_wp2_with fail
                  refine (sync_any (s := bad) HM8.out.dsk).mono ?_
                  intro e y9 ha
                  obtain ⟨rfl, Q9, m9⟩ := HM8.out.step ha
                  rw [sync_bad HBAD.out HUP.out.2] at m9 ⊢
                  have HM9 := Lib.hid m9
                  clear m9 ha
                  simp only
                  go_wp2_with fail
                  refine (HNUM _).out.mono ?_
                  rintro e z9 ⟨rfl, rfl⟩
                  go_wp2_with fail
                  refine (rename_any (s := bad) (t := ⟨#[120]⟩) HM9.out.dsk).mono ?_
                  intro e y10 ha
                  obtain ⟨rfl, Q10, m9⟩ := HM9.out.step ha
                  rw [rename_bad (.inl HBAD.out) HUP.out.2] at m9 ⊢
                  have HM10 := Lib.hid m9
                  clear m9 ha
                  simp only
                  go_wp2_with fail
                  refine (HNUM _).out.mono ?_
                  rintro e z10 ⟨rfl, rfl⟩
                  go_wp2_with fail
                  refine (rename_any (s := ⟨#[120]⟩) (t := bad) HM10.out.dsk).mono ?_
                  intro e y11 ha
                  obtain ⟨rfl, Q11, m9⟩ := HM10.out.step ha
                  rw [rename_bad (.inr HBAD.out) HUP.out.2] at m9 ⊢
                  have HM11 := Lib.hid m9
                  clear m9 ha
                  simp only
                  go_wp2_with fail
                  refine (HNUM _).out.mono ?_
                  rintro e z11 ⟨rfl, rfl⟩
                  go_wp2_with fail
                  refine (delete_any (s := bad) HM11.out.dsk).mono ?_
                  intro e y12 ha
                  obtain ⟨rfl, Q12, m9⟩ := HM11.out.step ha
                  rw [delete_bad HBAD.out HUP.out.2] at m9 ⊢
                  have HM12 := Lib.hid m9
                  clear m9 ha
                  simp only
                  go_wp2_with fail
                  refine (HNUM _).out.mono ?_
                  rintro e z12 ⟨rfl, rfl⟩
                  go_wp2_with fail
                  refine (flip_bad HBAD.out 0).mono ?_
                  rintro e y20 ⟨rfl, b9⟩
                  have HMF := Lib.hid (HM12.out.later b9)
                  clear b9
                  go_wp2_with fail
                  refine (HNUM _).out.mono ?_
                  rintro e z20 ⟨rfl, rfl⟩
                  go_wp2_with fail
                  refine (HNUM _).out.mono ?_
                  rintro e z21 ⟨rfl, rfl⟩
                  go_wp2_with fail
                  refine (HNUM _).out.mono ?_
                  rintro e z22 ⟨rfl, rfl⟩
                  go_wp2
                  go_ret
                  exact ⟨rfl, HMF.out.bel⟩
end Go.Proofs.Ytbheifelfeekmaa

namespace Go.Proofs.Ytbheifelfeekmaa
open Go.ChangeShapes Go.WideShapes Go.ChangeAt Go.RowKit
set_option linter.unusedVariables false

theorem cells_strN : Try.prog.cellsOf 9 = 1 := by kernel_rfl
theorem weight_atN {H : Type} : ∀ {ts : List TypeId} {ds : List (DataW H)} (h : (DataW.weightsEach Try.prog ts ds).all (fun x => decide (x ≤ reachBytes)) = true) (j : Nat) {t : TypeId} {d : DataW H} (ht : ts[j]? = some t) (hd : ds[j]? = some d), (d.weights Try.prog t).all (fun x => decide (x ≤ reachBytes)) = true
  | [], _, _, j, _, _, ht, _ => by simp at ht
  | _ :: _, [], _, j, _, _, _, hd => by simp at hd
  | t :: ts, d :: ds, h, 0, _, _, ht, hd => by
    simp only [List.getElem?_cons_zero, Option.some.injEq] at ht hd
    subst ht hd
    simp only [DataW.weightsEach, List.all_append, Bool.and_eq_true] at h
    exact h.1
  | t :: ts, d :: ds, h, j + 1, _, _, ht, hd => by
    simp only [DataW.weightsEach, List.all_append, Bool.and_eq_true] at h
    exact weight_atN h.2 j (by simpa using ht) (by simpa using hd)
theorem str_reach {H : Type} {ts : List TypeId} {ds : List (DataW H)} (h : (DataW.weightsEach Try.prog ts ds).all (fun x => decide (x ≤ reachBytes)) = true) (j : Nat) {t : TypeId} {s : ByteArray} (ht : ts[j]? = some t) (hd : ds[j]? = some (.lit (.string s.data.toList))) : s.size ≤ 281474976710656 := by
  have := weight_atN h j ht hd
  simp only [DataW.weights, List.all_cons, List.all_nil, Bool.and_true, decide_eq_true_eq, Array.length_toList] at this
  unfold reachBytes at this
  have e : s.size = s.data.size := rfl
  omega
theorem open_names4 {H : Type} {enc : TypeId × Value → H} {W : World} {v : Value} {d : DataW H} {p : List MemPlace} {base : Nat} {held : Bool} (h : DataW.Trod enc Try.prog W base (fun _ => true) held 22 v d p) (hs : ∃ a n c, v = .slice a n c) : ∃ (ss : List ByteArray) (a : Option Addr) (c : Nat), v = .slice a ss.length c ∧ RdN4 W a c ss := by
  obtain ⟨a, n, c, rfl⟩ := hs
  obtain ⟨fuel, hf⟩ := h
  rcases Deep.open_slice1 und_strs4 cells_strN hf with ⟨hcs, hx⟩ | ⟨x, l, c', m, k, V, D, Pl, hcs, _, hl, hm, hmm, hx, hel⟩
  · simp [Value.cells] at hcs
    obtain ⟨rfl, rfl, rfl⟩ := hcs
    exact ⟨[], none, 0, rfl, ⟨by simp, by decide⟩, fun i s hs => by simp at hs⟩
  · simp [Value.cells] at hcs
    obtain ⟨rfl, rfl, rfl⟩ := hcs
    simp only [if_true] at hmm
    have all : ∀ j, j ≤ n → ∃ ss : List ByteArray, ss.length = j ∧ ∀ i s, ss[i]? = some s → V i = .string s := by
      intro j
      induction j with
      | zero => intro _; exact ⟨[], rfl, fun i s hs => by simp at hs⟩
      | succ j ih =>
        intro hj
        obtain ⟨ss, hl2, hr⟩ := ih (by omega)
        obtain ⟨hcell, htr⟩ := hel j (by omega)
        obtain ⟨s', hv, _⟩ := DataW.trod_string und_string htr
        simp only [List.cons.injEq, and_true] at hv
        refine ⟨ss ++ [s'], by simp [hl2], fun i s hs => ?_⟩
        by_cases hij : i < j
        · rw [List.getElem?_append_left (by omega)] at hs
          exact hr i s hs
        · have hlt := (List.getElem?_eq_some_iff.1 hs).1
          rw [List.length_append, hl2] at hlt
          simp at hlt
          have e : i = j := by omega
          subst e
          rw [List.getElem?_append_right (by omega), hl2, Nat.sub_self] at hs
          simp at hs
          subst hs
          exact hv
    obtain ⟨ss, hl2, hr⟩ := all n (Nat.le_refl _)
    refine ⟨ss, some x, c, by rw [hl2], ⟨by rw [hl2]; exact hl, hm⟩, fun i s hs => ?_⟩
    have hi := (List.getElem?_eq_some_iff.1 hs).1
    obtain ⟨hcell, _⟩ := hel i (by omega)
    rw [hr i s hs] at hcell
    obtain ⟨b, off, spot⟩ := x
    have hspot : spot = none := by
      have h0 := (hel 0 (by omega)).1
      simpa [Addr.add] using World.cell?_spot h0
    subst hspot
    have e : (⟨b, off, none⟩ : Addr).add i = ⟨b, off + i, none⟩ := by unfold Addr.add; split <;> simp_all
    rw [e] at hcell
    exact ⟨b, off, rfl, hcell⟩
end Go.Proofs.Ytbheifelfeekmaa
