import Derived.Test.YtbheifelfeekmaaK07
namespace Go.Proofs.Ytbheifelfeekmaa
open Go.RowKit Go.MapKept Go.Sort
set_option linter.unusedVariables false
set_option linter.unusedSimpArgs false
variable {w w' W X : World} {O O' : Nat → Prop} {dB : Nat} {d : Dk4}
theorem crash1_eq {cuts : List Int} {t : Nat} {v : List Nat × Nat} (h : v.2 = v.1.length) : crash1 cuts t v = v := by rw [crash1, if_pos h]
theorem crash1_no {cuts : List Int} {t : Nat} {v : List Nat × Nat} (hs : v.2 ≤ v.1.length) (h : cuts.getD t 0 ≤ 0) : (crash1 cuts t v).2 = v.2 := by
  unfold crash1 keepN
  split
  · rfl
  · simp only
    omega
theorem crash1_on {cuts : List Int} {t : Nat} {v : List Nat × Nat} (hs : v.2 ≤ v.1.length) (hn : v.2 ≠ v.1.length) (h : 0 < cuts.getD t 0) : ((crash1 cuts t v).2 : Int) = (v.2 : Int) + min (cuts.getD t 0) ((v.1.length : Int) - (v.2 : Int)) := by
  unfold crash1 keepN
  rw [if_neg hn]
  simp only
  omega
theorem begL_crash {cuts : List Int} {t : Nat} {v : List Nat × Nat} (hs : v.2 ≤ v.1.length) : begL (crash1 cuts t v).1 v.1 = true ∧ (crash1 cuts t v).1.length = (crash1 cuts t v).2 := by
  unfold crash1
  split
  · rename_i h
    exact ⟨by simp [begL], h.symm⟩
  · have h2 := (keepN_le hs (cuts.getD t 0)).2
    refine ⟨?_, by simp only [List.length_take]; omega⟩
    unfold begL
    simp [List.length_take]
    omega
theorem tailsF_le (fs : List PF) (xs : List (List UInt8)) : tailsF fs xs ≤ xs.length := by
  unfold tailsF
  exact List.length_filter_le _ _
set_option maxRecDepth 100000 in
set_option maxHeartbeats 8000000 in
theorem diskSafe_walk {aA aC : Option Addr} {nA kA nC kC : Nat} {acts : List DidD} {cuts : List Int} {arm : Int} (hA : nA = acts.length) (hr : RdDid w aA kA acts) (hC : nC = cuts.length) (hc : RdI4 w (fun i => w.heap.size ≤ i) aC kC cuts) (ha : arm ≤ 9223372036854775807) :
    Calls Try.prog 4 #[.slice aA nA kA, .slice aC nC kC, .int .i64 arm] w fun e w' => e = .returned (.bool true) ∧ Below w.heap.size w w' := by
  have hax : nA ≤ 9223372036854775807 := by have := hr.cap; unfold maxLen at this; omega
  have HA := Lib.hid (And.intro hA hC)
  have HR := Lib.hid (And.intro hr hc)
  have HMADE := Lib.hid (made_any (n := 4096) (by decide) (by decide) w)
  have HARM := Lib.hid ha
  clear hA hr hC hc ha
  go_enter Try.func4, Try.ntmps4
  go_wp2_with fail
  refine HMADE.out.mono ?_
  rintro e w1 ⟨O1, dB, c1, rfl, m1⟩
  have M1 := Lib.hid m1
  clear m1
  go_wp2_with fail
  refine (arm_any M1.out.dsk arm HARM.out).mono ?_
  rintro e w2 ⟨rfl, d2, g2⟩
  have M2 := Lib.hid (M1.out.go d2 g2)
  clear d2 g2
  go_wp2_with fail
  go_loopw [8] (fun i wr => ∃ (t : Nat) (O : Nat → Prop) (d : Dk4), t ≤ nA ∧ i = .int .i64 (t : Int) ∧ Mad w wr O dB d) (fun i _ => nA - (intOf i).toNat)
  case atStart => exact ⟨0, O1, _, Nat.zero_le _, rfl, M2.out⟩
  case round =>
    obtain ⟨t, O, d, ht, rfl, m⟩ := hrel
    have HM := Lib.hid m
    clear m
    by_cases hlt : t < nA
    · have j1 : (t : Int) < (nA : Int) := by omega
      have j2 : (0 : Int) ≤ (t : Int) := by omega
      have hx : ∃ x, acts[t]? = some x := ⟨_, List.getElem?_eq_getElem (by rw [← HA.out.1]; exact hlt)⟩
      obtain ⟨x, hx⟩ := hx
      have hcx := HR.out.1.cel t x hx
      obtain ⟨g, hcx⟩ := hcx
      obtain ⟨off, hcx⟩ := hcx
      have hag := hcx.1
      subst hag
      have lg := World.block_lt_of_cell? _ _ hcx.2.1
      simp only at lg
      have q0 := (HM.out.bel.cell (p := ⟨g, off + t * 4, none⟩) lg).trans hcx.2.1
      have q1 := (HM.out.bel.cell (p := ⟨g, off + t * 4 + 1, none⟩) lg).trans hcx.2.2.1
      have q2 := (HM.out.bel.cell (p := ⟨g, off + t * 4 + 2, none⟩) lg).trans hcx.2.2.2.1
      have q3 := (HM.out.bel.cell (p := ⟨g, off + t * 4 + 3, none⟩) lg).trans hcx.2.2.2.2
      have hra := RdA.mad (HR.out.1.dat x (List.mem_of_getElem? hx)) HM.out
      have HC := Lib.hid (act_any (kind := x.kind) (file := x.file) (too := x.too) HM.out.dsk hra)
      clear hcx hra hx
      go_wp2_with fail
      refine HC.out.mono ?_
      intro e w3 hans
      have hst := HM.out.step hans
      have he := hst.1
      have hst2 := hst.2
      obtain ⟨O3, m3⟩ := hst2
      subst he
      have HM3 := Lib.hid m3
      clear hans hst m3 q0 q1 q2 q3
      go_wp2
      go_roundw
      case rel => exact ⟨t + 1, O3, _, by omega, by go_num, HM3.out⟩
      case measure => simp [intOf]; omega
    · have j1 : (nA : Int) ≤ (t : Int) := by omega
      clear hlt
      go_wp2_with fail
      refine (files_any HM.out.dsk).mono ?_
      rintro e w4 ⟨a1, n1, kA1, l1, rfl, f1, hl1, b4⟩
      have HM4 := Lib.hid (HM.out.later b4)
      have HF1 := Lib.hid (And.intro f1 hl1)
      have hO4 : ∀ i, O i → i < wr.heap.size := HM.out.dsk.lt
      have HO4 := Lib.hid hO4
      have HB4 := Lib.hid b4
      clear f1 hl1 b4 hO4
      go_wp2_with fail
      refine (crash_any HM4.out.dsk (RdI4.mad HR.out.2 HM4.out) HA.out.2).mono ?_
      rintro e w5 ⟨rfl, O5, d5, g5⟩
      have HM5 := Lib.hid (HM4.out.go d5 g5)
      have HF5 := Lib.hid (HF1.out.1.go g5 HO4.out)
      clear d5 g5
      go_wp2_with fail
      refine (files_any HM5.out.dsk).mono ?_
      rintro e w6 ⟨a2, n2, k2, l2, rfl, f2, hl2, b6⟩
      have HM6 := Lib.hid (HM5.out.later b6)
      have HF6 := Lib.hid (HF5.out.later b6)
      have HF2 := Lib.hid (And.intro f2 hl2)
      clear f2 hl2 b6
      have hs0 := safe_at HM.out.dsk.1 HF1.out.2 HF2.out.2
      obtain ⟨L, hL⟩ : ∃ L, L = lsP d.fs ⟨#[]⟩ := ⟨_, rfl⟩
      rw [← hL] at hs0
      have hn1 := HF1.out.1.len
      have hn2 : n2 = n1 := by rw [HF2.out.1.len, hs0.2.1, hn1]
      subst hn2
      have hsm1 : ∀ x ∈ l1, x.1.2.1.length ≤ 281474976710656 := fun x hx => by
        obtain ⟨i, hi⟩ := List.getElem?_of_mem hx
        have hil := (List.getElem?_eq_some_iff.1 hi).1
        obtain ⟨z, hz⟩ : ∃ z, l2[i]? = some z := ⟨_, List.getElem?_eq_getElem (by rw [hs0.2.1]; exact hil)⟩
        have := (hs0.2.2.2.2.2 i x z hi hz).sm
        omega
      have hsm2 : ∀ x ∈ l2, x.1.2.1.length ≤ 281474976710656 := fun x hx => by
        obtain ⟨i, hi⟩ := List.getElem?_of_mem hx
        have hil := (List.getElem?_eq_some_iff.1 hi).1
        obtain ⟨y, hy⟩ : ∃ y, l1[i]? = some y := ⟨_, List.getElem?_eq_getElem (by rw [← hs0.2.1]; exact hil)⟩
        have h := hs0.2.2.2.2.2 i y x hy hi
        have h2 := h.sm
        rw [h.cr]
        unfold crash1
        split
        · omega
        · simp only [List.length_take]
          omega
      have HL1 := Lib.hid (HF6.out.rd hsm1)
      have HL2 := Lib.hid (HF2.out.1.rd hsm2)
      have HS := Lib.hid hs0
      have hdn := hs0.2.2.2.1
      have HDN := Lib.hid (down_any HM6.out.dsk)
      rw [hdn] at HDN
      have hct : ((crashD d cuts).1 : Int) = (tailsF d.fs L : Int) := by rw [hs0.2.2.1]
      rw [hct]
      have hn256 : n2 ≤ 256 := by rw [hn1]; exact hs0.2.2.2.2.1
      have HNL := Lib.hid (And.intro hn1 (And.intro hs0.1 hs0.2.1))
      clear hs0 hn1 hsm1 hsm2 hdn hct hL
      have htk : tailsF d.fs L ≤ L.length := by unfold tailsF; exact List.length_filter_le _ _
      obtain ⟨T, hT⟩ : ∃ T, T = tailsF d.fs L := ⟨_, rfl⟩
      rw [← hT]
      have HT := Lib.hid (And.intro hT htk)
      clear hT htk
      go_wp2_with fail
      refine HDN.out.mono ?_
      rintro e w7 ⟨rfl, rfl⟩
      go_wp2_with fail
      go_loopw [12, 13] (fun kv i wx => ∃ t : Nat, t ≤ n2 ∧ i = .int .i64 (t : Int) ∧ kv = .int .i64 ((tailsF d.fs (L.take t) : Nat) : Int) ∧ Below w7.heap.size w7 wx) (fun _ i _ => n2 - (intOf i).toNat)
      case atStart => exact ⟨0, Nat.zero_le _, rfl, rfl, Below.refl _ _⟩
      case round =>
        obtain ⟨t2, ht2, rfl, rfl, hbx⟩ := hrel
        have HBX := Lib.hid hbx
        clear hbx
        by_cases hlt2 : t2 < n2
        · skip
          have k1 : (t2 : Int) < (n2 : Int) := by omega
          have k2 : (0 : Int) ≤ (t2 : Int) := by omega
          have hy : ∃ y, l1[t2]? = some y := ⟨_, List.getElem?_eq_getElem (by rw [← HNL.out.1]; exact hlt2)⟩
          obtain ⟨y, hy⟩ := hy
          have hz : ∃ z, l2[t2]? = some z := ⟨_, List.getElem?_eq_getElem (by rw [HNL.out.2.2, ← HNL.out.1]; exact hlt2)⟩
          obtain ⟨z, hz⟩ := hz
          have hsa := HS.out.2.2.2.2.2 t2 y z hy hz
          have hfi := find4_any (w := _) (HL2.out.2.later HBX.out) (HL2.out.1) hz hsa.ne
          rw [hsa.nm] at hfi
          have HFI := Lib.hid hfi
          have hcy := (HL1.out.2.later HBX.out).cel t2 y hy
          obtain ⟨g, hcy⟩ := hcy
          obtain ⟨off, hcy⟩ := hcy
          have hag := hcy.1
          have hcy0 := hcy.2
          subst hag
          have hdy := (HL1.out.2.later HBX.out).dat y (List.mem_of_getElem? hy)
          obtain ⟨ay, hdy⟩ := hdy
          obtain ⟨ky, hdy⟩ := hdy
          have hdz := (HL2.out.2.later HBX.out).dat z (List.mem_of_getElem? hz)
          obtain ⟨az, hdz⟩ := hdz
          obtain ⟨kz, hdz⟩ := hdz
          obtain ⟨⟨yn, yd, ys⟩, yv⟩ := y
          obtain ⟨⟨zn, zd, zk⟩, zv⟩ := z
          simp only at hcy0 hdy hdz
          have hyv := hdy.1
          have hzv := hdz.1
          have hnyy : ∃ ny, ny = yd.length := ⟨_, rfl⟩
          obtain ⟨ny, hny⟩ := hnyy
          have hnzz : ∃ nz, nz = zd.length := ⟨_, rfl⟩
          obtain ⟨nz, hnz⟩ := hnzz
          rw [← hny] at hyv
          rw [← hnz] at hzv
          subst hyv
          subst hzv
          have HD2 := Lib.hid (And.intro hdy.2 hdz.2)
          have HNN := Lib.hid (And.intro hny hnz)
          have lg := World.block_lt_of_cell? _ _ hcy0.1
          simp only at lg
          have HCY := Lib.hid hcy0
          have HSA := Lib.hid hsa
          have h0 := hcy0.1
          have hys : ys ≤ ny := by rw [hny]; exact hsa.sy
          have hsm : ny ≤ 67108864 := by rw [hny]; exact hsa.sm
          clear hy hz hsa hfi hcy hdy hdz hny hnz hcy0
          simp only at HFI
          go_wp2_with fail
          refine HFI.out.mono ?_
          rintro e x1 ⟨rfl, bx1⟩
          have c1 := (bx1.cell (p := ⟨g, off + t2 * 3 + 1, none⟩) lg).trans HCY.out.2.1
          have c2 := (bx1.cell (p := ⟨g, off + t2 * 3 + 2, none⟩) lg).trans HCY.out.2.2
          have HX1 := Lib.hid (HBX.out.trans (bx1.mono HBX.out.size))
          have HRY := Lib.hid (HD2.out.1.later bx1)
          have HRZ := Lib.hid (HD2.out.2.later bx1)
          have lg1 : g < x1.heap.size := Nat.lt_of_lt_of_le lg bx1.size
          clear bx1 h0
          go_upto_region 19 with fail
          have hfb : ∃ fb, fb = x1.heap.size := ⟨_, rfl⟩
          obtain ⟨fb, hfb⟩ := hfb
          have hW0 : ∃ z, z = x1.alloc (Obj.cells #[Value.string yn, Value.slice az nz kz, Value.int .i64 (zk : Int)] 50) := ⟨_, rfl⟩
          obtain ⟨W0, hW0⟩ := hW0
          have hnew : W0.heap[fb]? = some (Obj.cells #[Value.string yn, Value.slice az nz kz, Value.int .i64 (zk : Int)] 50) := by rw [hW0, hfb]; exact heap_alloc_new _ _
          have bW0 : Below x1.heap.size x1 W0 := by rw [hW0]; exact (Below.refl _ _).alloc (Nat.le_refl _) _
          have f1 : W0.cell? ⟨fb, 1, none⟩ = some (.slice az nz kz) := by simp [World.cell?, hnew]
          have f2 : W0.cell? ⟨fb, 2, none⟩ = some (.int .i64 (zk : Int)) := by simp [World.cell?, hnew]
          have lfb := World.block_lt_of_cell? _ _ f1
          simp only at lfb
          rw [← hW0, ← hfb]
          have C1 := (bW0.cell (p := ⟨g, off + t2 * 3 + 1, none⟩) lg1).trans c1
          have C2 := (bW0.cell (p := ⟨g, off + t2 * 3 + 2, none⟩) lg1).trans c2
          have lgW : g < W0.heap.size := Nat.lt_of_lt_of_le lg1 bW0.size
          have HW0 := Lib.hid (HX1.out.trans (bW0.mono HX1.out.size))
          have HRYZ := Lib.hid (And.intro (HRY.out.later bW0) (HRZ.out.later bW0))
          have HF12 := Lib.hid (And.intro f1 f2)
          have hcr := HSA.out.cr
          simp only at hcr
          have hnx := HSA.out.nx
          simp only at hnx
          have hkk : ∃ kk, kk = tailsF d.fs (L.take t2) := ⟨_, rfl⟩
          obtain ⟨kk, hkk⟩ := hkk
          rw [← hkk] at hcr hnx ⊢
          have hkL : kk ≤ 256 := by
            have h1 : (L.take t2).length ≤ t2 := List.length_take_le _ _
            have h2 := tailsF_le d.fs (L.take t2)
            omega
          have hbg := begL_crash (cuts := cuts) (t := kk) (v := (yd, ys)) HSA.out.sy
          rw [← hcr] at hbg
          simp only at hbg
          have hnzz : nz = zk := by rw [HNN.out.2]; exact hbg.2
          have hbg1 := hbg.1
          have hnyl := HNN.out.1
          have hCW := RdI4.mad HR.out.2 (HM6.out.later HW0.out)
          clear hnew hfb hW0 c1 c2 lg1 f1 f2 bW0 hkk hbg
          subst hnzz
          have HBG := Lib.hid (And.intro hbg1 hnyl)
          clear hbg1 hnyl
          by_cases hA : ys = ny
          · have hz : nz = ys := by have e1 := crash1_eq (cuts := cuts) (t := kk) (v := (yd, ys)) (by rw [hA, HBG.out.2]); rw [← hcr] at e1; exact congrArg Prod.snd e1
            rw [if_pos (by rw [hA, HBG.out.2])] at hnx
            have HNX := Lib.hid hnx
            clear hcr hnx
            have hj : ¬ (ys : Int) < (ny : Int) := by omega
            have C0 := Lib.hid (And.intro C1 C2)
            clear hCW
            subst hA
            subst hz
            go_upto_region 24 with fail
            have BD : Below W0.heap.size W0 W0.drew := (Below.refl _ _).drew
            refine wp_region_noPanic ?_
            refine wp_region_anyE (S := fun wx => Below W0.heap.size W0 wx) (E := fun j => true) (by kernel_rfl) ?_
            have hHeld : Below W0.heap.size W0 W0.drew := BD
            have HB := Lib.hid BD
            have hZ0 : ∃ z, z = W0.drew := ⟨_, rfl⟩
            obtain ⟨Z0, hZ0⟩ := hZ0
            rw [← hZ0] at HB hHeld ⊢
            clear hZ0 BD
            refine AnyE.take (i := 0) (.bool true) rfl (by kernel_rfl) (by kernel_rfl) (by kernel_rfl) (by kernel_rfl) (fun _ _ _ h => h) (.inl ⟨by kernel_rfl, fun wy hy => by (go_simp; done)⟩) hHeld ?_
            try simp only [Act.put, List.setIfInBounds_toArray, List.set_cons_zero, List.set_cons_succ]
            refine AnyE.take (i := 1) (.bool false) rfl (by kernel_rfl) (by kernel_rfl) (by kernel_rfl) (by kernel_rfl) (fun _ _ _ h => h) (.inl ⟨by kernel_rfl, fun wy hy => by (go_simp; done)⟩) hHeld ?_
            try simp only [Act.put, List.setIfInBounds_toArray, List.set_cons_zero, List.set_cons_succ]
            refine AnyE.take (i := 2) (.bool false) rfl (by kernel_rfl) (by kernel_rfl) (by kernel_rfl) (by kernel_rfl) (fun _ _ _ h => h) (.inl ⟨by kernel_rfl, fun wy hy => by (go_simp; done)⟩) hHeld ?_
            try simp only [Act.put, List.setIfInBounds_toArray, List.set_cons_zero, List.set_cons_succ]
            refine AnyE.take (i := 3) (.pointer (some ⟨fb, 1, none⟩)) rfl (by kernel_rfl) (by kernel_rfl) (by kernel_rfl) (by kernel_rfl) (fun _ _ _ h => h) (.inl ⟨by kernel_rfl, fun wy hy => by (go_simp; done)⟩) hHeld ?_
            try simp only [Act.put, List.setIfInBounds_toArray, List.set_cons_zero, List.set_cons_succ]
            refine AnyE.take (i := 4) (.slice az nz kz) rfl (by kernel_rfl) (by kernel_rfl) (by kernel_rfl) (by kernel_rfl) (fun _ _ _ h => h) (.inl ⟨by kernel_rfl, fun wy hy => by (have q0 := (hy.cell (p := ⟨fb, 1, none⟩) lfb).trans HF12.out.1; go_simp; done)⟩) hHeld ?_
            try simp only [Act.put, List.setIfInBounds_toArray, List.set_cons_zero, List.set_cons_succ]
            refine AnyE.take (i := 5) (.int .i64 (nz : Int)) rfl (by kernel_rfl) (by kernel_rfl) (by kernel_rfl) (by kernel_rfl) (fun _ _ _ h => h) (.inl ⟨by kernel_rfl, fun wy hy => by (go_simp; first | done | (cases az <;> (go_simp; done)))⟩) hHeld ?_
            try simp only [Act.put, List.setIfInBounds_toArray, List.set_cons_zero, List.set_cons_succ]
            refine AnyE.take (i := 6) (.int .i64 (nz : Int)) rfl (by kernel_rfl) (by kernel_rfl) (by kernel_rfl) (by kernel_rfl) (fun _ _ _ h => h) (.inl ⟨by kernel_rfl, fun wy hy => by (go_simp; done)⟩) hHeld ?_
            try simp only [Act.put, List.setIfInBounds_toArray, List.set_cons_zero, List.set_cons_succ]
            refine AnyE.take (i := 7) (.bool false) rfl (by kernel_rfl) (by kernel_rfl) (by kernel_rfl) (by kernel_rfl) (fun _ _ _ h => h) (.inl ⟨by kernel_rfl, fun wy hy => by (go_simp; done)⟩) hHeld ?_
            try simp only [Act.put, List.setIfInBounds_toArray, List.set_cons_zero, List.set_cons_succ]
            refine AnyE.take (i := 8) (.bool false) rfl (by kernel_rfl) (by kernel_rfl) (by kernel_rfl) (by kernel_rfl) (fun _ _ _ h => h) (.inl ⟨by kernel_rfl, fun wy hy => by (go_simp; done)⟩) hHeld ?_
            try simp only [Act.put, List.setIfInBounds_toArray, List.set_cons_zero, List.set_cons_succ]
            refine AnyE.take (i := 9) (.bool false) rfl (by kernel_rfl) (by kernel_rfl) (by kernel_rfl) (by kernel_rfl) (fun _ _ _ h => h) (.inl ⟨by kernel_rfl, fun wy hy => by (go_simp; done)⟩) hHeld ?_
            try simp only [Act.put, List.setIfInBounds_toArray, List.set_cons_zero, List.set_cons_succ]
            refine AnyE.take (i := 10) (.pointer (some ⟨fb, 2, none⟩)) rfl (by kernel_rfl) (by kernel_rfl) (by kernel_rfl) (by kernel_rfl) (fun _ _ _ h => h) (.inl ⟨by kernel_rfl, fun wy hy => by (go_simp; done)⟩) hHeld ?_
            try simp only [Act.put, List.setIfInBounds_toArray, List.set_cons_zero, List.set_cons_succ]
            refine AnyE.take (i := 11) (.int .i64 (nz : Int)) rfl (by kernel_rfl) (by kernel_rfl) (by kernel_rfl) (by kernel_rfl) (fun _ _ _ h => h) (.inl ⟨by kernel_rfl, fun wy hy => by (have q0 := (hy.cell (p := ⟨fb, 2, none⟩) lfb).trans HF12.out.2; go_simp; done)⟩) hHeld ?_
            try simp only [Act.put, List.setIfInBounds_toArray, List.set_cons_zero, List.set_cons_succ]
            refine AnyE.take (i := 12) (.int .i64 (nz : Int)) rfl (by kernel_rfl) (by kernel_rfl) (by kernel_rfl) (by kernel_rfl) (fun _ _ _ h => h) (.inl ⟨by kernel_rfl, fun wy hy => by (go_simp; done)⟩) hHeld ?_
            try simp only [Act.put, List.setIfInBounds_toArray, List.set_cons_zero, List.set_cons_succ]
            refine AnyE.take (i := 13) (.bool false) rfl (by kernel_rfl) (by kernel_rfl) (by kernel_rfl) (by kernel_rfl) (fun _ _ _ h => h) (.inl ⟨by kernel_rfl, fun wy hy => by (go_simp; done)⟩) hHeld ?_
            try simp only [Act.put, List.setIfInBounds_toArray, List.set_cons_zero, List.set_cons_succ]
            refine AnyE.take (i := 14) (.bool false) rfl (by kernel_rfl) (by kernel_rfl) (by kernel_rfl) (by kernel_rfl) (fun _ _ _ h => h) (.inl ⟨by kernel_rfl, fun wy hy => by (go_simp; done)⟩) hHeld ?_
            try simp only [Act.put, List.setIfInBounds_toArray, List.set_cons_zero, List.set_cons_succ]
            refine AnyE.take (i := 15) (.bool false) rfl (by kernel_rfl) (by kernel_rfl) (by kernel_rfl) (by kernel_rfl) (fun _ _ _ h => h) (.inl ⟨by kernel_rfl, fun wy hy => by (go_simp; done)⟩) hHeld ?_
            try simp only [Act.put, List.setIfInBounds_toArray, List.set_cons_zero, List.set_cons_succ]
            refine AnyE.take (i := 16) (.pointer (some ⟨fb, 1, none⟩)) rfl (by kernel_rfl) (by kernel_rfl) (by kernel_rfl) (by kernel_rfl) (fun _ _ _ h => h) (.inl ⟨by kernel_rfl, fun wy hy => by (go_simp; done)⟩) hHeld ?_
            try simp only [Act.put, List.setIfInBounds_toArray, List.set_cons_zero, List.set_cons_succ]
            refine AnyE.take (i := 17) (.slice az nz kz) rfl (by kernel_rfl) (by kernel_rfl) (by kernel_rfl) (by kernel_rfl) (fun _ _ _ h => h) (.inl ⟨by kernel_rfl, fun wy hy => by (have q0 := (hy.cell (p := ⟨fb, 1, none⟩) lfb).trans HF12.out.1; go_simp; done)⟩) hHeld ?_
            try simp only [Act.put, List.setIfInBounds_toArray, List.set_cons_zero, List.set_cons_succ]
            refine AnyE.take (i := 18) (.slice (some ⟨g, off, none⟩) n2 kA1) rfl (by kernel_rfl) (by kernel_rfl) (by kernel_rfl) (by kernel_rfl) (fun _ _ _ h => h) (.inl ⟨by kernel_rfl, fun wy hy => by (go_simp; done)⟩) hHeld ?_
            try simp only [Act.put, List.setIfInBounds_toArray, List.set_cons_zero, List.set_cons_succ]
            refine AnyE.take (i := 19) (.int .i64 (t2 : Int)) rfl (by kernel_rfl) (by kernel_rfl) (by kernel_rfl) (by kernel_rfl) (fun _ _ _ h => h) (.inl ⟨by kernel_rfl, fun wy hy => by (go_simp; done)⟩) hHeld ?_
            try simp only [Act.put, List.setIfInBounds_toArray, List.set_cons_zero, List.set_cons_succ]
            refine AnyE.take (i := 20) (.pointer (some ⟨g, off + t2 * 3, none⟩)) rfl (by kernel_rfl) (by kernel_rfl) (by kernel_rfl) (by kernel_rfl) (fun _ _ _ h => h) (.inl ⟨by kernel_rfl, fun wy hy => by (go_simp; done)⟩) hHeld ?_
            try simp only [Act.put, List.setIfInBounds_toArray, List.set_cons_zero, List.set_cons_succ]
            refine AnyE.take (i := 21) (.pointer (some ⟨g, off + t2 * 3 + 1, none⟩)) rfl (by kernel_rfl) (by kernel_rfl) (by kernel_rfl) (by kernel_rfl) (fun _ _ _ h => h) (.inl ⟨by kernel_rfl, fun wy hy => by (go_simp; done)⟩) hHeld ?_
            try simp only [Act.put, List.setIfInBounds_toArray, List.set_cons_zero, List.set_cons_succ]
            refine AnyE.take (i := 22) (.slice ay nz ky) rfl (by kernel_rfl) (by kernel_rfl) (by kernel_rfl) (by kernel_rfl) (fun _ _ _ h => h) (.inl ⟨by kernel_rfl, fun wy hy => by (have q0 := (hy.cell (p := ⟨g, off + t2 * 3 + 1, none⟩) lgW).trans C0.out.1; go_simp; done)⟩) hHeld ?_
            try simp only [Act.put, List.setIfInBounds_toArray, List.set_cons_zero, List.set_cons_succ]
            refine AnyE.one (i := 23) rfl (by kernel_rfl) (by kernel_rfl) (fun KK hK => ?_)
            go_simp
            go_at_call 11
            refine (begins_any (HRYZ.out.2.later HB.out) (HRYZ.out.1.later HB.out)).mono ?_
            rintro e9 Z2 ⟨rfl, rfl⟩
            rw [HBG.out.1]
            go_wp2_with fail
            refine hK.out _ _ ⟨fun _ => HB.out, ?_⟩
            have hHeld := HB.out
            clear hK
            try simp only [Act.put, List.setIfInBounds_toArray, List.set_cons_zero, List.set_cons_succ]
            refine AnyE.one (i := 24) rfl (by kernel_rfl) (by kernel_rfl) (fun KK hK => ?_)
            go_simp
            refine hK.out _ _ ⟨fun _ => HB.out, ?_⟩
            clear hK
            try simp only [Act.put, List.setIfInBounds_toArray, List.set_cons_zero, List.set_cons_succ]
            refine AnyE.one (i := 25) rfl (by kernel_rfl) (by kernel_rfl) (fun KK hK => ?_)
            go_simp
            refine hK.out _ _ ⟨fun _ => HB.out, ?_⟩
            clear hK
            try simp only [Act.put, List.setIfInBounds_toArray, List.set_cons_zero, List.set_cons_succ]
            refine AnyE.done (by kernel_rfl) (NoPanic.normal ?_) _
            have hZ9 : ∃ z, z = Z2 := ⟨_, rfl⟩
            obtain ⟨YY, hZ9⟩ := hZ9
            rw [← hZ9] at HB ⊢
            clear hHeld hZ9
            go_simp
            go_step
            go_wp2
            go_roundw
            case rel => exact ⟨t2 + 1, by omega, by go_num, by rw [HNX.out]; first | rfl | go_num, HW0.out.trans (HB.out.mono HW0.out.size)⟩
            case measure => simp [intOf]; omega
          · have hj : (ys : Int) < (ny : Int) := by omega
            rw [if_neg (by rw [← HBG.out.2]; exact hA)] at hnx
            have HNX := Lib.hid hnx
            clear hnx
            have C0 := Lib.hid (And.intro C1 C2)
            by_cases hcu : kk < nC
            · have i1 : (kk : Int) < (nC : Int) := by omega
              have i2 : (0 : Int) ≤ (kk : Int) := by omega
              have hjc : ∃ j, cuts[kk]? = some j := ⟨_, List.getElem?_eq_getElem (by rw [← HA.out.2]; exact hcu)⟩
              obtain ⟨st, hjc⟩ := hjc
              have hcc := hCW.cel kk st hjc
              obtain ⟨bc, hcc⟩ := hcc
              obtain ⟨oc, hcc⟩ := hcc
              have hac := hcc.1
              have hcv := hcc.2.2
              subst hac
              have hst : cuts.getD kk 0 = st := by rw [List.getD_eq_getElem?_getD, hjc]; rfl
              have lbc := World.block_lt_of_cell? _ _ hcv
              simp only at lbc
              clear hcc hjc hCW
              by_cases hp : (0 : Int) < st
              · have hz := crash1_on (cuts := cuts) (t := kk) (v := (yd, ys)) HSA.out.sy (by rw [← HBG.out.2]; exact hA) (by rw [hst]; exact hp)
                rw [← hcr, hst, ← HBG.out.2] at hz
                simp only at hz
                have hmn : ∃ mn : Int, min st ((ny : Int) - (ys : Int)) = mn := ⟨_, rfl⟩
                obtain ⟨mn, hmn⟩ := hmn
                rw [hmn] at hz
                have HZ := Lib.hid (And.intro hz hmn)
                have hm0 : 0 ≤ mn ∧ mn ≤ 67108864 := by omega
                clear hcr hst hz hmn
                go_upto_region 22 with fail
                have BD : Below W0.heap.size W0 W0.drew := (Below.refl _ _).drew
                refine wp_region_noPanic ?_
                refine wp_region_anyE (S := fun wx => Below W0.heap.size W0 wx) (E := fun j => true) (by kernel_rfl) ?_
                have hHeld : Below W0.heap.size W0 W0.drew := BD
                have HB := Lib.hid BD
                have hZ0 : ∃ z, z = W0.drew := ⟨_, rfl⟩
                obtain ⟨Z0, hZ0⟩ := hZ0
                rw [← hZ0] at HB hHeld ⊢
                clear hZ0 BD
                refine AnyE.take (i := 0) (.int .i64 (ys : Int)) rfl (by kernel_rfl) (by kernel_rfl) (by kernel_rfl) (by kernel_rfl) (fun _ _ _ h => h) (.inl ⟨by kernel_rfl, fun wy hy => by (go_simp; done)⟩) hHeld ?_
                try simp only [Act.put, List.setIfInBounds_toArray, List.set_cons_zero, List.set_cons_succ]
                refine AnyE.take (i := 1) (.slice (some ⟨bc, oc, none⟩) nC kC) rfl (by kernel_rfl) (by kernel_rfl) (by kernel_rfl) (by kernel_rfl) (fun _ _ _ h => h) (.inl ⟨by kernel_rfl, fun wy hy => by (go_simp; done)⟩) hHeld ?_
                try simp only [Act.put, List.setIfInBounds_toArray, List.set_cons_zero, List.set_cons_succ]
                refine AnyE.take (i := 2) (.int .i64 (kk : Int)) rfl (by kernel_rfl) (by kernel_rfl) (by kernel_rfl) (by kernel_rfl) (fun _ _ _ h => h) (.inl ⟨by kernel_rfl, fun wy hy => by (go_simp; done)⟩) hHeld ?_
                try simp only [Act.put, List.setIfInBounds_toArray, List.set_cons_zero, List.set_cons_succ]
                refine AnyE.take (i := 3) (.pointer (some ⟨bc, oc + kk, none⟩)) rfl (by kernel_rfl) (by kernel_rfl) (by kernel_rfl) (by kernel_rfl) (fun _ _ _ h => h) (.inl ⟨by kernel_rfl, fun wy hy => by (go_simp; done)⟩) hHeld ?_
                try simp only [Act.put, List.setIfInBounds_toArray, List.set_cons_zero, List.set_cons_succ]
                refine AnyE.take (i := 4) (.int .i64 st) rfl (by kernel_rfl) (by kernel_rfl) (by kernel_rfl) (by kernel_rfl) (fun _ _ _ h => h) (.inl ⟨by kernel_rfl, fun wy hy => by (have q0 := (hy.cell (p := ⟨bc, oc + kk, none⟩) lbc).trans hcv; go_simp; done)⟩) hHeld ?_
                try simp only [Act.put, List.setIfInBounds_toArray, List.set_cons_zero, List.set_cons_succ]
                refine AnyE.take (i := 5) (.slice (some ⟨g, off, none⟩) n2 kA1) rfl (by kernel_rfl) (by kernel_rfl) (by kernel_rfl) (by kernel_rfl) (fun _ _ _ h => h) (.inl ⟨by kernel_rfl, fun wy hy => by (go_simp; done)⟩) hHeld ?_
                try simp only [Act.put, List.setIfInBounds_toArray, List.set_cons_zero, List.set_cons_succ]
                refine AnyE.take (i := 6) (.int .i64 (t2 : Int)) rfl (by kernel_rfl) (by kernel_rfl) (by kernel_rfl) (by kernel_rfl) (fun _ _ _ h => h) (.inl ⟨by kernel_rfl, fun wy hy => by (go_simp; done)⟩) hHeld ?_
                try simp only [Act.put, List.setIfInBounds_toArray, List.set_cons_zero, List.set_cons_succ]
                refine AnyE.take (i := 7) (.pointer (some ⟨g, off + t2 * 3, none⟩)) rfl (by kernel_rfl) (by kernel_rfl) (by kernel_rfl) (by kernel_rfl) (fun _ _ _ h => h) (.inl ⟨by kernel_rfl, fun wy hy => by (go_simp; done)⟩) hHeld ?_
                try simp only [Act.put, List.setIfInBounds_toArray, List.set_cons_zero, List.set_cons_succ]
                refine AnyE.take (i := 8) (.pointer (some ⟨g, off + t2 * 3 + 1, none⟩)) rfl (by kernel_rfl) (by kernel_rfl) (by kernel_rfl) (by kernel_rfl) (fun _ _ _ h => h) (.inl ⟨by kernel_rfl, fun wy hy => by (go_simp; done)⟩) hHeld ?_
                try simp only [Act.put, List.setIfInBounds_toArray, List.set_cons_zero, List.set_cons_succ]
                refine AnyE.take (i := 9) (.slice ay ny ky) rfl (by kernel_rfl) (by kernel_rfl) (by kernel_rfl) (by kernel_rfl) (fun _ _ _ h => h) (.inl ⟨by kernel_rfl, fun wy hy => by (have q0 := (hy.cell (p := ⟨g, off + t2 * 3 + 1, none⟩) lgW).trans C0.out.1; go_simp; done)⟩) hHeld ?_
                try simp only [Act.put, List.setIfInBounds_toArray, List.set_cons_zero, List.set_cons_succ]
                refine AnyE.take (i := 10) (.int .i64 (ny : Int)) rfl (by kernel_rfl) (by kernel_rfl) (by kernel_rfl) (by kernel_rfl) (fun _ _ _ h => h) (.inl ⟨by kernel_rfl, fun wy hy => by (go_simp; first | done | (cases ay <;> (go_simp; done)))⟩) hHeld ?_
                try simp only [Act.put, List.setIfInBounds_toArray, List.set_cons_zero, List.set_cons_succ]
                refine AnyE.take (i := 11) (.int .i64 (ys : Int)) rfl (by kernel_rfl) (by kernel_rfl) (by kernel_rfl) (by kernel_rfl) (fun _ _ _ h => h) (.inl ⟨by kernel_rfl, fun wy hy => by (go_simp; done)⟩) hHeld ?_
                try simp only [Act.put, List.setIfInBounds_toArray, List.set_cons_zero, List.set_cons_succ]
                refine AnyE.take (i := 12) (.int .i64 ((ny : Int) - (ys : Int))) rfl (by kernel_rfl) (by kernel_rfl) (by kernel_rfl) (by kernel_rfl) (fun _ _ _ h => h) (.inl ⟨by kernel_rfl, fun wy hy => by (go_simp; exact IntWalk.i64_in _ ⟨by omega, by omega⟩)⟩) hHeld ?_
                try simp only [Act.put, List.setIfInBounds_toArray, List.set_cons_zero, List.set_cons_succ]
                refine AnyE.take (i := 13) (.int .i64 mn) rfl (by kernel_rfl) (by kernel_rfl) (by kernel_rfl) (by kernel_rfl) (fun _ _ _ h => h) (.inl ⟨by kernel_rfl, fun wy hy => by (go_simp; exact HZ.out.2)⟩) hHeld ?_
                try simp only [Act.put, List.setIfInBounds_toArray, List.set_cons_zero, List.set_cons_succ]
                refine AnyE.take (i := 14) (.int .i64 (nz : Int)) rfl (by kernel_rfl) (by kernel_rfl) (by kernel_rfl) (by kernel_rfl) (fun _ _ _ h => h) (.inl ⟨by kernel_rfl, fun wy hy => by (go_simp; rw [HZ.out.1]; exact IntWalk.i64_in _ ⟨by omega, by omega⟩)⟩) hHeld ?_
                try simp only [Act.put, List.setIfInBounds_toArray, List.set_cons_zero, List.set_cons_succ]
                refine AnyE.one (i := 15) rfl (by kernel_rfl) (by kernel_rfl) (fun KK hK => ?_)
                go_simp
                refine hK.out _ _ ⟨fun _ => HB.out, ?_⟩
                clear hK
                try simp only [Act.put, List.setIfInBounds_toArray, List.set_cons_zero, List.set_cons_succ]
                refine AnyE.done (by kernel_rfl) (NoPanic.normal ?_) _
                have hZ9 : ∃ z, z = Z0 := ⟨_, rfl⟩
                obtain ⟨W1, hZ9⟩ := hZ9
                rw [← hZ9] at HB ⊢
                clear hZ9
                have C0 := Lib.hid (And.intro ((HB.out.cell (p := ⟨g, off + t2 * 3 + 1, none⟩) lgW).trans C0.out.1) ((HB.out.cell (p := ⟨g, off + t2 * 3 + 2, none⟩) lgW).trans C0.out.2))
                have HF12 := Lib.hid (And.intro ((HB.out.cell (p := ⟨fb, 1, none⟩) lfb).trans HF12.out.1) ((HB.out.cell (p := ⟨fb, 2, none⟩) lfb).trans HF12.out.2))
                have HRYZ := Lib.hid (And.intro (HRYZ.out.1.later HB.out) (HRYZ.out.2.later HB.out))
                have HW0 := Lib.hid (HW0.out.trans (HB.out.mono HW0.out.size))
                have lgW := Nat.lt_of_lt_of_le lgW HB.out.size
                have lfb := Nat.lt_of_lt_of_le lfb HB.out.size
                clear hHeld hcv
                go_simp
                go_step
                go_upto_region 24 with fail
                have BD : Below W1.heap.size W1 W1.drew := (Below.refl _ _).drew
                refine wp_region_noPanic ?_
                refine wp_region_anyE (S := fun wx => Below W1.heap.size W1 wx) (E := fun j => true) (by kernel_rfl) ?_
                have hHeld : Below W1.heap.size W1 W1.drew := BD
                have HB := Lib.hid BD
                have hZ0 : ∃ z, z = W1.drew := ⟨_, rfl⟩
                obtain ⟨Z0, hZ0⟩ := hZ0
                rw [← hZ0] at HB hHeld ⊢
                clear hZ0 BD
                refine AnyE.take (i := 0) (.bool true) rfl (by kernel_rfl) (by kernel_rfl) (by kernel_rfl) (by kernel_rfl) (fun _ _ _ h => h) (.inl ⟨by kernel_rfl, fun wy hy => by (go_simp; done)⟩) hHeld ?_
                try simp only [Act.put, List.setIfInBounds_toArray, List.set_cons_zero, List.set_cons_succ]
                refine AnyE.take (i := 1) (.bool false) rfl (by kernel_rfl) (by kernel_rfl) (by kernel_rfl) (by kernel_rfl) (fun _ _ _ h => h) (.inl ⟨by kernel_rfl, fun wy hy => by (go_simp; done)⟩) hHeld ?_
                try simp only [Act.put, List.setIfInBounds_toArray, List.set_cons_zero, List.set_cons_succ]
                refine AnyE.take (i := 2) (.bool false) rfl (by kernel_rfl) (by kernel_rfl) (by kernel_rfl) (by kernel_rfl) (fun _ _ _ h => h) (.inl ⟨by kernel_rfl, fun wy hy => by (go_simp; done)⟩) hHeld ?_
                try simp only [Act.put, List.setIfInBounds_toArray, List.set_cons_zero, List.set_cons_succ]
                refine AnyE.take (i := 3) (.pointer (some ⟨fb, 1, none⟩)) rfl (by kernel_rfl) (by kernel_rfl) (by kernel_rfl) (by kernel_rfl) (fun _ _ _ h => h) (.inl ⟨by kernel_rfl, fun wy hy => by (go_simp; done)⟩) hHeld ?_
                try simp only [Act.put, List.setIfInBounds_toArray, List.set_cons_zero, List.set_cons_succ]
                refine AnyE.take (i := 4) (.slice az nz kz) rfl (by kernel_rfl) (by kernel_rfl) (by kernel_rfl) (by kernel_rfl) (fun _ _ _ h => h) (.inl ⟨by kernel_rfl, fun wy hy => by (have q0 := (hy.cell (p := ⟨fb, 1, none⟩) lfb).trans HF12.out.1; go_simp; done)⟩) hHeld ?_
                try simp only [Act.put, List.setIfInBounds_toArray, List.set_cons_zero, List.set_cons_succ]
                refine AnyE.take (i := 5) (.int .i64 (nz : Int)) rfl (by kernel_rfl) (by kernel_rfl) (by kernel_rfl) (by kernel_rfl) (fun _ _ _ h => h) (.inl ⟨by kernel_rfl, fun wy hy => by (go_simp; first | done | (cases az <;> (go_simp; done)))⟩) hHeld ?_
                try simp only [Act.put, List.setIfInBounds_toArray, List.set_cons_zero, List.set_cons_succ]
                refine AnyE.take (i := 6) (.int .i64 (nz : Int)) rfl (by kernel_rfl) (by kernel_rfl) (by kernel_rfl) (by kernel_rfl) (fun _ _ _ h => h) (.inl ⟨by kernel_rfl, fun wy hy => by (go_simp; done)⟩) hHeld ?_
                try simp only [Act.put, List.setIfInBounds_toArray, List.set_cons_zero, List.set_cons_succ]
                refine AnyE.take (i := 7) (.bool false) rfl (by kernel_rfl) (by kernel_rfl) (by kernel_rfl) (by kernel_rfl) (fun _ _ _ h => h) (.inl ⟨by kernel_rfl, fun wy hy => by (go_simp; done)⟩) hHeld ?_
                try simp only [Act.put, List.setIfInBounds_toArray, List.set_cons_zero, List.set_cons_succ]
                refine AnyE.take (i := 8) (.bool false) rfl (by kernel_rfl) (by kernel_rfl) (by kernel_rfl) (by kernel_rfl) (fun _ _ _ h => h) (.inl ⟨by kernel_rfl, fun wy hy => by (go_simp; done)⟩) hHeld ?_
                try simp only [Act.put, List.setIfInBounds_toArray, List.set_cons_zero, List.set_cons_succ]
                refine AnyE.take (i := 9) (.bool false) rfl (by kernel_rfl) (by kernel_rfl) (by kernel_rfl) (by kernel_rfl) (fun _ _ _ h => h) (.inl ⟨by kernel_rfl, fun wy hy => by (go_simp; done)⟩) hHeld ?_
                try simp only [Act.put, List.setIfInBounds_toArray, List.set_cons_zero, List.set_cons_succ]
                refine AnyE.take (i := 10) (.pointer (some ⟨fb, 2, none⟩)) rfl (by kernel_rfl) (by kernel_rfl) (by kernel_rfl) (by kernel_rfl) (fun _ _ _ h => h) (.inl ⟨by kernel_rfl, fun wy hy => by (go_simp; done)⟩) hHeld ?_
                try simp only [Act.put, List.setIfInBounds_toArray, List.set_cons_zero, List.set_cons_succ]
                refine AnyE.take (i := 11) (.int .i64 (nz : Int)) rfl (by kernel_rfl) (by kernel_rfl) (by kernel_rfl) (by kernel_rfl) (fun _ _ _ h => h) (.inl ⟨by kernel_rfl, fun wy hy => by (have q0 := (hy.cell (p := ⟨fb, 2, none⟩) lfb).trans HF12.out.2; go_simp; done)⟩) hHeld ?_
                try simp only [Act.put, List.setIfInBounds_toArray, List.set_cons_zero, List.set_cons_succ]
                refine AnyE.take (i := 12) (.int .i64 (nz : Int)) rfl (by kernel_rfl) (by kernel_rfl) (by kernel_rfl) (by kernel_rfl) (fun _ _ _ h => h) (.inl ⟨by kernel_rfl, fun wy hy => by (go_simp; done)⟩) hHeld ?_
                try simp only [Act.put, List.setIfInBounds_toArray, List.set_cons_zero, List.set_cons_succ]
                refine AnyE.take (i := 13) (.bool false) rfl (by kernel_rfl) (by kernel_rfl) (by kernel_rfl) (by kernel_rfl) (fun _ _ _ h => h) (.inl ⟨by kernel_rfl, fun wy hy => by (go_simp; done)⟩) hHeld ?_
                try simp only [Act.put, List.setIfInBounds_toArray, List.set_cons_zero, List.set_cons_succ]
                refine AnyE.take (i := 14) (.bool false) rfl (by kernel_rfl) (by kernel_rfl) (by kernel_rfl) (by kernel_rfl) (fun _ _ _ h => h) (.inl ⟨by kernel_rfl, fun wy hy => by (go_simp; done)⟩) hHeld ?_
                try simp only [Act.put, List.setIfInBounds_toArray, List.set_cons_zero, List.set_cons_succ]
                refine AnyE.take (i := 15) (.bool false) rfl (by kernel_rfl) (by kernel_rfl) (by kernel_rfl) (by kernel_rfl) (fun _ _ _ h => h) (.inl ⟨by kernel_rfl, fun wy hy => by (go_simp; done)⟩) hHeld ?_
                try simp only [Act.put, List.setIfInBounds_toArray, List.set_cons_zero, List.set_cons_succ]
                refine AnyE.take (i := 16) (.pointer (some ⟨fb, 1, none⟩)) rfl (by kernel_rfl) (by kernel_rfl) (by kernel_rfl) (by kernel_rfl) (fun _ _ _ h => h) (.inl ⟨by kernel_rfl, fun wy hy => by (go_simp; done)⟩) hHeld ?_
                try simp only [Act.put, List.setIfInBounds_toArray, List.set_cons_zero, List.set_cons_succ]
                refine AnyE.take (i := 17) (.slice az nz kz) rfl (by kernel_rfl) (by kernel_rfl) (by kernel_rfl) (by kernel_rfl) (fun _ _ _ h => h) (.inl ⟨by kernel_rfl, fun wy hy => by (have q0 := (hy.cell (p := ⟨fb, 1, none⟩) lfb).trans HF12.out.1; go_simp; done)⟩) hHeld ?_
                try simp only [Act.put, List.setIfInBounds_toArray, List.set_cons_zero, List.set_cons_succ]
                refine AnyE.take (i := 18) (.slice (some ⟨g, off, none⟩) n2 kA1) rfl (by kernel_rfl) (by kernel_rfl) (by kernel_rfl) (by kernel_rfl) (fun _ _ _ h => h) (.inl ⟨by kernel_rfl, fun wy hy => by (go_simp; done)⟩) hHeld ?_
                try simp only [Act.put, List.setIfInBounds_toArray, List.set_cons_zero, List.set_cons_succ]
                refine AnyE.take (i := 19) (.int .i64 (t2 : Int)) rfl (by kernel_rfl) (by kernel_rfl) (by kernel_rfl) (by kernel_rfl) (fun _ _ _ h => h) (.inl ⟨by kernel_rfl, fun wy hy => by (go_simp; done)⟩) hHeld ?_
                try simp only [Act.put, List.setIfInBounds_toArray, List.set_cons_zero, List.set_cons_succ]
                refine AnyE.take (i := 20) (.pointer (some ⟨g, off + t2 * 3, none⟩)) rfl (by kernel_rfl) (by kernel_rfl) (by kernel_rfl) (by kernel_rfl) (fun _ _ _ h => h) (.inl ⟨by kernel_rfl, fun wy hy => by (go_simp; done)⟩) hHeld ?_
                try simp only [Act.put, List.setIfInBounds_toArray, List.set_cons_zero, List.set_cons_succ]
                refine AnyE.take (i := 21) (.pointer (some ⟨g, off + t2 * 3 + 1, none⟩)) rfl (by kernel_rfl) (by kernel_rfl) (by kernel_rfl) (by kernel_rfl) (fun _ _ _ h => h) (.inl ⟨by kernel_rfl, fun wy hy => by (go_simp; done)⟩) hHeld ?_
                try simp only [Act.put, List.setIfInBounds_toArray, List.set_cons_zero, List.set_cons_succ]
                refine AnyE.take (i := 22) (.slice ay ny ky) rfl (by kernel_rfl) (by kernel_rfl) (by kernel_rfl) (by kernel_rfl) (fun _ _ _ h => h) (.inl ⟨by kernel_rfl, fun wy hy => by (have q0 := (hy.cell (p := ⟨g, off + t2 * 3 + 1, none⟩) lgW).trans C0.out.1; go_simp; done)⟩) hHeld ?_
                try simp only [Act.put, List.setIfInBounds_toArray, List.set_cons_zero, List.set_cons_succ]
                refine AnyE.one (i := 23) rfl (by kernel_rfl) (by kernel_rfl) (fun KK hK => ?_)
                go_simp
                go_at_call 11
                refine (begins_any (HRYZ.out.2.later HB.out) (HRYZ.out.1.later HB.out)).mono ?_
                rintro e9 Z2 ⟨rfl, rfl⟩
                rw [HBG.out.1]
                go_wp2_with fail
                refine hK.out _ _ ⟨fun _ => HB.out, ?_⟩
                have hHeld := HB.out
                clear hK
                try simp only [Act.put, List.setIfInBounds_toArray, List.set_cons_zero, List.set_cons_succ]
                refine AnyE.one (i := 24) rfl (by kernel_rfl) (by kernel_rfl) (fun KK hK => ?_)
                go_simp
                refine hK.out _ _ ⟨fun _ => HB.out, ?_⟩
                clear hK
                try simp only [Act.put, List.setIfInBounds_toArray, List.set_cons_zero, List.set_cons_succ]
                refine AnyE.one (i := 25) rfl (by kernel_rfl) (by kernel_rfl) (fun KK hK => ?_)
                go_simp
                refine hK.out _ _ ⟨fun _ => HB.out, ?_⟩
                clear hK
                try simp only [Act.put, List.setIfInBounds_toArray, List.set_cons_zero, List.set_cons_succ]
                refine AnyE.done (by kernel_rfl) (NoPanic.normal ?_) _
                have hZ9 : ∃ z, z = Z2 := ⟨_, rfl⟩
                obtain ⟨YY, hZ9⟩ := hZ9
                rw [← hZ9] at HB ⊢
                clear hHeld hZ9
                go_simp
                go_step
                go_wp2
                go_roundw
                case rel => exact ⟨t2 + 1, by omega, by go_num, by rw [HNX.out]; first | rfl | go_num, HW0.out.trans (HB.out.mono HW0.out.size)⟩
                case measure => simp [intOf]; omega
              · have hz : nz = ys := by have e1 := crash1_no (cuts := cuts) (t := kk) (v := (yd, ys)) HSA.out.sy (by rw [hst]; omega); rw [← hcr] at e1; exact e1
                clear hcr hst
                subst hz
                go_upto_region 24 with fail
                have BD : Below W0.heap.size W0 W0.drew := (Below.refl _ _).drew
                refine wp_region_noPanic ?_
                refine wp_region_anyE (S := fun wx => Below W0.heap.size W0 wx) (E := fun j => true) (by kernel_rfl) ?_
                have hHeld : Below W0.heap.size W0 W0.drew := BD
                have HB := Lib.hid BD
                have hZ0 : ∃ z, z = W0.drew := ⟨_, rfl⟩
                obtain ⟨Z0, hZ0⟩ := hZ0
                rw [← hZ0] at HB hHeld ⊢
                clear hZ0 BD
                refine AnyE.take (i := 0) (.bool true) rfl (by kernel_rfl) (by kernel_rfl) (by kernel_rfl) (by kernel_rfl) (fun _ _ _ h => h) (.inl ⟨by kernel_rfl, fun wy hy => by (go_simp; done)⟩) hHeld ?_
                try simp only [Act.put, List.setIfInBounds_toArray, List.set_cons_zero, List.set_cons_succ]
                refine AnyE.take (i := 1) (.bool false) rfl (by kernel_rfl) (by kernel_rfl) (by kernel_rfl) (by kernel_rfl) (fun _ _ _ h => h) (.inl ⟨by kernel_rfl, fun wy hy => by (go_simp; done)⟩) hHeld ?_
                try simp only [Act.put, List.setIfInBounds_toArray, List.set_cons_zero, List.set_cons_succ]
                refine AnyE.take (i := 2) (.bool false) rfl (by kernel_rfl) (by kernel_rfl) (by kernel_rfl) (by kernel_rfl) (fun _ _ _ h => h) (.inl ⟨by kernel_rfl, fun wy hy => by (go_simp; done)⟩) hHeld ?_
                try simp only [Act.put, List.setIfInBounds_toArray, List.set_cons_zero, List.set_cons_succ]
                refine AnyE.take (i := 3) (.pointer (some ⟨fb, 1, none⟩)) rfl (by kernel_rfl) (by kernel_rfl) (by kernel_rfl) (by kernel_rfl) (fun _ _ _ h => h) (.inl ⟨by kernel_rfl, fun wy hy => by (go_simp; done)⟩) hHeld ?_
                try simp only [Act.put, List.setIfInBounds_toArray, List.set_cons_zero, List.set_cons_succ]
                refine AnyE.take (i := 4) (.slice az nz kz) rfl (by kernel_rfl) (by kernel_rfl) (by kernel_rfl) (by kernel_rfl) (fun _ _ _ h => h) (.inl ⟨by kernel_rfl, fun wy hy => by (have q0 := (hy.cell (p := ⟨fb, 1, none⟩) lfb).trans HF12.out.1; go_simp; done)⟩) hHeld ?_
                try simp only [Act.put, List.setIfInBounds_toArray, List.set_cons_zero, List.set_cons_succ]
                refine AnyE.take (i := 5) (.int .i64 (nz : Int)) rfl (by kernel_rfl) (by kernel_rfl) (by kernel_rfl) (by kernel_rfl) (fun _ _ _ h => h) (.inl ⟨by kernel_rfl, fun wy hy => by (go_simp; first | done | (cases az <;> (go_simp; done)))⟩) hHeld ?_
                try simp only [Act.put, List.setIfInBounds_toArray, List.set_cons_zero, List.set_cons_succ]
                refine AnyE.take (i := 6) (.int .i64 (nz : Int)) rfl (by kernel_rfl) (by kernel_rfl) (by kernel_rfl) (by kernel_rfl) (fun _ _ _ h => h) (.inl ⟨by kernel_rfl, fun wy hy => by (go_simp; done)⟩) hHeld ?_
                try simp only [Act.put, List.setIfInBounds_toArray, List.set_cons_zero, List.set_cons_succ]
                refine AnyE.take (i := 7) (.bool false) rfl (by kernel_rfl) (by kernel_rfl) (by kernel_rfl) (by kernel_rfl) (fun _ _ _ h => h) (.inl ⟨by kernel_rfl, fun wy hy => by (go_simp; done)⟩) hHeld ?_
                try simp only [Act.put, List.setIfInBounds_toArray, List.set_cons_zero, List.set_cons_succ]
                refine AnyE.take (i := 8) (.bool false) rfl (by kernel_rfl) (by kernel_rfl) (by kernel_rfl) (by kernel_rfl) (fun _ _ _ h => h) (.inl ⟨by kernel_rfl, fun wy hy => by (go_simp; done)⟩) hHeld ?_
                try simp only [Act.put, List.setIfInBounds_toArray, List.set_cons_zero, List.set_cons_succ]
                refine AnyE.take (i := 9) (.bool false) rfl (by kernel_rfl) (by kernel_rfl) (by kernel_rfl) (by kernel_rfl) (fun _ _ _ h => h) (.inl ⟨by kernel_rfl, fun wy hy => by (go_simp; done)⟩) hHeld ?_
                try simp only [Act.put, List.setIfInBounds_toArray, List.set_cons_zero, List.set_cons_succ]
                refine AnyE.take (i := 10) (.pointer (some ⟨fb, 2, none⟩)) rfl (by kernel_rfl) (by kernel_rfl) (by kernel_rfl) (by kernel_rfl) (fun _ _ _ h => h) (.inl ⟨by kernel_rfl, fun wy hy => by (go_simp; done)⟩) hHeld ?_
                try simp only [Act.put, List.setIfInBounds_toArray, List.set_cons_zero, List.set_cons_succ]
                refine AnyE.take (i := 11) (.int .i64 (nz : Int)) rfl (by kernel_rfl) (by kernel_rfl) (by kernel_rfl) (by kernel_rfl) (fun _ _ _ h => h) (.inl ⟨by kernel_rfl, fun wy hy => by (have q0 := (hy.cell (p := ⟨fb, 2, none⟩) lfb).trans HF12.out.2; go_simp; done)⟩) hHeld ?_
                try simp only [Act.put, List.setIfInBounds_toArray, List.set_cons_zero, List.set_cons_succ]
                refine AnyE.take (i := 12) (.int .i64 (nz : Int)) rfl (by kernel_rfl) (by kernel_rfl) (by kernel_rfl) (by kernel_rfl) (fun _ _ _ h => h) (.inl ⟨by kernel_rfl, fun wy hy => by (go_simp; done)⟩) hHeld ?_
                try simp only [Act.put, List.setIfInBounds_toArray, List.set_cons_zero, List.set_cons_succ]
                refine AnyE.take (i := 13) (.bool false) rfl (by kernel_rfl) (by kernel_rfl) (by kernel_rfl) (by kernel_rfl) (fun _ _ _ h => h) (.inl ⟨by kernel_rfl, fun wy hy => by (go_simp; done)⟩) hHeld ?_
                try simp only [Act.put, List.setIfInBounds_toArray, List.set_cons_zero, List.set_cons_succ]
                refine AnyE.take (i := 14) (.bool false) rfl (by kernel_rfl) (by kernel_rfl) (by kernel_rfl) (by kernel_rfl) (fun _ _ _ h => h) (.inl ⟨by kernel_rfl, fun wy hy => by (go_simp; done)⟩) hHeld ?_
                try simp only [Act.put, List.setIfInBounds_toArray, List.set_cons_zero, List.set_cons_succ]
                refine AnyE.take (i := 15) (.bool false) rfl (by kernel_rfl) (by kernel_rfl) (by kernel_rfl) (by kernel_rfl) (fun _ _ _ h => h) (.inl ⟨by kernel_rfl, fun wy hy => by (go_simp; done)⟩) hHeld ?_
                try simp only [Act.put, List.setIfInBounds_toArray, List.set_cons_zero, List.set_cons_succ]
                refine AnyE.take (i := 16) (.pointer (some ⟨fb, 1, none⟩)) rfl (by kernel_rfl) (by kernel_rfl) (by kernel_rfl) (by kernel_rfl) (fun _ _ _ h => h) (.inl ⟨by kernel_rfl, fun wy hy => by (go_simp; done)⟩) hHeld ?_
                try simp only [Act.put, List.setIfInBounds_toArray, List.set_cons_zero, List.set_cons_succ]
                refine AnyE.take (i := 17) (.slice az nz kz) rfl (by kernel_rfl) (by kernel_rfl) (by kernel_rfl) (by kernel_rfl) (fun _ _ _ h => h) (.inl ⟨by kernel_rfl, fun wy hy => by (have q0 := (hy.cell (p := ⟨fb, 1, none⟩) lfb).trans HF12.out.1; go_simp; done)⟩) hHeld ?_
                try simp only [Act.put, List.setIfInBounds_toArray, List.set_cons_zero, List.set_cons_succ]
                refine AnyE.take (i := 18) (.slice (some ⟨g, off, none⟩) n2 kA1) rfl (by kernel_rfl) (by kernel_rfl) (by kernel_rfl) (by kernel_rfl) (fun _ _ _ h => h) (.inl ⟨by kernel_rfl, fun wy hy => by (go_simp; done)⟩) hHeld ?_
                try simp only [Act.put, List.setIfInBounds_toArray, List.set_cons_zero, List.set_cons_succ]
                refine AnyE.take (i := 19) (.int .i64 (t2 : Int)) rfl (by kernel_rfl) (by kernel_rfl) (by kernel_rfl) (by kernel_rfl) (fun _ _ _ h => h) (.inl ⟨by kernel_rfl, fun wy hy => by (go_simp; done)⟩) hHeld ?_
                try simp only [Act.put, List.setIfInBounds_toArray, List.set_cons_zero, List.set_cons_succ]
                refine AnyE.take (i := 20) (.pointer (some ⟨g, off + t2 * 3, none⟩)) rfl (by kernel_rfl) (by kernel_rfl) (by kernel_rfl) (by kernel_rfl) (fun _ _ _ h => h) (.inl ⟨by kernel_rfl, fun wy hy => by (go_simp; done)⟩) hHeld ?_
                try simp only [Act.put, List.setIfInBounds_toArray, List.set_cons_zero, List.set_cons_succ]
                refine AnyE.take (i := 21) (.pointer (some ⟨g, off + t2 * 3 + 1, none⟩)) rfl (by kernel_rfl) (by kernel_rfl) (by kernel_rfl) (by kernel_rfl) (fun _ _ _ h => h) (.inl ⟨by kernel_rfl, fun wy hy => by (go_simp; done)⟩) hHeld ?_
                try simp only [Act.put, List.setIfInBounds_toArray, List.set_cons_zero, List.set_cons_succ]
                refine AnyE.take (i := 22) (.slice ay ny ky) rfl (by kernel_rfl) (by kernel_rfl) (by kernel_rfl) (by kernel_rfl) (fun _ _ _ h => h) (.inl ⟨by kernel_rfl, fun wy hy => by (have q0 := (hy.cell (p := ⟨g, off + t2 * 3 + 1, none⟩) lgW).trans C0.out.1; go_simp; done)⟩) hHeld ?_
                try simp only [Act.put, List.setIfInBounds_toArray, List.set_cons_zero, List.set_cons_succ]
                refine AnyE.one (i := 23) rfl (by kernel_rfl) (by kernel_rfl) (fun KK hK => ?_)
                go_simp
                go_at_call 11
                refine (begins_any (HRYZ.out.2.later HB.out) (HRYZ.out.1.later HB.out)).mono ?_
                rintro e9 Z2 ⟨rfl, rfl⟩
                rw [HBG.out.1]
                go_wp2_with fail
                refine hK.out _ _ ⟨fun _ => HB.out, ?_⟩
                have hHeld := HB.out
                clear hK
                try simp only [Act.put, List.setIfInBounds_toArray, List.set_cons_zero, List.set_cons_succ]
                refine AnyE.one (i := 24) rfl (by kernel_rfl) (by kernel_rfl) (fun KK hK => ?_)
                go_simp
                refine hK.out _ _ ⟨fun _ => HB.out, ?_⟩
                clear hK
                try simp only [Act.put, List.setIfInBounds_toArray, List.set_cons_zero, List.set_cons_succ]
                refine AnyE.one (i := 25) rfl (by kernel_rfl) (by kernel_rfl) (fun KK hK => ?_)
                go_simp
                refine hK.out _ _ ⟨fun _ => HB.out, ?_⟩
                clear hK
                try simp only [Act.put, List.setIfInBounds_toArray, List.set_cons_zero, List.set_cons_succ]
                refine AnyE.done (by kernel_rfl) (NoPanic.normal ?_) _
                have hZ9 : ∃ z, z = Z2 := ⟨_, rfl⟩
                obtain ⟨YY, hZ9⟩ := hZ9
                rw [← hZ9] at HB ⊢
                clear hHeld hZ9
                go_simp
                go_step
                go_wp2
                go_roundw
                case rel => exact ⟨t2 + 1, by omega, by go_num, by rw [HNX.out]; first | rfl | go_num, HW0.out.trans (HB.out.mono HW0.out.size)⟩
                case measure => simp [intOf]; omega
            · have i1 : ¬ (kk : Int) < (nC : Int) := by omega
              have hz : nz = ys := by have e1 := crash1_no (cuts := cuts) (t := kk) (v := (yd, ys)) HSA.out.sy (by rw [List.getD_eq_getElem?_getD, List.getElem?_eq_none (by rw [← HA.out.2]; omega)]; exact Int.le_refl 0); rw [← hcr] at e1; exact e1
              clear hcr hCW
              subst hz
              go_upto_region 24 with fail
              have BD : Below W0.heap.size W0 W0.drew := (Below.refl _ _).drew
              refine wp_region_noPanic ?_
              refine wp_region_anyE (S := fun wx => Below W0.heap.size W0 wx) (E := fun j => true) (by kernel_rfl) ?_
              have hHeld : Below W0.heap.size W0 W0.drew := BD
              have HB := Lib.hid BD
              have hZ0 : ∃ z, z = W0.drew := ⟨_, rfl⟩
              obtain ⟨Z0, hZ0⟩ := hZ0
              rw [← hZ0] at HB hHeld ⊢
              clear hZ0 BD
              refine AnyE.take (i := 0) (.bool true) rfl (by kernel_rfl) (by kernel_rfl) (by kernel_rfl) (by kernel_rfl) (fun _ _ _ h => h) (.inl ⟨by kernel_rfl, fun wy hy => by (go_simp; done)⟩) hHeld ?_
              try simp only [Act.put, List.setIfInBounds_toArray, List.set_cons_zero, List.set_cons_succ]
              refine AnyE.take (i := 1) (.bool false) rfl (by kernel_rfl) (by kernel_rfl) (by kernel_rfl) (by kernel_rfl) (fun _ _ _ h => h) (.inl ⟨by kernel_rfl, fun wy hy => by (go_simp; done)⟩) hHeld ?_
              try simp only [Act.put, List.setIfInBounds_toArray, List.set_cons_zero, List.set_cons_succ]
              refine AnyE.take (i := 2) (.bool false) rfl (by kernel_rfl) (by kernel_rfl) (by kernel_rfl) (by kernel_rfl) (fun _ _ _ h => h) (.inl ⟨by kernel_rfl, fun wy hy => by (go_simp; done)⟩) hHeld ?_
              try simp only [Act.put, List.setIfInBounds_toArray, List.set_cons_zero, List.set_cons_succ]
              refine AnyE.take (i := 3) (.pointer (some ⟨fb, 1, none⟩)) rfl (by kernel_rfl) (by kernel_rfl) (by kernel_rfl) (by kernel_rfl) (fun _ _ _ h => h) (.inl ⟨by kernel_rfl, fun wy hy => by (go_simp; done)⟩) hHeld ?_
              try simp only [Act.put, List.setIfInBounds_toArray, List.set_cons_zero, List.set_cons_succ]
              refine AnyE.take (i := 4) (.slice az nz kz) rfl (by kernel_rfl) (by kernel_rfl) (by kernel_rfl) (by kernel_rfl) (fun _ _ _ h => h) (.inl ⟨by kernel_rfl, fun wy hy => by (have q0 := (hy.cell (p := ⟨fb, 1, none⟩) lfb).trans HF12.out.1; go_simp; done)⟩) hHeld ?_
              try simp only [Act.put, List.setIfInBounds_toArray, List.set_cons_zero, List.set_cons_succ]
              refine AnyE.take (i := 5) (.int .i64 (nz : Int)) rfl (by kernel_rfl) (by kernel_rfl) (by kernel_rfl) (by kernel_rfl) (fun _ _ _ h => h) (.inl ⟨by kernel_rfl, fun wy hy => by (go_simp; first | done | (cases az <;> (go_simp; done)))⟩) hHeld ?_
              try simp only [Act.put, List.setIfInBounds_toArray, List.set_cons_zero, List.set_cons_succ]
              refine AnyE.take (i := 6) (.int .i64 (nz : Int)) rfl (by kernel_rfl) (by kernel_rfl) (by kernel_rfl) (by kernel_rfl) (fun _ _ _ h => h) (.inl ⟨by kernel_rfl, fun wy hy => by (go_simp; done)⟩) hHeld ?_
              try simp only [Act.put, List.setIfInBounds_toArray, List.set_cons_zero, List.set_cons_succ]
              refine AnyE.take (i := 7) (.bool false) rfl (by kernel_rfl) (by kernel_rfl) (by kernel_rfl) (by kernel_rfl) (fun _ _ _ h => h) (.inl ⟨by kernel_rfl, fun wy hy => by (go_simp; done)⟩) hHeld ?_
              try simp only [Act.put, List.setIfInBounds_toArray, List.set_cons_zero, List.set_cons_succ]
              refine AnyE.take (i := 8) (.bool false) rfl (by kernel_rfl) (by kernel_rfl) (by kernel_rfl) (by kernel_rfl) (fun _ _ _ h => h) (.inl ⟨by kernel_rfl, fun wy hy => by (go_simp; done)⟩) hHeld ?_
              try simp only [Act.put, List.setIfInBounds_toArray, List.set_cons_zero, List.set_cons_succ]
              refine AnyE.take (i := 9) (.bool false) rfl (by kernel_rfl) (by kernel_rfl) (by kernel_rfl) (by kernel_rfl) (fun _ _ _ h => h) (.inl ⟨by kernel_rfl, fun wy hy => by (go_simp; done)⟩) hHeld ?_
              try simp only [Act.put, List.setIfInBounds_toArray, List.set_cons_zero, List.set_cons_succ]
              refine AnyE.take (i := 10) (.pointer (some ⟨fb, 2, none⟩)) rfl (by kernel_rfl) (by kernel_rfl) (by kernel_rfl) (by kernel_rfl) (fun _ _ _ h => h) (.inl ⟨by kernel_rfl, fun wy hy => by (go_simp; done)⟩) hHeld ?_
              try simp only [Act.put, List.setIfInBounds_toArray, List.set_cons_zero, List.set_cons_succ]
              refine AnyE.take (i := 11) (.int .i64 (nz : Int)) rfl (by kernel_rfl) (by kernel_rfl) (by kernel_rfl) (by kernel_rfl) (fun _ _ _ h => h) (.inl ⟨by kernel_rfl, fun wy hy => by (have q0 := (hy.cell (p := ⟨fb, 2, none⟩) lfb).trans HF12.out.2; go_simp; done)⟩) hHeld ?_
              try simp only [Act.put, List.setIfInBounds_toArray, List.set_cons_zero, List.set_cons_succ]
              refine AnyE.take (i := 12) (.int .i64 (nz : Int)) rfl (by kernel_rfl) (by kernel_rfl) (by kernel_rfl) (by kernel_rfl) (fun _ _ _ h => h) (.inl ⟨by kernel_rfl, fun wy hy => by (go_simp; done)⟩) hHeld ?_
              try simp only [Act.put, List.setIfInBounds_toArray, List.set_cons_zero, List.set_cons_succ]
              refine AnyE.take (i := 13) (.bool false) rfl (by kernel_rfl) (by kernel_rfl) (by kernel_rfl) (by kernel_rfl) (fun _ _ _ h => h) (.inl ⟨by kernel_rfl, fun wy hy => by (go_simp; done)⟩) hHeld ?_
              try simp only [Act.put, List.setIfInBounds_toArray, List.set_cons_zero, List.set_cons_succ]
              refine AnyE.take (i := 14) (.bool false) rfl (by kernel_rfl) (by kernel_rfl) (by kernel_rfl) (by kernel_rfl) (fun _ _ _ h => h) (.inl ⟨by kernel_rfl, fun wy hy => by (go_simp; done)⟩) hHeld ?_
              try simp only [Act.put, List.setIfInBounds_toArray, List.set_cons_zero, List.set_cons_succ]
              refine AnyE.take (i := 15) (.bool false) rfl (by kernel_rfl) (by kernel_rfl) (by kernel_rfl) (by kernel_rfl) (fun _ _ _ h => h) (.inl ⟨by kernel_rfl, fun wy hy => by (go_simp; done)⟩) hHeld ?_
              try simp only [Act.put, List.setIfInBounds_toArray, List.set_cons_zero, List.set_cons_succ]
              refine AnyE.take (i := 16) (.pointer (some ⟨fb, 1, none⟩)) rfl (by kernel_rfl) (by kernel_rfl) (by kernel_rfl) (by kernel_rfl) (fun _ _ _ h => h) (.inl ⟨by kernel_rfl, fun wy hy => by (go_simp; done)⟩) hHeld ?_
              try simp only [Act.put, List.setIfInBounds_toArray, List.set_cons_zero, List.set_cons_succ]
              refine AnyE.take (i := 17) (.slice az nz kz) rfl (by kernel_rfl) (by kernel_rfl) (by kernel_rfl) (by kernel_rfl) (fun _ _ _ h => h) (.inl ⟨by kernel_rfl, fun wy hy => by (have q0 := (hy.cell (p := ⟨fb, 1, none⟩) lfb).trans HF12.out.1; go_simp; done)⟩) hHeld ?_
              try simp only [Act.put, List.setIfInBounds_toArray, List.set_cons_zero, List.set_cons_succ]
              refine AnyE.take (i := 18) (.slice (some ⟨g, off, none⟩) n2 kA1) rfl (by kernel_rfl) (by kernel_rfl) (by kernel_rfl) (by kernel_rfl) (fun _ _ _ h => h) (.inl ⟨by kernel_rfl, fun wy hy => by (go_simp; done)⟩) hHeld ?_
              try simp only [Act.put, List.setIfInBounds_toArray, List.set_cons_zero, List.set_cons_succ]
              refine AnyE.take (i := 19) (.int .i64 (t2 : Int)) rfl (by kernel_rfl) (by kernel_rfl) (by kernel_rfl) (by kernel_rfl) (fun _ _ _ h => h) (.inl ⟨by kernel_rfl, fun wy hy => by (go_simp; done)⟩) hHeld ?_
              try simp only [Act.put, List.setIfInBounds_toArray, List.set_cons_zero, List.set_cons_succ]
              refine AnyE.take (i := 20) (.pointer (some ⟨g, off + t2 * 3, none⟩)) rfl (by kernel_rfl) (by kernel_rfl) (by kernel_rfl) (by kernel_rfl) (fun _ _ _ h => h) (.inl ⟨by kernel_rfl, fun wy hy => by (go_simp; done)⟩) hHeld ?_
              try simp only [Act.put, List.setIfInBounds_toArray, List.set_cons_zero, List.set_cons_succ]
              refine AnyE.take (i := 21) (.pointer (some ⟨g, off + t2 * 3 + 1, none⟩)) rfl (by kernel_rfl) (by kernel_rfl) (by kernel_rfl) (by kernel_rfl) (fun _ _ _ h => h) (.inl ⟨by kernel_rfl, fun wy hy => by (go_simp; done)⟩) hHeld ?_
              try simp only [Act.put, List.setIfInBounds_toArray, List.set_cons_zero, List.set_cons_succ]
              refine AnyE.take (i := 22) (.slice ay ny ky) rfl (by kernel_rfl) (by kernel_rfl) (by kernel_rfl) (by kernel_rfl) (fun _ _ _ h => h) (.inl ⟨by kernel_rfl, fun wy hy => by (have q0 := (hy.cell (p := ⟨g, off + t2 * 3 + 1, none⟩) lgW).trans C0.out.1; go_simp; done)⟩) hHeld ?_
              try simp only [Act.put, List.setIfInBounds_toArray, List.set_cons_zero, List.set_cons_succ]
              refine AnyE.one (i := 23) rfl (by kernel_rfl) (by kernel_rfl) (fun KK hK => ?_)
              go_simp
              go_at_call 11
              refine (begins_any (HRYZ.out.2.later HB.out) (HRYZ.out.1.later HB.out)).mono ?_
              rintro e9 Z2 ⟨rfl, rfl⟩
              rw [HBG.out.1]
              go_wp2_with fail
              refine hK.out _ _ ⟨fun _ => HB.out, ?_⟩
              have hHeld := HB.out
              clear hK
              try simp only [Act.put, List.setIfInBounds_toArray, List.set_cons_zero, List.set_cons_succ]
              refine AnyE.one (i := 24) rfl (by kernel_rfl) (by kernel_rfl) (fun KK hK => ?_)
              go_simp
              refine hK.out _ _ ⟨fun _ => HB.out, ?_⟩
              clear hK
              try simp only [Act.put, List.setIfInBounds_toArray, List.set_cons_zero, List.set_cons_succ]
              refine AnyE.one (i := 25) rfl (by kernel_rfl) (by kernel_rfl) (fun KK hK => ?_)
              go_simp
              refine hK.out _ _ ⟨fun _ => HB.out, ?_⟩
              clear hK
              try simp only [Act.put, List.setIfInBounds_toArray, List.set_cons_zero, List.set_cons_succ]
              refine AnyE.done (by kernel_rfl) (NoPanic.normal ?_) _
              have hZ9 : ∃ z, z = Z2 := ⟨_, rfl⟩
              obtain ⟨YY, hZ9⟩ := hZ9
              rw [← hZ9] at HB ⊢
              clear hHeld hZ9
              go_simp
              go_step
              go_wp2
              go_roundw
              case rel => exact ⟨t2 + 1, by omega, by go_num, by rw [HNX.out]; first | rfl | go_num, HW0.out.trans (HB.out.mono HW0.out.size)⟩
              case measure => simp [intOf]; omega

        · have k1 : (n2 : Int) ≤ (t2 : Int) := by omega
          have hend : L.take t2 = L := by rw [show t2 = L.length by have := HNL.out.1; have := HNL.out.2.1; omega, List.take_length]
          have HEND := Lib.hid hend
          clear hend hlt2
          rw [HEND.out, ← HT.out.1]
          go_wp2
          go_ret
          exact ⟨by simp, HM6.out.bel.trans (HBX.out.mono HM6.out.bel.size)⟩
end Go.Proofs.Ytbheifelfeekmaa
