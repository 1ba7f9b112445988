import Derived.Test.YtbheifelfeekmaaK06
namespace Go.Proofs.Ytbheifelfeekmaa
open Go.RowKit Go.MapKept
set_option linter.unusedVariables false
set_option linter.unusedSimpArgs false
variable {w w' W X : World} {O O' : Nat → Prop} {dB : Nat} {d : Dk4}
def takeD (d : Dk4) (s : ByteArray) (bs : List Nat) (y : Int) : Int × Dk4 :=
  if ¬ DkName s then (40, d)
  else if (atP d.fs s).isSome then (41, d)
  else if y < 0 ∨ (bs.length : Int) < y then (43, d)
  else if d.cap - (totP d.fs : Int) < (bs.length : Int) then (4, d)
  else (0, ⟨setP d.fs (s, bs, y.toNat), d.cap, d.arm, d.down, d.c⟩)
theorem fsOk_take {d : Dk4} (ok : d.Ok) {s : ByteArray} {bs : List Nat} {y : Int} (hs : DkName s) (hn : atP d.fs s = none) (hc : d.fs.length < 256) (hy : ¬ (y < 0 ∨ (bs.length : Int) < y)) (hf : ¬ d.cap - (totP d.fs : Int) < (bs.length : Int)) : FsOk d.cap (setP d.fs (s, bs, y.toNat)) := by
  have e := setP_new (f := (s, bs, y.toNat)) (atP_none hn)
  rw [e]
  refine ⟨?_, fun p hp => ?_, by simp; omega, fun p hp => ?_, ?_⟩
  · rw [totP_append]
    have := ok.tot
    simp [totP] at this hf ⊢
    omega
  · rcases List.mem_append.1 hp with h | h
    · exact ok.nam p h
    · simp at h; subst h; exact hs
  · rcases List.mem_append.1 hp with h | h
    · exact ok.syn p h
    · simp at h; subst h; simp; omega
  · rw [List.map_append, List.nodup_append]
    refine ⟨ok.nod, by simp, fun a ha b hb => ?_⟩
    obtain ⟨p, hp, rfl⟩ := List.mem_map.1 ha
    simp at hb
    subst hb
    exact atP_none hn p hp
theorem OwnO.of_row {B : Nat} {v : Value} {xs : List Nat} (h : w.ownsRow B 5 1 v xs.length (bv xs)) (hb : Bys xs) : OwnO w (fun i => B ≤ i ∧ i < w.heap.size) v xs := by
  refine ⟨⟨h.1, ?_⟩, hb, fun g hg => ?_⟩
  · rcases h.2 with h1 | ⟨g, cap, cur, e, h2, h3⟩
    · exact .inl h1
    · exact .inr ⟨g, cap, cur, e, Nat.zero_le _, h3⟩
  · rcases h.2 with ⟨rfl, _⟩ | ⟨g', cap, cur, rfl, h2, h3, _⟩
    · cases hg
    · simp only [Value.ownBlock, Option.some.injEq] at hg
      subst hg
      exact ⟨h2, (Array.getElem?_eq_some_iff.1 h3).1⟩
set_option maxRecDepth 100000 in
set_option maxHeartbeats 4000000 in
theorem take4_any {s : ByteArray} {ab : Option Addr} {nb kb : Nat} {bs : List Nat} {y : Int} (hD : Dsk w O dB d) (hrd : Rd w (.slice ab nb kb) bs) (hc : d.fs.length < 256) :
    Calls Try.prog 50 #[.pointer (some ⟨dB, 0, none⟩), .agg #[.string s, .slice ab nb kb, .int .i64 y]] w (AnsD w O dB (takeD d s bs y)) := by
  have hnb : nb = bs.length := by
    obtain ⟨_, a, c, h, _⟩ := hrd
    simp only [Value.slice.injEq] at h
    exact h.2.1
  have hR : ∃ R, R = takeD d s bs y := ⟨_, rfl⟩
  obtain ⟨R, hR⟩ := hR
  rw [← hR]
  have hR2 := hR
  unfold takeD at hR2
  have cs : (w.alloc (.cells #[.string s, .slice ab nb kb, .int .i64 y] 50)).cell? ⟨w.heap.size, 0, none⟩ = some (.string s) ∧ (w.alloc (.cells #[.string s, .slice ab nb kb, .int .i64 y] 50)).cell? ⟨w.heap.size, 1, none⟩ = some (.slice ab nb kb) ∧ (w.alloc (.cells #[.string s, .slice ab nb kb, .int .i64 y] 50)).cell? ⟨w.heap.size, 2, none⟩ = some (.int .i64 y) ∧ (w.alloc (.cells #[.string s, .slice ab nb kb, .int .i64 y] 50)).heap.size = w.heap.size + 1 := by
    refine ⟨?_, ?_, ?_, ?_⟩ <;> simp [go_sem]
  have b0 : Below w.heap.size w (w.alloc (.cells #[.string s, .slice ab nb kb, .int .i64 y] 50)) := (Below.refl _ _).alloc (Nat.le_refl _) _
  have hW0 : ∃ W0, W0 = w.alloc (.cells #[.string s, .slice ab nb kb, .int .i64 y] 50) := ⟨_, rfl⟩
  obtain ⟨W0, hW0⟩ := hW0
  have hq : ∃ q, q = w.heap.size := ⟨_, rfl⟩
  obtain ⟨q, hq⟩ := hq
  rw [← hW0] at cs b0
  rw [← hq] at cs
  have D0 := hD.below b0
  have R0 := hrd.later b0
  have b1 := (Below.refl W0.heap.size W0).alloc (Nat.le_refl _) (.cells #[.string s] 9)
  have r1 := rdN1 W0 s
  have hW1 : ∃ W1, W1 = W0.alloc (.cells #[.string s] 9) := ⟨_, rfl⟩
  obtain ⟨W1, hW1⟩ := hW1
  rw [← hW1] at b1 r1
  have D1 := D0.below b1
  have R1 := R0.later b1
  have lq : q < W0.heap.size := by omega
  have c1 : W1.cell? ⟨q, 0, none⟩ = some (.string s) ∧ W1.cell? ⟨q, 1, none⟩ = some (.slice ab nb kb) ∧ W1.cell? ⟨q, 2, none⟩ = some (.int .i64 y) ∧ q < W1.heap.size := ⟨(b1.cell (p := ⟨q, 0, none⟩) lq).trans cs.1, (b1.cell (p := ⟨q, 1, none⟩) lq).trans cs.2.1, (b1.cell (p := ⟨q, 2, none⟩) lq).trans cs.2.2.1, Nat.lt_of_lt_of_le lq b1.size⟩
  have B1 : Below w.heap.size w W1 := b0.trans (b1.mono b0.size)
  have HC := Lib.hid (checkNames_any r1)
  have hk : ∃ kk, kk = chkN [s] := ⟨_, rfl⟩
  obtain ⟨kk, hk⟩ := hk
  rw [← hk] at HC
  simp only [List.length_cons, List.length_nil, Nat.zero_add] at HC
  have HW := Lib.hid (And.intro hW0 (And.intro hW1 hq))
  have HD := Lib.hid (And.intro D1 (And.intro R1 B1))
  have C1 := Lib.hid c1
  have C0 := Lib.hid cs
  have HNB := Lib.hid hnb
  have HR := Lib.hid hR2
  have HCNT := Lib.hid hc
  have HRDB := Lib.hid hrd.1
  have hk0 : kk = 0 ↔ DkName s := by rw [hk]; unfold chkN; by_cases h : DkName s <;> simp [h]
  have hk1 : ¬ DkName s → kk = 40 := fun h => by rw [hk]; unfold chkN; rw [if_neg (fun z => h (z s (by simp)))]
  have HK := Lib.hid (And.intro hk0 hk1)
  clear hk hk0 hk1 hW0 hW1 hq hD hrd hc hnb hR hR2 cs b0 b1 r1 D0 D1 R0 R1 B1 c1 lq
  go_enter Try.func50, Try.ntmps50
  go_upto_region 1 with fail
  rw [← HW.out.1, ← HW.out.2.2]
  have c00 := C0.out.1
  go_wp2_with fail
  clear c00
  rw [← HW.out.2.1]
  refine HC.out.mono ?_
  rintro e w1 ⟨rfl, rfl⟩
  obtain ⟨HOK, mb, fl, hM, hfl⟩ := HD.out.1
  obtain ⟨es, clock, hm⟩ := hM.map
  have HM := Lib.hid (And.intro hM (And.intro hfl hm))
  have HOKH := Lib.hid HOK
  have lmb := hm.lt
  have ldb := hM.box.lt
  have lq := C1.out.2.2.2
  have hat : atP d.fs s = (atF fl s).map (fun f => (f.dat, f.syn)) := by rw [← hfl, atF_pf]
  have HAT := Lib.hid hat
  clear hM hfl hm HOK hat
  by_cases h0 : kk = 0
  · have hnm := HK.out.1.1 h0
    have HNM := Lib.hid hnm
    subst h0
    clear hnm
    have c10 := C1.out.1
    go_upto_region 4 with fail
    clear c10
    have hP0 : ∃ P0, P0 = ptrO (atN (fl.map FE.nb) s) := ⟨_, rfl⟩
    obtain ⟨P0, hP0⟩ := hP0
    have HP0 := Lib.hid hP0
    clear hP0
    have BD : Below w1.heap.size w1 w1.drew := (Below.refl _ _).drew
    refine wp_region_noPanic ?_
    refine wp_region_anyE (S := fun wx => Below w1.heap.size w1 wx) (E := fun j => true) (by kernel_rfl) ?_
    have hHeld : Below w1.heap.size w1 w1.drew := BD
    have HB := Lib.hid BD
    have hZ0 : ∃ z, z = w1.drew := ⟨_, rfl⟩
    obtain ⟨Z0, hZ0⟩ := hZ0
    rw [← hZ0] at HB hHeld ⊢
    clear hZ0 BD
    refine AnyE.take (i := 0) (.pointer (some ⟨dB, 0, none⟩)) rfl (by kernel_rfl) (by kernel_rfl) (by kernel_rfl) (by kernel_rfl) (fun _ _ _ h => h) (.inl ⟨by kernel_rfl, fun wy hy => by (go_simp; done)⟩) hHeld ?_
    try simp only [Act.put, List.setIfInBounds_toArray, List.set_cons_zero, List.set_cons_succ]
    refine AnyE.take (i := 1) (.pointer (some ⟨dB, 0, none⟩)) rfl (by kernel_rfl) (by kernel_rfl) (by kernel_rfl) (by kernel_rfl) (fun _ _ _ h => h) (.inl ⟨by kernel_rfl, fun wy hy => by (go_simp; done)⟩) hHeld ?_
    try simp only [Act.put, List.setIfInBounds_toArray, List.set_cons_zero, List.set_cons_succ]
    refine AnyE.take (i := 2) (.pointer (some ⟨dB, 0, none⟩)) rfl (by kernel_rfl) (by kernel_rfl) (by kernel_rfl) (by kernel_rfl) (fun _ _ _ h => h) (.inl ⟨by kernel_rfl, fun wy hy => by (go_simp; done)⟩) hHeld ?_
    try simp only [Act.put, List.setIfInBounds_toArray, List.set_cons_zero, List.set_cons_succ]
    refine AnyE.take (i := 3) (.map (some mb)) rfl (by kernel_rfl) (by kernel_rfl) (by kernel_rfl) (by kernel_rfl) (fun _ _ _ h => h) (.inl ⟨by kernel_rfl, fun wy hy => by (have q0 := (HM.out.1.box.kept (hy.block _ ldb)).cells.1; go_simp; done)⟩) hHeld ?_
    try simp only [Act.put, List.setIfInBounds_toArray, List.set_cons_zero, List.set_cons_succ]
    refine AnyE.take (i := 4) (.pointer (some ⟨q, 0, none⟩)) rfl (by kernel_rfl) (by kernel_rfl) (by kernel_rfl) (by kernel_rfl) (fun _ _ _ h => h) (.inl ⟨by kernel_rfl, fun wy hy => by (go_simp; done)⟩) hHeld ?_
    try simp only [Act.put, List.setIfInBounds_toArray, List.set_cons_zero, List.set_cons_succ]
    refine AnyE.take (i := 5) (.string s) rfl (by kernel_rfl) (by kernel_rfl) (by kernel_rfl) (by kernel_rfl) (fun _ _ _ h => h) (.inl ⟨by kernel_rfl, fun wy hy => by (have q0 := (hy.cell (p := ⟨q, 0, none⟩) lq).trans C1.out.1; go_simp; done)⟩) hHeld ?_
    try simp only [Act.put, List.setIfInBounds_toArray, List.set_cons_zero, List.set_cons_succ]
    refine AnyE.take (i := 6) (P0) rfl (by kernel_rfl) (by kernel_rfl) (by kernel_rfl) (by kernel_rfl) (fun _ _ _ h => h) (.inl ⟨by kernel_rfl, fun wy hy => by (have q0 := (HM.out.2.2.kept (hy.block _ lmb)).look s; have q1 : P0 = ptrO (atN (fl.map (fun f => (f.nm, f.b))) s) := HP0.out; rw [← q1] at q0; go_simp; done)⟩) hHeld ?_
    try simp only [Act.put, List.setIfInBounds_toArray, List.set_cons_zero, List.set_cons_succ]
    cases hF : atF fl s with
    | some f =>
      have hPv : P0 = .pointer (some ⟨f.b, 0, none⟩) := by rw [HP0.out, atF_nb, hF]; rfl
      have hRR : R = (41, d) := by rw [HR.out, if_neg (fun z => z HNM.out), if_pos (by rw [HAT.out, hF]; rfl)]
      subst hRR
      rw [hPv]
      clear hPv hF
      refine AnyE.take (i := 7) (.bool true) rfl (by kernel_rfl) (by kernel_rfl) (by kernel_rfl) (by kernel_rfl) (fun _ _ _ h => h) (.inl ⟨by kernel_rfl, fun wy hy => by (go_simp; done)⟩) hHeld ?_
      try simp only [Act.put, List.setIfInBounds_toArray, List.set_cons_zero, List.set_cons_succ]
      refine AnyE.done (by kernel_rfl) (NoPanic.normal ?_) _
      go_simp
      go_step
      go_wp2
      go_ret
      exact ⟨rfl, O, HD.out.1.below HB.out, Go4.of_below (HD.out.2.2.trans (HB.out.mono HD.out.2.2.size))⟩
    | none =>
      have hPv : P0 = .pointer none := by rw [HP0.out, atF_nb, hF]; rfl
      rw [hPv]
      have hno : atP d.fs s = none := by rw [HAT.out, hF]; rfl
      have HF := Lib.hid (And.intro hF hno)
      have hRR : R = (if y < 0 ∨ (bs.length : Int) < y then (43, d) else if d.cap - (totP d.fs : Int) < (bs.length : Int) then (4, d) else (0, ⟨setP d.fs (s, bs, y.toNat), d.cap, d.arm, d.down, d.c⟩)) := by rw [HR.out, if_neg (fun z => z HNM.out), if_neg (by rw [hno]; simp)]
      rw [← HNB.out] at hRR
      have HRR := Lib.hid hRR
      clear hPv hF hno hRR
      refine AnyE.take (i := 7) (.bool false) rfl (by kernel_rfl) (by kernel_rfl) (by kernel_rfl) (by kernel_rfl) (fun _ _ _ h => h) (.inl ⟨by kernel_rfl, fun wy hy => by (go_simp; done)⟩) hHeld ?_
      try simp only [Act.put, List.setIfInBounds_toArray, List.set_cons_zero, List.set_cons_succ]
      refine AnyE.done (by kernel_rfl) (NoPanic.normal ?_) _
      have Q : Hid (Z0.cell? ⟨q, 0, none⟩ = some (.string s) ∧ Z0.cell? ⟨q, 1, none⟩ = some (.slice ab nb kb) ∧ Z0.cell? ⟨q, 2, none⟩ = some (.int .i64 y) ∧ q < Z0.heap.size) := ⟨(HB.out.cell (p := ⟨q, 0, none⟩) lq).trans C1.out.1, (HB.out.cell (p := ⟨q, 1, none⟩) lq).trans C1.out.2.1, (HB.out.cell (p := ⟨q, 2, none⟩) lq).trans C1.out.2.2.1, Nat.lt_of_lt_of_le lq HB.out.size⟩
      have BZ := Lib.hid (HD.out.2.2.trans (HB.out.mono HD.out.2.2.size))
      have DZ := Lib.hid (And.intro (HD.out.1.below HB.out) (And.intro (HM.out.1.below HB.out) (HD.out.2.1.later HB.out)))
      have q1 := Q.out.2.1
      have q2 := Q.out.2.2.1
      clear hHeld
      by_cases y0 : y < 0
      · have hRR : R = (43, d) := by rw [HRR.out, if_pos (.inl y0)]
        subst hRR
        go_simp
        go_step
        go_wp2
        go_ret
        exact ⟨rfl, O, DZ.out.1, Go4.of_below BZ.out⟩
      by_cases y1 : (nb : Int) < y
      · have hRR : R = (43, d) := by rw [HRR.out, if_pos (.inr y1)]
        subst hRR
        go_simp
        go_step
        go_wp2
        go_ret
        exact ⟨rfl, O, DZ.out.1, Go4.of_below BZ.out⟩
      have hRR := HRR.out
      rw [if_neg (fun z => z.elim y0 y1)] at hRR
      have HRR := Lib.hid hRR
      clear hRR
      go_simp
      go_step
      go_upto_region 8 with fail
      clear q1 q2
      have hT : ∃ T : Int, T = d.cap - (totP d.fs : Int) := ⟨_, rfl⟩
      obtain ⟨T, hT⟩ := hT
      rw [← hT] at HRR
      have htot : (totP (fl.map FE.pf) : Int) ≤ d.cap := by rw [HM.out.2.1]; exact HOKH.out.tot
      have HFR := Lib.hid (fun Z (hz : Below Z0.heap.size Z0 Z) => free_any (DZ.out.2.1.below hz) HOKH.out.cap0 HOKH.out.cap1 htot)
      rw [HM.out.2.1, ← hT] at HFR
      have HT := Lib.hid (And.intro hT htot)
      have LQ := Q.out.2.2.2
      clear hT htot HB
      obtain ⟨Y0, hY0⟩ : ∃ Y0, Y0 = Z0 := ⟨_, rfl⟩
      rw [← hY0] at Q BZ DZ HFR LQ ⊢
      clear hY0 Z0
      have BD : Below Y0.heap.size Y0 Y0.drew := (Below.refl _ _).drew
      refine wp_region_noPanic ?_
      refine wp_region_anyE (S := fun wx => Below Y0.heap.size Y0 wx) (E := fun j => true) (by kernel_rfl) ?_
      have hHeld : Below Y0.heap.size Y0 Y0.drew := BD
      have HB := Lib.hid BD
      have hZ0 : ∃ z, z = Y0.drew := ⟨_, rfl⟩
      obtain ⟨Z0, hZ0⟩ := hZ0
      rw [← hZ0] at HB hHeld ⊢
      clear hZ0 BD
      refine AnyE.take (i := 0) (.pointer (some ⟨q, 1, none⟩)) rfl (by kernel_rfl) (by kernel_rfl) (by kernel_rfl) (by kernel_rfl) (fun _ _ _ h => h) (.inl ⟨by kernel_rfl, fun wy hy => by (go_simp; done)⟩) hHeld ?_
      try simp only [Act.put, List.setIfInBounds_toArray, List.set_cons_zero, List.set_cons_succ]
      refine AnyE.take (i := 1) (.slice ab nb kb) rfl (by kernel_rfl) (by kernel_rfl) (by kernel_rfl) (by kernel_rfl) (fun _ _ _ h => h) (.inl ⟨by kernel_rfl, fun wy hy => by (have q0 := (hy.cell (p := ⟨q, 1, none⟩) LQ).trans Q.out.2.1; go_simp; done)⟩) hHeld ?_
      try simp only [Act.put, List.setIfInBounds_toArray, List.set_cons_zero, List.set_cons_succ]
      refine AnyE.take (i := 2) (.int .i64 (nb : Int)) rfl (by kernel_rfl) (by kernel_rfl) (by kernel_rfl) (by kernel_rfl) (fun _ _ _ h => h) (.inl ⟨by kernel_rfl, fun wy hy => by (cases ab <;> go_simp; done)⟩) hHeld ?_
      try simp only [Act.put, List.setIfInBounds_toArray, List.set_cons_zero, List.set_cons_succ]
      refine AnyE.take (i := 3) (.pointer (some ⟨dB, 0, none⟩)) rfl (by kernel_rfl) (by kernel_rfl) (by kernel_rfl) (by kernel_rfl) (fun _ _ _ h => h) (.inl ⟨by kernel_rfl, fun wy hy => by (go_simp; done)⟩) hHeld ?_
      try simp only [Act.put, List.setIfInBounds_toArray, List.set_cons_zero, List.set_cons_succ]
      refine AnyE.one (i := 4) rfl (by kernel_rfl) (by kernel_rfl) (fun KK hK => ?_)
      go_simp
      go_at_call 31
      refine (HFR.out Z0 HB.out).mono ?_
      rintro e9 Z2 ⟨rfl, b1⟩
      have HB := Lib.hid (HB.out.trans (b1.mono HB.out.size))
      clear b1
      go_wp2_with fail
      refine hK.out _ _ ⟨fun _ => HB.out, ?_⟩
      have hHeld := HB.out
      clear hK
      try simp only [Act.put, List.setIfInBounds_toArray, List.set_cons_zero, List.set_cons_succ]
      by_cases hfull : T < (nb : Int)
      · have hRR : R = (4, d) := by rw [HRR.out, if_pos hfull]
        subst hRR
        refine AnyE.take (i := 5) (.bool true) rfl (by kernel_rfl) (by kernel_rfl) (by kernel_rfl) (by kernel_rfl) (fun _ _ _ h => h) (.inl ⟨by kernel_rfl, fun wy hy => by (go_simp; done)⟩) hHeld ?_
        try simp only [Act.put, List.setIfInBounds_toArray, List.set_cons_zero, List.set_cons_succ]
        refine AnyE.done (by kernel_rfl) (NoPanic.normal ?_) _
        go_simp
        go_step
        go_wp2
        go_ret
        exact ⟨rfl, O, DZ.out.1.below HB.out, Go4.of_below (BZ.out.trans (HB.out.mono BZ.out.size))⟩
      · have hRR : R = (0, ⟨setP d.fs (s, bs, y.toNat), d.cap, d.arm, d.down, d.c⟩) := by rw [HRR.out, if_neg hfull]
        subst hRR
        have HFULL := Lib.hid hfull
        have HY := Lib.hid (And.intro y0 y1)
        refine AnyE.take (i := 5) (.bool false) rfl (by kernel_rfl) (by kernel_rfl) (by kernel_rfl) (by kernel_rfl) (fun _ _ _ h => h) (.inl ⟨by kernel_rfl, fun wy hy => by (go_simp; done)⟩) hHeld ?_
        try simp only [Act.put, List.setIfInBounds_toArray, List.set_cons_zero, List.set_cons_succ]
        refine AnyE.done (by kernel_rfl) (NoPanic.normal ?_) _
        clear hfull y0 y1
        go_simp
        go_step
        go_upto_region 10 with fail
        have hB8 := HB.out
        have Q : Hid (Z2.cell? ⟨q, 0, none⟩ = some (.string s) ∧ Z2.cell? ⟨q, 1, none⟩ = some (.slice ab nb kb) ∧ Z2.cell? ⟨q, 2, none⟩ = some (.int .i64 y) ∧ q < Z2.heap.size) := ⟨(hB8.cell (p := ⟨q, 0, none⟩) LQ).trans Q.out.1, (hB8.cell (p := ⟨q, 1, none⟩) LQ).trans Q.out.2.1, (hB8.cell (p := ⟨q, 2, none⟩) LQ).trans Q.out.2.2.1, Nat.lt_of_lt_of_le LQ hB8.size⟩
        have LQ := Q.out.2.2.2
        have BZ := Lib.hid (BZ.out.trans (hB8.mono BZ.out.size))
        have DZ := Lib.hid (And.intro (DZ.out.2.1.below hB8) (DZ.out.2.2.later hB8))
        obtain ⟨Y2, hY2⟩ : ∃ Y2, Y2 = Z2 := ⟨_, rfl⟩
        rw [← hY2] at Q BZ DZ LQ ⊢
        clear hY2 hB8 HB hHeld HFR Z2
        have QMB : Hid (q ≠ mb) := by
          intro e
          obtain ⟨es2, ck2, hm2⟩ := DZ.out.1.map
          have h1 := Q.out.1
          unfold World.cell? at h1
          rw [e, hm2.blk] at h1
          cases h1
        have BD : Below Y2.heap.size Y2 Y2.drew := (Below.refl _ _).drew
        refine wp_region_noPanic ?_
        refine wp_region_anyE (S := fun wx => Go4 Y2 wx (fun i => i = mb) (fun i => i = mb)) (E := fun j => true) (by kernel_rfl) ?_
        have hHeld : Go4 Y2 Y2.drew (fun i => i = mb) (fun i => i = mb) := Go4.of_below BD
        have HB := Lib.hid BD
        have hZ0 : ∃ z, z = Y2.drew := ⟨_, rfl⟩
        obtain ⟨Z0, hZ0⟩ := hZ0
        rw [← hZ0] at HB hHeld ⊢
        clear hZ0 BD
        refine AnyE.take (i := 0) (.pointer (some ⟨dB, 0, none⟩)) rfl (by kernel_rfl) (by kernel_rfl) (by kernel_rfl) (by kernel_rfl) (fun _ _ _ h => h) (.inl ⟨by kernel_rfl, fun wy hy => by (go_simp; done)⟩) hHeld ?_
        try simp only [Act.put, List.setIfInBounds_toArray, List.set_cons_zero, List.set_cons_succ]
        refine AnyE.take (i := 1) (.pointer (some ⟨q, 0, none⟩)) rfl (by kernel_rfl) (by kernel_rfl) (by kernel_rfl) (by kernel_rfl) (fun _ _ _ h => h) (.inl ⟨by kernel_rfl, fun wy hy => by (go_simp; done)⟩) hHeld ?_
        try simp only [Act.put, List.setIfInBounds_toArray, List.set_cons_zero, List.set_cons_succ]
        refine AnyE.take (i := 2) (.string s) rfl (by kernel_rfl) (by kernel_rfl) (by kernel_rfl) (by kernel_rfl) (fun _ _ _ h => h) (.inl ⟨by kernel_rfl, fun wy hy => by (have q0 := (World.cell?_of_block (a := ⟨q, 0, none⟩) (hy.block q LQ QMB.out)).trans Q.out.1; go_simp; done)⟩) hHeld ?_
        try simp only [Act.put, List.setIfInBounds_toArray, List.set_cons_zero, List.set_cons_succ]
        refine AnyE.take (i := 3) (.pointer (some ⟨q, 1, none⟩)) rfl (by kernel_rfl) (by kernel_rfl) (by kernel_rfl) (by kernel_rfl) (fun _ _ _ h => h) (.inl ⟨by kernel_rfl, fun wy hy => by (go_simp; done)⟩) hHeld ?_
        try simp only [Act.put, List.setIfInBounds_toArray, List.set_cons_zero, List.set_cons_succ]
        refine AnyE.take (i := 4) (.slice ab nb kb) rfl (by kernel_rfl) (by kernel_rfl) (by kernel_rfl) (by kernel_rfl) (fun _ _ _ h => h) (.inl ⟨by kernel_rfl, fun wy hy => by (have q0 := (World.cell?_of_block (a := ⟨q, 1, none⟩) (hy.block q LQ QMB.out)).trans Q.out.2.1; go_simp; done)⟩) hHeld ?_
        try simp only [Act.put, List.setIfInBounds_toArray, List.set_cons_zero, List.set_cons_succ]
        refine AnyE.take (i := 6) (.pointer (some ⟨q, 2, none⟩)) rfl (by kernel_rfl) (by kernel_rfl) (by kernel_rfl) (by kernel_rfl) (fun _ _ _ h => h) (.inl ⟨by kernel_rfl, fun wy hy => by (go_simp; done)⟩) hHeld ?_
        try simp only [Act.put, List.setIfInBounds_toArray, List.set_cons_zero, List.set_cons_succ]
        refine AnyE.take (i := 7) (.int .i64 y) rfl (by kernel_rfl) (by kernel_rfl) (by kernel_rfl) (by kernel_rfl) (fun _ _ _ h => h) (.inl ⟨by kernel_rfl, fun wy hy => by (have q0 := (World.cell?_of_block (a := ⟨q, 2, none⟩) (hy.block q LQ QMB.out)).trans Q.out.2.2.1; go_simp; done)⟩) hHeld ?_
        try simp only [Act.put, List.setIfInBounds_toArray, List.set_cons_zero, List.set_cons_succ]
        refine AnyE.one (i := 5) rfl (by kernel_rfl) (by kernel_rfl) (fun KK hK => ?_)
        go_simp
        go_at_call 42
        refine (bclone_any (DZ.out.2.later HB.out) (by have h1 := HFULL.out; have h2 := HT.out.1; have h3 := HOKH.out.cap1; have h4 := HNB.out; omega)).mono ?_
        rintro e9 Z2 ⟨v, rfl, hv, b1⟩
        have hf := (OwnO.of_row hv HRDB.out).form
        rw [← HNB.out] at hf
        obtain ⟨va, vc, rfl⟩ := hf
        have HV := Lib.hid (And.intro (OwnO.of_row hv HRDB.out) (And.intro HB.out.size b1))
        have HB := Lib.hid (HB.out.trans (b1.mono HB.out.size))
        clear b1 hv
        go_wp2_with fail
        have hHeld := (Go4.of_below HB.out : Go4 Y2 Z2 (fun i => i = mb) (fun i => i = mb))
        refine hK.out _ _ ⟨fun _ => hHeld, ?_⟩
        clear hK
        try simp only [Act.put, List.setIfInBounds_toArray, List.set_cons_zero, List.set_cons_succ]
        refine AnyE.take (i := 8) (.agg #[.slice va nb vc, .int .i64 y]) rfl (by kernel_rfl) (by kernel_rfl) (by kernel_rfl) (by kernel_rfl) (fun _ _ _ h => h) (.inl ⟨by kernel_rfl, fun wy hy => by (go_simp; done)⟩) hHeld ?_
        try simp only [Act.put, List.setIfInBounds_toArray, List.set_cons_zero, List.set_cons_succ]
        refine AnyE.one (i := 9) rfl (by kernel_rfl) (by kernel_rfl) (fun KK hK => ?_)
        go_simp
        have sZ : (Z2.alloc (.cells #[.slice va nb vc, .int .i64 y] 72)).heap.size = Z2.heap.size + 1 := by simp
        have fA : Hid (FBox (Z2.alloc (.cells #[.slice va nb vc, .int .i64 y] 72)) Z2.heap.size (.slice va nb vc) y.toNat) := by
          have := FBox.new Z2 (.slice va nb vc) y.toNat
          rw [Int.toNat_of_nonneg (by have := HY.out.1; omega)] at this
          exact this
        have bA : Below Z2.heap.size Z2 (Z2.alloc (.cells #[.slice va nb vc, .int .i64 y] 72)) := (Below.refl _ _).alloc (Nat.le_refl _) _
        have HB := Lib.hid (HB.out.trans (bA.mono HB.out.size))
        have hV : ∃ V, V = Z2.alloc (.cells #[.slice va nb vc, .int .i64 y] 72) := ⟨_, rfl⟩
        obtain ⟨V, hV⟩ := hV
        rw [← hV] at sZ fA bA HB ⊢
        have hHeld := (Go4.of_below HB.out : Go4 Y2 V (fun i => i = mb) (fun i => i = mb))
        refine hK.out _ _ ⟨fun _ => hHeld, ?_⟩
        clear hK
        try simp only [Act.put, List.setIfInBounds_toArray, List.set_cons_zero, List.set_cons_succ]
        have HSZ := Lib.hid (And.intro sZ bA)
        clear hV sZ bA
        refine AnyE.one (i := 10) rfl (by kernel_rfl) (by kernel_rfl) (fun KK hK => ?_)
        go_simp
        go_at_call 37
        have ho : OwnO V (fun i => O i ∨ (Y2.heap.size ≤ i ∧ i < V.heap.size)) (.slice va nb vc) bs := HV.out.1.kept (fun g hg => by
          have := HV.out.1.blk g hg
          have h2 := HV.out.2.1
          have h3 := HSZ.out.2.size
          exact ⟨HSZ.out.2.block g this.2, .inr ⟨by omega, by omega⟩⟩)
        refine (hold_dsk (O' := fun i => O i ∨ (Y2.heap.size ≤ i ∧ i < V.heap.size)) (f := ⟨s, Z2.heap.size, .slice va nb vc, bs, y.toNat⟩) (DZ.out.1.below HB.out) fA.out ho (.inr ⟨by have := HV.out.2.1; have := HV.out.2.2.size; simp only; omega, by have := HSZ.out.1; simp only; omega⟩) (fun i h => .inl h) (fun i h => h.elim (fun h => by have := DZ.out.1.lt i h; have := HB.out.size; omega) (fun h => h.2)) (fun g hg _ => ?_) (by have := HNM.out.2.1; simp only; omega)).mono ?_
        · have h1 := DZ.out.1.lt _ (DZ.out.1.fil g hg).2.2
          refine ⟨fun e => by have := HV.out.2.1; have := HV.out.2.2.size; simp only at e; omega, fun k hk e => ?_⟩
          have h2 := DZ.out.1.lt _ ((DZ.out.1.fil g hg).2.1.blk k hk)
          have h3 := (HV.out.1.blk k e).1
          have h4 := HV.out.2.1
          omega
        rintro e9 Z3 ⟨rfl, d3, g3⟩
        have HD3 := Lib.hid d3
        have HG3 := Lib.hid g3
        clear d3 g3 ho
        go_wp2_with fail
        refine hK.out _ _ ⟨fun _ => (Go4.of_below HB.out).trans HG3.out, ?_⟩
        clear hK
        try simp only [Act.put, List.setIfInBounds_toArray, List.set_cons_zero, List.set_cons_succ]
        refine AnyE.done (by kernel_rfl) (NoPanic.normal ?_) _
        obtain ⟨Z4, hZ4⟩ : ∃ z, z = Z3 := ⟨_, rfl⟩
        rw [← hZ4] at HD3 HG3 ⊢
        clear hZ4 hHeld
        go_simp
        go_step
        go_wp2
        go_ret
        have hpf := setF_pf ⟨s, Z2.heap.size, .slice va nb vc, bs, y.toNat⟩ fl
        have hfs := fsOk_take (bs := bs) (y := y) HOKH.out HNM.out HF.out.2 HCNT.out (by rw [← HNB.out]; have h1 := HY.out.1; have h2 := HY.out.2; omega) (by rw [← HNB.out, ← HT.out.1]; have h1 := HFULL.out; omega)
        refine ⟨rfl, (fun i => O i ∨ (Y2.heap.size ≤ i ∧ i < V.heap.size)), ⟨HOKH.out.mk2 hfs HOKH.out.arm0 HOKH.out.arm1 d.down d.c, mb, _, HD3.out, ?_⟩, ?_⟩
        · rw [hpf, HM.out.2.1]; rfl
        · have g := (Go4.of_below (O := O) BZ.out).trans ((Go4.of_below (O := O) HB.out).trans (HG3.out.wide (O1 := O) (O2 := O) (fun i h => by rw [h]; exact DZ.out.1.omb) (fun i h => .inr h)))
          exact ⟨g.os, g.tape, g.output, g.size, g.block, fun i hi => hi.elim .inl (fun h => .inr (Nat.le_trans BZ.out.size h.1))⟩
  · have hnn : ¬ DkName s := fun z => h0 (HK.out.1.2 z)
    have hRR : R = (kk, d) := by rw [HR.out, if_pos hnn, HK.out.2 hnn]
    subst hRR
    have h0n : (kk != 0) = true := by simp [h0]
    go_wp2
    go_ret
    exact ⟨rfl, O, HD.out.1, Go4.of_below HD.out.2.2⟩
end Go.Proofs.Ytbheifelfeekmaa

namespace Go.Proofs.Ytbheifelfeekmaa
open Go.RowKit Go.MapKept
set_option linter.unusedVariables false
set_option linter.unusedSimpArgs false
variable {w w' W X : World} {O O' : Nat → Prop} {dB : Nat} {d : Dk4}
abbrev GF := ByteArray × List Nat × Int
def loadL : Dk4 → List GF → Int × Dk4
  | d, [] => (0, d)
  | d, x :: xs => if (takeD d x.1 x.2.1 x.2.2).1 ≠ 0 then takeD d x.1 x.2.1 x.2.2 else loadL (takeD d x.1 x.2.1 x.2.2).2 xs
def loadD (n : Int) (l : List GF) : Int × Dk4 :=
  if n < 0 ∨ 67108864 < n then (1, newD n) else if 256 < l.length then (44, newD n) else loadL (newD n) l
structure RdG4 (w : World) (a : Option Addr) (k : Nat) (l : List (GF × Value)) : Prop where
  cap : l.length ≤ k ∧ k ≤ maxLen
  cel : ∀ i x, l[i]? = some x → ∃ g off, a = some ⟨g, off, none⟩ ∧ w.cell? ⟨g, off + i * 3, none⟩ = some (.string x.1.1) ∧ w.cell? ⟨g, off + i * 3 + 1, none⟩ = some x.2 ∧ w.cell? ⟨g, off + i * 3 + 2, none⟩ = some (.int .i64 x.1.2.2)
  dat : ∀ x ∈ l, ∃ ap cp, x.2 = .slice ap x.1.2.1.length cp ∧ Rd w x.2 x.1.2.1
theorem new4_bad {n : Int} (h : n < 0 ∨ 67108864 < n) (w : World) : Calls Try.prog 34 #[.int .i64 n] w fun e w' => e = .returned (.tuple #[.pointer none, .int .i64 1]) ∧ w' = w := by
  by_cases h0 : n < 0
  · go_enter Try.func34, Try.ntmps34
    go_wp2
    go_ret2
    exact ⟨rfl, rfl⟩
  · have h1 : (67108864 : Int) < n := h.elim (fun z => absurd z h0) id
    go_enter Try.func34, Try.ntmps34
    go_wp2
    go_ret2
    exact ⟨rfl, rfl⟩
theorem takeD_len {s : ByteArray} {bs : List Nat} {y : Int} (h : (takeD d s bs y).1 = 0) : (takeD d s bs y).2.fs.length = d.fs.length + 1 := by
  unfold takeD at h ⊢
  split at h
  · cases h
  · split at h
    · cases h
    · split at h
      · cases h
      · split at h
        · cases h
        · rename_i h1 h2 h3 h4
          rw [if_neg h1, if_neg h2, if_neg h3, if_neg h4]
          have hn : atP d.fs s = none := by simpa using h2
          simp [setP_new (f := (s, bs, y.toNat)) (atP_none hn)]
def LoadP (w : World) (r : Int × Dk4) (e : Ending) (w' : World) : Prop :=
  ∃ p, e = .returned (.tuple #[p, .int .i64 r.1]) ∧ Below w.heap.size w w' ∧ (r.1 ≠ 0 → p = .pointer none) ∧ (r.1 = 0 → ∃ O dB, p = .pointer (some ⟨dB, 0, none⟩) ∧ Mad w w' O dB r.2)
set_option maxRecDepth 100000 in
set_option maxHeartbeats 4000000 in
theorem load_any {n : Int} {a : Option Addr} {m k : Nat} {l : List (GF × Value)} (hr : RdG4 w a k l) (hm : m = l.length) :
    Calls Try.prog 33 #[.int .i64 n, .slice a m k] w (LoadP w (loadD n (l.map (·.1)))) := by
  have hR : ∃ R, R = loadD n (l.map (·.1)) := ⟨_, rfl⟩
  obtain ⟨R, hR⟩ := hR
  rw [← hR]
  unfold loadD at hR
  by_cases hn : n < 0 ∨ 67108864 < n
  · rw [if_pos hn] at hR
    subst hR
    have HC := Lib.hid (new4_bad hn w)
    clear hn hr hm
    go_enter Try.func33, Try.ntmps33
    go_wp2_with fail
    refine HC.out.mono ?_
    rintro e w1 ⟨rfl, rfl⟩
    go_wp2
    go_ret2
    exact ⟨_, rfl, Below.refl _ _, fun _ => rfl, fun h => by cases h⟩
  · rw [if_neg hn] at hR
    have HC := Lib.hid (new4_any (n := n) (by omega) (by omega) w)
    have HR := Lib.hid hR
    have HRD := Lib.hid hr
    have HM := Lib.hid hm
    have hmx : m ≤ 9223372036854775807 := by have := hr.cap; unfold maxLen at this; omega
    rw [List.length_map, ← hm] at HR
    clear hn hR hr hm
    by_cases h256 : 256 < m
    · have i1 : (256 : Int) < (m : Int) := by omega
      have hRR : R = (44, newD n) := by rw [HR.out, if_pos h256]
      subst hRR
      clear h256
      go_enter Try.func33, Try.ntmps33
      go_wp2_with fail
      refine HC.out.mono ?_
      rintro e w1 ⟨O1, dB, rfl, d1, b1, o1⟩
      go_wp2
      go_ret2
      exact ⟨_, rfl, b1, fun _ => rfl, fun h => by cases h⟩
    · have i1 : ¬ (256 : Int) < (m : Int) := by omega
      have hRR : R = loadL (newD n) (l.map (·.1)) := by rw [HR.out, if_neg h256]
      have HRR := Lib.hid hRR
      have H256 := Lib.hid h256
      clear h256 hRR HR
      go_enter Try.func33, Try.ntmps33
      go_wp2_with fail
      refine HC.out.mono ?_
      rintro e w1 ⟨O1, dB, rfl, d1, b1, o1⟩
      have M1 := Lib.hid (show Mad w w1 O1 dB (newD n) from ⟨d1, b1, o1⟩)
      clear d1 b1 o1 HC
      go_wp2_with fail
      go_loopw [9, 10, 24] (fun _ _ i wr => ∃ (t : Nat) (O : Nat → Prop) (d : Dk4), t ≤ m ∧ i = .int .i64 (t : Int) ∧ Mad w wr O dB d ∧ R = loadL d ((l.map (·.1)).drop t) ∧ d.fs.length = t) (fun _ _ i _ => m - (intOf i).toNat)
      case atStart => exact ⟨0, O1, _, by omega, rfl, M1.out, by rw [List.drop_zero]; exact HRR.out, rfl⟩
      case round =>
        obtain ⟨t, O, d, ht, rfl, hmad, hRt, hln⟩ := hrel
        have HT := Lib.hid (And.intro hmad (And.intro hRt hln))
        clear hmad hRt hln
        by_cases hlt : t < m
        · have j1 : (t : Int) < (m : Int) := by omega
          have j2 : (0 : Int) ≤ (t : Int) := by omega
          have hx : ∃ x, l[t]? = some x := ⟨_, List.getElem?_eq_getElem (by rw [← HM.out]; exact hlt)⟩
          obtain ⟨x, hx⟩ := hx
          have hcx := HRD.out.cel t x hx
          obtain ⟨g, off, hag, hcx⟩ := hcx
          subst hag
          have hdx := HRD.out.dat x (List.mem_of_getElem? hx)
          obtain ⟨ap, cp, hvx, hrx⟩ := hdx
          have lg := World.block_lt_of_cell? _ _ hcx.1
          simp only at lg
          have hRx : R = if (takeD d x.1.1 x.1.2.1 x.1.2.2).1 ≠ 0 then takeD d x.1.1 x.1.2.1 x.1.2.2 else loadL (takeD d x.1.1 x.1.2.1 x.1.2.2).2 ((l.map (·.1)).drop (t + 1)) := by
            rw [HT.out.2.1]
            have hd : (l.map (·.1)).drop t = x.1 :: (l.map (·.1)).drop (t + 1) := by
              have : (l.map (·.1))[t]? = some x.1 := by rw [List.getElem?_map, hx]; rfl
              obtain ⟨h1, h2⟩ := List.getElem?_eq_some_iff.1 this
              rw [List.drop_eq_getElem_cons h1, h2]
            rw [hd, loadL]
          have hnb : ∃ nb, nb = x.1.2.1.length := ⟨_, rfl⟩
          obtain ⟨nb, hnb⟩ := hnb
          rw [← hnb] at hvx
          rw [hvx] at hcx hrx
          have HTK := Lib.hid (fun (Z : World) (bZ : Below wr.heap.size wr Z) => take4_any (s := x.1.1) (y := x.1.2.2) (HT.out.1.dsk.below bZ) ((hrx.later HT.out.1.bel).later bZ) (by rw [HT.out.2.2]; have := H256.out; omega))
          have HLN := Lib.hid (fun h => takeD_len (d := d) (s := x.1.1) (bs := x.1.2.1) (y := x.1.2.2) h)
          obtain ⟨r, hr⟩ : ∃ r, r = takeD d x.1.1 x.1.2.1 x.1.2.2 := ⟨_, rfl⟩
          rw [← hr] at HTK hRx HLN
          obtain ⟨re, rd⟩ := r
          simp only at hRx
          have HRX := Lib.hid hRx
          have q0 := (HT.out.1.bel.cell (p := ⟨g, off + t * 3, none⟩) lg).trans hcx.1
          have q1 := (HT.out.1.bel.cell (p := ⟨g, off + t * 3 + 1, none⟩) lg).trans hcx.2.1
          have q2 := (HT.out.1.bel.cell (p := ⟨g, off + t * 3 + 2, none⟩) lg).trans hcx.2.2
          clear hcx hx hrx hvx hr hRx hnb
          have bZ : Below wr.heap.size wr (wr.alloc (.cells #[.string x.1.1, .slice ap nb cp, .int .i64 x.1.2.2] 50)) := (Below.refl _ _).alloc (Nat.le_refl _) _
          have cZ : (wr.alloc (.cells #[.string x.1.1, .slice ap nb cp, .int .i64 x.1.2.2] 50)).heap[wr.heap.size]? = some (.cells #[.string x.1.1, .slice ap nb cp, .int .i64 x.1.2.2] 50) := heap_alloc_new _ _
          obtain ⟨Z, hZ⟩ : ∃ Z, Z = wr.alloc (.cells #[.string x.1.1, .slice ap nb cp, .int .i64 x.1.2.2] 50) := ⟨_, rfl⟩
          go_upto_region 9 with fail
          rw [← hZ] at bZ cZ ⊢
          have u0 : Z.cell? ⟨wr.heap.size, 0, none⟩ = some (.string x.1.1) := by simp [World.cell?, cZ]
          have u1 : Z.cell? ⟨wr.heap.size, 1, none⟩ = some (.slice ap nb cp) := by simp [World.cell?, cZ]
          have u2 : Z.cell? ⟨wr.heap.size, 2, none⟩ = some (.int .i64 x.1.2.2) := by simp [World.cell?, cZ]
          have MZ := Lib.hid (HT.out.1.later bZ)
          have HTK := Lib.hid (HTK.out Z bZ)
          obtain ⟨wb, hwb⟩ : ∃ wb, wb = wr.heap.size := ⟨_, rfl⟩
          rw [← hwb] at u0 u1 u2 ⊢
          clear hZ bZ cZ hwb q0 q1 q2
          go_wp2_with fail
          refine HTK.out.mono ?_
          intro e w5 hans
          have hst := MZ.out.step hans
          simp only at hst
          have he := hst.1
          have hst2 := hst.2
          obtain ⟨O5, m5⟩ := hst2
          subst he
          have M5 := Lib.hid m5
          clear hans hst m5 u0 u1 u2 HTK
          by_cases h0 : re = 0
          · subst h0
            have hRX := HRX.out
            simp only [ne_eq, not_true_eq_false, if_false] at hRX
            have HRX := Lib.hid hRX
            clear hRX
            go_wp2
            go_roundw
            case rel => exact ⟨t + 1, O5, rd, by omega, by go_num, M5.out, HRX.out, by have h1 := HLN.out trivial; have h2 := HT.out.2.2; omega⟩
            case measure => simp [intOf]; omega
          · have h0n : (re != 0) = true := by simp [h0]
            have hRX := HRX.out
            rw [if_pos h0] at hRX
            subst hRX
            go_wp2
            go_ret2
            exact ⟨_, rfl, M5.out.bel, fun _ => rfl, fun h => absurd h h0⟩
        · have j1 : (m : Int) ≤ (t : Int) := by omega
          have hRt := HT.out.2.1
          rw [List.drop_eq_nil_of_le (by rw [List.length_map, ← HM.out]; omega), loadL] at hRt
          subst hRt
          go_wp2
          go_ret2
          exact ⟨_, rfl, HT.out.1.bel, fun h => absurd rfl h, fun _ => ⟨O, dB, rfl, HT.out.1⟩⟩
end Go.Proofs.Ytbheifelfeekmaa
