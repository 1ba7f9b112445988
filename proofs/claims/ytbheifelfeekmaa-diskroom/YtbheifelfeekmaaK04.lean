import Derived.Test.YtbheifelfeekmaaK03
import Derived.Shelf.Sort.Plain
import Derived.Shelf.Slices.In.SortNone
import Derived.Sort.OwnSorted
import Derived.Sort.KeysCollected
import Derived.Lib.ConvBytes
namespace Go.Proofs.Ytbheifelfeekmaa
open Go.RowKit Go.MapKept
set_option linter.unusedVariables false
set_option linter.unusedSimpArgs false
variable {w w' W : World} {O O' : Nat → Prop} {dB : Nat} {d : Dk4}
theorem Rd.go4 {v : Value} {bs : List Nat} (h : Rd w v bs) (k : ∀ b off n c, v = .slice (some ⟨b, off, none⟩) n c → b < w.heap.size → w'.heap[b]? = w.heap[b]?) : Rd w' v bs := by
  obtain ⟨h1, a, cap, rfl, h3, h4, h5, h6, h7⟩ := h
  refine ⟨h1, a, cap, rfl, h3, h4, h5, h6, ?_⟩
  rcases h7 with h7 | ⟨b, off, rfl, hc⟩
  · exact .inl h7
  · refine .inr ⟨b, off, rfl, fun i hi => ?_⟩
    have hl := World.block_lt_of_cell? _ _ (hc i hi)
    rw [← hc i hi]
    exact World.cell?_of_block (a := ⟨b, off + i, none⟩) (k b off _ _ rfl hl)
theorem Rd.go5 {v : Value} {bs : List Nat} (h : Rd w v bs) (k : ∀ b off n c, v = .slice (some ⟨b, off, none⟩) n c → n ≠ 0 → b < w.heap.size → w'.heap[b]? = w.heap[b]?) : Rd w' v bs := by
  obtain ⟨h1, a, cap, rfl, h3, h4, h5, h6, h7⟩ := h
  refine ⟨h1, a, cap, rfl, h3, h4, h5, h6, ?_⟩
  by_cases h0 : bs = []
  · exact .inl h0
  rcases h7 with h7 | ⟨b, off, rfl, hc⟩
  · exact .inl h7
  · refine .inr ⟨b, off, rfl, fun i hi => ?_⟩
    have hl := World.block_lt_of_cell? _ _ (hc i hi)
    rw [← hc i hi]
    exact World.cell?_of_block (a := ⟨b, off + i, none⟩) (k b off _ _ rfl (by omega) hl)
def RdA (w : World) (O : Nat → Prop) (v : Value) (bs : List Nat) : Prop := Rd w v bs ∧ ∀ b off n c, v = .slice (some ⟨b, off, none⟩) n c → n ≠ 0 → ¬ O b
def appendD (d : Dk4) (s : ByteArray) (bs : List Nat) : Int × Dk4 :=
  if rdyN d.down [s] ≠ 0 then (rdyN d.down [s], d)
  else if 67108864 < bs.length then (2, d)
  else match atP d.fs s with
    | none => (42, d)
    | some v => if d.cap - (totP d.fs : Int) < (bs.length : Int) then (4, d) else actP d true (setP d.fs (s, v.1 ++ bs, v.2)) (setCt d.c 1 (wrap64 (d.c 1 + 1)))
set_option maxRecDepth 100000 in
set_option maxHeartbeats 2000000 in
theorem append_any {s : ByteArray} {ab : Option Addr} {nb kb : Nat} {bs : List Nat} (hD : Dsk w O dB d) (hrd : RdA w O (.slice ab nb kb) bs) : Calls Try.prog 15 #[.pointer (some ⟨dB, 0, none⟩), .string s, .slice ab nb kb] w (AnsD w O dB (appendD d s bs)) := by
  have hnb : nb = bs.length := by
    obtain ⟨⟨_, a, c, h, _⟩, _⟩ := hrd
    simp only [Value.slice.injEq] at h
    exact h.2.1
  have HNB := Lib.hid hnb
  have HRD := Lib.hid hrd
  clear hnb hrd
  have hmf : ∀ (fn : Fn) (first cap : Array Value) (w : World), (Instr.makeFunc fn first cap).run Try.prog w = .ok (.func fn first cap) w := fun _ _ _ _ => rfl
  obtain ⟨R, hR⟩ : ∃ R, R = appendD d s bs := ⟨_, rfl⟩
  rw [← hR]
  have HR := Lib.hid hR
  have HD := Lib.hid hD
  clear hR hD
  go_enter_defers Try.func15, Try.ntmps15
  go_upto_region 3 with fail
  clear hmf
  have cs : (((((w.alloc (.cells #[.pointer (some ⟨dB, 0, none⟩)] 23)).alloc (.cells #[.slice ab nb kb] 29)).alloc (.cells #[.int .i64 0] 25)).alloc (.cells #[.pointer none] 70)).cell? ⟨w.heap.size, 0, none⟩ = some (.pointer (some ⟨dB, 0, none⟩)) ∧ ((((w.alloc (.cells #[.pointer (some ⟨dB, 0, none⟩)] 23)).alloc (.cells #[.slice ab nb kb] 29)).alloc (.cells #[.int .i64 0] 25)).alloc (.cells #[.pointer none] 70)).frozen? ⟨w.heap.size, 0, none⟩ = false ∧ ((((w.alloc (.cells #[.pointer (some ⟨dB, 0, none⟩)] 23)).alloc (.cells #[.slice ab nb kb] 29)).alloc (.cells #[.int .i64 0] 25)).alloc (.cells #[.pointer none] 70)).cell? ⟨w.heap.size + 1, 0, none⟩ = some (.slice ab nb kb) ∧ ((((w.alloc (.cells #[.pointer (some ⟨dB, 0, none⟩)] 23)).alloc (.cells #[.slice ab nb kb] 29)).alloc (.cells #[.int .i64 0] 25)).alloc (.cells #[.pointer none] 70)).frozen? ⟨w.heap.size + 1, 0, none⟩ = false ∧ ((((w.alloc (.cells #[.pointer (some ⟨dB, 0, none⟩)] 23)).alloc (.cells #[.slice ab nb kb] 29)).alloc (.cells #[.int .i64 0] 25)).alloc (.cells #[.pointer none] 70)).cell? ⟨w.heap.size + 1 + 1, 0, none⟩ = some (.int .i64 0) ∧ ((((w.alloc (.cells #[.pointer (some ⟨dB, 0, none⟩)] 23)).alloc (.cells #[.slice ab nb kb] 29)).alloc (.cells #[.int .i64 0] 25)).alloc (.cells #[.pointer none] 70)).frozen? ⟨w.heap.size + 1 + 1, 0, none⟩ = false ∧ ((((w.alloc (.cells #[.pointer (some ⟨dB, 0, none⟩)] 23)).alloc (.cells #[.slice ab nb kb] 29)).alloc (.cells #[.int .i64 0] 25)).alloc (.cells #[.pointer none] 70)).cell? ⟨w.heap.size + 1 + 1 + 1, 0, none⟩ = some (.pointer none) ∧ ((((w.alloc (.cells #[.pointer (some ⟨dB, 0, none⟩)] 23)).alloc (.cells #[.slice ab nb kb] 29)).alloc (.cells #[.int .i64 0] 25)).alloc (.cells #[.pointer none] 70)).frozen? ⟨w.heap.size + 1 + 1 + 1, 0, none⟩ = false) ∧ ((((w.alloc (.cells #[.pointer (some ⟨dB, 0, none⟩)] 23)).alloc (.cells #[.slice ab nb kb] 29)).alloc (.cells #[.int .i64 0] 25)).alloc (.cells #[.pointer none] 70)).heap.size = w.heap.size + 4 := by
    refine ⟨?_, ?_⟩ <;> simp [go_sem]
  have b0 : Below w.heap.size w ((((w.alloc (.cells #[.pointer (some ⟨dB, 0, none⟩)] 23)).alloc (.cells #[.slice ab nb kb] 29)).alloc (.cells #[.int .i64 0] 25)).alloc (.cells #[.pointer none] 70)) := (((((Below.refl _ _).alloc (Nat.le_refl _) _).alloc (by simp) _).alloc (by simp; omega) _).alloc (by simp; omega) _)
  obtain ⟨W0, hW0⟩ : ∃ W0, W0 = ((((w.alloc (.cells #[.pointer (some ⟨dB, 0, none⟩)] 23)).alloc (.cells #[.slice ab nb kb] 29)).alloc (.cells #[.int .i64 0] 25)).alloc (.cells #[.pointer none] 70)) := ⟨_, rfl⟩
  rw [← hW0] at cs b0 ⊢
  obtain ⟨fv, h_fv⟩ : ∃ x, x = w.heap.size + 1 + 1 + 1 := ⟨_, rfl⟩
  obtain ⟨ea, h_ea⟩ : ∃ x, x = w.heap.size + 1 + 1 := ⟨_, rfl⟩
  obtain ⟨q, h_q⟩ : ∃ x, x = w.heap.size + 1 := ⟨_, rfl⟩
  obtain ⟨p, h_p⟩ : ∃ x, x = w.heap.size := ⟨_, rfl⟩
  rw [← h_fv, ← h_ea, ← h_q, ← h_p] at cs ⊢
  obtain ⟨⟨c_p, z_p, c_q, z_q, c_ea, z_ea, c_fv, z_fv⟩, sz⟩ := cs
  obtain ⟨HOK, mb, fl, hM, hfl⟩ := HD.out.below b0
  have HN : Hid (¬ O p ∧ ¬ O q ∧ ¬ O ea ∧ ¬ O fv) := Lib.hid (by
    refine ⟨fun h => by have := HD.out.lt _ h; omega, fun h => by have := HD.out.lt _ h; omega, fun h => by have := HD.out.lt _ h; omega, fun h => by have := HD.out.lt _ h; omega⟩)
  have HLE : Hid (w.heap.size ≤ p ∧ p < W0.heap.size ∧ w.heap.size ≤ q ∧ q < W0.heap.size ∧ w.heap.size ≤ ea ∧ ea < W0.heap.size ∧ w.heap.size ≤ fv ∧ fv < W0.heap.size) := Lib.hid (by refine ⟨by omega, by omega, by omega, by omega, by omega, by omega, by omega, by omega⟩)
  have n_p_q : p ≠ q := by omega
  have n_p_ea : p ≠ ea := by omega
  have n_p_fv : p ≠ fv := by omega
  have n_q_p : q ≠ p := by omega
  have n_q_ea : q ≠ ea := by omega
  have n_q_fv : q ≠ fv := by omega
  have n_ea_p : ea ≠ p := by omega
  have n_ea_q : ea ≠ q := by omega
  have n_ea_fv : ea ≠ fv := by omega
  have n_fv_p : fv ≠ p := by omega
  have n_fv_q : fv ≠ q := by omega
  have n_fv_ea : fv ≠ ea := by omega
  have HM := Lib.hid hM
  have HFL := Lib.hid hfl
  have HB := Lib.hid b0
  have HLT := Lib.hid HD.out.lt
  clear hW0 b0 hM hfl sz h_p h_q h_ea h_fv
  have Hst : ∀ X : World, Below w.heap.size w X ∧ DskM X O dB mb fl d.cap d.arm d.down d.c → ∀ (a : Nat) (x : Value), w.heap.size ≤ a → ¬ O a → Below w.heap.size w (X.setCell ⟨a, 0, none⟩ x) ∧ DskM (X.setCell ⟨a, 0, none⟩ x) O dB mb fl d.cap d.arm d.down d.c := fun X h a x h1 h2 => ⟨h.1.setCell h1 _, h.2.off ⟨a, 0, none⟩ h2 x⟩
  have HST := Lib.hid Hst
  clear Hst
  have b1 := (Below.refl W0.heap.size W0).alloc (Nat.le_refl _) (.cells #[.string s] 9)
  have r1 := rdN1 W0 s
  obtain ⟨W1, hW1⟩ : ∃ W1, W1 = W0.alloc (.cells #[.string s] 9) := ⟨_, rfl⟩
  rw [← hW1] at b1 r1
  have M1 := HM.out.below b1
  have HC := Lib.hid (ready_any M1.box r1)
  have HW1 := Lib.hid hW1
  have H2 := Lib.hid (And.intro (HB.out.trans (b1.mono HB.out.size)) M1)
  obtain ⟨kk, hk⟩ : ∃ k, k = rdyN d.down [s] := ⟨_, rfl⟩
  simp only [List.length_cons, List.length_nil, Nat.zero_add] at HC
  rw [← hk] at HC
  have HKK := Lib.hid hk
  have HB01 := Lib.hid b1
  clear hW1 r1 M1 hk b1
  go_wp2_with fail
  rw [← HW1.out]
  refine HC.out.mono ?_
  rintro e w2 ⟨rfl, rfl⟩
  have d_p : w2.cell? ⟨p, 0, none⟩ = some (.pointer (some ⟨dB, 0, none⟩)) := (HB01.out.cell (p := ⟨p, 0, none⟩) HLE.out.2.1).trans c_p
  have e_p : w2.frozen? ⟨p, 0, none⟩ = false := (HB01.out.frozen (p := ⟨p, 0, none⟩) HLE.out.2.1).trans z_p
  have d_q : w2.cell? ⟨q, 0, none⟩ = some (.slice ab nb kb) := (HB01.out.cell (p := ⟨q, 0, none⟩) HLE.out.2.2.2.1).trans c_q
  have e_q : w2.frozen? ⟨q, 0, none⟩ = false := (HB01.out.frozen (p := ⟨q, 0, none⟩) HLE.out.2.2.2.1).trans z_q
  have d_ea : w2.cell? ⟨ea, 0, none⟩ = some (.int .i64 0) := (HB01.out.cell (p := ⟨ea, 0, none⟩) HLE.out.2.2.2.2.2.1).trans c_ea
  have e_ea : w2.frozen? ⟨ea, 0, none⟩ = false := (HB01.out.frozen (p := ⟨ea, 0, none⟩) HLE.out.2.2.2.2.2.1).trans z_ea
  have d_fv : w2.cell? ⟨fv, 0, none⟩ = some (.pointer none) := (HB01.out.cell (p := ⟨fv, 0, none⟩) HLE.out.2.2.2.2.2.2.2).trans c_fv
  have e_fv : w2.frozen? ⟨fv, 0, none⟩ = false := (HB01.out.frozen (p := ⟨fv, 0, none⟩) HLE.out.2.2.2.2.2.2.2).trans z_fv
  clear c_p z_p c_q z_q c_ea z_ea c_fv z_fv
  by_cases h0 : kk = 0
  · subst h0
    have hX := (HST.out _ H2.out ea (.int .i64 0) HLE.out.2.2.2.2.1 HN.out.2.2.1)
    have x_p := set_ne (a := ea) (k := 0) (v := .int .i64 0) d_p n_p_ea
    have x_q := set_ne (a := ea) (k := 0) (v := .int .i64 0) d_q n_q_ea
    have x_fv := set_ne (a := ea) (k := 0) (v := .int .i64 0) d_fv n_fv_ea
    have x_ea := set_same (v := .int .i64 0) d_ea
    have y_ea : (w2.setCell ⟨ea, 0, none⟩ (.int .i64 0)).frozen? ⟨ea, 0, none⟩ = false := by rw [World.frozen?_setCell]; exact e_ea
    have y_fv : (w2.setCell ⟨ea, 0, none⟩ (.int .i64 0)).frozen? ⟨fv, 0, none⟩ = false := by rw [World.frozen?_setCell]; exact e_fv
    go_upto_region 6 with fail
    obtain ⟨X, hX0⟩ : ∃ X, X = w2.setCell ⟨ea, 0, none⟩ (.int .i64 0) := ⟨_, rfl⟩
    rw [← hX0] at hX x_p x_q x_fv x_ea y_ea y_fv ⊢
    obtain ⟨es2, ck2, hm2⟩ := hX.2.map
    have HRC := Lib.hid (dfind_any hX.2.box hm2 s)
    have HX := Lib.hid hX
    clear hX hX0 hm2 d_p d_q d_ea d_fv e_p e_q e_ea e_fv
    by_cases hlong : 67108864 < nb
    · have i1 : (67108864 : Int) < (nb : Int) := by omega
      have hRR : R = (2, d) := by rw [HR.out, appendD, if_neg (by rw [← HKK.out]; simp), if_pos (by rw [← HNB.out]; exact hlong)]
      subst hRR
      clear hlong HRC
      go_wp2_with fail
      change Leaves _ _ _ _ _ _ _
      refine door4 (k := 6) (ea := ea) rfl rfl (HST.out _ HX.out ea _ HLE.out.2.2.2.2.1 HN.out.2.2.1).1 HLE.out.2.2.2.2.1 ?_
      exact settle_no ⟨HOK, mb, fl, (HST.out _ HX.out ea _ HLE.out.2.2.2.2.1 HN.out.2.2.1).2, HFL.out⟩ (by simp) (set_same x_ea)
    have i1 : ¬ (67108864 : Int) < (nb : Int) := by omega
    have hlong2 : ¬ 67108864 < bs.length := by rw [← HNB.out]; exact hlong
    obtain ⟨rp, hrp⟩ : ∃ rp, rp = ptrO (atN (fl.map fun f => (f.nm, f.b)) s) := ⟨_, rfl⟩
    obtain ⟨rc, hrc⟩ : ∃ rc : Int, rc = (if (atN (fl.map fun f => (f.nm, f.b)) s).isSome then 0 else 42) := ⟨_, rfl⟩
    rw [← hrp, ← hrc] at HRC
    have HRP := Lib.hid (And.intro hrp hrc)
    have hat : atP d.fs s = (atF fl s).map (fun f => (f.dat, f.syn)) := by rw [← HFL.out, atF_pf]
    have hatn : atN (fl.map fun f => (f.nm, f.b)) s = (atF fl s).map (·.b) := atF_nb s fl
    clear hrp hrc
    cases hF : atF fl s with
    | none =>
      have hrp2 : rp = .pointer none := by rw [HRP.out.1, hatn, hF]; rfl
      have hrc2 : rc = 42 := by rw [HRP.out.2, hatn, hF]; rfl
      have hRR : R = (42, d) := by rw [HR.out, appendD, if_neg (by rw [← HKK.out]; simp), if_neg hlong2, hat, hF]; rfl
      subst hRR
      rw [hrp2, hrc2] at HRC
      clear hrp2 hrc2 hat hatn hF hlong hlong2
      go_wp2_with fail
      refine HRC.out.mono ?_
      rintro e w3 ⟨rfl, rfl⟩
      go_wp2_with fail
      change Leaves _ _ _ _ _ _ _
      refine door4 (k := 6) (ea := ea) rfl rfl (HST.out _ (HST.out _ (HST.out _ HX.out fv _ HLE.out.2.2.2.2.2.2.1 HN.out.2.2.2) ea _ HLE.out.2.2.2.2.1 HN.out.2.2.1) ea _ HLE.out.2.2.2.2.1 HN.out.2.2.1).1 HLE.out.2.2.2.2.1 ?_
      exact settle_no ⟨HOK, mb, fl, (HST.out _ (HST.out _ (HST.out _ HX.out fv _ HLE.out.2.2.2.2.2.2.1 HN.out.2.2.2) ea _ HLE.out.2.2.2.2.1 HN.out.2.2.1) ea _ HLE.out.2.2.2.2.1 HN.out.2.2.1).2, HFL.out⟩ (by simp) (set_same (set_same (set_ne x_ea n_ea_fv)))
    | some f =>
      have hrp2 : rp = .pointer (some ⟨f.b, 0, none⟩) := by rw [HRP.out.1, hatn, hF]; rfl
      have hrc2 : rc = 0 := by rw [HRP.out.2, hatn, hF]; rfl
      rw [hF] at hat
      have hRR : R = if d.cap - (totP d.fs : Int) < (bs.length : Int) then (4, d) else actP d true (setP d.fs (s, f.dat ++ bs, f.syn)) (setCt d.c 1 (wrap64 (d.c 1 + 1))) := by rw [HR.out, appendD, if_neg (by rw [← HKK.out]; simp), if_neg hlong2, hat]; rfl
      rw [hrp2, hrc2] at HRC
      have HF := Lib.hid (And.intro hF hat)
      have HRR := Lib.hid hRR
      clear hrp2 hrc2 hat hatn hF hRR hlong hlong2
      go_wp2_with fail
      refine HRC.out.mono ?_
      rintro e w3 ⟨rfl, rfl⟩
      go_upto_region 11 with fail
      have hY := (HST.out _ (HST.out _ HX.out fv (.pointer (some ⟨f.b, 0, none⟩)) HLE.out.2.2.2.2.2.2.1 HN.out.2.2.2) ea (.int .i64 0) HLE.out.2.2.2.2.1 HN.out.2.2.1)
      have x2_p := set_ne (a := ea) (k := 0) (v := .int .i64 0) (set_ne (a := fv) (k := 0) (v := .pointer (some ⟨f.b, 0, none⟩)) x_p n_p_fv) n_p_ea
      have x2_q := set_ne (a := ea) (k := 0) (v := .int .i64 0) (set_ne (a := fv) (k := 0) (v := .pointer (some ⟨f.b, 0, none⟩)) x_q n_q_fv) n_q_ea
      have x2_fv := set_ne (a := ea) (k := 0) (v := .int .i64 0) (set_same (v := .pointer (some ⟨f.b, 0, none⟩)) x_fv) n_fv_ea
      have x2_ea := set_same (v := .int .i64 0) (set_ne (a := fv) (k := 0) (v := .pointer (some ⟨f.b, 0, none⟩)) x_ea n_ea_fv)
      have y2_ea : ((w3.setCell ⟨fv, 0, none⟩ (.pointer (some ⟨f.b, 0, none⟩))).setCell ⟨ea, 0, none⟩ (.int .i64 0)).frozen? ⟨ea, 0, none⟩ = false := by rw [World.frozen?_setCell, World.frozen?_setCell]; exact y_ea
      obtain ⟨Y, hY0⟩ : ∃ Y, Y = (w3.setCell ⟨fv, 0, none⟩ (.pointer (some ⟨f.b, 0, none⟩))).setCell ⟨ea, 0, none⟩ (.int .i64 0) := ⟨_, rfl⟩
      rw [← hY0] at hY x2_p x2_q x2_fv x2_ea y2_ea ⊢
      have HY := Lib.hid hY
      have HQ := Lib.hid (And.intro x2_p (And.intro x2_q (And.intro x2_fv (And.intro x2_ea y2_ea))))
      have l_p := World.block_lt_of_cell? _ _ x2_p
      have l_q := World.block_lt_of_cell? _ _ x2_q
      have l_fv := World.block_lt_of_cell? _ _ x2_fv
      have l_ea := World.block_lt_of_cell? _ _ x2_ea
      have htot : (totP (fl.map FE.pf) : Int) ≤ d.cap := by rw [HFL.out]; exact HOK.tot
      have HFR := Lib.hid (fun Z (hz : Below Y.heap.size Y Z) => free_any (HY.out.2.below hz) HOK.cap0 HOK.cap1 htot)
      clear hY hY0 x2_p x2_q x2_fv x2_ea y2_ea x_p x_q x_fv x_ea y_ea y_fv htot
      rw [HFL.out] at HFR
      obtain ⟨T, hT⟩ : ∃ T : Int, T = d.cap - (totP d.fs : Int) := ⟨_, rfl⟩
      rw [← hT] at HFR HRR
      rw [← HNB.out] at HRR
      have HT := Lib.hid hT
      clear hT
      have BD : Below Y.heap.size Y Y.drew := (Below.refl _ _).drew
      refine wp_region_noPanic ?_
      refine wp_region_anyE (S := fun wx => Below Y.heap.size Y wx) (E := fun j => true) (by kernel_rfl) ?_
      have hHeld : Below Y.heap.size Y Y.drew := BD
      have HB := Lib.hid BD
      obtain ⟨Z0, hZ0⟩ : ∃ z, z = Y.drew := ⟨_, rfl⟩
      rw [← hZ0] at HB hHeld ⊢
      clear hZ0 BD
      refine AnyE.take (i := 0) (.slice ab nb kb) rfl (by kernel_rfl) (by kernel_rfl) (by kernel_rfl) (by kernel_rfl) (fun _ _ _ h => h) (.inl ⟨by kernel_rfl, fun wy hy => by (have q0 := (hy.cell (p := ⟨q, 0, none⟩) l_q).trans HQ.out.2.1; go_simp; done)⟩) hHeld ?_
      try simp only [Act.put, List.setIfInBounds_toArray, List.set_cons_zero, List.set_cons_succ]
      refine AnyE.take (i := 1) (.int .i64 (nb : Int)) rfl (by kernel_rfl) (by kernel_rfl) (by kernel_rfl) (by kernel_rfl) (fun _ _ _ h => h) (.inl ⟨by kernel_rfl, fun wy hy => by (go_simp; done)⟩) hHeld ?_
      try simp only [Act.put, List.setIfInBounds_toArray, List.set_cons_zero, List.set_cons_succ]
      refine AnyE.take (i := 2) (.pointer (some ⟨dB, 0, none⟩)) rfl (by kernel_rfl) (by kernel_rfl) (by kernel_rfl) (by kernel_rfl) (fun _ _ _ h => h) (.inl ⟨by kernel_rfl, fun wy hy => by (have q0 := (hy.cell (p := ⟨p, 0, none⟩) l_p).trans HQ.out.1; go_simp; done)⟩) hHeld ?_
      try simp only [Act.put, List.setIfInBounds_toArray, List.set_cons_zero, List.set_cons_succ]
      refine AnyE.one (i := 3) rfl (by kernel_rfl) (by kernel_rfl) (fun KK hK => ?_)
      go_simp
      go_at_call 31
      refine (HFR.out Z0 HB.out).mono ?_
      rintro e9 Z9 ⟨rfl, b1⟩
      have HB := Lib.hid (HB.out.trans (b1.mono HB.out.size))
      clear b1
      go_wp2_with fail
      refine hK.out _ _ ⟨fun _ => HB.out, ?_⟩
      have hHeld := HB.out
      clear hK
      try simp only [Act.put, List.setIfInBounds_toArray, List.set_cons_zero, List.set_cons_succ]
      have HZ : Hid (Below w.heap.size w Z9 ∧ DskM Z9 O dB mb fl d.cap d.arm d.down d.c) := Lib.hid ⟨HY.out.1.trans (HB.out.mono HY.out.1.size), HY.out.2.below HB.out⟩
      have c_p := (HB.out.cell (p := ⟨p, 0, none⟩) l_p).trans HQ.out.1
      have c_q := (HB.out.cell (p := ⟨q, 0, none⟩) l_q).trans HQ.out.2.1
      have c_fv := (HB.out.cell (p := ⟨fv, 0, none⟩) l_fv).trans HQ.out.2.2.1
      have c_ea := (HB.out.cell (p := ⟨ea, 0, none⟩) l_ea).trans HQ.out.2.2.2.1
      have z_ea := (HB.out.frozen (p := ⟨ea, 0, none⟩) l_ea).trans HQ.out.2.2.2.2
      by_cases hfull : T < (nb : Int)
      · have hRR : R = (4, d) := by rw [HRR.out, if_pos hfull]
        subst hRR
        refine AnyE.one (i := 4) rfl (by kernel_rfl) (by kernel_rfl) (fun KK hK => ?_)
        go_simp
        refine hK.out _ _ ⟨fun _ => HB.out, ?_⟩
        have hHeld := HB.out
        clear hK
        try simp only [Act.put, List.setIfInBounds_toArray, List.set_cons_zero, List.set_cons_succ]
        refine AnyE.done (by kernel_rfl) (NoPanic.normal ?_) _
        go_wp2_with fail
        change Leaves _ _ _ _ _ _ _
        refine door4 (k := 6) (ea := ea) rfl rfl (HST.out _ HZ.out ea _ HLE.out.2.2.2.2.1 HN.out.2.2.1).1 HLE.out.2.2.2.2.1 ?_
        exact settle_no ⟨HOK, mb, fl, (HST.out _ HZ.out ea _ HLE.out.2.2.2.2.1 HN.out.2.2.1).2, HFL.out⟩ (by simp) (set_same c_ea)
      · have hRR : R = actP d true (setP d.fs (s, f.dat ++ bs, f.syn)) (setCt d.c 1 (wrap64 (d.c 1 + 1))) := by rw [HRR.out, if_neg hfull]
        subst hRR
        have HFULL := Lib.hid hfull
        refine AnyE.one (i := 4) rfl (by kernel_rfl) (by kernel_rfl) (fun KK hK => ?_)
        go_simp
        refine hK.out _ _ ⟨fun _ => HB.out, ?_⟩
        have hHeld := HB.out
        clear hK
        try simp only [Act.put, List.setIfInBounds_toArray, List.set_cons_zero, List.set_cons_succ]
        refine AnyE.done (by kernel_rfl) (NoPanic.normal ?_) _
        go_wp2_with fail
        change Leaves _ _ _ _ _ _ _
        refine door4 (k := 6) (ea := ea) rfl rfl (HST.out _ HZ.out ea _ HLE.out.2.2.2.2.1 HN.out.2.2.1).1 HLE.out.2.2.2.2.1 ?_
        have hsy := HOK.syn _ (atP_mem HF.out.2)
        have hmm := atF_mem HF.out.1
        have hcc : totP d.fs + bs.length ≤ d.cap.toNat := by have := HFULL.out; have := HT.out; have := HNB.out; have := HOK.cap0; omega
        refine settle_yes HOK (HST.out _ HZ.out ea _ HLE.out.2.2.2.2.1 HN.out.2.2.1).2 HFL.out (set_same c_ea) (by rw [World.frozen?_setCell]; exact z_ea) HN.out.2.2.1 (fun w => by simp [go_sem]) (fsOk_set HOK HF.out.2 (by rw [List.length_append]; simp only; omega) (by rw [List.length_append]; simp only at hsy; omega)) ?_
        intro arm1 down1 V hV gV
        have v_p : V.cell? ⟨p, 0, none⟩ = some (.pointer (some ⟨dB, 0, none⟩)) := (World.cell?_of_block (a := ⟨p, 0, none⟩) (gV.block p (by simpa [World.setCell] using World.block_lt_of_cell? _ _ c_p) (fun h => h.elim HN.out.1 n_p_ea))).trans (set_ne c_p n_p_ea)
        have v_q : V.cell? ⟨q, 0, none⟩ = some (.slice ab nb kb) := (World.cell?_of_block (a := ⟨q, 0, none⟩) (gV.block q (by simpa [World.setCell] using World.block_lt_of_cell? _ _ c_q) (fun h => h.elim HN.out.2.1 n_q_ea))).trans (set_ne c_q n_q_ea)
        have v_fv : V.cell? ⟨fv, 0, none⟩ = some (.pointer (some ⟨f.b, 0, none⟩)) := (World.cell?_of_block (a := ⟨fv, 0, none⟩) (gV.block fv (by simpa [World.setCell] using World.block_lt_of_cell? _ _ c_fv) (fun h => h.elim HN.out.2.2.2 n_fv_ea))).trans (set_ne c_fv n_fv_ea)
        have hrdV : Rd V (.slice ab nb kb) bs := by
          refine HRD.out.1.go5 (fun b off n c hv n0 hb => ?_)
          have hno := HRD.out.2 b off n c hv n0
          have hbs : b ≠ ea := by have := HLE.out.2.2.2.2.1; omega
          have hbz : b < Z9.heap.size := Nat.lt_of_lt_of_le hb HZ.out.1.size
          exact ((gV.block b (by simpa [World.setCell] using hbz) (fun h => h.elim hno hbs)).trans (heap_setCell_other _ _ _ _ hbs)).trans (HZ.out.1.block b hb)
        have := append1_any hV v_fv v_q v_p HN.out.2.2.2 HN.out.2.1 HN.out.1 (by rw [hmm.2]; exact HF.out.1) hrdV (by have := totP_mem HF.out.2; simp only at this; have := HOK.cap1; omega)
        rw [HFL.out, hmm.2] at this
        exact this
  · have h0n : (kk != 0) = true := by simp [h0]
    have hRR : R = (kk, d) := by rw [HR.out, appendD, if_pos (by rw [← HKK.out]; exact h0), ← HKK.out]
    subst hRR
    go_wp2_with fail
    change Leaves _ _ _ _ _ _ _
    refine door4 (k := 6) (ea := ea) rfl rfl (HST.out _ (HST.out _ H2.out ea _ HLE.out.2.2.2.2.1 HN.out.2.2.1) ea _ HLE.out.2.2.2.2.1 HN.out.2.2.1).1 HLE.out.2.2.2.2.1 ?_
    exact settle_no ⟨HOK, mb, fl, (HST.out _ (HST.out _ H2.out ea _ HLE.out.2.2.2.2.1 HN.out.2.2.1) ea _ HLE.out.2.2.2.2.1 HN.out.2.2.1).2, HFL.out⟩ h0 (set_same (set_same d_ea))
end Go.Proofs.Ytbheifelfeekmaa

namespace Go.Proofs.Ytbheifelfeekmaa
open Go.RowKit Go.MapKept
set_option linter.unusedVariables false
set_option linter.unusedSimpArgs false
variable {w w' W : World} {O O' : Nat → Prop} {dB : Nat} {d : Dk4}
theorem mpB_new (w : World) : MpB (w.alloc (.map #[] 0)) w.heap.size [] #[] 0 := by
  refine ⟨?_, ⟨by simp, by simp, by simp⟩, rfl⟩
  show (w.heap.push _)[w.heap.size]? = _
  simp
def newD (n : Int) : Dk4 := ⟨[], n, 0, false, fun _ => 0⟩
theorem newD_ok {n : Int} (h0 : 0 ≤ n) (h1 : n ≤ 67108864) : (newD n).Ok := ⟨h0, h1, by simpa [newD, totP] using h0, by simp [newD], by simp [newD], by simp [newD], by simp [newD], by simp [newD], by simp [newD]⟩
set_option maxRecDepth 100000 in
set_option maxHeartbeats 2000000 in
theorem new4_any {n : Int} (h0 : 0 ≤ n) (h1 : n ≤ 67108864) (w : World) : Calls Try.prog 34 #[.int .i64 n] w fun e w' => ∃ O dB, e = .returned (.tuple #[.pointer (some ⟨dB, 0, none⟩), .int .i64 0]) ∧ Dsk w' O dB (newD n) ∧ Below w.heap.size w w' ∧ ∀ i, O i → w.heap.size ≤ i := by
  have i0 : decide (n < 0) = false := by simp; omega
  have i1 : decide ((67108864 : Int) < n) = false := by simp; omega
  have hmm := @run_makeMap Try.prog
  have HO := Lib.hid (newD_ok h0 h1)
  go_enter Try.func34, Try.ntmps34
  go_wp2
  go_ret2
  refine ⟨fun i => i = w.heap.size ∨ i = w.heap.size + 1, w.heap.size + 1, rfl, ?_, ((Below.refl _ _).alloc (Nat.le_refl _) _).alloc (by simp) _, fun i hi => by omega⟩
  have b1 := (Below.refl (w.alloc (.map #[] 0)).heap.size (w.alloc (.map #[] 0))).alloc (Nat.le_refl _) (.cells #[.map (some w.heap.size), .int .i64 n, .int .i64 0, .bool false, .int .i64 0, .int .i64 0, .int .i64 0, .int .i64 0, .int .i64 0, .int .i64 0] 80)
  refine ⟨HO.out, w.heap.size, [], ⟨?_, ⟨_, _, (mpB_new w).kept (b1.block _ (by simp))⟩, by simp, by simp, by simp, .inr rfl, .inl rfl, fun i hi => ?_⟩, rfl⟩
  · unfold DkBox newD
    have : (w.alloc (.map #[] 0)).heap.size = w.heap.size + 1 := by simp
    rw [← this]
    exact heap_alloc_new (w.alloc (.map #[] 0)) _
  · simp
    omega
theorem rdy_bad {down : Bool} {s : ByteArray} (h : ¬ DkName s) (hd : down = false) : rdyN down [s] = 40 := by
  subst hd
  unfold rdyN chkN
  rw [if_neg (by simp), if_neg (fun k => h (k s (by simp)))]
theorem reaN_bad {down : Bool} {fs : List (ByteArray × Nat)} {s : ByteArray} (h : ¬ DkName s) (hd : down = false) : reaN down fs s = (none, 40) := by
  unfold reaN
  rw [rdy_bad h hd]
  rfl
theorem reach_bad {s : ByteArray} (hD : Dsk w O dB d) (h : ¬ DkName s) (hd : d.down = false) : Calls Try.prog 41 #[.pointer (some ⟨dB, 0, none⟩), .string s] w fun e w' => e = .returned (.tuple #[.pointer none, .int .i64 40]) ∧ Below w.heap.size w w' := by
  obtain ⟨ok, mb, fl, hM, hfl⟩ := hD
  obtain ⟨es, clock, hm⟩ := hM.map
  refine (reach_any hM.box hm s).mono ?_
  rintro e w' ⟨rfl, b⟩
  rw [reaN_bad h hd]
  exact ⟨rfl, b⟩
set_option maxRecDepth 100000 in
theorem read_bad {s : ByteArray} (hD : Dsk w O dB d) (h : ¬ DkName s) (hd : d.down = false) (x y : Int) : Calls Try.prog 12 #[.pointer (some ⟨dB, 0, none⟩), .string s, .int .i64 x, .int .i64 y] w fun e w' => e = .returned (.tuple #[.slice none 0 0, .int .i64 40]) ∧ Below w.heap.size w w' := by
  have HC := Lib.hid (reach_bad hD h hd)
  clear hD h hd
  go_enter Try.func12, Try.ntmps12
  go_wp2_with fail
  refine HC.out.mono ?_
  rintro e w2 ⟨rfl, b⟩
  go_wp2
  go_ret2
  exact ⟨rfl, b⟩
set_option maxRecDepth 100000 in
theorem size_bad {s : ByteArray} (hD : Dsk w O dB d) (h : ¬ DkName s) (hd : d.down = false) : Calls Try.prog 13 #[.pointer (some ⟨dB, 0, none⟩), .string s] w fun e w' => e = .returned (.tuple #[.int .i64 0, .int .i64 40]) ∧ Below w.heap.size w w' := by
  have HC := Lib.hid (reach_bad hD h hd)
  clear hD h hd
  go_enter Try.func13, Try.ntmps13
  go_wp2_with fail
  refine HC.out.mono ?_
  rintro e w2 ⟨rfl, b⟩
  go_wp2
  go_ret2
  exact ⟨rfl, b⟩
set_option maxRecDepth 100000 in
theorem flip_bad {s : ByteArray} {p : Value} (h : ¬ DkName s) (x : Int) : Calls Try.prog 19 #[p, .string s, .int .i64 x] w fun e w' => e = .returned (.int .i64 40) ∧ Below w.heap.size w w' := by
  have b1 := (Below.refl w.heap.size w).alloc (Nat.le_refl _) (.cells #[.string s] 9)
  have r1 := rdN1 w s
  obtain ⟨W1, hW1⟩ : ∃ W1, W1 = w.alloc (.cells #[.string s] 9) := ⟨_, rfl⟩
  rw [← hW1] at b1 r1
  have HC := Lib.hid (checkNames_any r1)
  have e0 : chkN [s] = 40 := by unfold chkN; rw [if_neg (fun k => h (k s (by simp)))]
  rw [e0] at HC
  simp only [List.length_cons, List.length_nil, Nat.zero_add] at HC
  have HW := Lib.hid hW1
  have HB := Lib.hid b1
  clear h b1 r1 hW1 e0
  go_enter Try.func19, Try.ntmps19
  go_wp2_with fail
  rw [← HW.out]
  refine HC.out.mono ?_
  rintro e w2 ⟨rfl, rfl⟩
  go_wp2
  go_ret
  exact ⟨rfl, HB.out⟩
theorem create_bad {s : ByteArray} (h : ¬ DkName s) (hd : d.down = false) : createD d s = (40, d) := by
  rw [createD, rdy_bad h hd, if_pos (by decide)]
theorem rea_bad {s : ByteArray} (h : ¬ DkName s) (hd : d.down = false) : reaE d s = 40 := by
  unfold reaE
  rw [rdy_bad h hd, if_neg (by decide)]
theorem append_bad {s : ByteArray} (h : ¬ DkName s) (hd : d.down = false) (bs : List Nat) : appendD d s bs = (40, d) := by
  rw [appendD, rdy_bad h hd, if_pos (by decide)]
theorem sync_bad {s : ByteArray} (h : ¬ DkName s) (hd : d.down = false) : syncD d s = (40, d) := by
  rw [syncD, rea_bad h hd, if_pos (by decide)]
theorem delete_bad {s : ByteArray} (h : ¬ DkName s) (hd : d.down = false) : deleteD d s = (40, d) := by
  rw [deleteD, rea_bad h hd, if_pos (by decide)]
theorem rename_bad {s t : ByteArray} (h : ¬ DkName s ∨ ¬ DkName t) (hd : d.down = false) : renameD d s t = (40, d) := by
  have e : rdyN d.down [s, t] = 40 := by
    rw [hd]
    unfold rdyN chkN
    rw [if_neg (by simp), if_neg (fun k => h.elim (fun z => z (k s (by simp))) (fun z => z (k t (by simp))))]
  rw [renameD, e, if_pos (by decide)]
theorem AnsD.out {r : Int × Dk4} {e : Ending} (h : AnsD w O dB r e w') : e = .returned (.int .i64 r.1) ∧ ∃ O2, Dsk w' O2 dB r.2 ∧ Go4 w w' O O2 := h
set_option maxRecDepth 100000 in
theorem free_dsk (hD : Dsk w O dB d) : Calls Try.prog 31 #[.pointer (some ⟨dB, 0, none⟩)] w fun e w' => e = .returned (.int .i64 (d.cap - (totP d.fs : Int))) ∧ Below w.heap.size w w' := by
  obtain ⟨ok, mb, fl, hM, hfl⟩ := hD
  have := free_any hM ok.cap0 ok.cap1 (by rw [hfl]; exact ok.tot)
  rw [hfl] at this
  exact this
def probe4 : ByteArray := ⟨#[112, 114, 111, 98, 101]⟩
theorem probe_name : DkName probe4 := of_decide_eq_true (by kernel_rfl)
end Go.Proofs.Ytbheifelfeekmaa

namespace Go.Proofs.Ytbheifelfeekmaa
open Go.RowKit Go.MapKept
set_option linter.unusedVariables false
set_option linter.unusedSimpArgs false
variable {w w' W X : World} {O O' : Nat → Prop} {dB : Nat} {d : Dk4}
structure Mad (w X : World) (O : Nat → Prop) (dB : Nat) (d : Dk4) : Prop where
  dsk : Dsk X O dB d
  bel : Below w.heap.size w X
  own : ∀ i, O i → w.heap.size ≤ i
theorem Mad.step {r : Int × Dk4} {e : Ending} (h : Mad w X O dB d) (k : AnsD X O dB r e w') : e = .returned (.int .i64 r.1) ∧ ∃ O2, Mad w w' O2 dB r.2 := by
  obtain ⟨h1, O2, h2, h3⟩ := k
  exact ⟨h1, O2, h2, h.bel.trans (h3.below h.bel.size h.own), fun i hi => (h3.new i hi).elim (h.own i) (fun q => Nat.le_trans h.bel.size q)⟩
theorem Mad.later (h : Mad w X O dB d) (k : Below X.heap.size X w') : Mad w w' O dB d := ⟨h.dsk.below k, h.bel.trans (k.mono h.bel.size), h.own⟩
theorem probe_rdy : rdyN false [probe4] = 0 := by
  unfold rdyN chkN
  rw [if_neg (by simp), if_pos (fun s hs => by simp at hs; subst hs; exact probe_name)]
theorem made_1 {n : Int} : ∃ c, createD (newD n) probe4 = (0, ⟨[(probe4, [], 0)], n, 0, false, c⟩) := by
  refine ⟨setCt (fun _ => 0) 0 (wrap64 (0 + 1)), ?_⟩
  simp [createD, newD, probe_rdy, atP, actP, setP]
theorem made_2 {n : Int} {c : Nat → Int} (h : 1 ≤ n) : ∃ c', appendD ⟨[(probe4, [], 0)], n, 0, false, c⟩ probe4 [5] = (0, ⟨[(probe4, [5], 0)], n, 0, false, c'⟩) := by
  have h2 : ¬ n < 1 := by omega
  refine ⟨setCt (setCt c 1 (wrap64 (c 1 + 1))) 0 (wrap64 ((setCt c 1 (wrap64 (c 1 + 1))) 0 + 1)), ?_⟩
  simp [appendD, probe_rdy, atP, actP, setP, totP, h2]
theorem made_3 {n : Int} {c : Nat → Int} : ∃ c', deleteD ⟨[(probe4, [5], 0)], n, 0, false, c⟩ probe4 = (0, ⟨[], n, 0, false, c'⟩) := by
  refine ⟨setCt (setCt c 4 (wrap64 (c 4 + 1))) 0 (wrap64 ((setCt c 4 (wrap64 (c 4 + 1))) 0 + 1)), ?_⟩
  simp [deleteD, reaE, probe_rdy, atP, actP, delP]
set_option maxRecDepth 100000 in
set_option maxHeartbeats 4000000 in
theorem made_any {n : Int} (h1 : 1 ≤ n) (h2 : n ≤ 67108864) (w : World) : Calls Try.prog 8 #[.int .i64 n] w fun e w' => ∃ O dB c, e = .returned (.pointer (some ⟨dB, 0, none⟩)) ∧ Mad w w' O dB ⟨[], n, 0, false, c⟩ := by
  have HN := Lib.hid (And.intro h1 h2)
  have HC0 := Lib.hid (new4_any (by omega) h2 w)
  have HNUM : ∀ (W : World), Hid (Calls Try.prog 14 #[.int .i64 0] W fun e w' => e = .returned (.int .i64 0) ∧ w' = W) := fun W => num_any 0 W
  go_enter Try.func8, Try.ntmps8
  go_wp2_with fail
  refine HC0.out.mono ?_
  rintro e w1 ⟨O1, dB, rfl, d1, b1, o1⟩
  have M1 := Lib.hid (show Mad w w1 O1 dB (newD n) from ⟨d1, b1, o1⟩)
  clear d1 b1 o1
  go_wp2_with fail
  refine (HNUM _).out.mono ?_
  rintro e w1' ⟨rfl, rfl⟩
  go_wp2_with fail
  refine (create_any (s := probe4) M1.out.dsk).mono ?_
  intro e w2 ha
  obtain ⟨rfl, O2, m2⟩ := M1.out.step ha
  obtain ⟨k1, hk1⟩ := made_1 (n := n)
  rw [hk1] at m2 ⊢
  have M2 := Lib.hid m2
  clear m2 hk1 ha
  simp only
  go_wp2_with fail
  refine (HNUM _).out.mono ?_
  rintro e w2' ⟨rfl, rfl⟩
  go_wp2_with fail
  have bV := (Below.refl w2'.heap.size w2').alloc (Nat.le_refl _) (.cells #[.int .u8 5] 5)
  have cV : (w2'.alloc (.cells #[.int .u8 5] 5)).cell? ⟨w2'.heap.size, 0, none⟩ = some (.int .u8 5) := by simp [go_sem]
  obtain ⟨V, hV⟩ : ∃ V, V = w2'.alloc (.cells #[.int .u8 5] 5) := ⟨_, rfl⟩
  rw [← hV] at bV cV ⊢
  have hra : RdA V O2 (.slice (some ⟨w2'.heap.size, 0, none⟩) 1 1) [5] := by
    refine ⟨⟨by intro x hx; simp at hx; omega, _, 1, rfl, Nat.le_refl _, by decide, by simp, .inr ⟨_, _, rfl⟩, .inr ⟨_, 0, rfl, fun i hi => ?_⟩⟩, fun b off m c hv _ h => ?_⟩
    · simp at hi
      subst hi
      exact cV
    · simp only [Value.slice.injEq, Option.some.injEq, Addr.mk.injEq] at hv
      have := M2.out.dsk.lt b h
      omega
  have MV := M2.out.later bV
  clear bV cV hV
  refine (append_any (s := probe4) MV.dsk hra).mono ?_
  intro e w3 ha
  obtain ⟨rfl, O3, m3⟩ := MV.step ha
  obtain ⟨k2, hk2⟩ := made_2 (c := k1) HN.out.1
  rw [hk2] at m3 ⊢
  have M3 := Lib.hid m3
  clear m3 hk2 ha hra MV
  simp only
  go_wp2_with fail
  refine (HNUM _).out.mono ?_
  rintro e w3' ⟨rfl, rfl⟩
  go_wp2_with fail
  refine (free_dsk M3.out.dsk).mono ?_
  rintro e w4 ⟨rfl, b4⟩
  have hfr : (n - ((totP [(probe4, [5], 0)] : Nat) : Int)) = n - 1 := by simp [totP]
  rw [hfr]
  have M4 := Lib.hid (M3.out.later b4)
  clear b4 hfr
  go_wp2_with fail
  refine (delete_any (s := probe4) M4.out.dsk).mono ?_
  intro e w5 ha
  obtain ⟨rfl, O5, m5⟩ := M4.out.step ha
  obtain ⟨k3, hk3⟩ := made_3 (n := n) (c := k2)
  rw [hk3] at m5 ⊢
  have M5 := Lib.hid m5
  clear m5 hk3 ha
  simp only
  go_wp2_with fail
  refine (HNUM _).out.mono ?_
  rintro e w5' ⟨rfl, rfl⟩
  go_wp2
  go_ret
  exact ⟨O5, dB, k3, rfl, M5.out⟩
end Go.Proofs.Ytbheifelfeekmaa

namespace Go.Proofs.Ytbheifelfeekmaa
open Go.RowKit
set_option linter.unusedVariables false

def laidSort : Go.Shelf.Ren := ⟨fun | 125 => 54 | 128 => 66 | 129 => 67 | 190 => 40 | 258 => 53 | 302 => 57 | 303 => 58 | 304 => 59 | 305 => 60 | 306 => 61 | 307 => 62 | 308 => 63 | 309 => 64 | 310 => 65 | 329 => 70 | 330 => 71 | 333 => 69 | 334 => 72 | 335 => 73 | 336 => 74 | 344 => 75 | n => n, fun | 0 => 0 | 3 => 3 | 4 => 4 | 5 => 5 | 9 => 9 | 31 => 22 | 46 => 90 | 51 => 101 | 53 => 103 | 131 => 98 | 182 => 93 | 183 => 94 | 218 => 106 | 222 => 110 | 228 => 112 | 229 => 113 | n => n, fun n => n⟩
set_option maxRecDepth 100000 in
theorem laysSort : Lays.n190 Try.prog laidSort := {
  mixed := by kernel_rfl,
  f125 := Try.func54.trans (congrArg some (by kernel_rfl)),
  f128 := Try.func66.trans (congrArg some (by kernel_rfl)),
  f129 := Try.func67.trans (congrArg some (by kernel_rfl)),
  f190 := Try.func40.trans (congrArg some (by kernel_rfl)),
  f258 := Try.func53.trans (congrArg some (by kernel_rfl)),
  f302 := Try.func57.trans (congrArg some (by kernel_rfl)),
  f303 := Try.func58.trans (congrArg some (by kernel_rfl)),
  f304 := Try.func59.trans (congrArg some (by kernel_rfl)),
  f305 := Try.func60.trans (congrArg some (by kernel_rfl)),
  f306 := Try.func61.trans (congrArg some (by kernel_rfl)),
  f307 := Try.func62.trans (congrArg some (by kernel_rfl)),
  f308 := Try.func63.trans (congrArg some (by kernel_rfl)),
  f309 := Try.func64.trans (congrArg some (by kernel_rfl)),
  f310 := Try.func65.trans (congrArg some (by kernel_rfl)),
  f329 := Try.func70.trans (congrArg some (by kernel_rfl)),
  f330 := Try.func71.trans (congrArg some (by kernel_rfl)),
  f333 := Try.func69.trans (congrArg some (by kernel_rfl)),
  f334 := Try.func72.trans (congrArg some (by kernel_rfl)),
  f335 := Try.func73.trans (congrArg some (by kernel_rfl)),
  f336 := Try.func74.trans (congrArg some (by kernel_rfl)),
  f344 := Try.func75.trans (congrArg some (by kernel_rfl)),
  t0 := Try.underlying0,
  a0 := Try.isAgg0,
  z0 := Try.sizeOf0,
  v0 := Try.zeroValue0,
  t3 := Try.underlying3,
  a3 := Try.isAgg3,
  z3 := Try.sizeOf3,
  v3 := Try.zeroValue3,
  t4 := Try.underlying4,
  a4 := Try.isAgg4,
  z4 := Try.sizeOf4,
  v4 := Try.zeroValue4,
  t5 := Try.underlying5,
  a5 := Try.isAgg5,
  z5 := Try.sizeOf5,
  v5 := Try.zeroValue5,
  t9 := Try.underlying9,
  a9 := Try.isAgg9,
  z9 := Try.sizeOf9,
  v9 := Try.zeroValue9,
  t31 := Try.underlying22,
  a31 := Try.isAgg22,
  z31 := Try.sizeOf22,
  v31 := Try.zeroValue22,
  t46 := Try.underlying90,
  a46 := Try.isAgg90,
  z46 := Try.sizeOf90,
  v46 := Try.zeroValue90,
  t51 := Try.underlying101,
  a51 := Try.isAgg101,
  z51 := Try.sizeOf101,
  v51 := Try.zeroValue101,
  t53 := Try.underlying103,
  a53 := Try.isAgg103,
  z53 := Try.sizeOf103,
  v53 := Try.zeroValue103,
  t131 := Try.underlying98,
  a131 := Try.isAgg98,
  z131 := Try.sizeOf98,
  v131 := Try.zeroValue98,
  t182 := Try.underlying93,
  a182 := Try.isAgg93,
  z182 := Try.sizeOf93,
  v182 := Try.zeroValue93,
  t183 := Try.underlying94,
  a183 := Try.isAgg94,
  z183 := Try.sizeOf94,
  v183 := Try.zeroValue94,
  t218 := Try.underlying106,
  a218 := Try.isAgg106,
  z218 := Try.sizeOf106,
  v218 := Try.zeroValue106,
  t222 := Try.underlying110,
  a222 := Try.isAgg110,
  z222 := Try.sizeOf110,
  v222 := Try.zeroValue110,
  t228 := Try.underlying112,
  a228 := Try.isAgg112,
  z228 := Try.sizeOf112,
  v228 := Try.zeroValue112,
  t229 := Try.underlying113,
  a229 := Try.isAgg113,
  z229 := Try.sizeOf113,
  v229 := Try.zeroValue113 }
end Go.Proofs.Ytbheifelfeekmaa

namespace Go.Proofs.Ytbheifelfeekmaa
open Go.RowKit Go.MapKept Go.Sort
set_option linter.unusedVariables false
set_option linter.unusedSimpArgs false
theorem drow_form1 {w : World} {B n : Nat} {e : TypeId} {v : Value} {xs : List Value} (h : w.ownsRow B e 1 v n xs) : ∃ a c, v = .slice a n c := by
  rcases h.2 with ⟨h1, h2⟩ | ⟨g, cap, cur, h3, h4⟩
  · exact ⟨none, 0, by rw [h1, h2]⟩
  · exact ⟨_, _, h3⟩
theorem dpl_append1 {w : World} {ops : Array Oper} {rest : List Oper} {o : Oper} {a : Act} {Q : Exit → Act → World → Prop} (hgd : o.guard = none) (s x : Operand) (te ts bb : Nat) (z : Value) (hund : Try.prog.underlying ts = some (.slice te)) (hinf : (Try.prog.info? te).map (fun i => (i.zero, i.size, i.bytes)) = some (some z, 1, bb)) (hzs : z.cells.size = 1) (hb24 : bb ≤ 24)
    (ho : o.op = .call { callee := .builtin .append, args := #[s, x], argTypes := #[ts, ts] })
    (B : Nat) (ap : Option Addr) (n cp : Nat) (vs : List Value) (hs : a.eval s = .slice ap n cp) (hown : w.ownsRow B te 1 (.slice ap n cp) n vs)
    (blk : Nat) (u : Value) (hx : a.eval x = .slice (some ⟨blk, 0, none⟩) 1 1) (hu : w.cell? ⟨blk, 0, none⟩ = some u) (h1 : u.oneCell' = true) (hn : n ≤ 1000000) (hB : B ≤ w.heap.size)
    (h : ∀ a' c' w', w'.ownsRow B te 1 (.slice a' (n + 1) c') (n + 1) (vs ++ [u]) → w.grownBy w' (Value.slice ap n cp).ownBlock → ((Value.slice a' (n + 1) c').ownBlock = (Value.slice ap n cp).ownBlock ∨ (Value.slice a' (n + 1) c').ownBlock = some w.heap.size) → wpList Try.prog ops Q rest (a.put o.dst (.slice a' (n + 1) c')) w') : wpList Try.prog ops Q (o :: rest) a w := by
  obtain ⟨i0, hi, hz0, hz1, hz2⟩ := info_parts hinf
  obtain ⟨v', w', hr, h2, h3, h4, h5⟩ := run_append_own_at (P := Try.prog) w B ts o.type te i0 z 1 bb hund hi hz0 hz1 hz2 hzs (by decide) _ n vs hown ⟨blk, 0, none⟩ 1 1 [u] (by simp) (fun j y hj => by
    have hj0 : j = 0 := by
      have := (List.getElem?_eq_some_iff.1 hj).1
      simp at this
      exact this
    subst hj0
    simp at hj
    subst hj
    have e : (⟨blk, 0, none⟩ : Addr).add 0 = ⟨blk, 0, none⟩ := by unfold Addr.add; split <;> simp_all
    rw [e]
    exact hu) (fun y hy => by simp at hy; subst hy; exact h1) (by unfold maxLen; omega) (by
      have : (n + 1) * bb ≤ (n + 1) * 24 := Nat.mul_le_mul_left _ hb24
      omega) hB
  obtain ⟨a', c', rfl⟩ := drow_form1 h2
  refine wpList_plain hgd fun _ hK => ?_
  unfold Oper.wp execOp
  rw [ho]
  simp only [resolve, invoke, builtin, Sem.run_bind, Sem.run_pure, Result.andThen_ok, List.map_toArray, List.map_cons, List.map_nil, hs, hx, hr]
  exact hK _ _ (h a' c' w' h2 h3 h5)
variable {w w' W : World} {O O' : Nat → Prop} {dB mb : Nat} {fl : List FE} {cap arm : Int} {down : Bool} {c : Nat → Int}
theorem und_strs4 : Try.prog.underlying 22 = some (.slice 9) := by kernel_rfl
theorem info_str4 : (Try.prog.info? 9).map (fun i => (i.zero, i.size, i.bytes)) = some (some (.string ⟨#[]⟩), 1, 16) := by kernel_rfl
def nmL (s : ByteArray) : List UInt8 := s.data.toList
theorem enc_nmL (s : ByteArray) : encStr (nmL s) = .string s := by
  unfold nmL
  cases s
  rfl
def OwnS (w : World) (B : Nat) (v : Value) (n : Nat) (ss : List (List UInt8)) : Prop := n = ss.length ∧ w.ownsRow B 9 1 v n (ss.map encStr)
theorem ownsRow_less {w : World} {B B' e size n : Nat} {v : Value} {xs : List Value} (h : w.ownsRow B e size v n xs) (hB : B' ≤ B) : w.ownsRow B' e size v n xs := by
  refine ⟨h.1, ?_⟩
  rcases h.2 with h2 | ⟨g, cap, cur, h3, h4, h5⟩
  · exact .inl h2
  · exact .inr ⟨g, cap, cur, h3, Nat.le_trans hB h4, h5⟩
theorem sort_own {v : Value} {n B : Nat} {ss : List (List UInt8)} (h : OwnS w B v n ss) (hl : n ≤ 1000000) :
    Calls Try.prog 40 #[v] w fun e w' => e = .returned (.tuple #[]) ∧ OwnS w' B v n (ss.mergeSort leB) ∧ w.grownBy w' v.ownBlock := by
  obtain ⟨rfl, h⟩ := h
  rcases h.2 with ⟨rfl, h0⟩ | ⟨g, cp, cur, rfl, hB, hg, h1, h2, h3, h4⟩
  · have e0 : ss = [] := List.eq_nil_of_length_eq_zero h0
    subst e0
    refine (Any.slices_Sort_string_none laysSort none 0 w).mono ?_
    rintro e w' ⟨rfl, rfl⟩
    rw [show ([] : List (List UInt8)).mergeSort leB = [] from by simp]
    exact ⟨rfl, ⟨rfl, h⟩, World.grownBy.refl _ _⟩
  · have hH : Holds encStr w g 0 ss.toArray := holds_of_block hg (by simpa using h4)
    refine (Any.slices_Sort_string laysSort g 0 cp ss w hH (Array.getElem?_eq_some_iff.1 hg).1 (by omega)).mono ?_
    rintro e w' ⟨rfl, m, os, rfl⟩
    have hl2 : (ss.mergeSort leB).length = ss.length := List.length_mergeSort ss
    refine ⟨rfl, ⟨hl2.symm, ownsRow_sorted hl2 hB hg h1 h2 h3⟩, grownBy_sorted _⟩
def wanted4 (pre : ByteArray) : Value → Bool
  | .string s => preB pre s
  | _ => false
def keyL : Value → List UInt8
  | .string s => nmL s
  | _ => []
def selL (l : List MapEntry) (seen : Array Nat) (pre : ByteArray) : List (List UInt8) := (l.filter (fun e => seen.contains e.born && wanted4 pre e.key)).map (fun e => keyL e.key)
theorem selL_none (l : List MapEntry) (pre : ByteArray) : selL l #[] pre = [] := by
  unfold selL
  rw [List.filter_eq_nil_iff.2 (fun x _ => by simp)]
  rfl
theorem sel_push {pre : ByteArray} {seen : Array Nat} {e : MapEntry} (hs : seen.contains e.born = false) : ∀ {l : List MapEntry}, (l.map (·.born)).Nodup → e ∈ l → (selL l (seen.push e.born) pre).Perm (selL l seen pre ++ (if wanted4 pre e.key then [keyL e.key] else [])) := by
  have other : ∀ l : List MapEntry, (∀ x ∈ l, x.born ≠ e.born) → selL l (seen.push e.born) pre = selL l seen pre := by
    intro l h
    unfold selL
    congr 1
    refine List.filter_congr (fun x hx => ?_)
    rw [contains_push]
    have : (x.born == e.born) = false := by simpa using h x hx
    rw [this, Bool.or_false]
  intro l
  induction l with
  | nil => intro _ h; cases h
  | cons x xs ih =>
    intro hn he
    rw [List.map_cons, List.nodup_cons] at hn
    rcases List.mem_cons.1 he with h | h
    · subst h
      have ho := other xs (fun y hy q => hn.1 (by rw [← q]; exact List.mem_map.2 ⟨_, hy, rfl⟩))
      have h1 : selL (e :: xs) (seen.push e.born) pre = (if wanted4 pre e.key then [keyL e.key] else []) ++ selL xs (seen.push e.born) pre := by
        unfold selL
        rw [List.filter_cons, contains_push]
        cases hw : wanted4 pre e.key <;> simp
      have h2 : selL (e :: xs) seen pre = selL xs seen pre := by
        unfold selL
        rw [List.filter_cons, hs]
        simp
      rw [h1, h2, ho]
      exact List.perm_append_comm
    · have hne : x.born ≠ e.born := fun q => hn.1 (by rw [q]; exact List.mem_map.2 ⟨_, h, rfl⟩)
      have hb : (x.born == e.born) = false := by simpa using hne
      have i := ih hn.2 h
      unfold selL at i ⊢
      rw [List.filter_cons, List.filter_cons, contains_push, hb, Bool.or_false]
      split
      · simpa using i.cons (keyL x.key)
      · exact i
def lsP (ps : List PF) (pre : ByteArray) : List (List UInt8) := (((ps.map (·.1)).filter (preB pre)).map nmL).mergeSort leB
theorem selL_all {es : Array MapEntry} {seen : Array Nat} {pre : ByteArray} (h : ∀ x ∈ es.toList, seen.contains x.born = true) (he : es.toList.map (fun e => (e.key, e.val)) = fl.map (fun f => (entOf (f.nm, f.b)))) : selL es.toList seen pre = (((fl.map FE.pf).map (·.1)).filter (preB pre)).map nmL := by
  have e1 : selL es.toList seen pre = ((es.toList.map (fun e => (e.key, e.val))).filter (fun p => wanted4 pre p.1)).map (fun p => keyL p.1) := by
    unfold selL
    rw [List.filter_map, List.map_map]
    congr 1
    exact List.filter_congr (fun x hx => by rw [h x hx]; rfl)
  rw [e1, he]
  simp only [List.filter_map, List.map_map]
  congr 1
theorem selL_len (l : List MapEntry) (seen : Array Nat) (pre : ByteArray) : (selL l seen pre).length ≤ l.length := by
  unfold selL
  rw [List.length_map]
  exact List.length_filter_le _ _
set_option maxRecDepth 100000 in
set_option maxHeartbeats 4000000 in
theorem list_any (hD : DskM w O dB mb fl cap arm down c) (pre : ByteArray) (hfl : fl.length ≤ 256) :
    Calls Try.prog 10 #[.pointer (some ⟨dB, 0, none⟩), .string pre] w fun e w' => ∃ a n k, e = .returned (.slice a n k) ∧ OwnS w' w.heap.size (.slice a n k) n (lsP (fl.map FE.pf) pre) ∧ Below w.heap.size w w' := by
  obtain ⟨es, clock, hm⟩ := hD.map
  obtain ⟨c0, c1, -⟩ := hD.box.cells
  have lb := hD.box.lt
  have HM := Lib.hid hm
  have HD := Lib.hid hD
  have hb := hm.blk
  have hlen : es.toList.length ≤ 256 := by
    have := hm.len
    rw [List.length_map] at this
    rw [Array.length_toList, this]
    exact hfl
  have HLEN := Lib.hid hlen
  have hrg := run_range_map (P := Try.prog) w 76 _ _ mb es clock und_fmap hb
  obtain ⟨L, hL⟩ : ∃ L, L = lsP (fl.map FE.pf) pre := ⟨_, rfl⟩
  rw [← hL]
  have HLL := Lib.hid hL
  clear hm hD hlen hfl hL
  go_enter Try.func10, Try.ntmps10
  go_wp2
  have hit : (w.alloc (.mapIter (some mb) clock #[] clock)).heap[w.heap.size]? = some (.mapIter (some mb) clock #[] clock) := heap_alloc_new _ _
  have hbw : Below w.heap.size w (w.alloc (.mapIter (some mb) clock #[] clock)) := (Below.refl _ _).alloc (Nat.le_refl _) _
  obtain ⟨W, hW⟩ : ∃ W, W = w.alloc (.mapIter (some mb) clock #[] clock) := ⟨_, rfl⟩
  obtain ⟨ib, hib⟩ : ∃ ib, ib = w.heap.size := ⟨_, rfl⟩
  rw [← hW] at hit hbw ⊢
  rw [← hib] at hit ⊢
  have HI := Lib.hid hib
  have HIT := Lib.hid hit
  have HBW := Lib.hid hbw
  have HHB := Lib.hid hb
  clear hW hib hit hbw hrg hb
  go_loopw [5] (fun v w' => ∃ (seen : Array Nat) (a : Option Addr) (n k : Nat) (xs : List (List UInt8)), w'.heap[ib]? = some (.mapIter (some mb) clock seen clock) ∧ Below ib w w' ∧ v = .slice a n k ∧ OwnS w' (ib + 1) (.slice a n k) n xs ∧ xs.Perm (selL es.toList seen pre)) (fun v w' => (leftOf es (w'.iterSeen ib)).size)
  case atStart => exact ⟨#[], none, 0, 0, [], HIT.out, by rw [HI.out]; exact HBW.out, rfl, ⟨rfl, World.ownsRow_nil _ _ _ _⟩, by rw [selL_none]⟩
  case round =>
    obtain ⟨seen, a, n, k, xs, hit, hbw, rfl, hown, hperm⟩ := hrel
    have lm : mb < ib := by rw [HI.out]; exact HM.out.lt
    have hb1 : wr.heap[mb]? = some (.map es clock) := (hbw.block _ lm).trans HHB.out
    have law := next_at (P := Try.prog) 0 hit hb1 HM.out.st.1 (Nat.le_refl _)
    have HIT1 := Lib.hid hit
    have HBW1 := Lib.hid hbw
    have HOWN := Lib.hid hown
    have HPERM := Lib.hid hperm
    have hn256 : n ≤ 256 := by
      rw [hown.1, hperm.length_eq]
      exact Nat.le_trans (selL_len _ _ _) HLEN.out
    clear hit hbw hb1 hown hperm
    rcases law with ⟨h0, hrun⟩ | ⟨e, he, w2, hal2, hrun⟩
    · have hnx : ∀ ty, (Instr.next (.pointer (some ⟨ib, 0, none⟩)) false ty).run Try.prog wr = _ := fun _ => hrun
      have hfin : L = xs.mergeSort leB := by
        have he := HM.out.ent
        rw [List.map_map] at he
        rw [HLL.out, mergeSort_of_perm HPERM.out, selL_all (all_seen es seen h0) he]
        rfl
      have HSORT := Lib.hid (sort_own HOWN.out (by omega))
      have HFIN := Lib.hid hfin
      clear hfin h0 hrun
      go_wp2_with fail
      refine HSORT.out.mono ?_
      rintro e w3 ⟨rfl, o3, g3⟩
      have b3 := Lib.hid (Below.grown HBW1.out g3 (by have := HIT1.out; exact Nat.le_of_lt (Array.getElem?_eq_some_iff.1 this).1) (fun i hi => by have := (HOWN.out.2.lt i hi).1; omega))
      have HO3 := Lib.hid o3
      clear g3 o3
      go_wp2
      go_ret
      refine ⟨a, n, k, rfl, ?_, by rw [← HI.out]; exact b3.out⟩
      rw [HFIN.out]
      have q := HO3.out
      exact ⟨q.1, ownsRow_less q.2 (by rw [HI.out]; omega)⟩
    · have hm0 := mem_left he
      obtain ⟨f, hf, hk, hv⟩ := HM.out.mem hm0.1
      obtain ⟨X, hX⟩ : ∃ X, X = setO w2 ib (.mapIter (some mb) clock (seen.push e.born) clock) := ⟨_, rfl⟩
      have hsz : w2.heap.size = wr.heap.size := by rcases hal2 with rfl | rfl <;> rfl
      have hib2 : ib < w2.heap.size := by rw [hsz]; exact (Array.getElem?_eq_some_iff.1 HIT1.out).1
      have itX : X.heap[ib]? = some (.mapIter (some mb) clock (seen.push e.born) clock) := by rw [hX]; exact setO_at hib2
      have bX : Below ib w X := by
        have b2 : Below ib w w2 := by
          rcases hal2 with rfl | rfl
          · exact HBW1.out
          · exact HBW1.out.drew
        rw [hX]
        exact b2.trans (setO_below (Nat.le_refl _))
      have oX : OwnS X (ib + 1) (.slice a n k) n xs := by
        refine ⟨HOWN.out.1, HOWN.out.2.kept (w' := X) (row := some ib) ?_ (.inr (fun q => by have := (HOWN.out.2.lt ib q).1; omega))⟩
        have : wr.grownBy X (some ib) := by
          rw [hX]
          rcases hal2 with rfl | rfl
          · exact ⟨rfl, rfl, rfl, by rw [setO_size]; exact Nat.le_refl _, fun i _ hi => setO_ne (fun q => hi (by rw [q]))⟩
          · exact ⟨rfl, rfl, rfl, by rw [setO_size]; exact Nat.le_refl _, fun i _ hi => setO_ne (fun q => hi (by rw [q]))⟩
        exact this
      have hbX : X.heap[mb]? = some (.map es clock) := (bX.block _ lm).trans HHB.out
      have hen := entry_at (P := Try.prog) itX hbX hm0.1 HM.out.st.2.1
      rw [← hX, hk] at hrun
      rw [hk] at hen
      have hnx : ∀ ty, (Instr.next (.pointer (some ⟨ib, 0, none⟩)) false ty).run Try.prog wr = _ := fun _ => hrun
      have hpm := sel_push (pre := pre) hm0.2 HM.out.st.2.1 hm0.1
      rw [hk] at hpm
      obtain ⟨s, hs⟩ : ∃ s, s = f.1 := ⟨_, rfl⟩
      rw [← hs] at hrun hen hpm hnx
      have HC := Lib.hid (hasPrefix_any s pre X)
      have HE := Lib.hid he
      have HP := Lib.hid (show (selL es.toList (seen.push e.born) pre).Perm (selL es.toList seen pre ++ (if preB pre s then [nmL s] else [])) from hpm)
      have HX := Lib.hid (And.intro itX (And.intro bX oX))
      have lX : ib < X.heap.size := (Array.getElem?_eq_some_iff.1 itX).1
      clear itX bX oX hX hm0 hf hk hv hal2 hsz hib2 hbX he hrun hpm
      have HS := Lib.hid hs
      clear hs
      by_cases hp : preB pre s = true
      · rw [hp] at HC HP
        clear hp
        go_wp2_with fail
        refine HC.out.mono ?_
        rintro e9 w9 ⟨rfl, rfl⟩
        go_wp2_with (at_builtin; refine dpl_append1 rfl _ _ 9 22 16 (.string ⟨#[]⟩) und_strs4 info_str4 rfl (by decide) rfl (ib + 1) a n k (xs.map encStr) rfl (HX.out.2.2.2.alloc _) w9.heap.size (.string s) rfl ?_ rfl (by omega) (by simp; omega) ?_)
        · simp [go_sem]
        intro a3 k3 X3 own3 gr3 loc3
        have HO3 := Lib.hid own3
        have bA : Below ib w (w9.alloc (.cells #[.string s] 9)) := HX.out.2.1.alloc (Nat.le_of_lt lX) _
        have hrow : ∀ i, (Value.slice a n k).ownBlock = some i → ib + 1 ≤ i := fun i hi => (HX.out.2.2.2.lt i hi).1
        have hb3 : Below ib w X3 := bA.grown gr3 (by simp; omega) (fun i hi => by have := hrow i hi; omega)
        have hit3 : X3.heap[ib]? = some (.mapIter (some mb) clock (seen.push e.born) clock) := by
          rw [gr3.block ib (by simp; omega) (fun q => by have := hrow ib q.symm; omega)]
          rw [Below.heap_alloc _ _ _ lX]
          exact HX.out.1
        have HB3 := Lib.hid hb3
        have HIT3 := Lib.hid hit3
        clear own3 gr3 loc3 bA hrow hb3 hit3
        go_wp2
        go_roundw
        case rel =>
          refine ⟨seen.push e.born, a3, n + 1, k3, xs ++ [nmL s], HIT3.out, HB3.out, rfl, ⟨by rw [HOWN.out.1]; simp, ?_⟩, (HPERM.out.append_right _).trans HP.out.symm⟩
          have q := HO3.out
          rw [List.map_append, List.map_cons, List.map_nil, enc_nmL]
          exact q
        case measure =>
          rw [iterSeen_at HIT1.out, iterSeen_at HIT3.out]
          exact left_shrinks es seen e HE.out
      · have hpf : preB pre s = false := by simpa using hp
        rw [hpf] at HC HP
        clear hp hpf
        go_wp2_with fail
        refine HC.out.mono ?_
        rintro e9 w9 ⟨rfl, rfl⟩
        go_wp2
        go_roundw
        case rel => exact ⟨seen.push e.born, a, n, k, xs, HX.out.1, HX.out.2.1, rfl, HX.out.2.2, HPERM.out.trans (by simpa using HP.out.symm)⟩
        case measure =>
          rw [iterSeen_at HIT1.out, iterSeen_at HX.out.1]
          exact left_shrinks es seen e HE.out
end Go.Proofs.Ytbheifelfeekmaa

namespace Go.Proofs.Ytbheifelfeekmaa
open Go.RowKit Go.MapKept Go.Sort
set_option linter.unusedVariables false
set_option linter.unusedSimpArgs false
variable {w w' W X : World} {O O' : Nat → Prop} {dB : Nat} {d : Dk4}
def numL (s : ByteArray) : List Nat := (nmL s).map UInt8.toNat
theorem numL_len (s : ByteArray) : (numL s).length = s.size := by
  unfold numL nmL
  rw [List.length_map, Array.length_toList]
  rfl
theorem numL_bys (s : ByteArray) : Bys (numL s) := by
  intro x hx
  unfold numL at hx
  obtain ⟨y, _, rfl⟩ := List.mem_map.1 hx
  exact y.toNat_lt
theorem conv_sb (s : ByteArray) (hs : s.size ≤ maxLen) (h48 : s.size ≤ 281474976710656) (w : World) : ∃ k W, (convert 9 29 (.string s)).run Try.prog w = .ok (.slice (some ⟨w.heap.size, 0, none⟩) s.size k) W ∧ Rd W (.slice (some ⟨w.heap.size, 0, none⟩) s.size k) (numL s) ∧ Below w.heap.size w W := by
  refine ⟨_, _, Lib.run_convert_string_bytes w 9 29 5 s und_string und_bytes und_byte, ?_, ?_⟩
  · refine ⟨numL_bys s, _, _, by rw [numL_len], by rw [numL_len]; exact grownCap_ge _ _ _ _, grownCap_le_maxLen _ _ _ _ hs, by rw [numL_len]; exact h48, .inr ⟨_, _, rfl⟩, .inr ⟨_, 0, rfl, fun i hi => ?_⟩⟩
    rw [numL_len] at hi
    rw [Nat.zero_add, Lib.bytesWorld_cell w 5 s i hi]
    unfold numL nmL
    congr 2
    simp only [List.getD_eq_getElem?_getD, List.getElem?_map]
    cases h : s.data.toList[i]? with
    | none => rfl
    | some y => rfl
  · exact ⟨rfl, rfl, rfl, by rw [Lib.bytesWorld_size]; omega, fun k hk => Lib.bytesWorld_at_old w _ s k hk⟩
theorem Rd.upto4 {w : World} {a : Option Addr} {n cap : Nat} {bs : List Nat} (h : Rd w (.slice a n cap) bs) (j : Nat) (hj : j ≤ n) : Rd w (.slice a j cap) (bs.take j) := by
  obtain ⟨h1, a0, cap0, h2, h3, h4, h5, h6, h7⟩ := h
  simp only [Value.slice.injEq] at h2
  obtain ⟨rfl, rfl, rfl⟩ := h2
  have hl : (bs.take j).length = j := by rw [List.length_take]; omega
  refine ⟨fun x hx => h1 x (List.mem_of_mem_take hx), a, cap, by rw [hl], by rw [hl]; omega, h4, by rw [hl]; omega, h6, ?_⟩
  rcases h7 with rfl | ⟨b, off, rfl, hc⟩
  · exact .inl (by simp)
  · refine .inr ⟨b, off, rfl, fun i hi => ?_⟩
    rw [hl] at hi
    rw [hc i (by omega)]
    simp [List.getD_eq_getElem?_getD, List.getElem?_take_of_lt hi]
def begL (a b : List Nat) : Bool := decide (a.length ≤ b.length ∧ a = b.take a.length)
set_option maxRecDepth 100000 in
set_option maxHeartbeats 2000000 in
theorem begins_any {a b : Option Addr} {n m ka kb : Nat} {xs ys : List Nat} (ha : Rd w (.slice a n ka) xs) (hb : Rd w (.slice b m kb) ys) : Calls Try.prog 11 #[.slice a n ka, .slice b m kb] w fun e w' => e = .returned (.bool (begL xs ys)) ∧ w' = w := by
  have hn : n = xs.length := by obtain ⟨_, _, _, h2, _⟩ := ha; simp only [Value.slice.injEq] at h2; exact h2.2.1
  have hm : m = ys.length := by obtain ⟨_, _, _, h2, _⟩ := hb; simp only [Value.slice.injEq] at h2; exact h2.2.1
  by_cases hle : n ≤ m
  · have hs := same_any ha (hb.upto4 n hle)
    have e0 : begL xs ys = decide (xs = ys.take n) := by
      unfold begL
      rw [← hn, ← hm]
      simp [hle]
    rw [e0]
    have hk : m ≤ kb := by obtain ⟨_, _, _, h2, h3, _⟩ := hb; simp only [Value.slice.injEq] at h2; obtain ⟨_, h4, rfl⟩ := h2; omega
    have i1 : (n : Int) ≤ (m : Int) := by omega
    have i2 : (n : Int) ≤ (kb : Int) := by omega
    have d1 : decide ((n : Int) ≤ (m : Int)) = true := decide_eq_true i1
    have HS := Lib.hid hs
    clear hs ha hb hn hm e0 hle hk
    go_enter Try.func11, Try.ntmps11
    go_wp2_with fail
    refine HS.out.mono ?_
    rintro e w2 ⟨rfl, rfl⟩
    go_wp2
    go_ret
    exact ⟨rfl, rfl⟩
  · have e0 : begL xs ys = false := by
      unfold begL
      rw [← hn, ← hm]
      simp [hle]
    rw [e0]
    have d1 : decide ((n : Int) ≤ (m : Int)) = false := decide_eq_false (by omega)
    clear ha hb hn hm e0
    go_enter Try.func11, Try.ntmps11
    go_wp2
    go_ret
    exact ⟨rfl, rfl⟩
end Go.Proofs.Ytbheifelfeekmaa
