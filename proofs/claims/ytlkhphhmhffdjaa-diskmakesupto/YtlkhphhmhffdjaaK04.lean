import Derived.Test.YtlkhphhmhffdjaaK03
import Derived.Shelf.Sort.Plain
set_option linter.unusedSimpArgs false
set_option linter.unusedVariables false
namespace Go.Proofs.Ytlkhphhmhffdjaa
open Go.RowKit Go.MapKept
variable {w w' W : World} {O O' : Nat → Prop} {dB : Nat} {d : Dk4}
theorem rdN2 (w : World) (s t : ByteArray) : RdN4 (w.alloc (.cells #[.string s, .string t] 9)) (some ⟨w.heap.size, 0, none⟩) 2 [s, t] := by
 have h : (w.alloc (.cells #[.string s, .string t] 9)).heap[w.heap.size]? = some (.cells #[.string s, .string t] 9) := by
  show (w.heap.push _)[w.heap.size]? = _
  simp
 refine ⟨⟨by simp, by decide⟩, fun i x hx => ?_⟩
 match i, hx with
 | 0, hx =>
  simp at hx
  subst hx
  exact ⟨_, _, rfl, by simp only [World.cell?, h]; rfl⟩
 | 1, hx =>
  simp at hx
  subst hx
  exact ⟨_, _, rfl, by simp only [World.cell?, h]; rfl⟩
 | i + 2, hx => simp at hx
def renameD (d : Dk4) (s t : ByteArray) : Int × Dk4 :=
 if rdyN d.down [s, t] ≠ 0 then (rdyN d.down [s, t], d)
 else match atP d.fs s with
  | none => (42, d)
  | some v => actP d false (setP (delP d.fs s) (t, v)) (setCt d.c 3 (wrap64 (d.c 3 + 1)))
set_option maxRecDepth 100000 in
set_option maxHeartbeats 2000000 in
theorem rename_any {s t : ByteArray} (hD : Dsk w O dB d) : Calls Try.prog 25 #[.pointer (some ⟨dB, 0, none⟩), .string s, .string t] w (AnsD w O dB (renameD d s t)) := by
 have hmf : ∀ (fn : Fn) (first cap : Array Value) (w : World), (Instr.makeFunc fn first cap).run Try.prog w = .ok (.func fn first cap) w := fun _ _ _ _ => rfl
 obtain ⟨R, hR⟩ : ∃ R, R = renameD d s t := ⟨_, rfl⟩
 rw [← hR]
 have HR := Lib.hid hR
 have HD := Lib.hid hD
 clear hR hD
 go_enter_defers Try.func25, Try.ntmps25
 go_upto_region 3 with fail
 clear hmf
 have cs : ((((((w.alloc (.cells #[.pointer (some ⟨dB, 0, none⟩)] 39)).alloc (.cells #[.string s] 9)).alloc (.cells #[.string t] 9)).alloc (.cells #[.int .i64 0] 53)).alloc (.cells #[.pointer none] 76)).cell? ⟨w.heap.size, 0, none⟩ = some (.pointer (some ⟨dB, 0, none⟩)) ∧ (((((w.alloc (.cells #[.pointer (some ⟨dB, 0, none⟩)] 39)).alloc (.cells #[.string s] 9)).alloc (.cells #[.string t] 9)).alloc (.cells #[.int .i64 0] 53)).alloc (.cells #[.pointer none] 76)).frozen? ⟨w.heap.size, 0, none⟩ = false ∧ (((((w.alloc (.cells #[.pointer (some ⟨dB, 0, none⟩)] 39)).alloc (.cells #[.string s] 9)).alloc (.cells #[.string t] 9)).alloc (.cells #[.int .i64 0] 53)).alloc (.cells #[.pointer none] 76)).cell? ⟨w.heap.size + 1, 0, none⟩ = some (.string s) ∧ (((((w.alloc (.cells #[.pointer (some ⟨dB, 0, none⟩)] 39)).alloc (.cells #[.string s] 9)).alloc (.cells #[.string t] 9)).alloc (.cells #[.int .i64 0] 53)).alloc (.cells #[.pointer none] 76)).frozen? ⟨w.heap.size + 1, 0, none⟩ = false ∧ (((((w.alloc (.cells #[.pointer (some ⟨dB, 0, none⟩)] 39)).alloc (.cells #[.string s] 9)).alloc (.cells #[.string t] 9)).alloc (.cells #[.int .i64 0] 53)).alloc (.cells #[.pointer none] 76)).cell? ⟨w.heap.size + 1 + 1, 0, none⟩ = some (.string t) ∧ (((((w.alloc (.cells #[.pointer (some ⟨dB, 0, none⟩)] 39)).alloc (.cells #[.string s] 9)).alloc (.cells #[.string t] 9)).alloc (.cells #[.int .i64 0] 53)).alloc (.cells #[.pointer none] 76)).frozen? ⟨w.heap.size + 1 + 1, 0, none⟩ = false ∧ (((((w.alloc (.cells #[.pointer (some ⟨dB, 0, none⟩)] 39)).alloc (.cells #[.string s] 9)).alloc (.cells #[.string t] 9)).alloc (.cells #[.int .i64 0] 53)).alloc (.cells #[.pointer none] 76)).cell? ⟨w.heap.size + 1 + 1 + 1, 0, none⟩ = some (.int .i64 0) ∧ (((((w.alloc (.cells #[.pointer (some ⟨dB, 0, none⟩)] 39)).alloc (.cells #[.string s] 9)).alloc (.cells #[.string t] 9)).alloc (.cells #[.int .i64 0] 53)).alloc (.cells #[.pointer none] 76)).frozen? ⟨w.heap.size + 1 + 1 + 1, 0, none⟩ = false ∧ (((((w.alloc (.cells #[.pointer (some ⟨dB, 0, none⟩)] 39)).alloc (.cells #[.string s] 9)).alloc (.cells #[.string t] 9)).alloc (.cells #[.int .i64 0] 53)).alloc (.cells #[.pointer none] 76)).cell? ⟨w.heap.size + 1 + 1 + 1 + 1, 0, none⟩ = some (.pointer none) ∧ (((((w.alloc (.cells #[.pointer (some ⟨dB, 0, none⟩)] 39)).alloc (.cells #[.string s] 9)).alloc (.cells #[.string t] 9)).alloc (.cells #[.int .i64 0] 53)).alloc (.cells #[.pointer none] 76)).frozen? ⟨w.heap.size + 1 + 1 + 1 + 1, 0, none⟩ = false) ∧ (((((w.alloc (.cells #[.pointer (some ⟨dB, 0, none⟩)] 39)).alloc (.cells #[.string s] 9)).alloc (.cells #[.string t] 9)).alloc (.cells #[.int .i64 0] 53)).alloc (.cells #[.pointer none] 76)).heap.size = w.heap.size + 5 := by
  refine ⟨?_, ?_⟩ <;> simp [go_sem]
 have b0 : Below w.heap.size w (((((w.alloc (.cells #[.pointer (some ⟨dB, 0, none⟩)] 39)).alloc (.cells #[.string s] 9)).alloc (.cells #[.string t] 9)).alloc (.cells #[.int .i64 0] 53)).alloc (.cells #[.pointer none] 76)) := ((((((Below.refl _ _).alloc (Nat.le_refl _) _).alloc (by simp) _).alloc (by simp; omega) _).alloc (by simp; omega) _).alloc (by simp; omega) _)
 obtain ⟨W0, hW0⟩ : ∃ W0, W0 = (((((w.alloc (.cells #[.pointer (some ⟨dB, 0, none⟩)] 39)).alloc (.cells #[.string s] 9)).alloc (.cells #[.string t] 9)).alloc (.cells #[.int .i64 0] 53)).alloc (.cells #[.pointer none] 76)) := ⟨_, rfl⟩
 rw [← hW0] at cs b0 ⊢
 obtain ⟨fv, h_fv⟩ : ∃ x, x = w.heap.size + 1 + 1 + 1 + 1 := ⟨_, rfl⟩
 obtain ⟨ea, h_ea⟩ : ∃ x, x = w.heap.size + 1 + 1 + 1 := ⟨_, rfl⟩
 obtain ⟨r, h_r⟩ : ∃ x, x = w.heap.size + 1 + 1 := ⟨_, rfl⟩
 obtain ⟨q, h_q⟩ : ∃ x, x = w.heap.size + 1 := ⟨_, rfl⟩
 obtain ⟨p, h_p⟩ : ∃ x, x = w.heap.size := ⟨_, rfl⟩
 rw [← h_fv, ← h_ea, ← h_r, ← h_q, ← h_p] at cs ⊢
 obtain ⟨⟨c_p, z_p, c_q, z_q, c_r, z_r, c_ea, z_ea, c_fv, z_fv⟩, sz⟩ := cs
 obtain ⟨HOK, mb, fl, hM, hfl⟩ := HD.out.below b0
 have HN : Hid (¬ O p ∧ ¬ O q ∧ ¬ O r ∧ ¬ O ea ∧ ¬ O fv) := Lib.hid (by
  refine ⟨fun h => by have := HD.out.lt _ h; omega, fun h => by have := HD.out.lt _ h; omega, fun h => by have := HD.out.lt _ h; omega, fun h => by have := HD.out.lt _ h; omega, fun h => by have := HD.out.lt _ h; omega⟩)
 have HLE : Hid (w.heap.size ≤ p ∧ p < W0.heap.size ∧ w.heap.size ≤ q ∧ q < W0.heap.size ∧ w.heap.size ≤ r ∧ r < W0.heap.size ∧ w.heap.size ≤ ea ∧ ea < W0.heap.size ∧ w.heap.size ≤ fv ∧ fv < W0.heap.size) := Lib.hid (by refine ⟨by omega, by omega, by omega, by omega, by omega, by omega, by omega, by omega, by omega, by omega⟩)
 have n_p_q : p ≠ q := by omega
 have n_p_r : p ≠ r := by omega
 have n_p_ea : p ≠ ea := by omega
 have n_p_fv : p ≠ fv := by omega
 have n_q_p : q ≠ p := by omega
 have n_q_r : q ≠ r := by omega
 have n_q_ea : q ≠ ea := by omega
 have n_q_fv : q ≠ fv := by omega
 have n_r_p : r ≠ p := by omega
 have n_r_q : r ≠ q := by omega
 have n_r_ea : r ≠ ea := by omega
 have n_r_fv : r ≠ fv := by omega
 have n_ea_p : ea ≠ p := by omega
 have n_ea_q : ea ≠ q := by omega
 have n_ea_r : ea ≠ r := by omega
 have n_ea_fv : ea ≠ fv := by omega
 have n_fv_p : fv ≠ p := by omega
 have n_fv_q : fv ≠ q := by omega
 have n_fv_r : fv ≠ r := by omega
 have n_fv_ea : fv ≠ ea := by omega
 have HM := Lib.hid hM
 have HFL := Lib.hid hfl
 have HB := Lib.hid b0
 have HLT := Lib.hid HD.out.lt
 clear hW0 b0 hM hfl sz h_p h_q h_r h_ea h_fv
 have Hst : ∀ X : World, Below w.heap.size w X ∧ DskM X O dB mb fl d.cap d.arm d.down d.c → ∀ (a : Nat) (x : Value), w.heap.size ≤ a → ¬ O a → Below w.heap.size w (X.setCell ⟨a, 0, none⟩ x) ∧ DskM (X.setCell ⟨a, 0, none⟩ x) O dB mb fl d.cap d.arm d.down d.c := fun X h a x h1 h2 => ⟨h.1.setCell h1 _, h.2.off ⟨a, 0, none⟩ h2 x⟩
 have HST := Lib.hid Hst
 clear Hst
 have b1 := (Below.refl W0.heap.size W0).alloc (Nat.le_refl _) (.cells #[.string s, .string t] 9)
 have r1 := rdN2 W0 s t
 obtain ⟨W1, hW1⟩ : ∃ W1, W1 = W0.alloc (.cells #[.string s, .string t] 9) := ⟨_, rfl⟩
 rw [← hW1] at b1 r1
 have M1 := HM.out.below b1
 have HC := Lib.hid (ready_any M1.box r1)
 have HW1 := Lib.hid hW1
 have H2 := Lib.hid (And.intro (HB.out.trans (b1.mono HB.out.size)) M1)
 obtain ⟨kk, hk⟩ : ∃ k, k = rdyN d.down [s, t] := ⟨_, rfl⟩
 simp only [List.length_cons, List.length_nil, Nat.zero_add] at HC
 rw [← hk] at HC
 have HKK := Lib.hid hk
 have HB01 := Lib.hid b1
 clear hW1 r1 M1 hk b1
 go_wp2_with fail
 rw [← HW1.out]
 refine HC.out.mono ?_
 rintro e w2 ⟨rfl, rfl⟩
 have d_p : w2.cell? ⟨p, 0, none⟩ = some (.pointer (some ⟨dB, 0, none⟩)) := (HB01.out.cell (p := ⟨p, 0, none⟩) HLE.out.2.1).trans c_p
 have e_p : w2.frozen? ⟨p, 0, none⟩ = false := (HB01.out.frozen (p := ⟨p, 0, none⟩) HLE.out.2.1).trans z_p
 have d_q : w2.cell? ⟨q, 0, none⟩ = some (.string s) := (HB01.out.cell (p := ⟨q, 0, none⟩) HLE.out.2.2.2.1).trans c_q
 have e_q : w2.frozen? ⟨q, 0, none⟩ = false := (HB01.out.frozen (p := ⟨q, 0, none⟩) HLE.out.2.2.2.1).trans z_q
 have d_r : w2.cell? ⟨r, 0, none⟩ = some (.string t) := (HB01.out.cell (p := ⟨r, 0, none⟩) HLE.out.2.2.2.2.2.1).trans c_r
 have e_r : w2.frozen? ⟨r, 0, none⟩ = false := (HB01.out.frozen (p := ⟨r, 0, none⟩) HLE.out.2.2.2.2.2.1).trans z_r
 have d_ea : w2.cell? ⟨ea, 0, none⟩ = some (.int .i64 0) := (HB01.out.cell (p := ⟨ea, 0, none⟩) HLE.out.2.2.2.2.2.2.2.1).trans c_ea
 have e_ea : w2.frozen? ⟨ea, 0, none⟩ = false := (HB01.out.frozen (p := ⟨ea, 0, none⟩) HLE.out.2.2.2.2.2.2.2.1).trans z_ea
 have d_fv : w2.cell? ⟨fv, 0, none⟩ = some (.pointer none) := (HB01.out.cell (p := ⟨fv, 0, none⟩) HLE.out.2.2.2.2.2.2.2.2.2).trans c_fv
 have e_fv : w2.frozen? ⟨fv, 0, none⟩ = false := (HB01.out.frozen (p := ⟨fv, 0, none⟩) HLE.out.2.2.2.2.2.2.2.2.2).trans z_fv
 clear c_p z_p c_q z_q c_r z_r c_ea z_ea c_fv z_fv
 by_cases h0 : kk = 0
 ·subst h0
  have hX := (HST.out _ H2.out ea (.int .i64 0) HLE.out.2.2.2.2.2.2.1 HN.out.2.2.2.1)
  have x_p := set_ne (a := ea) (k := 0) (v := .int .i64 0) d_p n_p_ea
  have x_q := set_ne (a := ea) (k := 0) (v := .int .i64 0) d_q n_q_ea
  have x_r := set_ne (a := ea) (k := 0) (v := .int .i64 0) d_r n_r_ea
  have x_fv := set_ne (a := ea) (k := 0) (v := .int .i64 0) d_fv n_fv_ea
  have x_ea := set_same (v := .int .i64 0) d_ea
  have y_ea : (w2.setCell ⟨ea, 0, none⟩ (.int .i64 0)).frozen? ⟨ea, 0, none⟩ = false := by rw [World.frozen?_setCell]; exact e_ea
  have y_fv : (w2.setCell ⟨ea, 0, none⟩ (.int .i64 0)).frozen? ⟨fv, 0, none⟩ = false := by rw [World.frozen?_setCell]; exact e_fv
  go_upto_region 6 with fail
  obtain ⟨X, hX0⟩ : ∃ X, X = w2.setCell ⟨ea, 0, none⟩ (.int .i64 0) := ⟨_, rfl⟩
  rw [← hX0] at hX x_p x_q x_r x_fv x_ea y_ea y_fv ⊢
  obtain ⟨es2, ck2, hm2⟩ := hX.2.map
  have HRC := Lib.hid (dfind_any hX.2.box hm2 s)
  have HX := Lib.hid hX
  clear hX hX0 hm2 d_p d_q d_r d_ea d_fv e_p e_q e_r e_ea e_fv
  obtain ⟨rp, hrp⟩ : ∃ rp, rp = ptrO (atN (fl.map fun f => (f.nm, f.b)) s) := ⟨_, rfl⟩
  obtain ⟨rc, hrc⟩ : ∃ rc : Int, rc = (if (atN (fl.map fun f => (f.nm, f.b)) s).isSome then 0 else 42) := ⟨_, rfl⟩
  rw [← hrp, ← hrc] at HRC
  have HRP := Lib.hid (And.intro hrp hrc)
  have hat : atP d.fs s = (atF fl s).map (fun f => (f.dat, f.syn)) := by rw [← HFL.out, atF_pf]
  have hatn : atN (fl.map fun f => (f.nm, f.b)) s = (atF fl s).map (·.b) := atF_nb s fl
  clear hrp hrc
  cases hF : atF fl s with
  | none =>
   have hrp2 : rp = .pointer none := by rw [HRP.out.1, hatn, hF]; rfl
   have hrc2 : rc = 42 := by rw [HRP.out.2, hatn, hF]; rfl
   have hRR : R = (42, d) := by rw [HR.out, renameD, if_neg (by rw [← HKK.out]; simp), hat, hF]; rfl
   subst hRR
   rw [hrp2, hrc2] at HRC
   clear hrp2 hrc2 hat hatn hF
   go_wp2_with fail
   refine HRC.out.mono ?_
   rintro e w3 ⟨rfl, rfl⟩
   go_wp2_with fail
   change Leaves _ _ _ _ _ _ _
   refine door4 (k := 6) (ea := ea) rfl rfl (HST.out _ (HST.out _ (HST.out _ HX.out fv _ HLE.out.2.2.2.2.2.2.2.2.1 HN.out.2.2.2.2) ea _ HLE.out.2.2.2.2.2.2.1 HN.out.2.2.2.1) ea _ HLE.out.2.2.2.2.2.2.1 HN.out.2.2.2.1).1 HLE.out.2.2.2.2.2.2.1 ?_
   exact settle_no ⟨HOK, mb, fl, (HST.out _ (HST.out _ (HST.out _ HX.out fv _ HLE.out.2.2.2.2.2.2.2.2.1 HN.out.2.2.2.2) ea _ HLE.out.2.2.2.2.2.2.1 HN.out.2.2.2.1) ea _ HLE.out.2.2.2.2.2.2.1 HN.out.2.2.2.1).2, HFL.out⟩ (by simp) (set_same (set_same (set_ne x_ea n_ea_fv)))
  | some f =>
   have hrp2 : rp = .pointer (some ⟨f.b, 0, none⟩) := by rw [HRP.out.1, hatn, hF]; rfl
   have hrc2 : rc = 0 := by rw [HRP.out.2, hatn, hF]; rfl
   rw [hF] at hat
   have hRR : R = actP d false (setP (delP d.fs s) (t, (f.dat, f.syn))) (setCt d.c 3 (wrap64 (d.c 3 + 1))) := by rw [HR.out, renameD, if_neg (by rw [← HKK.out]; simp), hat]; rfl
   subst hRR
   rw [hrp2, hrc2] at HRC
   have HF := Lib.hid (And.intro hF hat)
   clear hrp2 hrc2 hat hatn hF
   go_wp2_with fail
   refine HRC.out.mono ?_
   rintro e w3 ⟨rfl, rfl⟩
   go_wp2_with fail
   change Leaves _ _ _ _ _ _ _
   refine door4 (k := 6) (ea := ea) rfl rfl (HST.out _ (HST.out _ (HST.out _ HX.out fv _ HLE.out.2.2.2.2.2.2.2.2.1 HN.out.2.2.2.2) ea _ HLE.out.2.2.2.2.2.2.1 HN.out.2.2.2.1) ea _ HLE.out.2.2.2.2.2.2.1 HN.out.2.2.2.1).1 HLE.out.2.2.2.2.2.2.1 ?_
   have hnt : DkName t := rdy_name HKK.out.symm t (by simp)
   refine settle_yes HOK (HST.out _ (HST.out _ (HST.out _ HX.out fv _ HLE.out.2.2.2.2.2.2.2.2.1 HN.out.2.2.2.2) ea _ HLE.out.2.2.2.2.2.2.1 HN.out.2.2.2.1) ea _ HLE.out.2.2.2.2.2.2.1 HN.out.2.2.2.1).2 HFL.out (set_same (set_same (set_ne x_ea n_ea_fv))) (by rw [World.frozen?_setCell, World.frozen?_setCell, World.frozen?_setCell]; exact y_ea) HN.out.2.2.2.1 (fun w => by simp [go_sem]) (fsOk_ren HOK HF.out.2 hnt) ?_
   intro arm1 down1 V hV gV
   have v_p : V.cell? ⟨p, 0, none⟩ = some (.pointer (some ⟨dB, 0, none⟩)) := (World.cell?_of_block (a := ⟨p, 0, none⟩) (gV.block p (by simpa [World.setCell] using World.block_lt_of_cell? _ _ x_p) (fun h => h.elim HN.out.1 n_p_ea))).trans (set_ne (set_ne (set_ne x_p n_p_fv) n_p_ea) n_p_ea)
   have v_q : V.cell? ⟨q, 0, none⟩ = some (.string s) := (World.cell?_of_block (a := ⟨q, 0, none⟩) (gV.block q (by simpa [World.setCell] using World.block_lt_of_cell? _ _ x_q) (fun h => h.elim HN.out.2.1 n_q_ea))).trans (set_ne (set_ne (set_ne x_q n_q_fv) n_q_ea) n_q_ea)
   have v_r : V.cell? ⟨r, 0, none⟩ = some (.string t) := (World.cell?_of_block (a := ⟨r, 0, none⟩) (gV.block r (by simpa [World.setCell] using World.block_lt_of_cell? _ _ x_r) (fun h => h.elim HN.out.2.2.1 n_r_ea))).trans (set_ne (set_ne (set_ne x_r n_r_fv) n_r_ea) n_r_ea)
   have v_fv : V.cell? ⟨fv, 0, none⟩ = some (.pointer (some ⟨f.b, 0, none⟩)) := (World.cell?_of_block (a := ⟨fv, 0, none⟩) (gV.block fv (by simpa [World.setCell] using World.block_lt_of_cell? _ _ x_fv) (fun h => h.elim HN.out.2.2.2.2 n_fv_ea))).trans (set_ne (set_ne (set_same x_fv) n_fv_ea) n_fv_ea)
   have := rename1_any hV v_p v_q v_r v_fv HN.out.1 HN.out.2.2.1 HN.out.2.2.2.2 HF.out.1 (by have := hnt.2.1; omega)
   rw [HFL.out] at this
   exact this
 ·have h0n : (kk != 0) = true := by simp [h0]
  have hRR : R = (kk, d) := by rw [HR.out, renameD, if_pos (by rw [← HKK.out]; exact h0), ← HKK.out]
  subst hRR
  go_wp2_with fail
  change Leaves _ _ _ _ _ _ _
  refine door4 (k := 6) (ea := ea) rfl rfl (HST.out _ (HST.out _ H2.out ea _ HLE.out.2.2.2.2.2.2.1 HN.out.2.2.2.1) ea _ HLE.out.2.2.2.2.2.2.1 HN.out.2.2.2.1).1 HLE.out.2.2.2.2.2.2.1 ?_
  exact settle_no ⟨HOK, mb, fl, (HST.out _ (HST.out _ H2.out ea _ HLE.out.2.2.2.2.2.2.1 HN.out.2.2.2.1) ea _ HLE.out.2.2.2.2.2.2.1 HN.out.2.2.2.1).2, HFL.out⟩ h0 (set_same (set_same d_ea))
end Go.Proofs.Ytlkhphhmhffdjaa

namespace Go.Proofs.Ytlkhphhmhffdjaa
open Go.RowKit Go.MapKept
variable {w w' W : World} {O O' : Nat → Prop} {dB : Nat} {d : Dk4}
theorem Rd.go4 {v : Value} {bs : List Nat} (h : Rd w v bs) (k : ∀ b off n c, v = .slice (some ⟨b, off, none⟩) n c → b < w.heap.size → w'.heap[b]? = w.heap[b]?) : Rd w' v bs := by
 obtain ⟨h1, a, cap, rfl, h3, h4, h5, h6, h7⟩ := h
 refine ⟨h1, a, cap, rfl, h3, h4, h5, h6, ?_⟩
 rcases h7 with h7 | ⟨b, off, rfl, hc⟩
 ·exact .inl h7
 ·refine .inr ⟨b, off, rfl, fun i hi => ?_⟩
  have hl := World.block_lt_of_cell? _ _ (hc i hi)
  rw [← hc i hi]
  exact World.cell?_of_block (a := ⟨b, off + i, none⟩) (k b off _ _ rfl hl)
theorem Rd.go5 {v : Value} {bs : List Nat} (h : Rd w v bs) (k : ∀ b off n c, v = .slice (some ⟨b, off, none⟩) n c → n ≠ 0 → b < w.heap.size → w'.heap[b]? = w.heap[b]?) : Rd w' v bs := by
 obtain ⟨h1, a, cap, rfl, h3, h4, h5, h6, h7⟩ := h
 refine ⟨h1, a, cap, rfl, h3, h4, h5, h6, ?_⟩
 by_cases h0 : bs = []
 ·exact .inl h0
 rcases h7 with h7 | ⟨b, off, rfl, hc⟩
 ·exact .inl h7
 ·refine .inr ⟨b, off, rfl, fun i hi => ?_⟩
  have hl := World.block_lt_of_cell? _ _ (hc i hi)
  rw [← hc i hi]
  exact World.cell?_of_block (a := ⟨b, off + i, none⟩) (k b off _ _ rfl (by omega) hl)
def RdA (w : World) (O : Nat → Prop) (v : Value) (bs : List Nat) : Prop := Rd w v bs ∧ ∀ b off n c, v = .slice (some ⟨b, off, none⟩) n c → n ≠ 0 → ¬ O b
def appendD (d : Dk4) (s : ByteArray) (bs : List Nat) : Int × Dk4 :=
 if rdyN d.down [s] ≠ 0 then (rdyN d.down [s], d)
 else if 67108864 < bs.length then (2, d)
 else match atP d.fs s with
  | none => (42, d)
  | some v => if d.cap - (totP d.fs : Int) < (bs.length : Int) then (4, d) else actP d true (setP d.fs (s, v.1 ++ bs, v.2)) (setCt d.c 1 (wrap64 (d.c 1 + 1)))
set_option maxRecDepth 100000 in
set_option maxHeartbeats 2000000 in
theorem append_any {s : ByteArray} {ab : Option Addr} {nb kb : Nat} {bs : List Nat} (hD : Dsk w O dB d) (hrd : RdA w O (.slice ab nb kb) bs) : Calls Try.prog 55 #[.pointer (some ⟨dB, 0, none⟩), .string s, .slice ab nb kb] w (AnsD w O dB (appendD d s bs)) := by
 have hnb : nb = bs.length := by
  obtain ⟨⟨_, a, c, h, _⟩, _⟩ := hrd
  simp only [Value.slice.injEq] at h
  exact h.2.1
 have HNB := Lib.hid hnb
 have HRD := Lib.hid hrd
 clear hnb hrd
 have hmf : ∀ (fn : Fn) (first cap : Array Value) (w : World), (Instr.makeFunc fn first cap).run Try.prog w = .ok (.func fn first cap) w := fun _ _ _ _ => rfl
 obtain ⟨R, hR⟩ : ∃ R, R = appendD d s bs := ⟨_, rfl⟩
 rw [← hR]
 have HR := Lib.hid hR
 have HD := Lib.hid hD
 clear hR hD
 go_enter_defers Try.func55, Try.ntmps55
 go_upto_region 3 with fail
 clear hmf
 have cs : (((((w.alloc (.cells #[.pointer (some ⟨dB, 0, none⟩)] 39)).alloc (.cells #[.slice ab nb kb] 27)).alloc (.cells #[.int .i64 0] 53)).alloc (.cells #[.pointer none] 76)).cell? ⟨w.heap.size, 0, none⟩ = some (.pointer (some ⟨dB, 0, none⟩)) ∧ ((((w.alloc (.cells #[.pointer (some ⟨dB, 0, none⟩)] 39)).alloc (.cells #[.slice ab nb kb] 27)).alloc (.cells #[.int .i64 0] 53)).alloc (.cells #[.pointer none] 76)).frozen? ⟨w.heap.size, 0, none⟩ = false ∧ ((((w.alloc (.cells #[.pointer (some ⟨dB, 0, none⟩)] 39)).alloc (.cells #[.slice ab nb kb] 27)).alloc (.cells #[.int .i64 0] 53)).alloc (.cells #[.pointer none] 76)).cell? ⟨w.heap.size + 1, 0, none⟩ = some (.slice ab nb kb) ∧ ((((w.alloc (.cells #[.pointer (some ⟨dB, 0, none⟩)] 39)).alloc (.cells #[.slice ab nb kb] 27)).alloc (.cells #[.int .i64 0] 53)).alloc (.cells #[.pointer none] 76)).frozen? ⟨w.heap.size + 1, 0, none⟩ = false ∧ ((((w.alloc (.cells #[.pointer (some ⟨dB, 0, none⟩)] 39)).alloc (.cells #[.slice ab nb kb] 27)).alloc (.cells #[.int .i64 0] 53)).alloc (.cells #[.pointer none] 76)).cell? ⟨w.heap.size + 1 + 1, 0, none⟩ = some (.int .i64 0) ∧ ((((w.alloc (.cells #[.pointer (some ⟨dB, 0, none⟩)] 39)).alloc (.cells #[.slice ab nb kb] 27)).alloc (.cells #[.int .i64 0] 53)).alloc (.cells #[.pointer none] 76)).frozen? ⟨w.heap.size + 1 + 1, 0, none⟩ = false ∧ ((((w.alloc (.cells #[.pointer (some ⟨dB, 0, none⟩)] 39)).alloc (.cells #[.slice ab nb kb] 27)).alloc (.cells #[.int .i64 0] 53)).alloc (.cells #[.pointer none] 76)).cell? ⟨w.heap.size + 1 + 1 + 1, 0, none⟩ = some (.pointer none) ∧ ((((w.alloc (.cells #[.pointer (some ⟨dB, 0, none⟩)] 39)).alloc (.cells #[.slice ab nb kb] 27)).alloc (.cells #[.int .i64 0] 53)).alloc (.cells #[.pointer none] 76)).frozen? ⟨w.heap.size + 1 + 1 + 1, 0, none⟩ = false) ∧ ((((w.alloc (.cells #[.pointer (some ⟨dB, 0, none⟩)] 39)).alloc (.cells #[.slice ab nb kb] 27)).alloc (.cells #[.int .i64 0] 53)).alloc (.cells #[.pointer none] 76)).heap.size = w.heap.size + 4 := by
  refine ⟨?_, ?_⟩ <;> simp [go_sem]
 have b0 : Below w.heap.size w ((((w.alloc (.cells #[.pointer (some ⟨dB, 0, none⟩)] 39)).alloc (.cells #[.slice ab nb kb] 27)).alloc (.cells #[.int .i64 0] 53)).alloc (.cells #[.pointer none] 76)) := (((((Below.refl _ _).alloc (Nat.le_refl _) _).alloc (by simp) _).alloc (by simp; omega) _).alloc (by simp; omega) _)
 obtain ⟨W0, hW0⟩ : ∃ W0, W0 = ((((w.alloc (.cells #[.pointer (some ⟨dB, 0, none⟩)] 39)).alloc (.cells #[.slice ab nb kb] 27)).alloc (.cells #[.int .i64 0] 53)).alloc (.cells #[.pointer none] 76)) := ⟨_, rfl⟩
 rw [← hW0] at cs b0 ⊢
 obtain ⟨fv, h_fv⟩ : ∃ x, x = w.heap.size + 1 + 1 + 1 := ⟨_, rfl⟩
 obtain ⟨ea, h_ea⟩ : ∃ x, x = w.heap.size + 1 + 1 := ⟨_, rfl⟩
 obtain ⟨q, h_q⟩ : ∃ x, x = w.heap.size + 1 := ⟨_, rfl⟩
 obtain ⟨p, h_p⟩ : ∃ x, x = w.heap.size := ⟨_, rfl⟩
 rw [← h_fv, ← h_ea, ← h_q, ← h_p] at cs ⊢
 obtain ⟨⟨c_p, z_p, c_q, z_q, c_ea, z_ea, c_fv, z_fv⟩, sz⟩ := cs
 obtain ⟨HOK, mb, fl, hM, hfl⟩ := HD.out.below b0
 have HN : Hid (¬ O p ∧ ¬ O q ∧ ¬ O ea ∧ ¬ O fv) := Lib.hid (by
  refine ⟨fun h => by have := HD.out.lt _ h; omega, fun h => by have := HD.out.lt _ h; omega, fun h => by have := HD.out.lt _ h; omega, fun h => by have := HD.out.lt _ h; omega⟩)
 have HLE : Hid (w.heap.size ≤ p ∧ p < W0.heap.size ∧ w.heap.size ≤ q ∧ q < W0.heap.size ∧ w.heap.size ≤ ea ∧ ea < W0.heap.size ∧ w.heap.size ≤ fv ∧ fv < W0.heap.size) := Lib.hid (by refine ⟨by omega, by omega, by omega, by omega, by omega, by omega, by omega, by omega⟩)
 have n_p_q : p ≠ q := by omega
 have n_p_ea : p ≠ ea := by omega
 have n_p_fv : p ≠ fv := by omega
 have n_q_p : q ≠ p := by omega
 have n_q_ea : q ≠ ea := by omega
 have n_q_fv : q ≠ fv := by omega
 have n_ea_p : ea ≠ p := by omega
 have n_ea_q : ea ≠ q := by omega
 have n_ea_fv : ea ≠ fv := by omega
 have n_fv_p : fv ≠ p := by omega
 have n_fv_q : fv ≠ q := by omega
 have n_fv_ea : fv ≠ ea := by omega
 have HM := Lib.hid hM
 have HFL := Lib.hid hfl
 have HB := Lib.hid b0
 have HLT := Lib.hid HD.out.lt
 clear hW0 b0 hM hfl sz h_p h_q h_ea h_fv
 have Hst : ∀ X : World, Below w.heap.size w X ∧ DskM X O dB mb fl d.cap d.arm d.down d.c → ∀ (a : Nat) (x : Value), w.heap.size ≤ a → ¬ O a → Below w.heap.size w (X.setCell ⟨a, 0, none⟩ x) ∧ DskM (X.setCell ⟨a, 0, none⟩ x) O dB mb fl d.cap d.arm d.down d.c := fun X h a x h1 h2 => ⟨h.1.setCell h1 _, h.2.off ⟨a, 0, none⟩ h2 x⟩
 have HST := Lib.hid Hst
 clear Hst
 have b1 := (Below.refl W0.heap.size W0).alloc (Nat.le_refl _) (.cells #[.string s] 9)
 have r1 := rdN1 W0 s
 obtain ⟨W1, hW1⟩ : ∃ W1, W1 = W0.alloc (.cells #[.string s] 9) := ⟨_, rfl⟩
 rw [← hW1] at b1 r1
 have M1 := HM.out.below b1
 have HC := Lib.hid (ready_any M1.box r1)
 have HW1 := Lib.hid hW1
 have H2 := Lib.hid (And.intro (HB.out.trans (b1.mono HB.out.size)) M1)
 obtain ⟨kk, hk⟩ : ∃ k, k = rdyN d.down [s] := ⟨_, rfl⟩
 simp only [List.length_cons, List.length_nil, Nat.zero_add] at HC
 rw [← hk] at HC
 have HKK := Lib.hid hk
 have HB01 := Lib.hid b1
 clear hW1 r1 M1 hk b1
 go_wp2_with fail
 rw [← HW1.out]
 refine HC.out.mono ?_
 rintro e w2 ⟨rfl, rfl⟩
 have d_p : w2.cell? ⟨p, 0, none⟩ = some (.pointer (some ⟨dB, 0, none⟩)) := (HB01.out.cell (p := ⟨p, 0, none⟩) HLE.out.2.1).trans c_p
 have e_p : w2.frozen? ⟨p, 0, none⟩ = false := (HB01.out.frozen (p := ⟨p, 0, none⟩) HLE.out.2.1).trans z_p
 have d_q : w2.cell? ⟨q, 0, none⟩ = some (.slice ab nb kb) := (HB01.out.cell (p := ⟨q, 0, none⟩) HLE.out.2.2.2.1).trans c_q
 have e_q : w2.frozen? ⟨q, 0, none⟩ = false := (HB01.out.frozen (p := ⟨q, 0, none⟩) HLE.out.2.2.2.1).trans z_q
 have d_ea : w2.cell? ⟨ea, 0, none⟩ = some (.int .i64 0) := (HB01.out.cell (p := ⟨ea, 0, none⟩) HLE.out.2.2.2.2.2.1).trans c_ea
 have e_ea : w2.frozen? ⟨ea, 0, none⟩ = false := (HB01.out.frozen (p := ⟨ea, 0, none⟩) HLE.out.2.2.2.2.2.1).trans z_ea
 have d_fv : w2.cell? ⟨fv, 0, none⟩ = some (.pointer none) := (HB01.out.cell (p := ⟨fv, 0, none⟩) HLE.out.2.2.2.2.2.2.2).trans c_fv
 have e_fv : w2.frozen? ⟨fv, 0, none⟩ = false := (HB01.out.frozen (p := ⟨fv, 0, none⟩) HLE.out.2.2.2.2.2.2.2).trans z_fv
 clear c_p z_p c_q z_q c_ea z_ea c_fv z_fv
 by_cases h0 : kk = 0
 ·subst h0
  have hX := (HST.out _ H2.out ea (.int .i64 0) HLE.out.2.2.2.2.1 HN.out.2.2.1)
  have x_p := set_ne (a := ea) (k := 0) (v := .int .i64 0) d_p n_p_ea
  have x_q := set_ne (a := ea) (k := 0) (v := .int .i64 0) d_q n_q_ea
  have x_fv := set_ne (a := ea) (k := 0) (v := .int .i64 0) d_fv n_fv_ea
  have x_ea := set_same (v := .int .i64 0) d_ea
  have y_ea : (w2.setCell ⟨ea, 0, none⟩ (.int .i64 0)).frozen? ⟨ea, 0, none⟩ = false := by rw [World.frozen?_setCell]; exact e_ea
  have y_fv : (w2.setCell ⟨ea, 0, none⟩ (.int .i64 0)).frozen? ⟨fv, 0, none⟩ = false := by rw [World.frozen?_setCell]; exact e_fv
  go_upto_region 6 with fail
  obtain ⟨X, hX0⟩ : ∃ X, X = w2.setCell ⟨ea, 0, none⟩ (.int .i64 0) := ⟨_, rfl⟩
  rw [← hX0] at hX x_p x_q x_fv x_ea y_ea y_fv ⊢
  obtain ⟨es2, ck2, hm2⟩ := hX.2.map
  have HRC := Lib.hid (dfind_any hX.2.box hm2 s)
  have HX := Lib.hid hX
  clear hX hX0 hm2 d_p d_q d_ea d_fv e_p e_q e_ea e_fv
  by_cases hlong : 67108864 < nb
  ·have i1 : (67108864 : Int) < (nb : Int) := by omega
   have hRR : R = (2, d) := by rw [HR.out, appendD, if_neg (by rw [← HKK.out]; simp), if_pos (by rw [← HNB.out]; exact hlong)]
   subst hRR
   clear hlong HRC
   go_wp2_with fail
   change Leaves _ _ _ _ _ _ _
   refine door4 (k := 6) (ea := ea) rfl rfl (HST.out _ HX.out ea _ HLE.out.2.2.2.2.1 HN.out.2.2.1).1 HLE.out.2.2.2.2.1 ?_
   exact settle_no ⟨HOK, mb, fl, (HST.out _ HX.out ea _ HLE.out.2.2.2.2.1 HN.out.2.2.1).2, HFL.out⟩ (by simp) (set_same x_ea)
  have i1 : ¬ (67108864 : Int) < (nb : Int) := by omega
  have hlong2 : ¬ 67108864 < bs.length := by rw [← HNB.out]; exact hlong
  obtain ⟨rp, hrp⟩ : ∃ rp, rp = ptrO (atN (fl.map fun f => (f.nm, f.b)) s) := ⟨_, rfl⟩
  obtain ⟨rc, hrc⟩ : ∃ rc : Int, rc = (if (atN (fl.map fun f => (f.nm, f.b)) s).isSome then 0 else 42) := ⟨_, rfl⟩
  rw [← hrp, ← hrc] at HRC
  have HRP := Lib.hid (And.intro hrp hrc)
  have hat : atP d.fs s = (atF fl s).map (fun f => (f.dat, f.syn)) := by rw [← HFL.out, atF_pf]
  have hatn : atN (fl.map fun f => (f.nm, f.b)) s = (atF fl s).map (·.b) := atF_nb s fl
  clear hrp hrc
  cases hF : atF fl s with
  | none =>
   have hrp2 : rp = .pointer none := by rw [HRP.out.1, hatn, hF]; rfl
   have hrc2 : rc = 42 := by rw [HRP.out.2, hatn, hF]; rfl
   have hRR : R = (42, d) := by rw [HR.out, appendD, if_neg (by rw [← HKK.out]; simp), if_neg hlong2, hat, hF]; rfl
   subst hRR
   rw [hrp2, hrc2] at HRC
   clear hrp2 hrc2 hat hatn hF hlong hlong2
   go_wp2_with fail
   refine HRC.out.mono ?_
   rintro e w3 ⟨rfl, rfl⟩
   go_wp2_with fail
   change Leaves _ _ _ _ _ _ _
   refine door4 (k := 6) (ea := ea) rfl rfl (HST.out _ (HST.out _ (HST.out _ HX.out fv _ HLE.out.2.2.2.2.2.2.1 HN.out.2.2.2) ea _ HLE.out.2.2.2.2.1 HN.out.2.2.1) ea _ HLE.out.2.2.2.2.1 HN.out.2.2.1).1 HLE.out.2.2.2.2.1 ?_
   exact settle_no ⟨HOK, mb, fl, (HST.out _ (HST.out _ (HST.out _ HX.out fv _ HLE.out.2.2.2.2.2.2.1 HN.out.2.2.2) ea _ HLE.out.2.2.2.2.1 HN.out.2.2.1) ea _ HLE.out.2.2.2.2.1 HN.out.2.2.1).2, HFL.out⟩ (by simp) (set_same (set_same (set_ne x_ea n_ea_fv)))
  | some f =>
   have hrp2 : rp = .pointer (some ⟨f.b, 0, none⟩) := by rw [HRP.out.1, hatn, hF]; rfl
   have hrc2 : rc = 0 := by rw [HRP.out.2, hatn, hF]; rfl
   rw [hF] at hat
   have hRR : R = if d.cap - (totP d.fs : Int) < (bs.length : Int) then (4, d) else actP d true (setP d.fs (s, f.dat ++ bs, f.syn)) (setCt d.c 1 (wrap64 (d.c 1 + 1))) := by rw [HR.out, appendD, if_neg (by rw [← HKK.out]; simp), if_neg hlong2, hat]; rfl
   rw [hrp2, hrc2] at HRC
   have HF := Lib.hid (And.intro hF hat)
   have HRR := Lib.hid hRR
   clear hrp2 hrc2 hat hatn hF hRR hlong hlong2
   go_wp2_with fail
   refine HRC.out.mono ?_
   rintro e w3 ⟨rfl, rfl⟩
   go_upto_region 11 with fail
   have hY := (HST.out _ (HST.out _ HX.out fv (.pointer (some ⟨f.b, 0, none⟩)) HLE.out.2.2.2.2.2.2.1 HN.out.2.2.2) ea (.int .i64 0) HLE.out.2.2.2.2.1 HN.out.2.2.1)
   have x2_p := set_ne (a := ea) (k := 0) (v := .int .i64 0) (set_ne (a := fv) (k := 0) (v := .pointer (some ⟨f.b, 0, none⟩)) x_p n_p_fv) n_p_ea
   have x2_q := set_ne (a := ea) (k := 0) (v := .int .i64 0) (set_ne (a := fv) (k := 0) (v := .pointer (some ⟨f.b, 0, none⟩)) x_q n_q_fv) n_q_ea
   have x2_fv := set_ne (a := ea) (k := 0) (v := .int .i64 0) (set_same (v := .pointer (some ⟨f.b, 0, none⟩)) x_fv) n_fv_ea
   have x2_ea := set_same (v := .int .i64 0) (set_ne (a := fv) (k := 0) (v := .pointer (some ⟨f.b, 0, none⟩)) x_ea n_ea_fv)
   have y2_ea : ((w3.setCell ⟨fv, 0, none⟩ (.pointer (some ⟨f.b, 0, none⟩))).setCell ⟨ea, 0, none⟩ (.int .i64 0)).frozen? ⟨ea, 0, none⟩ = false := by rw [World.frozen?_setCell, World.frozen?_setCell]; exact y_ea
   obtain ⟨Y, hY0⟩ : ∃ Y, Y = (w3.setCell ⟨fv, 0, none⟩ (.pointer (some ⟨f.b, 0, none⟩))).setCell ⟨ea, 0, none⟩ (.int .i64 0) := ⟨_, rfl⟩
   rw [← hY0] at hY x2_p x2_q x2_fv x2_ea y2_ea ⊢
   have HY := Lib.hid hY
   have HQ := Lib.hid (And.intro x2_p (And.intro x2_q (And.intro x2_fv (And.intro x2_ea y2_ea))))
   have l_p := World.block_lt_of_cell? _ _ x2_p
   have l_q := World.block_lt_of_cell? _ _ x2_q
   have l_fv := World.block_lt_of_cell? _ _ x2_fv
   have l_ea := World.block_lt_of_cell? _ _ x2_ea
   have htot : (totP (fl.map FE.pf) : Int) ≤ d.cap := by rw [HFL.out]; exact HOK.tot
   have HFR := Lib.hid (fun Z (hz : Below Y.heap.size Y Z) => free_any (HY.out.2.below hz) HOK.cap0 HOK.cap1 htot)
   clear hY hY0 x2_p x2_q x2_fv x2_ea y2_ea x_p x_q x_fv x_ea y_ea y_fv htot
   rw [HFL.out] at HFR
   obtain ⟨T, hT⟩ : ∃ T : Int, T = d.cap - (totP d.fs : Int) := ⟨_, rfl⟩
   rw [← hT] at HFR HRR
   rw [← HNB.out] at HRR
   have HT := Lib.hid hT
   clear hT
   have BD : Below Y.heap.size Y Y.drew := (Below.refl _ _).drew
   refine wp_region_noPanic ?_
   refine wp_region_anyE (S := fun wx => Below Y.heap.size Y wx) (E := fun j => true) (by kernel_rfl) ?_
   have hHeld : Below Y.heap.size Y Y.drew := BD
   have HB := Lib.hid BD
   obtain ⟨Z0, hZ0⟩ : ∃ z, z = Y.drew := ⟨_, rfl⟩
   rw [← hZ0] at HB hHeld ⊢
   clear hZ0 BD
   refine AnyE.take (i := 0) (.slice ab nb kb) rfl (by kernel_rfl) (by kernel_rfl) (by kernel_rfl) (by kernel_rfl) (fun _ _ _ h => h) (.inl ⟨by kernel_rfl, fun wy hy => by (have q0 := (hy.cell (p := ⟨q, 0, none⟩) l_q).trans HQ.out.2.1; go_simp; done)⟩) hHeld ?_
   try simp only [Act.put, List.setIfInBounds_toArray, List.set_cons_zero, List.set_cons_succ]
   refine AnyE.take (i := 1) (.int .i64 (nb : Int)) rfl (by kernel_rfl) (by kernel_rfl) (by kernel_rfl) (by kernel_rfl) (fun _ _ _ h => h) (.inl ⟨by kernel_rfl, fun wy hy => by (go_simp; done)⟩) hHeld ?_
   try simp only [Act.put, List.setIfInBounds_toArray, List.set_cons_zero, List.set_cons_succ]
   refine AnyE.take (i := 2) (.pointer (some ⟨dB, 0, none⟩)) rfl (by kernel_rfl) (by kernel_rfl) (by kernel_rfl) (by kernel_rfl) (fun _ _ _ h => h) (.inl ⟨by kernel_rfl, fun wy hy => by (have q0 := (hy.cell (p := ⟨p, 0, none⟩) l_p).trans HQ.out.1; go_simp; done)⟩) hHeld ?_
   try simp only [Act.put, List.setIfInBounds_toArray, List.set_cons_zero, List.set_cons_succ]
   refine AnyE.one (i := 3) rfl (by kernel_rfl) (by kernel_rfl) (fun KK hK => ?_)
   go_simp
   go_at_call 12
   refine (HFR.out Z0 HB.out).mono ?_
   rintro e9 Z9 ⟨rfl, b1⟩
   have HB := Lib.hid (HB.out.trans (b1.mono HB.out.size))
   clear b1
   go_wp2_with fail
   refine hK.out _ _ ⟨fun _ => HB.out, ?_⟩
   have hHeld := HB.out
   clear hK
   try simp only [Act.put, List.setIfInBounds_toArray, List.set_cons_zero, List.set_cons_succ]
   have HZ : Hid (Below w.heap.size w Z9 ∧ DskM Z9 O dB mb fl d.cap d.arm d.down d.c) := Lib.hid ⟨HY.out.1.trans (HB.out.mono HY.out.1.size), HY.out.2.below HB.out⟩
   have c_p := (HB.out.cell (p := ⟨p, 0, none⟩) l_p).trans HQ.out.1
   have c_q := (HB.out.cell (p := ⟨q, 0, none⟩) l_q).trans HQ.out.2.1
   have c_fv := (HB.out.cell (p := ⟨fv, 0, none⟩) l_fv).trans HQ.out.2.2.1
   have c_ea := (HB.out.cell (p := ⟨ea, 0, none⟩) l_ea).trans HQ.out.2.2.2.1
   have z_ea := (HB.out.frozen (p := ⟨ea, 0, none⟩) l_ea).trans HQ.out.2.2.2.2
   by_cases hfull : T < (nb : Int)
   ·have hRR : R = (4, d) := by rw [HRR.out, if_pos hfull]
    subst hRR
    refine AnyE.one (i := 4) rfl (by kernel_rfl) (by kernel_rfl) (fun KK hK => ?_)
    go_simp
    refine hK.out _ _ ⟨fun _ => HB.out, ?_⟩
    have hHeld := HB.out
    clear hK
    try simp only [Act.put, List.setIfInBounds_toArray, List.set_cons_zero, List.set_cons_succ]
    refine AnyE.done (by kernel_rfl) (NoPanic.normal ?_) _
    go_wp2_with fail
    change Leaves _ _ _ _ _ _ _
    refine door4 (k := 6) (ea := ea) rfl rfl (HST.out _ HZ.out ea _ HLE.out.2.2.2.2.1 HN.out.2.2.1).1 HLE.out.2.2.2.2.1 ?_
    exact settle_no ⟨HOK, mb, fl, (HST.out _ HZ.out ea _ HLE.out.2.2.2.2.1 HN.out.2.2.1).2, HFL.out⟩ (by simp) (set_same c_ea)
   ·have hRR : R = actP d true (setP d.fs (s, f.dat ++ bs, f.syn)) (setCt d.c 1 (wrap64 (d.c 1 + 1))) := by rw [HRR.out, if_neg hfull]
    subst hRR
    have HFULL := Lib.hid hfull
    refine AnyE.one (i := 4) rfl (by kernel_rfl) (by kernel_rfl) (fun KK hK => ?_)
    go_simp
    refine hK.out _ _ ⟨fun _ => HB.out, ?_⟩
    have hHeld := HB.out
    clear hK
    try simp only [Act.put, List.setIfInBounds_toArray, List.set_cons_zero, List.set_cons_succ]
    refine AnyE.done (by kernel_rfl) (NoPanic.normal ?_) _
    go_wp2_with fail
    change Leaves _ _ _ _ _ _ _
    refine door4 (k := 6) (ea := ea) rfl rfl (HST.out _ HZ.out ea _ HLE.out.2.2.2.2.1 HN.out.2.2.1).1 HLE.out.2.2.2.2.1 ?_
    have hsy := HOK.syn _ (atP_mem HF.out.2)
    have hmm := atF_mem HF.out.1
    have hcc : totP d.fs + bs.length ≤ d.cap.toNat := by have := HFULL.out; have := HT.out; have := HNB.out; have := HOK.cap0; omega
    refine settle_yes HOK (HST.out _ HZ.out ea _ HLE.out.2.2.2.2.1 HN.out.2.2.1).2 HFL.out (set_same c_ea) (by rw [World.frozen?_setCell]; exact z_ea) HN.out.2.2.1 (fun w => by simp [go_sem]) (fsOk_set HOK HF.out.2 (by rw [List.length_append]; simp only; omega) (by rw [List.length_append]; simp only at hsy; omega)) ?_
    intro arm1 down1 V hV gV
    have v_p : V.cell? ⟨p, 0, none⟩ = some (.pointer (some ⟨dB, 0, none⟩)) := (World.cell?_of_block (a := ⟨p, 0, none⟩) (gV.block p (by simpa [World.setCell] using World.block_lt_of_cell? _ _ c_p) (fun h => h.elim HN.out.1 n_p_ea))).trans (set_ne c_p n_p_ea)
    have v_q : V.cell? ⟨q, 0, none⟩ = some (.slice ab nb kb) := (World.cell?_of_block (a := ⟨q, 0, none⟩) (gV.block q (by simpa [World.setCell] using World.block_lt_of_cell? _ _ c_q) (fun h => h.elim HN.out.2.1 n_q_ea))).trans (set_ne c_q n_q_ea)
    have v_fv : V.cell? ⟨fv, 0, none⟩ = some (.pointer (some ⟨f.b, 0, none⟩)) := (World.cell?_of_block (a := ⟨fv, 0, none⟩) (gV.block fv (by simpa [World.setCell] using World.block_lt_of_cell? _ _ c_fv) (fun h => h.elim HN.out.2.2.2 n_fv_ea))).trans (set_ne c_fv n_fv_ea)
    have hrdV : Rd V (.slice ab nb kb) bs := by
     refine HRD.out.1.go5 (fun b off n c hv n0 hb => ?_)
     have hno := HRD.out.2 b off n c hv n0
     have hbs : b ≠ ea := by have := HLE.out.2.2.2.2.1; omega
     have hbz : b < Z9.heap.size := Nat.lt_of_lt_of_le hb HZ.out.1.size
     exact ((gV.block b (by simpa [World.setCell] using hbz) (fun h => h.elim hno hbs)).trans (heap_setCell_other _ _ _ _ hbs)).trans (HZ.out.1.block b hb)
    have := append1_any hV v_fv v_q v_p HN.out.2.2.2 HN.out.2.1 HN.out.1 (by rw [hmm.2]; exact HF.out.1) hrdV (by have := totP_mem HF.out.2; simp only at this; have := HOK.cap1; omega)
    rw [HFL.out, hmm.2] at this
    exact this
 ·have h0n : (kk != 0) = true := by simp [h0]
  have hRR : R = (kk, d) := by rw [HR.out, appendD, if_pos (by rw [← HKK.out]; exact h0), ← HKK.out]
  subst hRR
  go_wp2_with fail
  change Leaves _ _ _ _ _ _ _
  refine door4 (k := 6) (ea := ea) rfl rfl (HST.out _ (HST.out _ H2.out ea _ HLE.out.2.2.2.2.1 HN.out.2.2.1) ea _ HLE.out.2.2.2.2.1 HN.out.2.2.1).1 HLE.out.2.2.2.2.1 ?_
  exact settle_no ⟨HOK, mb, fl, (HST.out _ (HST.out _ H2.out ea _ HLE.out.2.2.2.2.1 HN.out.2.2.1) ea _ HLE.out.2.2.2.2.1 HN.out.2.2.1).2, HFL.out⟩ h0 (set_same (set_same d_ea))
end Go.Proofs.Ytlkhphhmhffdjaa

namespace Go.Proofs.Ytlkhphhmhffdjaa
open Go.RowKit Go.MapKept
variable {w w' W : World} {O O' : Nat → Prop} {dB : Nat} {d : Dk4}
theorem mpB_new (w : World) : MpB (w.alloc (.map #[] 0)) w.heap.size [] #[] 0 := by
 refine ⟨?_, ⟨by simp, by simp, by simp⟩, rfl⟩
 show (w.heap.push _)[w.heap.size]? = _
 simp
def newD (n : Int) : Dk4 := ⟨[], n, 0, false, fun _ => 0⟩
theorem newD_ok {n : Int} (h0 : 0 ≤ n) (h1 : n ≤ 67108864) : (newD n).Ok := ⟨h0, h1, by simpa [newD, totP] using h0, by simp [newD], by simp [newD], by simp [newD], by simp [newD], by simp [newD], by simp [newD]⟩
set_option maxRecDepth 100000 in
set_option maxHeartbeats 2000000 in
theorem new4_any {n : Int} (h0 : 0 ≤ n) (h1 : n ≤ 67108864) (w : World) : Calls Try.prog 18 #[.int .i64 n] w fun e w' => ∃ O dB, e = .returned (.tuple #[.pointer (some ⟨dB, 0, none⟩), .int .i64 0]) ∧ Dsk w' O dB (newD n) ∧ Below w.heap.size w w' ∧ ∀ i, O i → w.heap.size ≤ i := by
 have i0 : decide (n < 0) = false := by simp; omega
 have i1 : decide ((67108864 : Int) < n) = false := by simp; omega
 have hmm := @run_makeMap Try.prog
 have HO := Lib.hid (newD_ok h0 h1)
 go_enter Try.func18, Try.ntmps18
 go_wp2
 go_ret2
 refine ⟨fun i => i = w.heap.size ∨ i = w.heap.size + 1, w.heap.size + 1, rfl, ?_, ((Below.refl _ _).alloc (Nat.le_refl _) _).alloc (by simp) _, fun i hi => by omega⟩
 have b1 := (Below.refl (w.alloc (.map #[] 0)).heap.size (w.alloc (.map #[] 0))).alloc (Nat.le_refl _) (.cells #[.map (some w.heap.size), .int .i64 n, .int .i64 0, .bool false, .int .i64 0, .int .i64 0, .int .i64 0, .int .i64 0, .int .i64 0, .int .i64 0] 79)
 refine ⟨HO.out, w.heap.size, [], ⟨?_, ⟨_, _, (mpB_new w).kept (b1.block _ (by simp))⟩, by simp, by simp, by simp, .inr rfl, .inl rfl, fun i hi => ?_⟩, rfl⟩
 ·unfold DkBox newD
  have : (w.alloc (.map #[] 0)).heap.size = w.heap.size + 1 := by simp
  rw [← this]
  exact heap_alloc_new (w.alloc (.map #[] 0)) _
 ·simp
  omega
theorem rdy_bad {down : Bool} {s : ByteArray} (h : ¬ DkName s) (hd : down = false) : rdyN down [s] = 40 := by
 subst hd
 unfold rdyN chkN
 rw [if_neg (by simp), if_neg (fun k => h (k s (by simp)))]
theorem create_bad {s : ByteArray} (h : ¬ DkName s) (hd : d.down = false) : createD d s = (40, d) := by
 rw [createD, rdy_bad h hd, if_pos (by decide)]
set_option maxRecDepth 100000 in
theorem free_dsk (hD : Dsk w O dB d) : Calls Try.prog 12 #[.pointer (some ⟨dB, 0, none⟩)] w fun e w' => e = .returned (.int .i64 (d.cap - (totP d.fs : Int))) ∧ Below w.heap.size w w' := by
 obtain ⟨ok, mb, fl, hM, hfl⟩ := hD
 have := free_any hM ok.cap0 ok.cap1 (by rw [hfl]; exact ok.tot)
 rw [hfl] at this
 exact this
def probe4 : ByteArray := ⟨#[112, 114, 111, 98, 101]⟩
end Go.Proofs.Ytlkhphhmhffdjaa

namespace Go.Proofs.Ytlkhphhmhffdjaa
open Go.RowKit Go.MapKept
variable {w w' W X : World} {O O' : Nat → Prop} {dB : Nat} {d : Dk4}
structure Mad (w X : World) (O : Nat → Prop) (dB : Nat) (d : Dk4) : Prop where
 dsk : Dsk X O dB d
 bel : Below w.heap.size w X
 own : ∀ i, O i → w.heap.size ≤ i
theorem Mad.step {r : Int × Dk4} {e : Ending} (h : Mad w X O dB d) (k : AnsD X O dB r e w') : e = .returned (.int .i64 r.1) ∧ ∃ O2, Mad w w' O2 dB r.2 := by
 obtain ⟨h1, O2, h2, h3⟩ := k
 exact ⟨h1, O2, h2, h.bel.trans (h3.below h.bel.size h.own), fun i hi => (h3.new i hi).elim (h.own i) (fun q => Nat.le_trans h.bel.size q)⟩
theorem Mad.later (h : Mad w X O dB d) (k : Below X.heap.size X w') : Mad w w' O dB d := ⟨h.dsk.below k, h.bel.trans (k.mono h.bel.size), h.own⟩
end Go.Proofs.Ytlkhphhmhffdjaa

namespace Go.Proofs.Ytlkhphhmhffdjaa
open Go.RowKit

def laidSort : Go.Shelf.Ren := ⟨fun | 125 => 77 | 128 => 94 | 129 => 95 | 190 => 54 | 258 => 76 | 302 => 85 | 303 => 86 | 304 => 87 | 305 => 88 | 306 => 89 | 307 => 90 | 308 => 91 | 309 => 92 | 310 => 93 | 329 => 98 | 330 => 99 | 333 => 97 | 334 => 100 | 335 => 101 | 336 => 102 | 344 => 103 | n => n, fun | 0 => 0 | 3 => 3 | 4 => 4 | 5 => 5 | 9 => 9 | 31 => 63 | 46 => 116 | 51 => 126 | 53 => 128 | 131 => 123 | 182 => 118 | 183 => 119 | 218 => 131 | 222 => 135 | 228 => 137 | 229 => 110 | n => n, fun n => n⟩
set_option maxRecDepth 100000 in
theorem laysSort : Lays.n190 Try.prog laidSort := {
 mixed := by kernel_rfl,
 f125 := Try.func77.trans (congrArg some (by kernel_rfl)),
 f128 := Try.func94.trans (congrArg some (by kernel_rfl)),
 f129 := Try.func95.trans (congrArg some (by kernel_rfl)),
 f190 := Try.func54.trans (congrArg some (by kernel_rfl)),
 f258 := Try.func76.trans (congrArg some (by kernel_rfl)),
 f302 := Try.func85.trans (congrArg some (by kernel_rfl)),
 f303 := Try.func86.trans (congrArg some (by kernel_rfl)),
 f304 := Try.func87.trans (congrArg some (by kernel_rfl)),
 f305 := Try.func88.trans (congrArg some (by kernel_rfl)),
 f306 := Try.func89.trans (congrArg some (by kernel_rfl)),
 f307 := Try.func90.trans (congrArg some (by kernel_rfl)),
 f308 := Try.func91.trans (congrArg some (by kernel_rfl)),
 f309 := Try.func92.trans (congrArg some (by kernel_rfl)),
 f310 := Try.func93.trans (congrArg some (by kernel_rfl)),
 f329 := Try.func98.trans (congrArg some (by kernel_rfl)),
 f330 := Try.func99.trans (congrArg some (by kernel_rfl)),
 f333 := Try.func97.trans (congrArg some (by kernel_rfl)),
 f334 := Try.func100.trans (congrArg some (by kernel_rfl)),
 f335 := Try.func101.trans (congrArg some (by kernel_rfl)),
 f336 := Try.func102.trans (congrArg some (by kernel_rfl)),
 f344 := Try.func103.trans (congrArg some (by kernel_rfl)),
 t0 := Try.underlying0,
 a0 := Try.isAgg0,
 z0 := Try.sizeOf0,
 v0 := Try.zeroValue0,
 t3 := Try.underlying3,
 a3 := Try.isAgg3,
 z3 := Try.sizeOf3,
 v3 := Try.zeroValue3,
 t4 := Try.underlying4,
 a4 := Try.isAgg4,
 z4 := Try.sizeOf4,
 v4 := Try.zeroValue4,
 t5 := Try.underlying5,
 a5 := Try.isAgg5,
 z5 := Try.sizeOf5,
 v5 := Try.zeroValue5,
 t9 := Try.underlying9,
 a9 := Try.isAgg9,
 z9 := Try.sizeOf9,
 v9 := Try.zeroValue9,
 t31 := Try.underlying63,
 a31 := Try.isAgg63,
 z31 := Try.sizeOf63,
 v31 := Try.zeroValue63,
 t46 := Try.underlying116,
 a46 := Try.isAgg116,
 z46 := Try.sizeOf116,
 v46 := Try.zeroValue116,
 t51 := Try.underlying126,
 a51 := Try.isAgg126,
 z51 := Try.sizeOf126,
 v51 := Try.zeroValue126,
 t53 := Try.underlying128,
 a53 := Try.isAgg128,
 z53 := Try.sizeOf128,
 v53 := Try.zeroValue128,
 t131 := Try.underlying123,
 a131 := Try.isAgg123,
 z131 := Try.sizeOf123,
 v131 := Try.zeroValue123,
 t182 := Try.underlying118,
 a182 := Try.isAgg118,
 z182 := Try.sizeOf118,
 v182 := Try.zeroValue118,
 t183 := Try.underlying119,
 a183 := Try.isAgg119,
 z183 := Try.sizeOf119,
 v183 := Try.zeroValue119,
 t218 := Try.underlying131,
 a218 := Try.isAgg131,
 z218 := Try.sizeOf131,
 v218 := Try.zeroValue131,
 t222 := Try.underlying135,
 a222 := Try.isAgg135,
 z222 := Try.sizeOf135,
 v222 := Try.zeroValue135,
 t228 := Try.underlying137,
 a228 := Try.isAgg137,
 z228 := Try.sizeOf137,
 v228 := Try.zeroValue137,
 t229 := Try.underlying110,
 a229 := Try.isAgg110,
 z229 := Try.sizeOf110,
 v229 := Try.zeroValue110 }
end Go.Proofs.Ytlkhphhmhffdjaa
