import Derived.Test.YtieehdhinponcaaJ01
import Derived.Deep.RegionHeld3
import Derived.BigRegion
namespace Go.Proofs.Ytieehdhinponcaa
open Go.RowKit
set_option linter.unusedVariables false

theorem chain32b (a b c d : Nat) (ha : a < 256) (hb : b < 256) (hc : c < 256) (hd : d < 256) :
    bits .or .u32 (bits .or .u32 (bits .or .u32 ((a : Int) * 16777216) ((b : Int) * 65536)) ((c : Int) * 256)) (d : Int) = ((rdle d c b a : Nat) : Int) := by
  have e1 := or32 (a * 16777216) (b * 65536) (by omega) (by omega) ((a : Int) * 16777216) ((b : Int) * 65536) (by omega) (by omega)
  have l1 : a * 16777216 ||| b * 65536 < 4294967296 := Nat.or_lt_two_pow (n := 32) (by omega) (by omega)
  have e2 := or32 (a * 16777216 ||| b * 65536) (c * 256) l1 (by omega) _ ((c : Int) * 256) e1 (by omega)
  have l2 : a * 16777216 ||| b * 65536 ||| c * 256 < 4294967296 := Nat.or_lt_two_pow (n := 32) l1 (by omega)
  have e3 := or32 (a * 16777216 ||| b * 65536 ||| c * 256) d l2 (by omega) _ (d : Int) e2 (by omega)
  rw [e3]
  have k1 : a * 16777216 ||| b * 65536 = a * 16777216 + b * 65536 := by
    rw [show a * 16777216 = 2 ^ 24 * a by omega, ← Nat.two_pow_add_eq_or_of_lt (show b * 65536 < 2 ^ 24 by omega)]
  have k2 : (a * 16777216 + b * 65536) ||| c * 256 = a * 16777216 + b * 65536 + c * 256 := by
    rw [show a * 16777216 + b * 65536 = 2 ^ 16 * (a * 256 + b) by omega, ← Nat.two_pow_add_eq_or_of_lt (show c * 256 < 2 ^ 16 by omega)]
  have k3 : (a * 16777216 + b * 65536 + c * 256) ||| d = a * 16777216 + b * 65536 + c * 256 + d := by
    rw [show a * 16777216 + b * 65536 + c * 256 = 2 ^ 8 * (a * 65536 + b * 256 + c) by omega, ← Nat.two_pow_add_eq_or_of_lt (show d < 2 ^ 8 by omega)]
  rw [k1, k2, k3]
  unfold rdle
  omega
set_option maxRecDepth 100000 in
set_option maxHeartbeats 4000000 in
theorem readShape_any {v : Value} {L : List Nat} {w : World} (hr : Rd w v L) :
    Calls Try.prog 38 #[v] w fun e w' => ∃ p m : Nat, e = .returned (.tuple #[shV p m, .bool (good L)]) ∧ (good L = true → p = pIn L ∧ m = mIn L) ∧ p < 256 ∧ m < 4294967296 ∧ Below w.heap.size w w' := by
  obtain ⟨hby, a, cap, rfl, hle, hm, hl48, hnone, hat⟩ := hr
  obtain ⟨g, hg⟩ : ∃ g, g = good L := ⟨_, rfl⟩
  rw [← hg]
  by_cases h6 : 6 ≤ L.length
  · rcases hat with rfl | ⟨b, off, rfl, hc⟩
    · simp at h6
    have h0 := hby.get 0
    have h1 := hby.get 1
    have h2 := hby.get 2
    have h3 := hby.get 3
    have h4 := hby.get 4
    have h5 := hby.get 5
    have bel := (Below.refl _ w).alloc (Nat.le_refl _) (.cells #[.int .u8 0, .int .u32 0] 59)
    have cc : ∀ i, i < L.length → (w.alloc (.cells #[.int .u8 0, .int .u32 0] 59)).cell? ⟨b, off + i, none⟩ = some (.int .u8 ((L.getD i 0 : Nat) : Int)) := fun i hi => by
      rw [bel.cell (p := ⟨b, off + i, none⟩) (World.block_lt_of_cell? w _ (hc i hi))]; exact hc i hi
    have c0 := cc 0 (by omega)
    have c1 := cc 1 (by omega)
    have c2 := cc 2 (by omega)
    have c3 := cc 3 (by omega)
    have c4 := cc 4 (by omega)
    have c5 := cc 5 (by omega)
    simp only [Nat.add_zero] at c0
    clear hc hnone cc bel
    have hg2 : g = decide (L.getD 0 0 = 66 ∧ mayN (L.getD 1 0) (rdle (L.getD 5 0) (L.getD 4 0) (L.getD 3 0) (L.getD 2 0)) = true ∧ L.length = 6 + rdle (L.getD 5 0) (L.getD 4 0) (L.getD 3 0) (L.getD 2 0) / 8) := by
      have e : mIn L = rdle (L.getD 5 0) (L.getD 4 0) (L.getD 3 0) (L.getD 2 0) := by unfold mIn rdle; omega
      rw [hg]
      unfold good mayN
      rw [e, decide_eq_decide]
      simp only [decide_eq_true_eq]
      unfold pIn
      exact ⟨fun ⟨_, x, y, z⟩ => ⟨x, y, z⟩, fun ⟨x, y, z⟩ => ⟨h6, x, y, z⟩⟩
    have hpm : pIn L = L.getD 1 0 ∧ mIn L = rdle (L.getD 5 0) (L.getD 4 0) (L.getD 3 0) (L.getD 2 0) := ⟨rfl, by unfold mIn rdle; omega⟩
    rw [hpm.1, hpm.2]
    clear hpm hg
    generalize L.length = n at *
    generalize L.getD 0 0 = x0 at *
    generalize L.getD 1 0 = x1 at *
    generalize L.getD 2 0 = x2 at *
    generalize L.getD 3 0 = x3 at *
    generalize L.getD 4 0 = x4 at *
    generalize L.getD 5 0 = x5 at *
    have HG : Hid (g = decide (x0 = 66 ∧ mayN x1 (rdle x5 x4 x3 x2) = true ∧ n = 6 + rdle x5 x4 x3 x2 / 8)) := hg2
    clear hg2
    have g0 : (0 : Int) < (n : Int) := by omega
    have g1 : (1 : Int) < (n : Int) := by omega
    have g2 : (2 : Int) < (n : Int) := by omega
    have g3 : (3 : Int) < (n : Int) := by omega
    have g4 : (4 : Int) < (n : Int) := by omega
    have g5 : (5 : Int) < (n : Int) := by omega
    have ml := rdle_lt x5 x4 x3 x2 h5 h4 h3 h2
    by_cases hx : x0 = 66
    · subst hx
      have c1' := c1
      have KS : Hid (∀ wx, Below (w.heap.size + 1) (w.alloc (.cells #[.int .u8 0, .int .u32 0] 59)) wx → (wx.cell? ⟨b, off + 1, none⟩ = some (.int .u8 (x1 : Int)) ∧ wx.cell? ⟨b, off + 2, none⟩ = some (.int .u8 (x2 : Int)) ∧ wx.cell? ⟨b, off + 3, none⟩ = some (.int .u8 (x3 : Int)) ∧ wx.cell? ⟨b, off + 4, none⟩ = some (.int .u8 (x4 : Int)) ∧ wx.cell? ⟨b, off + 5, none⟩ = some (.int .u8 (x5 : Int)))) := fun wx hb => by
        have hlt : b < w.heap.size + 1 := by have := World.block_lt_of_cell? _ _ c1; simpa using this
        refine ⟨?_, ?_, ?_, ?_, ?_⟩
        · exact (hb.cell (p := ⟨b, off + 1, none⟩) hlt).trans c1
        · exact (hb.cell (p := ⟨b, off + 2, none⟩) hlt).trans c2
        · exact (hb.cell (p := ⟨b, off + 3, none⟩) hlt).trans c3
        · exact (hb.cell (p := ⟨b, off + 4, none⟩) hlt).trans c4
        · exact (hb.cell (p := ⟨b, off + 5, none⟩) hlt).trans c5
      have D0 : Below (w.heap.size + 1) (w.alloc (.cells #[.int .u8 0, .int .u32 0] 59)) (w.alloc (.cells #[.int .u8 0, .int .u32 0] 59)).drew := (Below.refl _ _).drew
      have D1 : ∀ v, Below (w.heap.size + 1) (w.alloc (.cells #[.int .u8 0, .int .u32 0] 59)) ((w.alloc (.cells #[.int .u8 0, .int .u32 0] 59)).alloc (.cells v 59)).drew := fun v => ((Below.refl _ _).alloc (by simp) _).drew
      clear c1'
      have chw : bits .or .u32 (bits .or .u32 (bits .or .u32 (IntKind.u32.wrap (IntKind.u32.wrap (x2 : Int) * 16777216)) (IntKind.u32.wrap (IntKind.u32.wrap (x3 : Int) * 65536))) (IntKind.u32.wrap (IntKind.u32.wrap (x4 : Int) * 256))) (IntKind.u32.wrap (x5 : Int)) = ((rdle x5 x4 x3 x2 : Nat) : Int) := by
        rw [← chain32b x2 x3 x4 x5 h2 h3 h4 h5]
        have e : ∀ z : Int, 0 ≤ z → z < 4294967296 → IntKind.u32.wrap z = z := fun z h1 h2 => by rw [IntKind.wrap_u32]; omega
        rw [e (x2 : Int) (by omega) (by omega), e (x3 : Int) (by omega) (by omega), e (x4 : Int) (by omega) (by omega), e (x5 : Int) (by omega) (by omega), e _ (by omega) (by omega), e _ (by omega) (by omega), e _ (by omega) (by omega)]
      generalize rdle x5 x4 x3 x2 = M at *
      have CHW : Hid (bits .or .u32 (bits .or .u32 (bits .or .u32 (IntKind.u32.wrap (IntKind.u32.wrap (x2 : Int) * 16777216)) (IntKind.u32.wrap (IntKind.u32.wrap (x3 : Int) * 65536))) (IntKind.u32.wrap (IntKind.u32.wrap (x4 : Int) * 256))) (IntKind.u32.wrap (x5 : Int)) = (M : Int)) := chw
      clear chw
      have hgr : g = (mayN x1 M && decide (n = 6 + M / 8)) := by rw [HG.out]; cases mayN x1 M <;> simp
      clear HG
      have HGR : Hid (g = (mayN x1 M && decide (n = 6 + M / 8))) := hgr
      clear hgr
      go_enter Try.func38, Try.ntmps38
      go_wp2
      go_region_held3 (fun wx => wx.cell? ⟨b, off + 1, none⟩ = some (.int .u8 (x1 : Int)) ∧ wx.cell? ⟨b, off + 2, none⟩ = some (.int .u8 (x2 : Int)) ∧ wx.cell? ⟨b, off + 3, none⟩ = some (.int .u8 (x3 : Int)) ∧ wx.cell? ⟨b, off + 4, none⟩ = some (.int .u8 (x4 : Int)) ∧ wx.cell? ⟨b, off + 5, none⟩ = some (.int .u8 (x5 : Int))) (first | exact KS.out _ D0 | exact KS.out _ (D1 _)) (fail)
      simp only [CHW.out]
      clear CHW KS D0 D1 c0 c1 c2 c3 c4 c5
      obtain ⟨W2, hW2⟩ : ∃ W2, W2 = ((w.alloc (.cells #[.int .u8 0, .int .u32 0] 59)).alloc (.cells #[.int .u8 (x1 : Int), .int .u32 (M : Int)] 59)).drew := ⟨_, rfl⟩
      have y0 : W2.cell? ⟨w.heap.size + 1, 0, none⟩ = some (.int .u8 (x1 : Int)) := by rw [hW2]; go_simp
      have y1 : W2.cell? ⟨w.heap.size + 1, 1, none⟩ = some (.int .u32 (M : Int)) := by rw [hW2]; go_simp
      have z0 : W2.cell? ⟨w.heap.size, 0, none⟩ = some (.int .u8 0) := by rw [hW2]; go_simp
      have z1 : W2.cell? ⟨w.heap.size, 1, none⟩ = some (.int .u32 0) := by rw [hW2]; go_simp
      have q0 : W2.frozen? ⟨w.heap.size, 0, none⟩ = false := by rw [hW2]; go_simp
      have q1 : W2.frozen? ⟨w.heap.size, 1, none⟩ = false := by rw [hW2]; go_simp
      have bw : Below w.heap.size w W2 := by rw [hW2]; exact (((Below.refl _ _).alloc (Nat.le_refl _) _).alloc (by simp) _).drew
      rw [← hW2]
      have szW : w.heap.size + 1 < W2.heap.size := by rw [hW2]; simp
      have szV : w.heap.size < W2.heap.size := by omega
      clear hW2
      cases hmay : mayN x1 M with
      | false =>
        have HM : Calls Try.prog 49 #[.agg #[.int .u8 (x1 : Int), .int .u32 (M : Int)]] W2.drew fun e w' => e = .returned (.bool false) ∧ Below W2.heap.size W2 w' := by
          have := may_any x1 M h1 ml W2.drew
          rw [hmay] at this
          exact this.mono fun e w' h => ⟨h.1, (Below.refl _ _).drew.trans h.2⟩
        have HM' : Hid _ := HM
        clear HM
        go_wp2
        refine wp_region_noPanic ?_
        refine wp_region_held_drew (S := fun wx => wx.cell? ⟨w.heap.size + 1, 0, none⟩ = some (.int .u8 (x1 : Int)) ∧ wx.cell? ⟨w.heap.size + 1, 1, none⟩ = some (.int .u32 (M : Int))) (by kernel_rfl) ⟨y0, y1⟩ (fun hHeld => ?_)
        refine wpAnyH_take (i := 0) (oi := { dst := some 41, op := _, type := _, pos := _, after := _, guard := _ }) (v := .agg #[.int .u8 (x1 : Int), .int .u32 (M : Int)]) rfl (by kernel_rfl) (by kernel_rfl) (by kernel_rfl) (fun _ _ _ h => h) (Or.inl ⟨by kernel_rfl, fun wy hy => by (obtain ⟨hy0, hy1⟩ := hy; go_simp)⟩) (by assumption) ?_
        try simp only [Act.put, List.setIfInBounds_toArray, List.set_cons_zero, List.set_cons_succ]
        refine wpAnyH_take (i := 1) (oi := { dst := some 42, op := _, type := _, pos := _, after := _, guard := _ }) (v := .agg #[.int .u8 (x1 : Int), .int .u32 (M : Int)]) rfl (by kernel_rfl) (by kernel_rfl) (by kernel_rfl) (fun _ _ _ h => h) (Or.inl ⟨by kernel_rfl, fun wy hy => by (obtain ⟨hy0, hy1⟩ := hy; go_simp)⟩) (by assumption) ?_
        try simp only [Act.put, List.setIfInBounds_toArray, List.set_cons_zero, List.set_cons_succ]
        refine wpAnyH_ready (rs := [2]) (by kernel_rfl) (by simp) ?_
        refine AllReadyH.cons (o := { dst := some 43, op := _, type := _, pos := _, after := _, guard := _ }) rfl (fun K hK => ?_) AllReadyH.nil
        go_simp
        go_at_call 49
        refine Calls.mono HM'.out ?_
        rintro e1 w1 ⟨rfl, b1⟩
        have p0 := (b1.cell (p := ⟨w.heap.size + 1, 0, none⟩) szW).trans y0
        have p1 := (b1.cell (p := ⟨w.heap.size + 1, 1, none⟩) szW).trans y1
        have r0 := (b1.cell (p := ⟨w.heap.size, 0, none⟩) szV).trans z0
        have r1 := (b1.cell (p := ⟨w.heap.size, 1, none⟩) szV).trans z1
        have t0 := (b1.frozen (p := ⟨w.heap.size, 0, none⟩) szV).trans q0
        have t1 := (b1.frozen (p := ⟨w.heap.size, 1, none⟩) szV).trans q1
        go_wp2_with fail
        refine hK.out _ _ ⟨p0, p1⟩ (fun hHeld => ?_)
        clear hK K
        try simp only [Act.put, List.setIfInBounds_toArray, List.set_cons_zero, List.set_cons_succ]
        refine wpAnyH_take (i := 3) (oi := { dst := some 44, op := _, type := _, pos := _, after := _, guard := _ }) (v := .bool false) rfl (by kernel_rfl) (by kernel_rfl) (by kernel_rfl) (fun _ _ _ h => h) (Or.inl ⟨by kernel_rfl, fun wy hy => by (obtain ⟨hy0, hy1⟩ := hy; go_simp)⟩) (by assumption) ?_
        try simp only [Act.put, List.setIfInBounds_toArray, List.set_cons_zero, List.set_cons_succ]
        refine wpAnyH_take (i := 4) (oi := { dst := some 45, op := _, type := _, pos := _, after := _, guard := _ }) (v := undef) rfl (by kernel_rfl) (by kernel_rfl) (by kernel_rfl) (fun _ _ _ h => h) (Or.inr ⟨by kernel_rfl, rfl⟩) (by assumption) ?_
        try simp only [Act.put, List.setIfInBounds_toArray, List.set_cons_zero, List.set_cons_succ]
        refine wpAnyH_take (i := 5) (oi := { dst := some 46, op := _, type := _, pos := _, after := _, guard := _ }) (v := undef) rfl (by kernel_rfl) (by kernel_rfl) (by kernel_rfl) (fun _ _ _ h => h) (Or.inr ⟨by kernel_rfl, rfl⟩) (by assumption) ?_
        try simp only [Act.put, List.setIfInBounds_toArray, List.set_cons_zero, List.set_cons_succ]
        refine wpAnyH_take (i := 6) (oi := { dst := some 47, op := _, type := _, pos := _, after := _, guard := _ }) (v := undef) rfl (by kernel_rfl) (by kernel_rfl) (by kernel_rfl) (fun _ _ _ h => h) (Or.inr ⟨by kernel_rfl, rfl⟩) (by assumption) ?_
        try simp only [Act.put, List.setIfInBounds_toArray, List.set_cons_zero, List.set_cons_succ]
        refine wpAnyH_take (i := 7) (oi := { dst := some 48, op := _, type := _, pos := _, after := _, guard := _ }) (v := undef) rfl (by kernel_rfl) (by kernel_rfl) (by kernel_rfl) (fun _ _ _ h => h) (Or.inr ⟨by kernel_rfl, rfl⟩) (by assumption) ?_
        try simp only [Act.put, List.setIfInBounds_toArray, List.set_cons_zero, List.set_cons_succ]
        refine wpAnyH_take (i := 8) (oi := { dst := some 49, op := _, type := _, pos := _, after := _, guard := _ }) (v := undef) rfl (by kernel_rfl) (by kernel_rfl) (by kernel_rfl) (fun _ _ _ h => h) (Or.inr ⟨by kernel_rfl, rfl⟩) (by assumption) ?_
        try simp only [Act.put, List.setIfInBounds_toArray, List.set_cons_zero, List.set_cons_succ]
        refine wpAnyH_take (i := 9) (oi := { dst := some 50, op := _, type := _, pos := _, after := _, guard := _ }) (v := .bool false) rfl (by kernel_rfl) (by kernel_rfl) (by kernel_rfl) (fun _ _ _ h => h) (Or.inl ⟨by kernel_rfl, fun wy hy => by (obtain ⟨hy0, hy1⟩ := hy; go_simp)⟩) (by assumption) ?_
        try simp only [Act.put, List.setIfInBounds_toArray, List.set_cons_zero, List.set_cons_succ]
        refine wpAnyH_ready (rs := [10]) (by kernel_rfl) (by simp) ?_
        refine AllReadyH.cons (o := { dst := none, op := _, type := _, pos := _, after := _, guard := _ }) rfl (fun K hK => ?_) AllReadyH.nil
        go_simp
        refine hK.out _ _ ⟨by first | exact p0 | go_simp, by first | exact p1 | go_simp⟩ (fun hHeld => ?_)
        clear hK K
        try simp only [Act.put, List.setIfInBounds_toArray, List.set_cons_zero, List.set_cons_succ]
        refine wpAnyH_take (i := 11) (oi := { dst := some 3, op := _, type := _, pos := _, after := _, guard := _ }) (v := .bool false) rfl (by kernel_rfl) (by kernel_rfl) (by kernel_rfl) (fun _ _ _ h => h) (Or.inl ⟨by kernel_rfl, fun wy hy => by (obtain ⟨hy0, hy1⟩ := hy; go_simp)⟩) (by assumption) ?_
        try simp only [Act.put, List.setIfInBounds_toArray, List.set_cons_zero, List.set_cons_succ]
        refine wpAnyH_done (by kernel_rfl) ?_ _
        refine NoPanic.normal ?_
        go_wp2
        have hgf : g = false := by rw [HGR.out, hmay]; rfl
        refine bodyPost_ret (v := .tuple #[shV x1 M, .bool g]) ?_ rfl ⟨x1, M, rfl, fun h => ⟨rfl, rfl⟩, h1, ml, ((bw.trans (b1.mono (Nat.le_of_lt szV))).setCell (p := ⟨w.heap.size, 0, none⟩) (Nat.le_refl _) _).setCell (p := ⟨w.heap.size, 1, none⟩) (Nat.le_refl _) _⟩
        rw [hgf]
        unfold shV
        simp [results, Try.results38, go_sem, r0, r1]
      | true =>
        have HM' : Hid (Calls Try.prog 49 #[.agg #[.int .u8 (x1 : Int), .int .u32 (M : Int)]] W2.drew fun e w' => e = .returned (.bool true) ∧ Below W2.heap.size W2 w') := by
          have := may_any x1 M h1 ml W2.drew
          rw [hmay] at this
          exact this.mono fun e w' h => ⟨h.1, (Below.refl _ _).drew.trans h.2⟩
        have HS' : Hid (∀ wx, Calls Try.prog 47 #[.agg #[.int .u8 (x1 : Int), .int .u32 (M : Int)]] wx fun e w' => e = .returned (.int .i64 ((6 + M / 8 : Nat) : Int)) ∧ Below wx.heap.size wx w') := fun wx => size_any x1 M ml wx
        have y0d : W2.drew.cell? ⟨w.heap.size + 1, 0, none⟩ = some (.int .u8 (x1 : Int)) := y0
        have y1d : W2.drew.cell? ⟨w.heap.size + 1, 1, none⟩ = some (.int .u32 (M : Int)) := y1
        go_wp2
        go_region_held3 (fun wx => wx.cell? ⟨w.heap.size + 1, 0, none⟩ = some (.int .u8 (x1 : Int)) ∧ wx.cell? ⟨w.heap.size + 1, 1, none⟩ = some (.int .u32 (M : Int))) (first | exact ⟨y0d, y1d⟩ | exact ⟨p0, p1⟩ | exact ⟨p0', p1'⟩ | exact ⟨by go_simp, by go_simp⟩) (first | (go_at_call 49; refine Calls.mono HM'.out ?_; rintro e1 w1 ⟨rfl, b1⟩; have p0 := (b1.cell (p := ⟨w.heap.size + 1, 0, none⟩) szW).trans y0; have p1 := (b1.cell (p := ⟨w.heap.size + 1, 1, none⟩) szW).trans y1; have sz1 := b1.size) | (go_at_call 47; refine Calls.mono (HS'.out _) ?_; rintro e2 w2 ⟨rfl, b2⟩; have b12 := b1.trans (b2.mono sz1); have p0' := (b12.cell (p := ⟨w.heap.size + 1, 0, none⟩) szW).trans y0; have p1' := (b12.cell (p := ⟨w.heap.size + 1, 1, none⟩) szW).trans y1; have r0 := (b12.cell (p := ⟨w.heap.size, 0, none⟩) szV).trans z0; have r1 := (b12.cell (p := ⟨w.heap.size, 1, none⟩) szV).trans z1; have t0 := (b12.frozen (p := ⟨w.heap.size, 0, none⟩) szV).trans q0; have t1 := (b12.frozen (p := ⟨w.heap.size, 1, none⟩) szV).trans q1))
        go_wp2
        have hgf : g = decide (n = 6 + M / 8) := by rw [HGR.out, hmay]; rfl
        refine bodyPost_ret (v := .tuple #[shV x1 M, .bool g]) ?_ rfl ⟨x1, M, rfl, fun h => ⟨rfl, rfl⟩, h1, ml, ((bw.trans (b12.mono (Nat.le_of_lt szV))).setCell (p := ⟨w.heap.size, 0, none⟩) (Nat.le_refl _) _).setCell (p := ⟨w.heap.size, 1, none⟩) (Nat.le_refl _) _⟩
        rw [hgf]
        unfold shV
        simp [results, Try.results38, go_sem, r0, r1]
        rw [Bool.eq_iff_iff]
        simp
        omega
    · have hx2 : ((x0 : Int) != 66) = true := by simp; omega
      have hx3 : decide ((n : Int) < 6) = false := by simp; omega
      have hgf : g = false := by rw [HG.out]; simp [hx]
      rw [hgf]
      clear HG hgf c1 c2 c3 c4 c5
      go_enter Try.func38, Try.ntmps38
      go_wp2
      refine bodyPost_ret (v := .tuple #[shV 0 0, .bool false]) ?_ rfl ⟨0, 0, rfl, (fun h => by cases h), by decide, by decide, (Below.refl _ _).alloc (Nat.le_refl _) _⟩
      unfold shV
      simp [results, Try.results38, go_sem]
  · have h62 : (L.length : Int) < 6 := by omega
    have hgf : g = false := by rw [hg]; unfold good; simp; omega
    rw [hgf]
    clear hg hgf
    go_enter Try.func38, Try.ntmps38
    go_wp2
    refine bodyPost_ret (v := .tuple #[shV 0 0, .bool false]) ?_ rfl ⟨0, 0, rfl, (fun h => by cases h), by decide, by decide, (Below.refl _ _).alloc (Nat.le_refl _) _⟩
    unfold shV
    simp [results, Try.results38, go_sem]
end Go.Proofs.Ytieehdhinponcaa

namespace Go.Proofs.Ytieehdhinponcaa
open Go.RowKit
set_option linter.unusedVariables false

theorem bv_empty (p m N : Nat) (hN : N = 6 + m / 8) : bv (filt p m (fun _ => false)) = ((((((List.replicate N (Value.int .u8 0)).set 0 (.int .u8 66)).set 1 (.int .u8 (p : Int))).set 2 (.int .u8 ((m : Int) / 16777216))).set 3 (.int .u8 ((m : Int) / 65536 % 256))).set 4 (.int .u8 ((m : Int) / 256 % 256))).set 5 (.int .u8 ((m : Int) % 256)) := by
  obtain ⟨k, rfl⟩ : ∃ k, N = k + 6 := ⟨N - 6, by omega⟩
  have hk : k = m / 8 := by omega
  have hbody : bodyS m (fun _ => false) = List.replicate k 0 := by
    unfold bodyS
    rw [← hk]
    apply List.ext_getElem
    · simp
    · intro j h1 h2
      simp [byteS_eq, byte8]
  unfold filt
  rw [hbody, bv_append]
  simp [bv, headL, List.replicate_succ]

set_option maxRecDepth 100000 in
set_option maxHeartbeats 4000000 in
theorem empty_any (p m : Nat) (hp : p < 256) (hm : m < 4294967296) (w : World) :
    Calls Try.prog 35 #[shV p m] w fun e w' => ∃ g c, e = .returned (.slice (some ⟨g, 0, none⟩) (6 + m / 8) c) ∧ Own w' w.heap.size (.slice (some ⟨g, 0, none⟩) (6 + m / 8) c) (6 + m / 8) (filt p m (fun _ => false)) ∧ Below w.heap.size w w' := by
  obtain ⟨i0, hi, hz0, hz1, hz2⟩ := info_parts info_byte
  have HS' : Hid (∀ wx, Calls Try.prog 47 #[.agg #[.int .u8 (p : Int), .int .u32 (m : Int)]] wx fun e w' => e = .returned (.int .i64 ((6 + m / 8 : Nat) : Int)) ∧ Below wx.heap.size wx w') := fun wx => size_any p m hm wx
  obtain ⟨N, hN⟩ : ∃ N, N = 6 + m / 8 := ⟨_, rfl⟩
  rw [← hN] at HS' ⊢
  have hN6 : 6 ≤ N := by omega
  have hNl : N ≤ 1073741824 := by omega
  have HN : Hid (N = 6 + m / 8) := hN
  clear hN
  unfold shV
  go_enter Try.func35, Try.ntmps35
  go_wp2_with (first | (go_at_call 47; refine Calls.mono (HS'.out _) ?_; rintro e1 w1 ⟨rfl, b1⟩) | (at_make; refine wpList_make_full _ rfl _ _ 24 rfl w.heap.size 5 i0 (.int .u8 0) 1 und_bytes hi hz0 hz1 .i64 .i64 _ _ N rfl rfl rfl rfl (by rw [hz2]; omega) (by unfold maxLen; omega) (by have := b1.size; simp at this; omega) ?_; intro w2 own2 gr2))
  have b12 : Below w.heap.size w w2 := (((Below.refl _ w).alloc (Nat.le_refl _) _).trans (b1.mono (by simp))).trans ((Below.refl _ w1).grown gr2 (by have := b1.size; simp at this; omega) (fun k hk => by cases hk))
  have s0 : w2.cell? ⟨w.heap.size, 0, none⟩ = some (.int .u8 (p : Int)) := by
    have h1 : w1.cell? ⟨w.heap.size, 0, none⟩ = some (.int .u8 (p : Int)) := (b1.cell (p := ⟨w.heap.size, 0, none⟩) (by simp)).trans (by go_simp)
    rw [← h1]
    exact World.cell?_of_block (gr2.block _ (show w.heap.size < w1.heap.size by have := b1.size; simp at this; omega) (by simp))
  have s1 : w2.cell? ⟨w.heap.size, 1, none⟩ = some (.int .u32 (m : Int)) := by
    have h1 : w1.cell? ⟨w.heap.size, 1, none⟩ = some (.int .u32 (m : Int)) := (b1.cell (p := ⟨w.heap.size, 1, none⟩) (by simp)).trans (by go_simp)
    rw [← h1]
    exact World.cell?_of_block (gr2.block _ (show w.heap.size < w1.heap.size by have := b1.size; simp at this; omega) (by simp))
  have hg1 : ¬ (w1.heap.size = w.heap.size) := by have := b1.size; simp at this; omega
  have hg2 : ¬ (w.heap.size = w1.heap.size) := by omega
  clear gr2 b1
  generalize w1.heap.size = g at *
  have zz : ∀ j, j < 6 → w2.cell? ⟨g, j, none⟩ = some (.int .u8 0) := fun j hj => by
    rw [own2.cellAt j (by omega)]
    have e : (madeCells (Value.int .u8 0).cells (N * 1)).toList = List.replicate (N * 1) (.int .u8 0) := toList_madeCells_one _ _
    rw [e, List.getElem?_replicate, if_pos (by omega)]
  have ff : ∀ j, w2.frozen? ⟨g, j, none⟩ = false := fun j => own2.frozenAt j
  have c0 := zz 0 (by omega)
  have c1 := zz 1 (by omega)
  have c2 := zz 2 (by omega)
  have c3 := zz 3 (by omega)
  have c4 := zz 4 (by omega)
  have c5 := zz 5 (by omega)
  have f0 := ff 0
  have f1 := ff 1
  have f2 := ff 2
  have f3 := ff 3
  have f4 := ff 4
  have f5 := ff 5
  clear zz ff
  have g0 : (0 : Int) < (N : Int) := by omega
  have g1 : (1 : Int) < (N : Int) := by omega
  have g2 : (2 : Int) < (N : Int) := by omega
  have g3 : (3 : Int) < (N : Int) := by omega
  have g4 : (4 : Int) < (N : Int) := by omega
  have g5 : (5 : Int) < (N : Int) := by omega
  have OWN : Hid (w2.ownsRow w.heap.size 5 1 (.slice (some ⟨g, 0, none⟩) N N) N (List.replicate N (.int .u8 0))) := by
    have e : (madeCells (Value.int .u8 0).cells (N * 1)).toList = List.replicate (N * 1) (.int .u8 0) := toList_madeCells_one _ _
    rw [e, Nat.mul_one] at own2
    exact own2
  clear own2
  go_wp2
  go_region
  go_wp2
  go_region
  go_wp2
  go_ret
  have o0 := OWN.out.stored 0 (.int .u8 66)
  have o1 := o0.1.stored 1 (.int .u8 (p : Int))
  have o2 := o1.1.stored 2 (.int .u8 ((m : Int) / 16777216))
  have o3 := o2.1.stored 3 (.int .u8 ((m : Int) / 65536 % 256))
  have o4 := o3.1.stored 4 (.int .u8 ((m : Int) / 256 % 256))
  have o5 := o4.1.stored 5 (.int .u8 ((m : Int) % 256))
  have hBg : w.heap.size ≤ g := by
    rcases OWN.out.2 with ⟨h', _⟩ | ⟨g', cap', cur, h', hb, _⟩
    · simp at h'
    · simp only [Value.slice.injEq, Option.some.injEq, Addr.mk.injEq, and_true, true_and] at h'
      obtain ⟨rfl, _⟩ := h'
      exact hb
  rw [← bv_empty p m N HN.out] at o5
  have oo : Own _ w.heap.size _ N (filt p m (fun _ => false)) := ⟨by rw [filt_length]; exact HN.out, o5.1⟩
  refine ⟨g, N, rfl, (oo.later (Below.refl _ _).drew).later (Below.refl _ _).drew, ?_⟩
  · exact (((((((b12.setCell (p := ⟨g, 0, none⟩) hBg _).setCell (p := ⟨g, 1, none⟩) hBg _).setCell (p := ⟨g, 2, none⟩) hBg _).setCell (p := ⟨g, 3, none⟩) hBg _).setCell (p := ⟨g, 4, none⟩) hBg _).setCell (p := ⟨g, 5, none⟩) hBg _).drew).drew
end Go.Proofs.Ytieehdhinponcaa

namespace Go.Proofs.Ytieehdhinponcaa
open Go.RowKit
set_option linter.unusedVariables false

set_option maxRecDepth 100000 in
theorem alike_any {a b : Value} {xs ys : List Nat} {w : World} (ha : Rd w a xs) (hb : Rd w b ys) :
    Calls Try.prog 18 #[a, b] w fun e w' => e = .returned (.bool (decide (xs = ys))) ∧ w' = w := by
  have h1 := conv_str ha
  have h2 := conv_str hb
  go_enter Try.func18, Try.ntmps18
  go_wp2
  go_ret
  exact ⟨by rw [← beq_str ha.1 hb.1]; rfl, rfl⟩

def chkE (L : List Nat) : Nat := if good L then 0 else 62
set_option maxRecDepth 100000 in
set_option maxHeartbeats 400000 in
theorem check_any {v : Value} {L : List Nat} {w : World} (hr : Rd w v L) :
    Calls Try.prog 17 #[v] w fun e w' => e = .returned (.int .i64 ((chkE L : Nat) : Int)) ∧ Below w.heap.size w w' := by
  have HR : Hid (∃ g, g = good L ∧ Calls Try.prog 38 #[v] w fun e w' => ∃ p m : Nat, e = .returned (.tuple #[.agg #[.int .u8 (p : Int), .int .u32 (m : Int)], .bool g]) ∧ Below w.heap.size w w') :=
    ⟨_, rfl, (readShape_any hr).mono fun e w' ⟨p, m, h1, _, _, _, h5⟩ => ⟨p, m, h1, h5⟩⟩
  obtain ⟨g, hg, HC⟩ := HR.out
  have HC' : Hid _ := HC
  unfold chkE
  rw [← hg]
  clear hg HC HR
  obtain ⟨a, n, cap, rfl⟩ : ∃ a n cap, v = .slice a n cap := by obtain ⟨_, a1, c1, h2, _⟩ := hr; exact ⟨_, _, _, h2⟩
  clear hr
  cases g
  all_goals go_enter Try.func17, Try.ntmps17
  all_goals go_wp2_with (go_at_call 38; refine Calls.mono HC'.out ?_; rintro e1 w1 ⟨p, m, rfl, b1⟩)
  all_goals go_ret
  all_goals exact ⟨rfl, b1.alloc b1.size _⟩

set_option maxRecDepth 100000 in
set_option maxHeartbeats 400000 in
theorem count_any (x : Nat) (hx : x < 256) (w : World) :
    Calls Try.prog 40 #[.int .u8 (x : Int)] w fun e w' => e = .returned (.int .i64 ((onesN x : Nat) : Int)) ∧ w' = w := by
  obtain ⟨y, rfl⟩ : ∃ y : Fin 256, y.val = x := ⟨⟨x, hx⟩, rfl⟩
  go_enter Try.func40, Try.ntmps40
  go_wp2
  go_ret
  refine ⟨congrArg (fun z : Int => Ending.returned (Value.int .i64 z)) (?_ : _ = ((onesN y.val : Nat) : Int)), rfl⟩
  clear hx w
  revert y
  decide +kernel

def onesB (b : List Nat) : Nat := b.foldl (fun c x => c + onesN x) 0
theorem onesB_snoc (b : List Nat) (x : Nat) : onesB (b ++ [x]) = onesB b + onesN x := by simp [onesB, List.foldl_append]
theorem onesN_le (x : Nat) : onesN x ≤ 8 := by
  have e : List.range 8 = [0, 1, 2, 3, 4, 5, 6, 7] := by decide
  have h : ∀ b : Bool, b.toNat ≤ 1 := by decide
  simp only [onesN, e, List.foldl_cons, List.foldl_nil]
  have := h (x.testBit 0); have := h (x.testBit 1); have := h (x.testBit 2); have := h (x.testBit 3); have := h (x.testBit 4); have := h (x.testBit 5); have := h (x.testBit 6); have := h (x.testBit 7)
  omega
theorem onesB_le (b : List Nat) : onesB b ≤ 8 * b.length := by
  have key : ∀ (l : List Nat) (c : Nat), l.foldl (fun c x => c + onesN x) c ≤ c + 8 * l.length := by
    intro l
    induction l with
    | nil => intro c; simp
    | cons x l ih =>
      intro c
      have h1 := ih (c + onesN x)
      have h2 := onesN_le x
      simp only [List.foldl_cons, List.length_cons]
      omega
  simpa [onesB] using key b 0

set_option maxRecDepth 100000 in
set_option maxHeartbeats 800000 in
theorem ones_any {v : Value} {L : List Nat} {w : World} (hr : Rd w v L) :
    Calls Try.prog 20 #[v] w fun e w' => e = .returned (.int .i64 ((onesL L : Nat) : Int)) ∧ Below w.heap.size w w' := by
  have HC : Hid (Calls Try.prog 17 #[v] w fun e w' => e = .returned (.int .i64 ((chkE L : Nat) : Int)) ∧ Below w.heap.size w w') := check_any hr
  have HCt : Hid (∀ x : Nat, x < 256 → ∀ wx, Calls Try.prog 40 #[.int .u8 (x : Int)] wx fun e w' => e = .returned (.int .i64 ((onesN x : Nat) : Int)) ∧ w' = wx) := count_any
  obtain ⟨hby, a, cap, rfl, hle, hm, hl48, hnone, hat⟩ := hr
  unfold onesL
  cases hg : good L with
  | false =>
    have HC : Hid (Calls Try.prog 17 #[.slice a L.length cap] w fun e w' => e = .returned (.int .i64 62) ∧ Below w.heap.size w w') := Calls.mono HC.out fun e w' h => ⟨by rw [h.1]; simp [chkE, hg], h.2⟩
    go_enter Try.func20, Try.ntmps20
    go_wp2_with (go_at_call 17; refine Calls.mono HC.out ?_; rintro e1 w1 ⟨rfl, b1⟩)
    go_ret
    exact ⟨rfl, b1⟩
  | true =>
    have HC : Hid (Calls Try.prog 17 #[.slice a L.length cap] w fun e w' => e = .returned (.int .i64 0) ∧ Below w.heap.size w w') := Calls.mono HC.out fun e w' h => ⟨by rw [h.1]; simp [chkE, hg], h.2⟩
    unfold good at hg
    obtain ⟨h6, h0, ⟨hp1, hp2, hm8, hm1, hm2⟩, hl⟩ := of_decide_eq_true hg
    have hat : At w a L := hat
    rcases hat with rfl | ⟨b, off, rfl, hc⟩
    · simp at h6
    obtain ⟨n, hn⟩ : ∃ n, n = L.length := ⟨_, rfl⟩
    have hns : n ≤ 3000000 := by omega
    have h14 : 14 ≤ n := by omega
    have HN : Hid (n = L.length) := hn
    rw [← hn] at hle h6 hl48 hl HC ⊢
    have HL : Hid (∀ i, i < n → w.cell? ⟨b, off + i, none⟩ = some (.int .u8 ((L.getD i 0 : Nat) : Int))) := fun i hi => hc i (by omega)
    clear hc hn hl hg hm1 hm2 hm8 hp1 hp2 h0 hl48 hnone
    have i6 : (6 : Int) ≤ (n : Int) := by omega
    have hne : ¬ cap = 6 := by omega
    go_enter Try.func20, Try.ntmps20
    go_wp2_with (go_at_call 17; refine Calls.mono HC.out ?_; rintro e1 w1 ⟨rfl, b1⟩)
    go_loop [3, 12] (fun x i => ∃ k r : Nat, k ≤ n - 6 ∧ i = .int .i64 (k : Int) ∧ x = .int .i64 (r : Int) ∧ r ≤ 8 * k ∧ r = onesB ((L.drop 6).take k)) (fun _ i => n - 6 - (intOf i).toNat)
    case atStart => exact ⟨0, 0, Nat.zero_le _, rfl, rfl, Nat.zero_le _, rfl⟩
    case round =>
      obtain ⟨k, r, hk, rfl, rfl, hr, hrr⟩ := hrel
      have HR : Hid (r = onesB ((L.drop 6).take k)) := hrr
      clear hrr
      by_cases hlt : k < n - 6
      · have hlt2 : (k : Int) < ((n - 6 : Nat) : Int) := by omega
        have hlt3 : (k : Int) < (n : Int) - 6 := by omega
        have hcc := (b1.cell (p := ⟨b, off + (6 + k), none⟩) (World.block_lt_of_cell? _ _ (HL.out (6 + k) (by omega)))).trans (HL.out (6 + k) (by omega))
        rw [← Nat.add_assoc] at hcc
        have hcl := hby.get (6 + k)
        have hgd : L.getD (6 + k) 0 = (L.drop 6).getD k 0 := by simp [List.getD]
        obtain ⟨c, hcd⟩ : ∃ c, c = L.getD (6 + k) 0 := ⟨_, rfl⟩
        rw [← hcd] at hcc hcl hgd
        have HC2 : Hid (c = (L.drop 6).getD k 0) := hgd
        clear hcd hgd
        have ho := onesN_le c
        have HO := HCt.out c hcl
        have HO' : Hid (∀ wx, Calls Try.prog 40 #[.int .u8 (c : Int)] wx fun e w' => e = .returned (.int .i64 ((onesN c : Nat) : Int)) ∧ w' = wx) := HO
        clear HO
        obtain ⟨z, hz⟩ : ∃ z, z = onesN c := ⟨_, rfl⟩
        rw [← hz] at ho HO'
        have HZ : Hid (z = onesN c) := hz
        clear hz
        go_wp2_with (go_at_call 40; refine Calls.mono (HO'.out _) ?_; rintro e1 w2 ⟨rfl, rfl⟩)
        go_round
        case rel =>
          refine ⟨k + 1, r + z, by omega, by go_num, by go_num, by omega, ?_⟩
          have hl6 : k < (L.drop 6).length := by rw [List.length_drop, ← HN.out]; omega
          rw [take_succ_getD _ k hl6, onesB_snoc, ← HR.out, ← HC2.out, HZ.out]
        case measure => simp [intOf]; omega
      · go_wp2
        go_ret
        refine ⟨?_, b1⟩
        have hk2 : (L.drop 6).take k = L.drop 6 := List.take_of_length_le (by rw [List.length_drop, ← HN.out]; omega)
        have hr2 := HR.out
        rw [hk2] at hr2
        subst hr2
        rfl
end Go.Proofs.Ytieehdhinponcaa
