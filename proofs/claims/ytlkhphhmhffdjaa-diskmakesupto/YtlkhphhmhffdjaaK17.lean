import Derived.Test.YtlkhphhmhffdjaaK16
set_option linter.unusedSimpArgs false
set_option linter.unusedVariables false
namespace Go.Proofs.Ytlkhphhmhffdjaa
open Go.RowKit Go.MapKept Go.Sort
variable {w w' W X : World}
set_option maxRecDepth 100000 in
set_option maxHeartbeats 4000000 in
theorem sameNames4_any {a b : Option Addr} {ka kb : Nat} {xs ys : List ByteArray} (ha : RdN4 w a ka xs) (hb : RdN4 w b kb ys) : Calls Try.prog 71 #[.slice a xs.length ka, .slice b ys.length kb] w fun e w' => e = .returned (.bool (decide (xs = ys))) ∧ Below w.heap.size w w' := by
 obtain ⟨n, hn⟩ : ∃ n, n = xs.length := ⟨_, rfl⟩
 obtain ⟨m, hm⟩ : ∃ m, m = ys.length := ⟨_, rfl⟩
 obtain ⟨R, hR⟩ : ∃ R, R = decide (xs = ys) := ⟨_, rfl⟩
 have hnx : n ≤ 9223372036854775807 := by have := ha.cap; unfold maxLen at this; omega
 rw [← hn, ← hm, ← hR]
 have HA := Lib.hid ha
 have HB := Lib.hid hb
 have HN := Lib.hid (And.intro hn hm)
 have HR := Lib.hid hR
 clear ha hb hn hm hR
 by_cases e : n = m
 ·subst e
  go_enter Try.func71, Try.ntmps71
  go_wp2_with fail
  go_loopw [5] (fun i wr => ∃ t : Nat, t ≤ n ∧ i = .int .i64 (t : Int) ∧ Hid (xs.take t = ys.take t ∧ Below w.heap.size w wr)) (fun i _ => n - (intOf i).toNat)
  case atStart => exact ⟨0, Nat.zero_le _, rfl, by simp, Below.refl _ _⟩
  case round =>
   obtain ⟨t, ht, rfl, HT⟩ := hrel
   by_cases hlt : t < n
   ·have j1 : (t : Int) < (n : Int) := by omega
    have j2 : (0 : Int) ≤ (t : Int) := by omega
    have hx : ∃ s, xs[t]? = some s := ⟨_, List.getElem?_eq_getElem (by rw [← HN.out.1]; exact hlt)⟩
    obtain ⟨s1, hs1⟩ := hx
    have hy : ∃ s, ys[t]? = some s := ⟨_, List.getElem?_eq_getElem (by rw [← HN.out.2]; exact hlt)⟩
    obtain ⟨s2, hs2⟩ := hy
    have hc1 := HA.out.cel t s1 hs1
    obtain ⟨ga, oa, hga, ca⟩ := hc1
    subst hga
    have hc2 := HB.out.cel t s2 hs2
    obtain ⟨gb, ob, hgb, cb⟩ := hc2
    subst hgb
    have ca1 := (HT.out.2.cell (World.block_lt_of_cell? _ _ ca)).trans ca
    have cb1 := (HT.out.2.cell (World.block_lt_of_cell? _ _ cb)).trans cb
    have HS := Lib.hid (And.intro hs1 hs2)
    clear ca cb hs1 hs2
    by_cases es : s1 = s2
    ·have hes : (s1.toList == s2.toList) = true := by rw [eq_str]; simp [es]
     have HES := Lib.hid es
     clear es
     go_upto_region 6 with fail
     have BD : Below wr.heap.size wr wr.drew := (Below.refl _ _).drew
     refine wp_region_noPanic ?_
     refine wp_region_anyE (S := fun wx => wx.cell? ⟨ga, oa + t, none⟩ = some (.string s1) ∧ wx.cell? ⟨gb, ob + t, none⟩ = some (.string s2)) (E := fun j => true) (by kernel_rfl) ?_
     have hHeld : (fun wx : World => wx.cell? ⟨ga, oa + t, none⟩ = some (.string s1) ∧ wx.cell? ⟨gb, ob + t, none⟩ = some (.string s2)) wr.drew := ⟨(BD.cell (World.block_lt_of_cell? _ _ ca1)).trans ca1, (BD.cell (World.block_lt_of_cell? _ _ cb1)).trans cb1⟩
     have HBD := Lib.hid (HT.out.2.trans (BD.mono HT.out.2.size))
     have hZ0 : ∃ z, z = wr.drew := ⟨_, rfl⟩
     obtain ⟨Z0, hZ0⟩ := hZ0
     rw [← hZ0] at HBD hHeld ⊢
     clear hZ0 BD ca1 cb1
     refine AnyE.take (i := 0) (.slice (some ⟨ga, oa, none⟩) n ka) rfl (by kernel_rfl) (by kernel_rfl) (by kernel_rfl) (by kernel_rfl) (fun _ _ _ h => h) (.inl ⟨by kernel_rfl, fun wy hy => by (go_simp; done)⟩) hHeld ?_
     try simp only [Act.put, List.setIfInBounds_toArray, List.set_cons_zero, List.set_cons_succ]
     refine AnyE.take (i := 1) (.int .i64 (t : Int)) rfl (by kernel_rfl) (by kernel_rfl) (by kernel_rfl) (by kernel_rfl) (fun _ _ _ h => h) (.inl ⟨by kernel_rfl, fun wy hy => by (go_simp; done)⟩) hHeld ?_
     try simp only [Act.put, List.setIfInBounds_toArray, List.set_cons_zero, List.set_cons_succ]
     refine AnyE.take (i := 2) (.pointer (some ⟨ga, oa + t, none⟩)) rfl (by kernel_rfl) (by kernel_rfl) (by kernel_rfl) (by kernel_rfl) (fun _ _ _ h => h) (.inl ⟨by kernel_rfl, fun wy hy => by (go_simp; done)⟩) hHeld ?_
     try simp only [Act.put, List.setIfInBounds_toArray, List.set_cons_zero, List.set_cons_succ]
     refine AnyE.take (i := 3) (.string s1) rfl (by kernel_rfl) (by kernel_rfl) (by kernel_rfl) (by kernel_rfl) (fun _ _ _ h => h) (.inl ⟨by kernel_rfl, fun wy hy => by (have q0 := hy.1; go_simp; done)⟩) hHeld ?_
     try simp only [Act.put, List.setIfInBounds_toArray, List.set_cons_zero, List.set_cons_succ]
     refine AnyE.take (i := 4) (.slice (some ⟨gb, ob, none⟩) n kb) rfl (by kernel_rfl) (by kernel_rfl) (by kernel_rfl) (by kernel_rfl) (fun _ _ _ h => h) (.inl ⟨by kernel_rfl, fun wy hy => by (go_simp; done)⟩) hHeld ?_
     try simp only [Act.put, List.setIfInBounds_toArray, List.set_cons_zero, List.set_cons_succ]
     refine AnyE.take (i := 5) (.int .i64 (t : Int)) rfl (by kernel_rfl) (by kernel_rfl) (by kernel_rfl) (by kernel_rfl) (fun _ _ _ h => h) (.inl ⟨by kernel_rfl, fun wy hy => by (go_simp; done)⟩) hHeld ?_
     try simp only [Act.put, List.setIfInBounds_toArray, List.set_cons_zero, List.set_cons_succ]
     refine AnyE.take (i := 6) (.pointer (some ⟨gb, ob + t, none⟩)) rfl (by kernel_rfl) (by kernel_rfl) (by kernel_rfl) (by kernel_rfl) (fun _ _ _ h => h) (.inl ⟨by kernel_rfl, fun wy hy => by (go_simp; done)⟩) hHeld ?_
     try simp only [Act.put, List.setIfInBounds_toArray, List.set_cons_zero, List.set_cons_succ]
     refine AnyE.take (i := 7) (.string s2) rfl (by kernel_rfl) (by kernel_rfl) (by kernel_rfl) (by kernel_rfl) (fun _ _ _ h => h) (.inl ⟨by kernel_rfl, fun wy hy => by (have q0 := hy.2; go_simp; done)⟩) hHeld ?_
     try simp only [Act.put, List.setIfInBounds_toArray, List.set_cons_zero, List.set_cons_succ]
     refine AnyE.one (i := 8) rfl (by kernel_rfl) (by kernel_rfl) (fun KK hK => ?_)
     go_simp
     refine hK.out _ _ ⟨fun _ => hHeld, ?_⟩
     clear hK
     try simp only [Act.put, List.setIfInBounds_toArray, List.set_cons_zero, List.set_cons_succ]
     refine AnyE.done (by kernel_rfl) (NoPanic.normal ?_) _
     clear hHeld
     go_simp
     go_step
     go_wp2
     go_roundw
     case rel =>
      refine ⟨t + 1, by omega, by go_num, ?_, HBD.out⟩
      rw [List.take_add_one, List.take_add_one, HT.out.1, HS.out.1, HS.out.2, HES.out]
     case measure => simp [intOf]; omega
    ·have hes : (s1.toList == s2.toList) = false := by rw [eq_str]; simp [es]
     have HES := Lib.hid es
     clear es
     go_upto_region 6 with fail
     have BD : Below wr.heap.size wr wr.drew := (Below.refl _ _).drew
     refine wp_region_noPanic ?_
     refine wp_region_anyE (S := fun wx => wx.cell? ⟨ga, oa + t, none⟩ = some (.string s1) ∧ wx.cell? ⟨gb, ob + t, none⟩ = some (.string s2)) (E := fun j => true) (by kernel_rfl) ?_
     have hHeld : (fun wx : World => wx.cell? ⟨ga, oa + t, none⟩ = some (.string s1) ∧ wx.cell? ⟨gb, ob + t, none⟩ = some (.string s2)) wr.drew := ⟨(BD.cell (World.block_lt_of_cell? _ _ ca1)).trans ca1, (BD.cell (World.block_lt_of_cell? _ _ cb1)).trans cb1⟩
     have HBD := Lib.hid (HT.out.2.trans (BD.mono HT.out.2.size))
     have hZ0 : ∃ z, z = wr.drew := ⟨_, rfl⟩
     obtain ⟨Z0, hZ0⟩ := hZ0
     rw [← hZ0] at HBD hHeld ⊢
     clear hZ0 BD ca1 cb1
     refine AnyE.take (i := 0) (.slice (some ⟨ga, oa, none⟩) n ka) rfl (by kernel_rfl) (by kernel_rfl) (by kernel_rfl) (by kernel_rfl) (fun _ _ _ h => h) (.inl ⟨by kernel_rfl, fun wy hy => by (go_simp; done)⟩) hHeld ?_
     try simp only [Act.put, List.setIfInBounds_toArray, List.set_cons_zero, List.set_cons_succ]
     refine AnyE.take (i := 1) (.int .i64 (t : Int)) rfl (by kernel_rfl) (by kernel_rfl) (by kernel_rfl) (by kernel_rfl) (fun _ _ _ h => h) (.inl ⟨by kernel_rfl, fun wy hy => by (go_simp; done)⟩) hHeld ?_
     try simp only [Act.put, List.setIfInBounds_toArray, List.set_cons_zero, List.set_cons_succ]
     refine AnyE.take (i := 2) (.pointer (some ⟨ga, oa + t, none⟩)) rfl (by kernel_rfl) (by kernel_rfl) (by kernel_rfl) (by kernel_rfl) (fun _ _ _ h => h) (.inl ⟨by kernel_rfl, fun wy hy => by (go_simp; done)⟩) hHeld ?_
     try simp only [Act.put, List.setIfInBounds_toArray, List.set_cons_zero, List.set_cons_succ]
     refine AnyE.take (i := 3) (.string s1) rfl (by kernel_rfl) (by kernel_rfl) (by kernel_rfl) (by kernel_rfl) (fun _ _ _ h => h) (.inl ⟨by kernel_rfl, fun wy hy => by (have q0 := hy.1; go_simp; done)⟩) hHeld ?_
     try simp only [Act.put, List.setIfInBounds_toArray, List.set_cons_zero, List.set_cons_succ]
     refine AnyE.take (i := 4) (.slice (some ⟨gb, ob, none⟩) n kb) rfl (by kernel_rfl) (by kernel_rfl) (by kernel_rfl) (by kernel_rfl) (fun _ _ _ h => h) (.inl ⟨by kernel_rfl, fun wy hy => by (go_simp; done)⟩) hHeld ?_
     try simp only [Act.put, List.setIfInBounds_toArray, List.set_cons_zero, List.set_cons_succ]
     refine AnyE.take (i := 5) (.int .i64 (t : Int)) rfl (by kernel_rfl) (by kernel_rfl) (by kernel_rfl) (by kernel_rfl) (fun _ _ _ h => h) (.inl ⟨by kernel_rfl, fun wy hy => by (go_simp; done)⟩) hHeld ?_
     try simp only [Act.put, List.setIfInBounds_toArray, List.set_cons_zero, List.set_cons_succ]
     refine AnyE.take (i := 6) (.pointer (some ⟨gb, ob + t, none⟩)) rfl (by kernel_rfl) (by kernel_rfl) (by kernel_rfl) (by kernel_rfl) (fun _ _ _ h => h) (.inl ⟨by kernel_rfl, fun wy hy => by (go_simp; done)⟩) hHeld ?_
     try simp only [Act.put, List.setIfInBounds_toArray, List.set_cons_zero, List.set_cons_succ]
     refine AnyE.take (i := 7) (.string s2) rfl (by kernel_rfl) (by kernel_rfl) (by kernel_rfl) (by kernel_rfl) (fun _ _ _ h => h) (.inl ⟨by kernel_rfl, fun wy hy => by (have q0 := hy.2; go_simp; done)⟩) hHeld ?_
     try simp only [Act.put, List.setIfInBounds_toArray, List.set_cons_zero, List.set_cons_succ]
     refine AnyE.one (i := 8) rfl (by kernel_rfl) (by kernel_rfl) (fun KK hK => ?_)
     go_simp
     refine hK.out _ _ ⟨fun _ => hHeld, ?_⟩
     clear hK
     try simp only [Act.put, List.setIfInBounds_toArray, List.set_cons_zero, List.set_cons_succ]
     refine AnyE.done (by kernel_rfl) (NoPanic.normal ?_) _
     clear hHeld
     go_simp
     go_step
     go_wp2
     go_ret
     have hRR : R = false := by
      rw [HR.out]
      refine decide_eq_false (fun e => HES.out ?_)
      have h1 := HS.out.1
      rw [e, HS.out.2] at h1
      exact (Option.some.inj h1).symm
     rw [hRR]
     exact ⟨rfl, HBD.out⟩
   ·have j1 : (n : Int) ≤ (t : Int) := by omega
    go_wp2
    go_ret
    have hRR : R = true := by
     rw [HR.out]
     refine decide_eq_true ?_
     have := HT.out.1
     rw [List.take_of_length_le (by have := HN.out.1; omega), List.take_of_length_le (by have := HN.out.2; omega)] at this
     exact this
    rw [hRR]
    exact ⟨rfl, HT.out.2⟩
 ·have e1 : ((n : Int) == (m : Int)) = false := by simp; omega
  have e2 : ((n : Int) != (m : Int)) = true := by simp; omega
  have e3 : ¬ (n : Int) = (m : Int) := by omega
  go_enter Try.func71, Try.ntmps71
  go_wp2
  go_ret
  have hRR : R = false := by
   rw [HR.out]
   exact decide_eq_false (fun q => e (by rw [HN.out.1, HN.out.2, q]))
  rw [hRR]
  exact ⟨rfl, Below.refl _ _⟩
end Go.Proofs.Ytlkhphhmhffdjaa

namespace Go.Proofs.Ytlkhphhmhffdjaa
open Go.RowKit Go.MapKept Go.Sort
variable {w w' W X : World}
end Go.Proofs.Ytlkhphhmhffdjaa

namespace Go.Proofs.Ytlkhphhmhffdjaa
open Go.RowKit Go.MapKept Go.Sort
variable {w w' W X : World} {O O' P P' : Nat → Prop} {wB : Nat}
def WBox (w : World) (wB : Nat) (vD vR vL vM : Value) (z : Int) : Prop := w.heap[wB]? = some (.cells #[vD, vR, vL, vM, .int .i64 z] 37 (0, 0))
variable {vD vR vL vM : Value} {z : Int}
theorem WBox.lt (h : WBox w wB vD vR vL vM z) : wB < w.heap.size := (Array.getElem?_eq_some_iff.1 h).1
theorem WBox.kept (h : WBox w wB vD vR vL vM z) (k : w'.heap[wB]? = w.heap[wB]?) : WBox w' wB vD vR vL vM z := k.trans h
theorem WBox.cells (h : WBox w wB vD vR vL vM z) : w.cell? ⟨wB, 0, none⟩ = some vD ∧ w.cell? ⟨wB, 1, none⟩ = some vR ∧ w.cell? ⟨wB, 2, none⟩ = some vL ∧ w.cell? ⟨wB, 3, none⟩ = some vM ∧ w.cell? ⟨wB, 4, none⟩ = some (.int .i64 z) := by
 unfold WBox at h
 simp [World.cell?, h]
theorem WBox.fz (h : WBox w wB vD vR vL vM z) (i : Nat) : w.frozen? ⟨wB, i, none⟩ = false := by
 unfold WBox at h
 simp [World.frozen?, h]
theorem WBox.setD (h : WBox w wB vD vR vL vM z) (x : Value) : WBox (w.setCell ⟨wB, 0, none⟩ x) wB x vR vL vM z := by
 unfold WBox at h ⊢
 simp [World.setCell, Array.getElem?_modify, h]
theorem WBox.setR (h : WBox w wB vD vR vL vM z) (x : Value) : WBox (w.setCell ⟨wB, 1, none⟩ x) wB vD x vL vM z := by
 unfold WBox at h ⊢
 simp [World.setCell, Array.getElem?_modify, h]
theorem WBox.setL (h : WBox w wB vD vR vL vM z) (x : Value) : WBox (w.setCell ⟨wB, 2, none⟩ x) wB vD vR x vM z := by
 unfold WBox at h ⊢
 simp [World.setCell, Array.getElem?_modify, h]
theorem WBox.setM (h : WBox w wB vD vR vL vM z) (x : Value) : WBox (w.setCell ⟨wB, 3, none⟩ x) wB vD vR vL x z := by
 unfold WBox at h ⊢
 simp [World.setCell, Array.getElem?_modify, h]
theorem WBox.setN (h : WBox w wB vD vR vL vM z) (x : Int) : WBox (w.setCell ⟨wB, 4, none⟩ (.int .i64 x)) wB vD vR vL vM x := by
 unfold WBox at h ⊢
 simp [World.setCell, Array.getElem?_modify, h]
structure Bk4 (w : World) (P : Nat → Prop) (aL : Option Addr) (cL : Nat) (aM : Option Addr) (cM n : Nat) (its : List (Value × Nat × Nat)) : Prop where
 len : n = its.length
 rl : RowS w 0 (.slice aL n cL) n (its.map (·.1))
 rm : Own w 0 (.slice aM n cM) n (its.map (fun x => x.2.2))
 rlP : ∀ g, (Value.slice aL n cL).ownBlock = some g → P g
 rmP : ∀ g, (Value.slice aM n cM).ownBlock = some g → P g
 itm : ∀ x ∈ its, (∃ a c, x.1 = .slice a x.2.1 c) ∧ Rd w x.1 (List.replicate x.2.1 x.2.2)
 itP : ∀ x ∈ its, ∀ g, x.1.ownBlock = some g → P g
 dis : ∀ x ∈ its, ∀ g, x.1.ownBlock = some g → (Value.slice aL n cL).ownBlock ≠ some g ∧ (Value.slice aM n cM).ownBlock ≠ some g
 few : n ≤ 1000000
 lt : ∀ i, P i → i < w.heap.size
variable {aL aM : Option Addr} {cL cM n : Nat} {its : List (Value × Nat × Nat)}
theorem Bk4.list (h : Bk4 w P aL cL aM cM n its) {t : Nat} {x : Value × Nat × Nat} (hx : its[t]? = some x) : ∃ g, aL = some ⟨g, 0, none⟩ ∧ w.cell? ⟨g, t, none⟩ = some x.1 := by
 have ht : t < n := by rw [h.len]; exact (List.getElem?_eq_some_iff.1 hx).1
 rcases h.rl.2.2.2 with ⟨e, h0⟩ | ⟨g, cap, cur, e, h1, h2, h3, h4, h5, h6⟩
 ·exfalso
  omega
 ·simp only [Value.slice.injEq] at e
  refine ⟨g, e.1, ?_⟩
  have hq : (its.map (·.1))[t]? = some x.1 := by rw [List.getElem?_map, hx]; rfl
  rw [← h6, List.getElem?_take_of_lt (by simpa using (by omega : t < n * 1))] at hq
  simp [World.cell?, h2]
  simpa using hq
theorem Bk4.mark (h : Bk4 w P aL cL aM cM n its) {t : Nat} {x : Value × Nat × Nat} (hx : its[t]? = some x) : ∃ g, aM = some ⟨g, 0, none⟩ ∧ w.cell? ⟨g, t, none⟩ = some (.int .u8 (x.2.2 : Int)) := by
 have ht : t < n := by rw [h.len]; exact (List.getElem?_eq_some_iff.1 hx).1
 have hbv : (bv (its.map (fun x => x.2.2)))[t]? = some (.int .u8 (x.2.2 : Int)) := by
  rw [bv_at _ t (by rw [List.length_map, ← h.len]; exact ht)]
  simp [List.getD_eq_getElem?_getD, hx]
 rcases h.rm.2.2 with ⟨e, h0⟩ | ⟨g, cap, cur, e, h1, h2, h3, h4, h5, h6⟩
 ·exfalso
  omega
 ·simp only [Value.slice.injEq] at e
  refine ⟨g, e.1, ?_⟩
  rw [← h6, List.getElem?_take_of_lt (by simpa using (by omega : t < n * 1))] at hbv
  simp [World.cell?, h2]
  simpa using hbv
theorem Rd.at_rep {v : Value} {m mk : Nat} {a : Option Addr} {c : Nat} (h : Rd w v (List.replicate m mk)) (hv : v = .slice a m c) {q : Nat} (hq : q < m) : ∃ g off, a = some ⟨g, off, none⟩ ∧ w.cell? ⟨g, off + q, none⟩ = some (.int .u8 (mk : Int)) := by
 obtain ⟨_, a1, c1, e, _, _, _, _, hat⟩ := h
 rw [hv] at e
 simp only [Value.slice.injEq] at e
 obtain ⟨rfl, -, -⟩ := e
 rcases hat with h0 | ⟨b, off, rfl, hc⟩
 ·exfalso
  have : (List.replicate m mk).length = 0 := by rw [h0]; rfl
  simp at this
  omega
 ·refine ⟨b, off, rfl, ?_⟩
  have := hc q (by simpa using hq)
  rw [this]
  simp [List.getD_eq_getElem?_getD, List.getElem?_replicate, hq]
set_option maxRecDepth 100000 in
set_option maxHeartbeats 8000000 in
theorem holds4_any (hb : WBox w wB vD vR (.slice aL n cL) (.slice aM n cM) z) (hk : Bk4 w P aL cL aM cM n its) : Calls Try.prog 8 #[.pointer (some ⟨wB, 2, none⟩)] w fun e w' => e = .returned (.bool true) ∧ Below w.heap.size w w' := by
 have HB := Lib.hid hb
 have HK := Lib.hid hk
 have hnx : n ≤ 9223372036854775807 := by have := hk.few; omega
 have c2 := hb.cells.2.2.1
 clear hb hk
 go_enter Try.func8, Try.ntmps8
 go_wp2_with fail
 clear c2
 go_loopw [3, 4] (fun i _ wr => ∃ t : Nat, t ≤ n ∧ i = .int .i64 (t : Int) ∧ Below w.heap.size w wr) (fun i _ _ => n - (intOf i).toNat)
 case atStart => exact ⟨0, Nat.zero_le _, rfl, Below.refl _ _⟩
 case round =>
  obtain ⟨t, ht, rfl, hbw⟩ := hrel
  have HBW := Lib.hid hbw
  have c2 := (HB.out.kept (hbw.block _ HB.out.lt)).cells.2.2.1
  clear hbw
  by_cases hlt : t < n
  ·have j1 : (t : Int) < (n : Int) := by omega
   have j2 : (0 : Int) ≤ (t : Int) := by omega
   have hx : ∃ x, its[t]? = some x := ⟨_, List.getElem?_eq_getElem (by rw [← HK.out.len]; exact hlt)⟩
   obtain ⟨x, hx⟩ := hx
   have hl := HK.out.list hx
   obtain ⟨gL, hgL, hcL⟩ := hl
   have hm := HK.out.mark hx
   obtain ⟨gM, hgM, hcM⟩ := hm
   subst hgL
   subst hgM
   have hi := HK.out.itm x (List.mem_of_getElem? hx)
   obtain ⟨⟨ax, cx, hxv⟩, hrd⟩ := hi
   have hmm : ∃ m, m = x.2.1 := ⟨_, rfl⟩
   obtain ⟨m, hm⟩ := hmm
   have hkk : ∃ mk, mk = x.2.2 := ⟨_, rfl⟩
   obtain ⟨mk, hmk⟩ := hkk
   rw [← hm] at hxv hrd
   rw [← hmk] at hrd hcM
   have hmx : m ≤ 9223372036854775807 := by
    obtain ⟨_, _, _, _, _, _, e5, _⟩ := hrd
    simp at e5
    omega
   rw [hxv] at hcL
   have HRD := Lib.hid (fun q (hq : q < m) => hrd.at_rep hxv hq)
   have HCL := Lib.hid (And.intro (World.block_lt_of_cell? _ _ hcL) hcL)
   have HCM := Lib.hid (And.intro (World.block_lt_of_cell? _ _ hcM) hcM)
   clear hx hxv hrd hm hmk hcL hcM
   go_wp2_with fail
   clear c2
   go_loopw [4] (fun k wr2 => ∃ q : Nat, q ≤ m ∧ k = .int .i64 (q : Int) ∧ Below w.heap.size w wr2) (fun k _ => m - (intOf k).toNat)
   case atStart => exact ⟨0, Nat.zero_le _, rfl, HBW.out⟩
   case round =>
    obtain ⟨q, hq, rfl, hbw2⟩ := hrel
    have c2 := (HB.out.kept (hbw2.block _ HB.out.lt)).cells.2.2.1
    have c3 := (HB.out.kept (hbw2.block _ HB.out.lt)).cells.2.2.2.1
    have cL1 := (hbw2.cell HCL.out.1).trans HCL.out.2
    have cM1 := (hbw2.cell HCM.out.1).trans HCM.out.2
    have HBW2 := Lib.hid hbw2
    clear hbw2
    by_cases hlq : q < m
    ·have k1 : (q : Int) < (m : Int) := by omega
     have k2 : (0 : Int) ≤ (q : Int) := by omega
     have hat := HRD.out q hlq
     obtain ⟨gx, ox, hgx, hcx⟩ := hat
     subst hgx
     have cx1 := (HBW2.out.cell (World.block_lt_of_cell? _ _ hcx)).trans hcx
     have hF : Hid (wr.cell? ⟨wB, 2, none⟩ = wr.cell? ⟨wB, 2, none⟩) := rfl
     clear hF hcx
     go_upto_region 7 with fail
     have BD : Below wr.heap.size wr wr.drew := (Below.refl _ _).drew
     refine wp_region_noPanic ?_
     refine wp_region_anyE (S := fun wx => wx.cell? ⟨wB, 2, none⟩ = some (.slice (some ⟨gL, 0, none⟩) n cL) ∧ wx.cell? ⟨gL, t, none⟩ = some (.slice (some ⟨gx, ox, none⟩) m cx) ∧ wx.cell? ⟨gx, ox + q, none⟩ = some (.int .u8 (mk : Int)) ∧ wx.cell? ⟨wB, 3, none⟩ = some (.slice (some ⟨gM, 0, none⟩) n cM) ∧ wx.cell? ⟨gM, t, none⟩ = some (.int .u8 (mk : Int))) (E := fun j => true) (by kernel_rfl) ?_
     have hHeld : (fun wx : World => wx.cell? ⟨wB, 2, none⟩ = some (.slice (some ⟨gL, 0, none⟩) n cL) ∧ wx.cell? ⟨gL, t, none⟩ = some (.slice (some ⟨gx, ox, none⟩) m cx) ∧ wx.cell? ⟨gx, ox + q, none⟩ = some (.int .u8 (mk : Int)) ∧ wx.cell? ⟨wB, 3, none⟩ = some (.slice (some ⟨gM, 0, none⟩) n cM) ∧ wx.cell? ⟨gM, t, none⟩ = some (.int .u8 (mk : Int))) wr.drew := ⟨(BD.cell (World.block_lt_of_cell? _ _ c2)).trans c2, (BD.cell (World.block_lt_of_cell? _ _ cL1)).trans cL1, (BD.cell (World.block_lt_of_cell? _ _ cx1)).trans cx1, (BD.cell (World.block_lt_of_cell? _ _ c3)).trans c3, (BD.cell (World.block_lt_of_cell? _ _ cM1)).trans cM1⟩
     have HBD := Lib.hid (HBW2.out.trans (BD.mono HBW2.out.size))
     have hZ0 : ∃ z, z = wr.drew := ⟨_, rfl⟩
     obtain ⟨Z0, hZ0⟩ := hZ0
     rw [← hZ0] at HBD hHeld ⊢
     clear hZ0 BD c2 c3 cL1 cM1 cx1
     refine AnyE.take (i := 0) (.pointer (some ⟨wB, 2, none⟩)) rfl (by kernel_rfl) (by kernel_rfl) (by kernel_rfl) (by kernel_rfl) (fun _ _ _ h => h) (.inl ⟨by kernel_rfl, fun wy hy => by (go_simp; done)⟩) hHeld ?_
     try simp only [Act.put, List.setIfInBounds_toArray, List.set_cons_zero, List.set_cons_succ]
     refine AnyE.take (i := 1) (.pointer (some ⟨wB, 2, none⟩)) rfl (by kernel_rfl) (by kernel_rfl) (by kernel_rfl) (by kernel_rfl) (fun _ _ _ h => h) (.inl ⟨by kernel_rfl, fun wy hy => by (go_simp; done)⟩) hHeld ?_
     try simp only [Act.put, List.setIfInBounds_toArray, List.set_cons_zero, List.set_cons_succ]
     refine AnyE.take (i := 2) (.pointer (some ⟨wB, 2, none⟩)) rfl (by kernel_rfl) (by kernel_rfl) (by kernel_rfl) (by kernel_rfl) (fun _ _ _ h => h) (.inl ⟨by kernel_rfl, fun wy hy => by (go_simp; done)⟩) hHeld ?_
     try simp only [Act.put, List.setIfInBounds_toArray, List.set_cons_zero, List.set_cons_succ]
     refine AnyE.take (i := 3) (.slice (some ⟨gL, 0, none⟩) n cL) rfl (by kernel_rfl) (by kernel_rfl) (by kernel_rfl) (by kernel_rfl) (fun _ _ _ h => h) (.inl ⟨by kernel_rfl, fun wy hy => by (have q0 := hy.1; go_simp; done)⟩) hHeld ?_
     try simp only [Act.put, List.setIfInBounds_toArray, List.set_cons_zero, List.set_cons_succ]
     refine AnyE.take (i := 4) (.int .i64 (t : Int)) rfl (by kernel_rfl) (by kernel_rfl) (by kernel_rfl) (by kernel_rfl) (fun _ _ _ h => h) (.inl ⟨by kernel_rfl, fun wy hy => by (go_simp; done)⟩) hHeld ?_
     try simp only [Act.put, List.setIfInBounds_toArray, List.set_cons_zero, List.set_cons_succ]
     refine AnyE.take (i := 5) (.pointer (some ⟨gL, t, none⟩)) rfl (by kernel_rfl) (by kernel_rfl) (by kernel_rfl) (by kernel_rfl) (fun _ _ _ h => h) (.inl ⟨by kernel_rfl, fun wy hy => by (go_simp; done)⟩) hHeld ?_
     try simp only [Act.put, List.setIfInBounds_toArray, List.set_cons_zero, List.set_cons_succ]
     refine AnyE.take (i := 6) (.slice (some ⟨gx, ox, none⟩) m cx) rfl (by kernel_rfl) (by kernel_rfl) (by kernel_rfl) (by kernel_rfl) (fun _ _ _ h => h) (.inl ⟨by kernel_rfl, fun wy hy => by (have q0 := hy.2.1; go_simp; done)⟩) hHeld ?_
     try simp only [Act.put, List.setIfInBounds_toArray, List.set_cons_zero, List.set_cons_succ]
     refine AnyE.take (i := 7) (.int .i64 (q : Int)) rfl (by kernel_rfl) (by kernel_rfl) (by kernel_rfl) (by kernel_rfl) (fun _ _ _ h => h) (.inl ⟨by kernel_rfl, fun wy hy => by (go_simp; done)⟩) hHeld ?_
     try simp only [Act.put, List.setIfInBounds_toArray, List.set_cons_zero, List.set_cons_succ]
     refine AnyE.take (i := 8) (.pointer (some ⟨gx, ox + q, none⟩)) rfl (by kernel_rfl) (by kernel_rfl) (by kernel_rfl) (by kernel_rfl) (fun _ _ _ h => h) (.inl ⟨by kernel_rfl, fun wy hy => by (go_simp; done)⟩) hHeld ?_
     try simp only [Act.put, List.setIfInBounds_toArray, List.set_cons_zero, List.set_cons_succ]
     refine AnyE.take (i := 9) (.int .u8 (mk : Int)) rfl (by kernel_rfl) (by kernel_rfl) (by kernel_rfl) (by kernel_rfl) (fun _ _ _ h => h) (.inl ⟨by kernel_rfl, fun wy hy => by (have q0 := hy.2.2.1; go_simp; done)⟩) hHeld ?_
     try simp only [Act.put, List.setIfInBounds_toArray, List.set_cons_zero, List.set_cons_succ]
     refine AnyE.take (i := 10) (.pointer (some ⟨wB, 2, none⟩)) rfl (by kernel_rfl) (by kernel_rfl) (by kernel_rfl) (by kernel_rfl) (fun _ _ _ h => h) (.inl ⟨by kernel_rfl, fun wy hy => by (go_simp; done)⟩) hHeld ?_
     try simp only [Act.put, List.setIfInBounds_toArray, List.set_cons_zero, List.set_cons_succ]
     refine AnyE.take (i := 11) (.pointer (some ⟨wB, 2, none⟩)) rfl (by kernel_rfl) (by kernel_rfl) (by kernel_rfl) (by kernel_rfl) (fun _ _ _ h => h) (.inl ⟨by kernel_rfl, fun wy hy => by (go_simp; done)⟩) hHeld ?_
     try simp only [Act.put, List.setIfInBounds_toArray, List.set_cons_zero, List.set_cons_succ]
     refine AnyE.take (i := 12) (.pointer (some ⟨wB, 3, none⟩)) rfl (by kernel_rfl) (by kernel_rfl) (by kernel_rfl) (by kernel_rfl) (fun _ _ _ h => h) (.inl ⟨by kernel_rfl, fun wy hy => by (go_simp; done)⟩) hHeld ?_
     try simp only [Act.put, List.setIfInBounds_toArray, List.set_cons_zero, List.set_cons_succ]
     refine AnyE.take (i := 13) (.slice (some ⟨gM, 0, none⟩) n cM) rfl (by kernel_rfl) (by kernel_rfl) (by kernel_rfl) (by kernel_rfl) (fun _ _ _ h => h) (.inl ⟨by kernel_rfl, fun wy hy => by (have q0 := hy.2.2.2.1; go_simp; done)⟩) hHeld ?_
     try simp only [Act.put, List.setIfInBounds_toArray, List.set_cons_zero, List.set_cons_succ]
     refine AnyE.take (i := 14) (.int .i64 (t : Int)) rfl (by kernel_rfl) (by kernel_rfl) (by kernel_rfl) (by kernel_rfl) (fun _ _ _ h => h) (.inl ⟨by kernel_rfl, fun wy hy => by (go_simp; done)⟩) hHeld ?_
     try simp only [Act.put, List.setIfInBounds_toArray, List.set_cons_zero, List.set_cons_succ]
     refine AnyE.take (i := 15) (.pointer (some ⟨gM, t, none⟩)) rfl (by kernel_rfl) (by kernel_rfl) (by kernel_rfl) (by kernel_rfl) (fun _ _ _ h => h) (.inl ⟨by kernel_rfl, fun wy hy => by (go_simp; done)⟩) hHeld ?_
     try simp only [Act.put, List.setIfInBounds_toArray, List.set_cons_zero, List.set_cons_succ]
     refine AnyE.take (i := 16) (.int .u8 (mk : Int)) rfl (by kernel_rfl) (by kernel_rfl) (by kernel_rfl) (by kernel_rfl) (fun _ _ _ h => h) (.inl ⟨by kernel_rfl, fun wy hy => by (have q0 := hy.2.2.2.2; go_simp; done)⟩) hHeld ?_
     try simp only [Act.put, List.setIfInBounds_toArray, List.set_cons_zero, List.set_cons_succ]
     refine AnyE.one (i := 17) rfl (by kernel_rfl) (by kernel_rfl) (fun KK hK => ?_)
     go_simp
     refine hK.out _ _ ⟨fun _ => hHeld, ?_⟩
     clear hK
     try simp only [Act.put, List.setIfInBounds_toArray, List.set_cons_zero, List.set_cons_succ]
     refine AnyE.done (by kernel_rfl) (NoPanic.normal ?_) _
     clear hHeld
     go_simp
     go_step
     go_wp2
     go_roundw
     case rel => exact ⟨q + 1, by omega, by go_num, HBD.out⟩
     case measure => simp [intOf]; omega
    ·have k1 : (m : Int) ≤ (q : Int) := by omega
     go_wp2
     go_roundw
     case rel => exact ⟨t + 1, by omega, by go_num, HBW2.out⟩
     case measure => simp [intOf]; omega
  ·have j1 : (n : Int) ≤ (t : Int) := by omega
   go_wp2
   go_ret
   exact ⟨rfl, HBW.out⟩
end Go.Proofs.Ytlkhphhmhffdjaa

namespace Go.Proofs.Ytlkhphhmhffdjaa
open Go.RowKit Go.MapKept Go.Sort
theorem append_row2 {w : World} {B n : Nat} {v u u2 : Value} {vs : List Value} (ty : TypeId) (hown : RowS w B v n vs) (hu : u.oneCell' = true) (hu2 : u2.oneCell' = true) (hbytes : n + 2 ≤ 41943040) (hB : B ≤ w.heap.size) :
  ∃ v' w', (Builtin.append_ #[33, 33] ty #[v, .slice (some ⟨w.heap.size, 0, none⟩) 2 2]).run Try.prog (w.alloc (.cells #[u, u2] 27)) = .ok v' w' ∧ RowS w' B v' (n + 2) (vs ++ [u, u2]) ∧ w.grownBy w' v.ownBlock ∧ (v'.ownBlock = v.ownBlock ∨ ∀ g, v'.ownBlock = some g → w.heap.size ≤ g) := by
 obtain ⟨i0, hi, hz0, hz1, hz2⟩ := info_parts info_parts1
 obtain ⟨W, hW⟩ : ∃ W, W = w.alloc (.cells #[u, u2] 27) := ⟨_, rfl⟩
 have hsW : W.heap.size = w.heap.size + 1 := by rw [hW]; simp
 have hnews : ∀ j x, ([u, u2] : List Value)[j]? = some x → W.cell? ((⟨w.heap.size, 0, none⟩ : Addr).add j) = some x := by
  rw [hW]
  exact news_new w [u, u2] _
 have hownW : W.ownsRow B 27 1 v n vs := by rw [hW]; exact hown.2.2.alloc _
 have h1 : ∀ x ∈ ([u, u2] : List Value), x.oneCell' = true := by intro x hx; simp at hx; rcases hx with rfl | rfl; exact hu; exact hu2
 obtain ⟨v', w', hr, h2, h3, _⟩ := run_append_own (P := Try.prog) W B 33 ty 27 i0 (.slice none 0 0) 1 24 und_parts hi hz0 hz1 hz2 rfl (by decide) v n vs hownW ⟨w.heap.size, 0, none⟩ 2 2 [u, u2] (by simp) hnews h1 (by unfold maxLen; omega) (by omega) (by omega)
 have o2 : RowS w' B v' (n + 2) (vs ++ [u, u2]) := ⟨by rw [hown.1]; simp, fun x hx => by rcases List.mem_append.1 hx with h | h; exact hown.2.1 x h; exact h1 x h, h2⟩
 have g2 : w.grownBy w' v.ownBlock := grown_trans (by rw [hW]; exact grown_alloc w _ _) h3 (.inl rfl)
 rw [hW] at hr
 refine ⟨v', w', hr, o2, g2, ?_⟩
 rw [← hW] at hr
 rcases hownW.2 with ⟨rfl, h0⟩ | ⟨g, cap, cur, rfl, hg1, hg2, hg3, hg4, hg5, hg6⟩
 ·subst h0
  have hr2 := run_append_nil (P := Try.prog) W 33 ty 27 i0 (.slice none 0 0) und_parts hi hz0 ⟨w.heap.size, 0, none⟩ 2 2 [u, u2] (by rw [hz1]; simp) hnews (by decide) (by decide) (by rw [hz2]; decide)
  rw [hr] at hr2
  injection hr2 with e1 e2
  subst e1
  refine .inr fun g hg => ?_
  simp [Value.ownBlock] at hg
  omega
 ·by_cases hroom : n + 2 ≤ cap
  ·obtain ⟨w2, hr2, k2, _⟩ := run_append_own_spare (P := Try.prog) W B 33 ty 27 i0 1 und_parts hi hz1 g n cap vs hownW ⟨w.heap.size, 0, none⟩ 2 2 [u, u2] (by simp) hnews h1 hroom
   rw [hr] at hr2
   injection hr2 with e1 e2
   subst e1
   exact .inl rfl
  ·have holds : ∀ j x, vs[j]? = some x → W.cell? ((⟨g, 0, none⟩ : Addr).add j) = some x := hownW.cells (g := g) rfl
   have hr2 := run_append_grow (P := Try.prog) W 33 ty 27 i0 (.slice none 0 0) und_parts hi hz0 ⟨g, 0, none⟩ n cap vs (by rw [hz1, ← hown.1]; omega) holds ⟨w.heap.size, 0, none⟩ 2 2 [u, u2] (by rw [hz1]; simp) hnews (by omega) (by omega) (by rw [hz2]; exact growslice_fits (by omega) (by omega))
   rw [hr] at hr2
   injection hr2 with e1 e2
   subst e1
   refine .inr fun x hx => ?_
   simp [Value.ownBlock] at hx
   omega
theorem wpList_append_two {w : World} {ops : Array Oper} {rest : List Oper} {o : Oper} {a : Act} {Q : Exit → Act → World → Prop} (hgd : o.guard = none) (s x : Operand)
  (ho : o.op = .call { callee := .builtin .append, args := #[s, x], argTypes := #[33, 33] })
  (B : Nat) (a0 : Option Addr) (m0 c0 : Nat) (vs : List Value) (hs : a.eval s = .slice a0 m0 c0) (hown : RowS w B (.slice a0 m0 c0) m0 vs)
  (u u2 : Value) (hu : u.oneCell' = true) (hu2 : u2.oneCell' = true) (hx : a.eval x = .slice (some ⟨w.heap.size, 0, none⟩) 2 2)
  (hbytes : m0 + 2 ≤ 41943040) (hB : B ≤ w.heap.size)
  (h : ∀ a' c' w', RowS w' B (.slice a' (m0 + 2) c') (m0 + 2) (vs ++ [u, u2]) → w.grownBy w' (Value.slice a0 m0 c0).ownBlock → ((Value.slice a' (m0 + 2) c').ownBlock = (Value.slice a0 m0 c0).ownBlock ∨ ∀ g, (Value.slice a' (m0 + 2) c').ownBlock = some g → w.heap.size ≤ g) → wpList Try.prog ops Q rest (a.put o.dst (.slice a' (m0 + 2) c')) w') : wpList Try.prog ops Q (o :: rest) a (w.alloc (.cells #[u, u2] 27)) := by
 obtain ⟨v', w', hr, h1, h2, h3⟩ := append_row2 o.type hown hu hu2 hbytes hB
 obtain ⟨a', c', rfl⟩ := rows_form h1.2.2
 refine wpList_plain hgd fun K hK => ?_
 unfold Oper.wp execOp
 simp only [ho, resolve, invoke, builtin, Sem.run_bind, Sem.run_pure, Result.andThen_ok, List.map_toArray, List.map_cons, List.map_nil, hs, hx, hr]
 exact hK _ _ (h a' c' w' h1 h2 h3)
end Go.Proofs.Ytlkhphhmhffdjaa

namespace Go.Proofs.Ytlkhphhmhffdjaa
open Go.RowKit Go.MapKept Go.Sort
variable {w w' W X : World} {O O' P P' : Nat → Prop} {wB : Nat} {vD vR vL vM : Value} {z : Int} {aL aM : Option Addr} {cL cM n : Nat} {its : List (Value × Nat × Nat)}
theorem WBox.grown {o : Option Nat} (h : WBox w wB vD vR vL vM z) (k : w.grownBy w' o) (hne : o ≠ some wB) : WBox w' wB vD vR vL vM z := h.kept (k.block _ h.lt (Ne.symm hne))
theorem Rd.grow5 {v : Value} {xs : List Nat} {o : Option Nat} (h : Rd w v xs) (k : w.grownBy w' o) (hne : ∀ g, o = some g → v.ownBlock ≠ some g) : Rd w' v xs := by
 refine h.go5 (fun b off n c e hn hb => k.block b hb (fun e2 => hne b e2.symm ?_))
 subst e
 rfl
theorem Bk4.grown {o : Option Nat} (h : Bk4 w P aL cL aM cM n its) (k : w.grownBy w' o) (hne : ∀ g, o = some g → ¬ P g) : Bk4 w' P aL cL aM cM n its :=
 ⟨h.len, h.rl.far k (fun g e e2 => hne g e (h.rlP g e2)), h.rm.far k (fun g e e2 => hne g e (h.rmP g e2)), h.rlP, h.rmP, fun x hx => ⟨(h.itm x hx).1, (h.itm x hx).2.grow5 k (fun g e e2 => hne g e (h.itP x hx g e2))⟩, h.itP, h.dis, h.few, fun i hi => Nat.lt_of_lt_of_le (h.lt i hi) k.size⟩
structure Five (w : World) (wB : Nat) (vD vR vL vM : Value) (z : Int) (nL : Nat) (ls : List Value) (nM : Nat) (xs : List Nat) (rd : List (Value × Nat × Nat)) : Prop where
 box : WBox w wB vD vR vL vM z
 rl : RowS w 0 vL nL ls
 rm : Own w 0 vM nM xs
 rds : ∀ x ∈ rd, Rd w x.1 (List.replicate x.2.1 x.2.2)
 bl : ∀ g, vL.ownBlock = some g → g ≠ wB
 bm : ∀ g, vM.ownBlock = some g → g ≠ wB
 br : ∀ x ∈ rd, ∀ g, x.1.ownBlock = some g → g ≠ wB ∧ vL.ownBlock ≠ some g ∧ vM.ownBlock ≠ some g
 lt : ∀ x ∈ rd, ∀ g, x.1.ownBlock = some g → g < w.heap.size
variable {nL nM : Nat} {ls ls' : List Value} {xs xs' : List Nat} {rd : List (Value × Nat × Nat)}
theorem Five.setN (h : Five w wB vD vR vL vM z nL ls nM xs rd) (x : Int) : Five (w.setCell ⟨wB, 4, none⟩ (.int .i64 x)) wB vD vR vL vM x nL ls nM xs rd := by
 have g := set_grown w wB 4 (.int .i64 x)
 exact ⟨h.box.setN x, h.rl.far g (fun i e e2 => h.bl i e2 (by cases e; rfl)), h.rm.far g (fun i e e2 => h.bm i e2 (by cases e; rfl)), fun y hy => (h.rds y hy).grow5 g (fun i e e2 => (h.br y hy i e2).1 (by cases e; rfl)), h.bl, h.bm, h.br, fun y hy i e => Nat.lt_of_lt_of_le (h.lt y hy i e) g.size⟩
theorem Five.appL {v' : Value} {nL' : Nat} (h : Five w wB vD vR vL vM z nL ls nM xs rd) (gr : w.grownBy w' vL.ownBlock) (row : RowS w' 0 v' nL' ls') (nr : v'.ownBlock = vL.ownBlock ∨ ∀ g, v'.ownBlock = some g → w.heap.size ≤ g) :
  WBox w' wB vD vR vL vM z ∧ Five (w'.setCell ⟨wB, 2, none⟩ v') wB vD vR v' vM z nL' ls' nM xs rd := by
 have b := h.box.grown gr (fun e => h.bl wB e rfl)
 have g := set_grown w' wB 2 v'
 have hbl : ∀ i, v'.ownBlock = some i → i ≠ wB := fun i e e2 => by
  rcases nr with q | q
  ·exact h.bl i (q ▸ e) e2
  ·have := q i e; have := h.box.lt; omega
 have rm2 := h.rm.far gr (fun i e => row_own h.rl h.rm e)
 refine ⟨b, b.setL v', row.far g (fun i e e2 => hbl i e2 (by cases e; rfl)), rm2.far g (fun i e e2 => h.bm i e2 (by cases e; rfl)), fun y hy => ((h.rds y hy).grow5 gr (fun i e e2 => (h.br y hy i e2).2.1 e)).grow5 g (fun i e e2 => (h.br y hy i e2).1 (by cases e; rfl)), hbl, h.bm, fun y hy i e => ⟨(h.br y hy i e).1, fun e2 => ?_, (h.br y hy i e).2.2⟩, fun y hy i e => Nat.lt_of_lt_of_le (Nat.lt_of_lt_of_le (h.lt y hy i e) gr.size) g.size⟩
 rcases nr with q | q
 ·exact (h.br y hy i e).2.1 (q ▸ e2)
 ·have := q i e2; have := h.lt y hy i e; omega
theorem Five.appM {v' : Value} {nM' : Nat} (h : Five w wB vD vR vL vM z nL ls nM xs rd) (gr : w.grownBy w' vM.ownBlock) (row : Own w' 0 v' nM' xs') (nr : v'.ownBlock = vM.ownBlock ∨ ∀ g, v'.ownBlock = some g → w.heap.size ≤ g) :
  WBox w' wB vD vR vL vM z ∧ Five (w'.setCell ⟨wB, 3, none⟩ v') wB vD vR vL v' z nL ls nM' xs' rd := by
 have b := h.box.grown gr (fun e => h.bm wB e rfl)
 have g := set_grown w' wB 3 v'
 have hbm : ∀ i, v'.ownBlock = some i → i ≠ wB := fun i e e2 => by
  rcases nr with q | q
  ·exact h.bm i (q ▸ e) e2
  ·have := q i e; have := h.box.lt; omega
 have rl2 := h.rl.far gr (fun i e e2 => row_own h.rl h.rm e2 e)
 refine ⟨b, b.setM v', rl2.far g (fun i e e2 => h.bl i e2 (by cases e; rfl)), row.far g (fun i e e2 => hbm i e2 (by cases e; rfl)), fun y hy => ((h.rds y hy).grow5 gr (fun i e e2 => (h.br y hy i e2).2.2 e)).grow5 g (fun i e e2 => (h.br y hy i e2).1 (by cases e; rfl)), h.bl, hbm, fun y hy i e => ⟨(h.br y hy i e).1, (h.br y hy i e).2.1, fun e2 => ?_⟩, fun y hy i e => Nat.lt_of_lt_of_le (Nat.lt_of_lt_of_le (h.lt y hy i e) gr.size) g.size⟩
 rcases nr with q | q
 ·exact (h.br y hy i e).2.2 (q ▸ e2)
 ·have := q i e2; have := h.lt y hy i e; omega
theorem Go4.of_grown {Q : Nat → Prop} {o : Option Nat} (k : w.grownBy w' o) (h : ∀ g, o = some g → Q g) : Go4 w w' Q Q := ⟨k.os, k.tape, k.output, k.size, fun i hi hn => k.block i hi (fun e => hn (h i e.symm)), fun i hi => .inl hi⟩
theorem Go4.of_near {Q : Nat → Prop} {o : Option Nat} {v' : Value} (k : w.grownBy w' o) (h : ∀ g, o = some g → Q g) (nr : v'.ownBlock = o ∨ ∀ g, v'.ownBlock = some g → w.heap.size ≤ g) : Go4 w w' Q (fun i => Q i ∨ v'.ownBlock = some i) := ⟨k.os, k.tape, k.output, k.size, fun i hi hn => k.block i hi (fun e => hn (h i e.symm)), fun i hi => hi.elim .inl (fun e => nr.elim (fun q => .inl (h i (q ▸ e))) (fun q => .inr (q i e)))⟩
theorem Own.setB {B g m c t x : Nat} {xs : List Nat} (h : Own w B (.slice (some ⟨g, 0, none⟩) m c) m xs) (ht : t < m) : Own (w.setCell ⟨g, t, none⟩ (.int .u8 (x : Int))) B (.slice (some ⟨g, 0, none⟩) m c) m (xs.set t x) := by
 have hl := h.1
 have := row_set4 h.2 (j := t) (by simp [bv]; omega) (.int .u8 (x : Int))
 refine ⟨by rw [List.length_set]; exact hl, ?_⟩
 have e : (bv xs).set t (.int .u8 (x : Int)) = bv (xs.set t x) := by simp [bv, List.map_set]
 rw [e] at this
 exact this
def lenS4 : Value → Nat | .slice _ n _ => n | _ => 0
set_option maxRecDepth 100000 in
set_option maxHeartbeats 8000000 in
theorem btake_any {a : Option Addr} {m c : Nat} {bs : List Nat} (hb : WBox w wB vD vR (.slice aL n cL) (.slice aM n cM) z) (hk : Bk4 w P aL cL aM cM n its) (ho : Own w 0 (.slice a m c) m bs) (hm : m ≤ 140737488355000)
  (hap : ∀ g, (Value.slice a m c).ownBlock = some g → ¬ P g ∧ g ≠ wB) (hP : ¬ P wB) (hz : 35 * (n : Int) ≤ z) (hz2 : z ≤ 4611686018427387904) :
  Calls Try.prog 29 #[.pointer (some ⟨wB, 2, none⟩), .slice a m c] w fun e w' => e = .returned (.tuple #[]) ∧ ∃ P' aL' cL' aM' cM' n' its', WBox w' wB vD vR (.slice aL' n' cL') (.slice aM' n' cM') (z + 2 * (m : Int) + 70) ∧ Bk4 w' P' aL' cL' aM' cM' n' its' ∧ 35 * (n' : Int) ≤ z + 2 * (m : Int) + 70 ∧ Go4 w w' (fun i => P i ∨ (Value.slice a m c).ownBlock = some i ∨ i = wB) (fun i => P' i ∨ i = wB) ∧ ¬ P' wB := by
 have HB := Lib.hid hb
 have HK := Lib.hid hk
 have HO := Lib.hid ho
 have HAP := Lib.hid hap
 have HPW := Lib.hid hP
 have HZ := Lib.hid (And.intro hz hz2)
 have hnx : n ≤ 1000000 := hk.few
 have c2 := hb.cells.2.2.1
 clear hb hk ho hap hP hz hz2
 go_enter Try.func29, Try.ntmps29
 go_wp2_with fail
 clear c2
 obtain ⟨mk, hmk⟩ : ∃ mk : Nat, mk = 1 + n / 2 % 250 := ⟨_, rfl⟩
 have hmk2 : (1 + (n : Int) / 2 % 250) = (mk : Int) := by rw [hmk]; omega
 have hmk3 : mk < 256 := by omega
 rw [hmk2]
 clear hmk hmk2
 have hmx : m ≤ 9223372036854775807 := by omega
 go_loopw [5] (fun i wr => ∃ t : Nat, t ≤ m ∧ i = .int .i64 (t : Int) ∧ Hid (Own wr 0 (.slice a m c) m (List.replicate t mk ++ bs.drop t) ∧ w.grownBy wr (Value.slice a m c).ownBlock)) (fun i _ => m - (intOf i).toNat)
 case atStart => exact ⟨0, Nat.zero_le _, rfl, by simpa using HO.out, World.grownBy.refl _ _⟩
 case round =>
  obtain ⟨t, ht, rfl, HR⟩ := hrel
  by_cases hlt : t < m
  ·have j1 : (t : Int) < (m : Int) := by omega
   have j2 : (0 : Int) ≤ (t : Int) := by omega
   have own := HR.out.1
   have hgi : ∃ gi, a = some ⟨gi, 0, none⟩ := by
    rcases own.2.2 with ⟨h1, h2⟩ | ⟨gi, cap, cur, h1, _⟩
    ·omega
    ·simp only [Value.slice.injEq] at h1
     exact ⟨gi, h1.1⟩
   obtain ⟨gi, hgi⟩ := hgi
   subst hgi
   have hfz := own.2.frozenAt t
   have hcell : ∃ y : Nat, wr.cell? ⟨gi, t, none⟩ = some (.int .u8 (y : Int)) := by
    refine ⟨(List.replicate t mk ++ bs.drop t).getD t 0, ?_⟩
    rw [own.2.cellAt t (by omega)]
    exact bv_at _ _ (by have := own.1; omega)
   obtain ⟨y, hcell⟩ := hcell
   clear own
   go_wp2
   go_roundw
   case rel =>
    refine ⟨t + 1, by omega, by go_num, ?_, grown_trans HR.out.2 (set_grown _ gi t _) (.inl rfl)⟩
    have := HR.out.1.setB (t := t) (x := mk) hlt
    rw [fill_set (by have := HO.out.1; omega)] at this
    exact this
   case measure => simp [intOf]; omega
  ·have j1 : (m : Int) ≤ (t : Int) := by omega
   have e : t = m := by omega
   have own0 : Own wr 0 (.slice a m c) m (List.replicate m mk) := by
    have h := HR.out.1
    rw [e, List.drop_eq_nil_of_le (by have := HO.out.1; omega), List.append_nil] at h
    exact h
   have HA := Lib.hid (And.intro own0 HR.out.2)
   clear HR
   have hW1 : ∃ w1, w1 = wr := ⟨_, rfl⟩
   obtain ⟨w1, hw1⟩ := hW1
   rw [← hw1] at HA own0 ⊢
   clear hw1
   go_wp2_with (at_builtin; refine wpList_append_mark rfl _ _ rfl 0 a m c mk _ rfl own0 [_] 1 rfl (by simp [bv]) (by decide) (by omega) (Nat.zero_le _) ?_; intro a5 m5 c5 w5 hm5 own5 gr5 ol5 nr5 kp5; refine Hid.out ?_)
   refine Lib.hid ?_
   rw [List.replicate_append_replicate] at own5
   have H5 : Hid (Own w5 0 (.slice a5 m5 c5) m5 (List.replicate (m + 1) mk) ∧ Near w1 (.slice a m c) (.slice a5 m5 c5) ∧ Keeps mk w1 w5 ∧ w1.grownBy w5 (Value.slice a m c).ownBlock) := ⟨own5, nr5, kp5, gr5⟩
   have HM5 := hm5
   clear own0 own5 gr5 ol5 nr5 kp5 hm5
   go_wp2_with fail
   go_loopw [6] (fun s wr2 => ∃ q a' m' c', q ≤ 69 ∧ s = .slice a' m' c' ∧ m' = m + 1 + q ∧ Hid (Own wr2 0 (.slice a' m' c') m' (List.replicate (m + 1 + q) mk) ∧ Near w1 (.slice a m c) (.slice a' m' c') ∧ Keeps mk w1 wr2 ∧ w1.grownBy wr2 (Value.slice a m c).ownBlock)) (fun s _ => m + 70 - lenS4 s)
   case atStart => exact ⟨0, a5, m5, c5, by omega, rfl, by have := HM5.out; omega, H5⟩
   case round =>
    obtain ⟨q, a4, m4, c4, hq, rfl, hm4, HQ⟩ := hrel
    have hm4x : m4 ≤ 140737488355100 := by omega
    have HM4 := Lib.hid hm4
    clear hm4
    by_cases hlq : m4 < m + 70
    ·have k1 : (m4 : Int) < (m : Int) + 70 := by omega
     have own4 := HQ.out.1
     go_wp2_with (at_builtin; refine wpList_append_mark rfl _ _ rfl 0 a4 m4 c4 mk _ rfl own4 [_] 1 rfl (by simp [bv]) (by decide) (by omega) (Nat.zero_le _) ?_; intro a6 m6 c6 w6 hm6 own6 gr6 ol6 nr6 kp6; refine Hid.out ?_)
     refine Lib.hid ?_
     rw [List.replicate_append_replicate] at own6
     have H6 : Hid (Own w6 0 (.slice a6 m6 c6) m6 (List.replicate (m + 1 + (q + 1)) mk) ∧ Near _ (.slice a m c) (.slice a6 m6 c6) ∧ Keeps mk _ w6 ∧ World.grownBy _ w6 (Value.slice a m c).ownBlock) := ⟨own6, HQ.out.2.1.on nr6 HQ.out.2.2.2.size, HQ.out.2.2.1.trans kp6, grown_trans HQ.out.2.2.2 gr6 HQ.out.2.1⟩
     have HM6 := hm6
     clear own4 own6 gr6 ol6 nr6 kp6 hm6
     go_wp2
     go_roundw
     case rel => exact ⟨q + 1, a6, m6, c6, by have := HM4.out; omega, rfl, by have := HM4.out; have := HM6.out; omega, H6⟩
     case measure => (have := HM6.out; simp [lenS4]; omega)
    ·have k1 : (m : Int) + 70 ≤ (m4 : Int) := by omega
     have hm470 : m4 = m + 70 := by have := HM4.out; omega
     have HM470 := Lib.hid hm470
     clear hm470
     have g0 : w.grownBy wr (Value.slice a m c).ownBlock := grown_trans HA.out.2 HQ.out.2.2.2 (.inl rfl)
     have hrl : Rd wr (.slice a m c) (List.replicate m mk) := HQ.out.2.2.1.rd (HA.out.1.rd (rep_bys m mk hmk3) (by omega))
     have hrg : Rd wr (.slice a4 m4 c4) (List.replicate m4 mk) := by
      have := HQ.out.1.rd (rep_bys _ mk hmk3) (by omega)
      rw [← HM4.out] at this
      exact this
     have b0 := HB.out.grown g0 (fun e => (HAP.out wB e).2 rfl)
     have k0 := HK.out.grown g0 (fun i e => (HAP.out i e).1)
     have s0 : ∀ i, (Value.slice a4 m4 c4).ownBlock = some i → (Value.slice a m c).ownBlock = some i ∨ w.heap.size ≤ i := fun i hi => by
      rcases HQ.out.2.1 with h | h
      ·exact .inl (h ▸ hi)
      ·exact .inr (Nat.le_trans HA.out.2.size (h i hi))
     have s1 : ∀ i, (Value.slice a4 m4 c4).ownBlock = some i → ¬ P i ∧ i ≠ wB := fun i hi => by
      rcases s0 i hi with h | h
      ·exact HAP.out i h
      ·exact ⟨fun hp => by have := HK.out.lt i hp; omega, fun e => by have := HB.out.lt; omega⟩
     have f0 : Five wr wB vD vR (.slice aL n cL) (.slice aM n cM) z n (its.map (·.1)) n (its.map (fun x => x.2.2)) (its ++ [(.slice a m c, m, mk), (.slice a4 m4 c4, m4, mk)]) := by
      have inn : ∀ x ∈ its ++ [((.slice a m c, m, mk) : Value × Nat × Nat), (.slice a4 m4 c4, m4, mk)], x ∈ its ∨ x = (.slice a m c, m, mk) ∨ x = (.slice a4 m4 c4, m4, mk) := fun x hx => by simpa using hx
      refine ⟨b0, k0.rl, k0.rm, fun x hx => ?_, fun i e e2 => HPW.out (e2 ▸ k0.rlP i e), fun i e e2 => HPW.out (e2 ▸ k0.rmP i e), fun x hx i e => ?_, fun x hx i e => ?_⟩
      ·rcases inn x hx with h | rfl | rfl
       ·exact (k0.itm x h).2
       ·exact hrl
       ·exact hrg
      ·rcases inn x hx with h | rfl | rfl
       ·exact ⟨fun e2 => HPW.out (e2 ▸ k0.itP x h i e), k0.dis x h i e⟩
       ·exact ⟨(HAP.out i e).2, fun e2 => (HAP.out i e).1 (k0.rlP i e2), fun e2 => (HAP.out i e).1 (k0.rmP i e2)⟩
       ·exact ⟨(s1 i e).2, fun e2 => (s1 i e).1 (k0.rlP i e2), fun e2 => (s1 i e).1 (k0.rmP i e2)⟩
      ·rcases inn x hx with h | rfl | rfl
       ·exact k0.lt i (k0.itP x h i e)
       ·exact Nat.lt_of_lt_of_le (HA.out.1.2.lt i e).2 HQ.out.2.2.2.size
       ·exact (HQ.out.1.2.lt i e).2
     have F0 := Lib.hid f0
     have S0 := Lib.hid (And.intro s0 (And.intro s1 (And.intro g0 k0)))
     have q4 := b0.cells.2.2.2.2
     have z4 := b0.fz 4
     have zz0 : 0 ≤ z := by have := HZ.out; omega
     have zz1 := HZ.out.2
     clear g0 hrl hrg b0 k0 s0 s1 f0 HQ
     go_upto_region 9 with fail
     have f3 := F0.out.setN (z + (m : Int) + (m4 : Int))
     have g3 := set_grown wr wB 4 (.int .i64 (z + (m : Int) + (m4 : Int)))
     have hZ3 : ∃ Z3, Z3 = wr.setCell ⟨wB, 4, none⟩ (.int .i64 (z + (m : Int) + (m4 : Int))) := ⟨_, rfl⟩
     obtain ⟨Z3, hZ3⟩ := hZ3
     rw [← hZ3] at f3 g3 ⊢
     clear hZ3 q4 z4 F0
     have F3 := Lib.hid f3
     have G3 : Hid (Go4 w Z3 (fun i => P i ∨ (Value.slice a m c).ownBlock = some i ∨ i = wB) (fun i => P i ∨ (Value.slice a m c).ownBlock = some i ∨ i = wB)) := (Go4.of_grown S0.out.2.2.1 (fun i e => .inr (.inl e))).trans (Go4.of_grown g3 (fun i e => .inr (.inr (by cases e; rfl))))
     have K3 := Lib.hid (S0.out.2.2.2.grown g3 (fun i e => by cases e; exact HPW.out))
     have q4 := f3.box.cells.2.2.2.2
     clear f3 g3
     have ez : z + (m : Int) + (m4 : Int) = z + 2 * (m : Int) + 70 := by have := HM470.out; omega
     have EZ := Lib.hid ez
     clear ez
     by_cases hbig : (16777216 : Int) < z + (m : Int) + (m4 : Int)
     ·go_wp2
      first | refine bodyPost_ret (results_none rfl _ _ _) rfl ?_ | refine bodyPost_end (results_none rfl _ _ _) rfl ?_ | skip
      refine ⟨rfl, P, aL, cL, aM, cM, n, its, EZ.out ▸ F3.out.box, K3.out, by have := HZ.out; omega, G3.out.less (fun i hi => hi.elim .inl (fun e => .inr (.inr e))), HPW.out⟩
     ·have hn3 : n + 2 ≤ 1000000 := by have := HZ.out; have := EZ.out; omega
      have row3 := F3.out.rl
      have q2 := F3.out.box.cells.2.2.1
      go_wp2_with (at_builtin; refine wpList_append_two rfl _ _ rfl 0 aL n cL _ rfl row3 (.slice a m c) (.slice a4 m4 c4) rfl rfl rfl (by omega) (Nat.zero_le _) ?_; intro aL5 cL5 w5 row5 gr5 nr5; refine Hid.out ?_)
      refine Lib.hid ?_
      have f6 := F3.out.appL gr5 row5 nr5
      have z2 := f6.1.fz 2
      have q2b := f6.1.cells.2.2.1
      have F6 := Lib.hid f6.2
      have GR5 := Lib.hid (And.intro gr5 nr5)
      clear gr5 nr5 row5 f6 row3 q2 q4
      go_upto_region 11 with fail
      have g6 := set_grown w5 wB 2 (.slice aL5 (n + 2) cL5)
      have hZ6 : ∃ Z6, Z6 = w5.setCell ⟨wB, 2, none⟩ (.slice aL5 (n + 2) cL5) := ⟨_, rfl⟩
      obtain ⟨Z6, hZ6⟩ := hZ6
      rw [← hZ6] at F6 g6 ⊢
      clear hZ6 z2 q2b
      have G6 := Lib.hid g6
      have rm6 := F6.out.rm
      have q3 := F6.out.box.cells.2.2.2.1
      clear g6
      go_wp2_with (at_builtin; refine wpList_append_mark rfl _ _ rfl 0 aM n cM mk _ rfl rm6 [_, _] 2 rfl (by simp [bv]) (by decide) (by omega) (Nat.zero_le _) ?_; intro aM7 m7 cM7 w7 hm7 own7 gr7 ol7 nr7 kp7; refine Hid.out ?_)
      refine Lib.hid ?_
      have hm7o := hm7.out
      subst hm7o
      have f8 := F6.out.appM gr7 own7 nr7
      have z3 := f8.1.fz 3
      have q3b := f8.1.cells.2.2.2.1
      have F8 := Lib.hid f8.2
      have GR7 := Lib.hid (And.intro gr7 nr7)
      have G8 := Lib.hid (set_grown w7 wB 3 (.slice aM7 (n + 2) cM7))
      clear gr7 nr7 own7 ol7 kp7 f8 rm6 q3 hm7
      go_wp2
      first | refine bodyPost_ret (results_none rfl _ _ _) rfl ?_ | refine bodyPost_end (results_none rfl _ _ _) rfl ?_ | skip
      have hZ8 : ∃ Z8, Z8 = w7.setCell ⟨wB, 3, none⟩ (.slice aM7 (n + 2) cM7) := ⟨_, rfl⟩
      obtain ⟨Z8, hZ8⟩ := hZ8
      rw [← hZ8] at F8 G8 ⊢
      clear hZ8
      have sz : Z3.heap.size ≤ w5.heap.size ∧ w5.heap.size ≤ Z6.heap.size ∧ Z6.heap.size ≤ w7.heap.size ∧ w7.heap.size ≤ Z8.heap.size := ⟨GR5.out.1.size, G6.out.size, GR7.out.1.size, G8.out.size⟩
      have sw : w.heap.size ≤ Z3.heap.size := G3.out.size
      have hLn : ∀ i, (Value.slice aL5 (n + 2) cL5).ownBlock = some i → P i ∨ w.heap.size ≤ i := fun i e => by
       rcases GR5.out.2 with q | q
       ·exact .inl (K3.out.rlP i (q ▸ e))
       ·have := q i e; exact .inr (by omega)
      have hMn : ∀ i, (Value.slice aM7 (n + 2) cM7).ownBlock = some i → P i ∨ w.heap.size ≤ i := fun i e => by
       rcases GR7.out.2 with q | q
       ·exact .inl (K3.out.rmP i (q ▸ e))
       ·have := q i e; exact .inr (by omega)
      have inn : ∀ x ∈ its ++ [((.slice a m c, m, mk) : Value × Nat × Nat), (.slice a4 m4 c4, m4, mk)], x ∈ its ∨ x = (.slice a m c, m, mk) ∨ x = (.slice a4 m4 c4, m4, mk) := fun x hx => by simpa using hx
      have hbk : Bk4 Z8 (fun i => P i ∨ (Value.slice a m c).ownBlock = some i ∨ (w.heap.size ≤ i ∧ i < Z8.heap.size)) aL5 cL5 aM7 cM7 (n + 2) (its ++ [(.slice a m c, m, mk), (.slice a4 m4 c4, m4, mk)]) := by
       refine ⟨by rw [List.length_append, ← HK.out.len]; rfl, by rw [List.map_append]; exact F8.out.rl, by rw [List.map_append]; exact F8.out.rm, fun i e => ?_, fun i e => ?_, fun x hx => ⟨?_, F8.out.rds x hx⟩, fun x hx i e => ?_, fun x hx i e => (F8.out.br x hx i e).2, hn3, fun i hi => ?_⟩
       ·exact (hLn i e).elim .inl (fun q => .inr (.inr ⟨q, (F8.out.rl.2.2.lt i e).2⟩))
       ·exact (hMn i e).elim .inl (fun q => .inr (.inr ⟨q, (F8.out.rm.2.lt i e).2⟩))
       ·rcases inn x hx with h | rfl | rfl
        ·exact (HK.out.itm x h).1
        ·exact ⟨_, _, rfl⟩
        ·exact ⟨_, _, rfl⟩
       ·rcases inn x hx with h | rfl | rfl
        ·exact .inl (HK.out.itP x h i e)
        ·exact .inr (.inl e)
        ·exact (S0.out.1 i e).elim (fun q => .inr (.inl q)) (fun q => .inr (.inr ⟨q, F8.out.lt _ hx i e⟩))
       ·rcases hi with hi | hi | hi
        ·have := HK.out.lt i hi; omega
        ·have := F8.out.lt (.slice a m c, m, mk) (by simp) i hi; omega
        ·exact hi.2
      refine ⟨rfl, _, aL5, cL5, aM7, cM7, n + 2, _, EZ.out ▸ F8.out.box, hbk, by have := HZ.out; omega, ?_, fun hq => hq.elim HPW.out (fun hq => hq.elim (fun e => (HAP.out wB e).2 rfl) (fun hq => by have := HB.out.lt; omega))⟩
      have t1 := Go4.of_near (Q := fun i => P i ∨ (Value.slice a m c).ownBlock = some i ∨ i = wB) GR5.out.1 (fun i e => .inl (K3.out.rlP i e)) GR5.out.2
      have t2 := Go4.of_grown (Q := fun i => (P i ∨ (Value.slice a m c).ownBlock = some i ∨ i = wB) ∨ (Value.slice aL5 (n + 2) cL5).ownBlock = some i) G6.out (fun i e => .inl (.inr (.inr (by cases e; rfl))))
      have t3 := Go4.of_grown (Q := fun i => (P i ∨ (Value.slice a m c).ownBlock = some i ∨ i = wB) ∨ (Value.slice aL5 (n + 2) cL5).ownBlock = some i) GR7.out.1 (fun i e => .inl (.inl (K3.out.rmP i e)))
      have t4 := Go4.of_grown (Q := fun i => (P i ∨ (Value.slice a m c).ownBlock = some i ∨ i = wB) ∨ (Value.slice aL5 (n + 2) cL5).ownBlock = some i) G8.out (fun i e => .inl (.inr (.inr (by cases e; rfl))))
      have t := (((G3.out.trans t1).trans t2).trans t3).trans t4
      exact ⟨t.os, t.tape, t.output, t.size, t.block, fun i hi => by
       rcases hi with (hi | hi | hi) | hi
       ·exact .inl (.inl hi)
       ·exact .inl (.inr (.inl hi))
       ·exact .inr hi.1
       ·exact .inl (.inr (.inr hi))⟩
end Go.Proofs.Ytlkhphhmhffdjaa

namespace Go.Proofs.Ytlkhphhmhffdjaa
open Go.RowKit Go.MapKept Go.Sort
variable {w w' W X : World}
def mk5 : List Nat := [201, 202, 203, 204, 205]
theorem rd_mk5 (w : World) : Rd (w.alloc (.cells #[.int .u8 201, .int .u8 202, .int .u8 203, .int .u8 204, .int .u8 205] 5)) (.slice (some ⟨w.heap.size, 0, none⟩) 5 5) mk5 := by
 refine ⟨by intro x hx; simp [mk5] at hx; omega, some ⟨w.heap.size, 0, none⟩, 5, rfl, by simp [mk5], by decide, by simp [mk5], .inr ⟨_, _, rfl⟩, .inr ⟨w.heap.size, 0, rfl, fun i hi => ?_⟩⟩
 have hh := heap_new w (.cells #[.int .u8 201, .int .u8 202, .int .u8 203, .int .u8 204, .int .u8 205] 5)
 have hi5 : i < 5 := by simpa [mk5] using hi
 match i, hi5 with
 | 0, _ => (unfold World.cell?; rw [hh]; rfl)
 | 1, _ => (unfold World.cell?; rw [hh]; rfl)
 | 2, _ => (unfold World.cell?; rw [hh]; rfl)
 | 3, _ => (unfold World.cell?; rw [hh]; rfl)
 | 4, _ => (unfold World.cell?; rw [hh]; rfl)
set_option maxRecDepth 100000 in
set_option maxHeartbeats 4000000 in
theorem roomy4_any {v : Value} {bs : List Nat} (hr : Rd w v bs) (h47 : bs.length ≤ 140737488355000) :
  Calls Try.prog 32 #[v] w fun e w' => ∃ a c, e = .returned (.slice a (bs.length + 5) c) ∧ Own w' w.heap.size (.slice a (bs.length + 5) c) (bs.length + 5) (bs ++ mk5) ∧ Below w.heap.size w w' := by
 have HR := Lib.hid hr
 have h9 := hr
 obtain ⟨_, ab, cb, hv, _⟩ := h9
 have hn : ∃ nb, nb = bs.length := ⟨_, rfl⟩
 obtain ⟨nb, hn⟩ := hn
 rw [← hn] at hv ⊢
 subst hv
 have HN := Lib.hid hn
 have H47 := Lib.hid h47
 clear hn hr h47
 have ow : Own w w.heap.size (.slice none 0 0) 0 [] := ⟨rfl, rfl, .inl ⟨rfl, rfl⟩⟩
 have HO := Lib.hid ow
 clear ow
 go_enter Try.func32, Try.ntmps32
 go_wp2_with (at_builtin; refine wpl_dapp rfl _ _ rfl (B := w.heap.size) (n := 0) (v := .slice none 0 0) (xs := []) (bs := bs) rfl HO.out rfl HR.out (by have := H47.out; omega) (Nat.le_refl _) ?_; intro a5 c5 w5 r5 b5; refine Hid.out ?_)
 refine Lib.hid ?_
 simp only [Nat.zero_add, List.nil_append] at r5
 have HR5 := Lib.hid (And.intro r5 b5)
 clear r5 b5
 go_wp2_with (at_builtin; refine wpl_dapp rfl _ _ rfl (B := w.heap.size) (n := bs.length) (v := .slice a5 bs.length c5) (xs := bs) (bs := mk5) (by first | rfl | (rw [← Nat.zero_add bs.length]; rfl) | simp [go_sem]) ⟨HR5.out.1.1, HR5.out.1.2.alloc _⟩ rfl (rd_mk5 w5) (by have := H47.out; simp [mk5]; omega) (by have := HR5.out.2.size; simp; omega) ?_; intro a6 c6 w6 r6 b6; refine Hid.out ?_)
 refine Lib.hid ?_
 have e5 : bs.length + mk5.length = nb + 5 := by rw [HN.out]; rfl
 rw [e5] at r6 ⊢
 have HR6 := Lib.hid (And.intro r6 (HR5.out.2.trans (((Below.refl _ _).alloc HR5.out.2.size _).trans b6)))
 clear r6 b6
 go_wp2
 go_ret
 first
  | exact ⟨a6, c6, rfl, HR6.out.1, HR6.out.2⟩
  | exact ⟨a6, c6, HR6.out.1, HR6.out.2⟩
set_option maxRecDepth 100000 in
theorem num4_any (x : Int) (w : World) : Calls Try.prog 20 #[.int .i64 x] w fun e w' => e = .returned (.int .i64 x) ∧ w' = w := by
 go_enter Try.func20, Try.ntmps20
 go_wp2
 go_ret
 first | exact ⟨rfl, rfl⟩ | trivial
end Go.Proofs.Ytlkhphhmhffdjaa
