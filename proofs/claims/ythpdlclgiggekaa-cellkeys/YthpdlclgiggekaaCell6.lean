import Derived.Test.YthpdlclgiggekaaCell5
import Derived.Handy
import Derived.Deep.RegionHeld3
namespace Go.Proofs.Ythpdlclgiggekaa
open Go.RowKit
set_option linter.unusedVariables false

/-- All blocks but one are as they were. -/
structure Apart (g : Nat) (w w' : World) : Prop where
  os : w'.os = w.os
  tape : w'.tape = w.tape
  output : w'.output = w.output
  size : w.heap.size ≤ w'.heap.size
  block : ∀ k, k < w.heap.size → k ≠ g → w'.heap[k]? = w.heap[k]?
theorem Apart.refl (g : Nat) (w : World) : Apart g w w := ⟨rfl, rfl, rfl, Nat.le_refl _, fun _ _ _ => rfl⟩
theorem Apart.trans {g : Nat} {a b c : World} (h : Apart g a b) (k : Apart g b c) : Apart g a c :=
  ⟨k.os.trans h.os, k.tape.trans h.tape, k.output.trans h.output, Nat.le_trans h.size k.size, fun i hi hg => (k.block i (Nat.lt_of_lt_of_le hi h.size) hg).trans (h.block i hi hg)⟩
theorem Apart.of {g : Nat} {w w' : World} (h : Below w.heap.size w w') : Apart g w w' := ⟨h.os, h.tape, h.output, h.size, fun k hk _ => h.block k hk⟩
theorem Apart.below {g B : Nat} {w w' : World} (h : Apart g w w') (hg : B ≤ g) (hB : B ≤ w.heap.size) : Below B w w' :=
  ⟨h.os, h.tape, h.output, h.size, fun k hk => h.block k (by omega) (by omega)⟩

/-- A reader's block. -/
def rcells (v : Value) (k : Int) (bad : Bool) : Array Value := #[v, .int .i64 k, .bool bad]
def RBox (w : World) (g : Nat) (v : Value) (k : Int) (bad : Bool) : Prop := w.heap[g]? = some (.cells (rcells v k bad) 93 (0, 0))
theorem RBox.vb {w : World} {g : Nat} {v : Value} {k : Int} {b : Bool} (h : RBox w g v k b) : w.cell? ⟨g, 0, none⟩ = some v := by unfold RBox rcells at h; simp [World.cell?, h]
theorem RBox.vk {w : World} {g : Nat} {v : Value} {k : Int} {b : Bool} (h : RBox w g v k b) : w.cell? ⟨g, 1, none⟩ = some (.int .i64 k) := by unfold RBox rcells at h; simp [World.cell?, h]
theorem RBox.vd {w : World} {g : Nat} {v : Value} {k : Int} {b : Bool} (h : RBox w g v k b) : w.cell? ⟨g, 2, none⟩ = some (.bool b) := by unfold RBox rcells at h; simp [World.cell?, h]
theorem RBox.fz {w : World} {g : Nat} {v : Value} {k : Int} {b : Bool} (h : RBox w g v k b) (i : Nat) : w.frozen? ⟨g, i, none⟩ = false := by unfold RBox at h; simp [World.frozen?, h]
theorem RBox.lt {w : World} {g : Nat} {v : Value} {k : Int} {b : Bool} (h : RBox w g v k b) : g < w.heap.size := (Array.getElem?_eq_some_iff.1 h).1
theorem RBox.later {w w' : World} {g : Nat} {v : Value} {k : Int} {b : Bool} (h : RBox w g v k b) (hb : Below w.heap.size w w') : RBox w' g v k b := by
  unfold RBox at *
  rw [hb.block g (Array.getElem?_eq_some_iff.1 h).1]; exact h
theorem RBox.new (w : World) (v : Value) (k : Int) (b : Bool) : RBox (w.alloc (.cells (rcells v k b) 93)) w.heap.size v k b := by
  show (w.heap.push _)[w.heap.size]? = some _
  simp
theorem RBox.setk {w : World} {g : Nat} {v : Value} {k : Int} {b : Bool} (h : RBox w g v k b) (z : Int) : RBox (w.setCell ⟨g, 1, none⟩ (.int .i64 z)) g v z b := by
  unfold RBox rcells at *
  simp [World.setCell, Array.getElem?_modify, h]
theorem RBox.setd {w : World} {g : Nat} {v : Value} {k : Int} {b : Bool} (h : RBox w g v k b) (z : Bool) : RBox (w.setCell ⟨g, 2, none⟩ (.bool z)) g v k z := by
  unfold RBox rcells at *
  simp [World.setCell, Array.getElem?_modify, h]
theorem apart_set (w : World) (g i : Nat) (x : Value) : Apart g w (w.setCell ⟨g, i, none⟩ x) := by
  refine ⟨rfl, rfl, rfl, by simp [World.setCell], fun k hk hg => ?_⟩
  simp [World.setCell, Array.getElem?_modify, Ne.symm hg]
theorem Rd.apart {w w' : World} {g : Nat} {a : Option Addr} {m c : Nat} {k : Int} {b : Bool} {v : Value} {bs : List Nat} (h : Rd w v bs) (hr : RBox w g (.slice a m c) k b) (hw : Apart g w w') : Rd w' v bs := by
  obtain ⟨h1, a2, cap, h2, h3, h4, h5, h6, h7⟩ := h
  refine ⟨h1, a2, cap, h2, h3, h4, h5, h6, ?_⟩
  rcases h7 with h | ⟨bl, off, rfl, hc⟩
  · exact .inl h
  · refine .inr ⟨bl, off, rfl, fun i hi => ?_⟩
    have hx := hc i hi
    have hne : bl ≠ g := by
      rintro rfl
      unfold RBox rcells at hr
      simp only [World.cell?, hr] at hx
      rcases hj : off + i with _ | _ | _ | j <;> rw [hj] at hx <;> simp at hx
    have hl := World.block_lt_of_cell? w _ hx
    have hb := hw.block bl hl hne
    simp only [World.cell?] at hx ⊢
    rw [hb]; exact hx
theorem Own.apart {w w' : World} {g B m0 : Nat} {v v0 : Value} {k : Int} {b : Bool} {xs : List Nat} (h : Own w B v m0 xs) (hr : RBox w g v0 k b) (hw : Apart g w w') : Own w' B v m0 xs := by
  refine ⟨h.1, h.2.1, ?_⟩
  rcases h.2.2 with h2 | ⟨g2, cap, cur, h3, h4, h5, h6⟩
  · exact .inl h2
  · refine .inr ⟨g2, cap, cur, h3, h4, ?_, h6⟩
    rw [hw.block g2 (Array.getElem?_eq_some_iff.1 h5).1 ?_]
    · exact h5
    · rintro rfl
      unfold RBox at hr
      rw [h5] at hr
      have := Option.some.inj hr
      injection this with _ e
      exact absurd e (by decide)

set_option maxRecDepth 100000 in
set_option maxHeartbeats 1000000 in
theorem step_any {w : World} {g : Nat} {v : Value} {k : Int} {bad : Bool} (h : RBox w g v k bad) (z : Int) (er : Nat) :
    Calls Try.prog 111 #[.pointer (some ⟨g, 0, none⟩), .int .i64 z, .int .i64 (er : Int)] w fun e w' => e = .returned (.tuple #[]) ∧ RBox w' g v z (bad || decide (er ≠ 0)) ∧ Apart g w w' := by
  have x0 := h.vb
  have x1 := h.vk
  have x2 := h.vd
  have f1 := h.fz 1
  have f2 := h.fz 2
  have H : Hid (RBox w g v k bad) := h
  clear h
  by_cases hb : bad = true
  · subst hb
    go_enter Try.func111, Try.ntmps111
    go_wp2
    refine bodyPost_end (v := .tuple #[]) (by first | rfl | kernel_rfl) rfl ?_
    exact ⟨rfl, (H.out.setk z).setd _, (apart_set _ _ _ _).trans (apart_set _ _ _ _)⟩
  · obtain rfl : bad = false := by simpa using hb
    go_enter Try.func111, Try.ntmps111
    go_wp2
    refine bodyPost_end (v := .tuple #[]) (by first | rfl | kernel_rfl) rfl ?_
    refine ⟨rfl, ?_, (apart_set _ _ _ _).trans (apart_set _ _ _ _)⟩
    have := (H.out.setk z).setd (decide (er ≠ 0))
    have e : ((er : Int) != 0) = decide (er ≠ 0) := by by_cases he : er = 0 <;> simp [he]
    rw [e]
    simpa using this

set_option maxRecDepth 100000 in
set_option maxHeartbeats 1000000 in
theorem text_any {w : World} {g m c : Nat} {a : Option Addr} {bs : List Nat} {bad : Bool} (k : Nat) (h : RBox w g (.slice a m c) (k : Int) bad) (hr : Rd w (.slice a m c) bs) (hk : k ≤ bs.length) (h47 : bs.length ≤ 140737488355328) :
    Calls Try.prog 88 #[.pointer (some ⟨g, 0, none⟩)] w fun e w' => ∃ a' m' c', e = .returned (.slice a' m' c') ∧ Own w' w.heap.size (.slice a' m' c') m' (ordR bs k).1 ∧ RBox w' g (.slice a m c) (((ordR bs k).2.1 : Nat) : Int) (bad || decide ((ordR bs k).2.2 ≠ 0)) ∧ Apart g w w' := by
  have x0 := h.vb
  have x1 := h.vk
  have H : Hid (RBox w g (.slice a m c) (k : Int) bad) := h
  clear h
  go_enter Try.func88, Try.ntmps88
  have BD : Below w.heap.size w w.drew := (Below.refl _ _).drew
  have y0 := (H.out.later BD).vb
  have y1 := (H.out.later BD).vk
  have HRD : Hid (Rd w.drew (.slice a m c) bs ∧ k ≤ bs.length ∧ bs.length ≤ 140737488355328) := ⟨hr.later BD, hk, h47⟩
  clear hr hk h47
  go_wp2_with fail
  go_region_held3 (fun wx => wx.cell? ⟨g, 0, none⟩ = some (.slice a m c) ∧ wx.cell? ⟨g, 1, none⟩ = some (.int .i64 (k : Int)) ∧ Below w.heap.size w wx) (first | exact ⟨y0, y1, BD⟩ | exact ⟨z0, z1, BA⟩) (first | (go_at_call 110; refine (readOrdered_in HRD.out.1 k HRD.out.2.1 HRD.out.2.2).mono ?_; rintro e1 w1 ⟨a1, m1, c1, rfl, own1, hb1⟩; have BA : Below w.heap.size w w1 := BD.trans hb1; have z0 := (H.out.later BA).vb; have z1 := (H.out.later BA).vk))
  go_wp2_with fail
  refine (step_any (H.out.later BA) _ _).mono ?_
  rintro e2 w2 ⟨rfl, bx, ap⟩
  go_wp2
  go_ret
  exact ⟨a1, m1, c1, rfl, own1.apart (H.out.later BA) ap, bx, (Apart.of BA).trans ap⟩

set_option maxRecDepth 100000 in
set_option maxHeartbeats 1000000 in
theorem kfalling_any {w : World} {g m c : Nat} {a : Option Addr} {bs : List Nat} {bad : Bool} (k : Nat) (h : RBox w g (.slice a m c) (k : Int) bad) (hr : Rd w (.slice a m c) bs) (hk : k ≤ bs.length) :
    Calls Try.prog 90 #[.pointer (some ⟨g, 0, none⟩)] w fun e w' => e = .returned (.int .i64 (((fallR bs k).1 : Nat) : Int)) ∧ RBox w' g (.slice a m c) (((fallR bs k).2.1 : Nat) : Int) (bad || decide ((fallR bs k).2.2 ≠ 0)) ∧ Apart g w w' := by
  have x0 := h.vb
  have x1 := h.vk
  have H : Hid (RBox w g (.slice a m c) (k : Int) bad) := h
  clear h
  go_enter Try.func90, Try.ntmps90
  have BD : Below w.heap.size w w.drew := (Below.refl _ _).drew
  have y0 := (H.out.later BD).vb
  have y1 := (H.out.later BD).vk
  have HRD : Hid (Rd w.drew (.slice a m c) bs ∧ k ≤ bs.length) := ⟨hr.later BD, hk⟩
  clear hr hk
  go_wp2_with fail
  go_region_held3 (fun wx => wx.cell? ⟨g, 0, none⟩ = some (.slice a m c) ∧ wx.cell? ⟨g, 1, none⟩ = some (.int .i64 (k : Int)) ∧ Below w.heap.size w wx) (first | exact ⟨y0, y1, BD⟩) (first | (go_at_call 112; refine (readFalling_in HRD.out.1 k HRD.out.2).mono ?_; rintro e1 w1 ⟨rfl, rfl⟩))
  go_wp2_with fail
  refine (step_any (H.out.later BD) _ _).mono ?_
  rintro e2 w2 ⟨rfl, bx, ap⟩
  go_wp2
  go_ret
  exact ⟨rfl, bx, (Apart.of BD).trans ap⟩

/-- One byte. -/
def oneR (bs : List Nat) (k : Nat) : Nat × Nat × Bool := if k = bs.length then (0, k, true) else (bs.getD k 0, k + 1, false)
theorem oneR_end (bs : List Nat) : oneR bs bs.length = (0, bs.length, true) := by simp [oneR]
theorem oneR_in (bs : List Nat) (k : Nat) (h : k < bs.length) : oneR bs k = (bs.getD k 0, k + 1, false) := by simp [oneR]; omega
set_option maxRecDepth 100000 in
set_option maxHeartbeats 1000000 in
theorem one_any {w : World} {g m c : Nat} {a : Option Addr} {bs : List Nat} {bad : Bool} (k : Nat) (h : RBox w g (.slice a m c) (k : Int) bad) (hr : Rd w (.slice a m c) bs) (hk : k ≤ bs.length) :
    Calls Try.prog 89 #[.pointer (some ⟨g, 0, none⟩)] w fun e w' => e = .returned (.int .u8 (((oneR bs k).1 : Nat) : Int)) ∧ RBox w' g (.slice a m c) (((oneR bs k).2.1 : Nat) : Int) (bad || (oneR bs k).2.2) ∧ Apart g w w' := by
  have x0 := h.vb
  have x1 := h.vk
  have x2 := h.vd
  have f1 := h.fz 1
  have f2 := h.fz 2
  have H : Hid (RBox w g (.slice a m c) (k : Int) bad) := h
  clear h
  obtain ⟨hn, hle, hm, hl48⟩ := rd_lens hr
  by_cases he : k = bs.length
  · have HE : Hid (oneR bs k = (0, k, true)) := by unfold Hid; rw [he]; exact oneR_end bs
    have hkm : (k : Int) = (m : Int) := by omega
    have hkb : ((k : Int) == (m : Int)) = true := by simp; omega
    clear hr hk he hn
    rw [HE.out]
    have BD : Below w.heap.size w w.drew := (Below.refl _ _).drew
    have HD : Hid (RBox w.drew g (.slice a m c) (k : Int) bad) := H.out.later BD
    go_enter Try.func89, Try.ntmps89
    go_wp2_with fail
    go_region
    have y0 := HD.out.vb
    have y1 := HD.out.vk
    have y2 := HD.out.vd
    have e1 := HD.out.fz 1
    have e2 := HD.out.fz 2
    go_wp2
    go_ret
    refine ⟨rfl, ?_, (apart_set _ _ _ _).trans (Apart.of (Below.refl _ _).drew)⟩
    have := (H.out.setd true).later (Below.refl _ _).drew
    simpa using this
  · have hk' : k < bs.length := by omega
    have HE : Hid (oneR bs k = (bs.getD k 0, k + 1, false)) := oneR_in bs k hk'
    have hkb : ((k : Int) == (m : Int)) = false := by simp; omega
    have hkne : ¬ ((k : Int) = (m : Int)) := by omega
    have hkm : k < m := by omega
    have BD : Below w.heap.size w w.drew := (Below.refl _ _).drew
    have HD : Hid (RBox w.drew g (.slice a m c) (k : Int) bad) := H.out.later BD
    have HR : Hid (Rd w (.slice a m c) bs) := hr
    clear hr hk he hn hk'
    rw [HE.out]
    go_enter Try.func89, Try.ntmps89
    go_wp2_with fail
    go_region
    have y0 := HD.out.vb
    have y1 := HD.out.vk
    have y2 := HD.out.vd
    have e1 := HD.out.fz 1
    have e2 := HD.out.fz 2
    go_wp2_with fail
    have ap : Apart g w (w.setCell ⟨g, 1, none⟩ (.int .i64 ((k : Int) + 1))).drew := (apart_set _ _ _ _).trans (Apart.of (Below.refl _ _).drew)
    have bx : RBox (w.setCell ⟨g, 1, none⟩ (.int .i64 ((k : Int) + 1))).drew g (.slice a m c) ((k : Int) + 1) bad := (H.out.setk _).later (Below.refl _ _).drew
    have r2 := HR.out.apart H.out ap
    generalize (w.setCell ⟨g, 1, none⟩ (.int .i64 ((k : Int) + 1))).drew = w2 at ap bx r2 ⊢
    clear x0 x1 x2 f1 f2 y0 y1 y2 e1 e2 HD BD
    have y0 := bx.vb
    have y1 := bx.vk
    have HX : Hid (RBox w2 g (.slice a m c) ((k : Int) + 1) bad) := bx
    obtain ⟨h0, _, _⟩ | ⟨b, off, rfl⟩ := rd_some r2
    · omega
    obtain ⟨hc, hcl⟩ := rd_cell r2 k hkm
    have hi0 : (0 : Int) ≤ (k : Int) := by omega
    have hi1 : (k : Int) < (m : Int) := by omega
    clear bx r2
    go_region
    go_wp2
    go_ret
    refine ⟨rfl, ?_, ap.trans (Apart.of (Below.refl _ _).drew)⟩
    have := HX.out.later (Below.refl _ _).drew
    simpa using this
end Go.Proofs.Ythpdlclgiggekaa
