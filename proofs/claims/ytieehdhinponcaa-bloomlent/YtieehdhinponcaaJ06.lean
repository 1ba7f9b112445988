import Derived.Test.YtieehdhinponcaaBL10
import Derived.Lib.SmallJoins
namespace Go.Proofs.Ytieehdhinponcaa
open Go.RowKit Go.Shelf
set_option linter.unusedVariables false
attribute [local go_sem] Oper.semAt_some

def hasB (L k : List Nat) : Bool := good L && hasL L k

theorem mem_plL {k : List Nat} {m kk p : Nat} {hm : 0 < m} {j : Fin m} (hj : j ∈ plL (hX k) (hL k) m hm kk) (hk : kk ≤ p) : j.val ∈ placesN k p m := by
  simp only [plL, List.mem_map, List.mem_range] at hj
  obtain ⟨t, ht, rfl⟩ := hj
  simp only [placesN, List.mem_map, List.mem_range]
  exact ⟨t, by omega, rfl⟩
theorem placesN_mem {k : List Nat} {m p i : Nat} {hm : 0 < m} (hi : i ∈ placesN k p m) : ∃ j ∈ plL (hX k) (hL k) m hm p, j.val = i := by
  simp only [placesN, List.mem_map, List.mem_range] at hi
  obtain ⟨t, ht, rfl⟩ := hi
  exact ⟨plF (hX k) (hL k) m hm t, by simp only [plL, List.mem_map, List.mem_range]; exact ⟨t, ht, rfl⟩, rfl⟩

set_option maxRecDepth 100000 in
set_option maxHeartbeats 4000000 in
theorem has_any {vf vk : Value} {L k : List Nat} {w : World} (hf : Rd w vf L) (hk : Rd w vk k) :
    Calls Try.prog 16 #[vf, vk] w fun e w' => e = .returned (.tuple #[.bool (hasB L k), .int .i64 ((chkE L : Nat) : Int)]) ∧ Below w.heap.size w w' := by
  have HK : Hid (Rd w vk k) := hk
  have HF : Hid (Rd w vf L) := hf
  obtain ⟨a, n, cap, rfl⟩ : ∃ a n cap, vf = .slice a n cap := by obtain ⟨_, a1, c1, h2, _⟩ := hf; exact ⟨_, _, _, h2⟩
  obtain ⟨a', n', cap', rfl⟩ : ∃ a n cap, vk = .slice a n cap := by obtain ⟨_, a1, c1, h2, _⟩ := hk; exact ⟨_, _, _, h2⟩
  obtain ⟨gd, hgd⟩ : ∃ g, g = good L := ⟨_, rfl⟩
  obtain ⟨w0, hw0⟩ : ∃ w0, w0 = ((w.alloc (.cells #[.slice a n cap] 24)).alloc (.cells #[.bool false] 4)).alloc (.cells #[.int .i64 0] 25) := ⟨_, rfl⟩
  have b0 : Below w.heap.size w w0 := by rw [hw0]; exact (((Below.refl _ _).alloc (Nat.le_refl _) _).alloc (by simp) _).alloc (by simp; omega) _
  have sz0 : w0.heap.size = w.heap.size + 3 := by rw [hw0]; simp
  have q0 : w0.heap[w.heap.size]? = some (.cells #[.slice a n cap] 24 (0, 0)) := by
    rw [hw0]
    exact keepObj (World.grownBy_alloc _ _ none) (keepObj (World.grownBy_alloc _ _ none) (World.alloc_heap_new w _) (by simp)) (by simp)
  have q1 : w0.heap[w.heap.size + 1]? = some (.cells #[.bool false] 4 (0, 0)) := by
    rw [hw0]
    have h1 := World.alloc_heap_new (w.alloc (.cells #[.slice a n cap] 24)) (.cells #[.bool false] 4)
    rw [World.size_alloc] at h1
    exact keepObj (World.grownBy_alloc _ _ none) h1 (by simp)
  have q2 : w0.heap[w.heap.size + 1 + 1]? = some (.cells #[.int .i64 0] 25 (0, 0)) := by
    rw [hw0]
    have h1 := World.alloc_heap_new ((w.alloc (.cells #[.slice a n cap] 24)).alloc (.cells #[.bool false] 4)) (.cells #[.int .i64 0] 25)
    rw [World.size_alloc, World.size_alloc] at h1
    exact h1
  have HRS : Hid (Calls Try.prog 38 #[.slice a n cap] w0 fun e w' => ∃ p m : Nat, e = .returned (.tuple #[.agg #[.int .u8 (p : Int), .int .u32 (m : Int)], .bool gd]) ∧ Hid ((gd = true → p = pIn L ∧ m = mIn L) ∧ p < 256 ∧ m < 4294967296) ∧ Below w0.heap.size w0 w') := by
    rw [hgd]
    exact Calls.mono (readShape_any (hf.later b0)) fun e w' ⟨p, m, h1, h2, h3, h4, h5⟩ => ⟨p, m, h1, ⟨h2, h3, h4⟩, h5⟩
  have HGD : Hid (gd = good L) := hgd
  have Q : Hid (w0.heap[w.heap.size]? = some (.cells #[.slice a n cap] 24 (0, 0)) ∧ w0.heap[w.heap.size + 1]? = some (.cells #[.bool false] 4 (0, 0)) ∧ w0.heap[w.heap.size + 1 + 1]? = some (.cells #[.int .i64 0] 25 (0, 0)) ∧ w0.heap.size = w.heap.size + 3 ∧ Below w.heap.size w w0) := ⟨q0, q1, q2, sz0, b0⟩
  have c0 : w0.cell? ⟨w.heap.size, 0, none⟩ = some (.slice a n cap) := by simp [World.cell?, q0]
  unfold hasB chkE
  rw [← hgd]
  have HW0 : Hid (w0 = ((w.alloc (.cells #[.slice a n cap] 24)).alloc (.cells #[.bool false] 4)).alloc (.cells #[.int .i64 0] 25)) := hw0
  clear hgd hf hk q0 q1 q2 b0 hw0 sz0
  cases gd with
  | false =>
    refine callsIn_wide.1 (callsIn_of_wp_marks (n := 5) Try.func16 rfl trivial (wpIn_wide.2 ?_) rfl)
    simp only [Try.ntmps16, List.size_toArray, List.length_cons, List.length_nil, Nat.reduceAdd, Nat.reduceSub, Array.replicate_succ, Array.replicate_zero, List.push_toArray, List.append_toArray, List.nil_append, List.cons_append]
    go_wp2_with (go_at_call 38; rw [← HW0.out]; refine Calls.mono HRS.out ?_; rintro e1 w1 ⟨p, m, rfl, hpm, b1⟩; have x0 : Boxed (w1.alloc (.cells #[.int .u8 (p : Int), .int .u32 (m : Int)] 59)) w.heap.size 24 (.slice a n cap) := keepObj (World.grownBy_alloc _ _ none) ((b1.block _ (by rw [Q.out.2.2.2.1]; omega)).trans Q.out.1) (by simp); have x1 : Boxed (w1.alloc (.cells #[.int .u8 (p : Int), .int .u32 (m : Int)] 59)) (w.heap.size + 1) 4 (.bool false) := keepObj (World.grownBy_alloc _ _ none) ((b1.block _ (by rw [Q.out.2.2.2.1]; omega)).trans Q.out.2.1) (by simp); have x2 : Boxed (w1.alloc (.cells #[.int .u8 (p : Int), .int .u32 (m : Int)] 59)) (w.heap.size + 1 + 1) 25 (.int .i64 0) := keepObj (World.grownBy_alloc _ _ none) ((b1.block _ (by rw [Q.out.2.2.2.1]; omega)).trans Q.out.2.2.1) (by simp); have y0 := x0.cell; have y1 := x1.cell; have y2 := x2.cell; have z1 := x1.frozen; have z2 := x2.frozen; have bw1 : Below w.heap.size w (w1.alloc (.cells #[.int .u8 (p : Int), .int .u32 (m : Int)] 59)) := (Q.out.2.2.2.2.trans (b1.mono Q.out.2.2.2.2.size)).alloc (Nat.le_trans Q.out.2.2.2.2.size b1.size) _)
    refine ⟨.tuple #[.bool false, .int .i64 62], ?_, rfl, (bw1.setCell (p := ⟨w.heap.size + 1, 0, none⟩) (by simp) _).setCell (p := ⟨w.heap.size + 1 + 1, 0, none⟩) (by simp; omega) _⟩
    simp [results, Try.results16, go_sem, y1, y2]
  | true =>
    have hgo := HGD.out
    unfold good at hgo
    obtain ⟨h6, hL0, ⟨hp1, hp2, hm8, hm1, hm2⟩, hLl⟩ := of_decide_eq_true hgo.symm
    have HLn : Hid (n = L.length ∧ Bys L ∧ ∃ bf fo, a = some ⟨bf, fo, none⟩ ∧ ∀ i, i < n → w.cell? ⟨bf, fo + i, none⟩ = some (.int .u8 ((L.getD i 0 : Nat) : Int))) := by
      obtain ⟨hby, a1, c1, h2, h3, h4, h5, h6', h7⟩ := HF.out
      simp only [Value.slice.injEq] at h2
      obtain ⟨rfl, h2, rfl⟩ := h2
      refine ⟨h2, hby, ?_⟩
      rcases h7 with h7 | ⟨ba, oa, e1, e2⟩
      · rw [h7] at h6; simp at h6
      · exact ⟨ba, oa, e1, fun i hi => e2 i (by omega)⟩
    obtain ⟨hnL, hLb, bf, fo, rfl, hcL⟩ := HLn.out
    have HCL : Hid (Bys L ∧ ∀ i, i < n → w.cell? ⟨bf, fo + i, none⟩ = some (.int .u8 ((L.getD i 0 : Nat) : Int))) := ⟨hLb, hcL⟩
    have hnm : n = 6 + mIn L / 8 := by omega
    have HNM : Hid (n = 6 + mIn L / 8 ∧ 64 ≤ mIn L ∧ mIn L ≤ 20971520 ∧ mIn L % 8 = 0 ∧ pIn L ≤ 14) := ⟨hnm, hm1, hm2, hm8, hp2⟩
    clear hgo h6 hL0 hp1 hp2 hm8 hm1 hm2 hLl HLn hnL hLb hcL hnm
    have HHa : Hid (∀ wx, Below w.heap.size w wx → Calls Try.prog 39 #[.slice a' n' cap'] wx fun e w' => e = .returned (.agg #[.int .u32 ((hX k : Nat) : Int), .int .u32 ((hL k : Nat) : Int)]) ∧ Below wx.heap.size wx w') := fun wx hx => hash_any (HK.out.later hx)
    have HPl : Hid (∀ (p m : Nat) wx, Calls Try.prog 36 #[.agg #[.int .u8 (p : Int), .int .u32 (m : Int)], .agg #[.int .u32 ((hX k : Nat) : Int), .int .u32 ((hL k : Nat) : Int)]] wx fun e w' => e = .returned (.func (.func 48) #[] #[.pointer (some ⟨wx.heap.size + 1, 0, none⟩), .pointer (some ⟨wx.heap.size, 0, none⟩)]) ∧ w' = (wx.alloc (.cells #[.int .u8 (p : Int), .int .u32 (m : Int)] 59)).alloc (.cells #[.int .u32 ((hX k : Nat) : Int), .int .u32 ((hL k : Nat) : Int)] 63)) := fun p m wx => placesOf_any p m (hX k) (hL k) wx
    refine callsIn_wide.1 (callsIn_of_wp_marks (n := 5) Try.func16 rfl trivial (wpIn_wide.2 ?_) rfl)
    simp only [Try.ntmps16, List.size_toArray, List.length_cons, List.length_nil, Nat.reduceAdd, Nat.reduceSub, Array.replicate_succ, Array.replicate_zero, List.push_toArray, List.append_toArray, List.nil_append, List.cons_append]
    go_wp2_with (go_at_call 38; rw [← HW0.out]; refine Calls.mono HRS.out ?_; rintro e1 w1 ⟨p, m, rfl, hpm, b1⟩; have x0 : Boxed (w1.alloc (.cells #[.int .u8 (p : Int), .int .u32 (m : Int)] 59)) w.heap.size 24 (.slice (some ⟨bf, fo, none⟩) n cap) := keepObj (World.grownBy_alloc _ _ none) ((b1.block _ (by rw [Q.out.2.2.2.1]; omega)).trans Q.out.1) (by simp); have x1 : Boxed (w1.alloc (.cells #[.int .u8 (p : Int), .int .u32 (m : Int)] 59)) (w.heap.size + 1) 4 (.bool false) := keepObj (World.grownBy_alloc _ _ none) ((b1.block _ (by rw [Q.out.2.2.2.1]; omega)).trans Q.out.2.1) (by simp); have x2 : Boxed (w1.alloc (.cells #[.int .u8 (p : Int), .int .u32 (m : Int)] 59)) (w.heap.size + 1 + 1) 25 (.int .i64 0) := keepObj (World.grownBy_alloc _ _ none) ((b1.block _ (by rw [Q.out.2.2.2.1]; omega)).trans Q.out.2.2.1) (by simp); have y0 := x0.cell; have y1 := x1.cell; have y2 := x2.cell; have z1 := x1.frozen; have z2 := x2.frozen; have bw1 : Below w.heap.size w (w1.alloc (.cells #[.int .u8 (p : Int), .int .u32 (m : Int)] 59)) := (Q.out.2.2.2.2.trans (b1.mono Q.out.2.2.2.2.size)).alloc (Nat.le_trans Q.out.2.2.2.2.size b1.size) _)
    have sz1 : w.heap.size + 3 ≤ w1.heap.size := by have := b1.size; rw [Q.out.2.2.2.1] at this; exact this
    have hsh : (w1.alloc (.cells #[.int .u8 (p : Int), .int .u32 (m : Int)] 59)).heap[w1.heap.size]? = some (.cells #[.int .u8 (p : Int), .int .u32 (m : Int)] 59 (0, 0)) := World.alloc_heap_new w1 _
    obtain ⟨w2, hw2⟩ : ∃ w2, w2 = w1.alloc (.cells #[.int .u8 (p : Int), .int .u32 (m : Int)] 59) := ⟨_, rfl⟩
    rw [← hw2] at x0 x1 x2 y0 y1 y2 z1 z2 bw1 hsh ⊢
    have hB6 : w1.heap.size < w2.heap.size := (Array.getElem?_eq_some_iff.1 hsh).1
    clear hw2 b1 HRS HW0
    generalize w1.heap.size = B6 at *
    have s0 : w2.cell? ⟨B6, 0, none⟩ = some (.int .u8 (p : Int)) := by simp [World.cell?, hsh]
    have s1 : w2.cell? ⟨B6, 1, none⟩ = some (.int .u32 (m : Int)) := by simp [World.cell?, hsh]
    have s0d : w2.drew.cell? ⟨B6, 0, none⟩ = some (.int .u8 (p : Int)) := s0
    have s1d : w2.drew.cell? ⟨B6, 1, none⟩ = some (.int .u32 (m : Int)) := s1
    have bd := bw1.drew
    go_wp2
    go_region_held3 (fun wx => wx.cell? ⟨B6, 0, none⟩ = some (.int .u8 (p : Int)) ∧ wx.cell? ⟨B6, 1, none⟩ = some (.int .u32 (m : Int))) (first | exact ⟨s0d, s1d⟩ | exact ⟨t0, t1⟩ | exact ⟨t2, t3⟩) (first | (go_at_call 39; refine Calls.mono (HHa.out _ bd) ?_; rintro e3 w3 ⟨rfl, b3⟩; have t0 := (b3.cell (p := ⟨B6, 0, none⟩) hB6).trans s0d; have t1 := (b3.cell (p := ⟨B6, 1, none⟩) hB6).trans s1d) | (go_at_call 36; refine Calls.mono (HPl.out _ _ _) ?_; rintro e4 w4 ⟨rfl, rfl⟩; have hb6 : B6 < w3.heap.size := Nat.lt_of_lt_of_le hB6 b3.size; have t2 := ((((Below.refl _ w3).alloc (Nat.le_refl _) (.cells #[.int .u8 (p : Int), .int .u32 (m : Int)] 59)).alloc (by simp) (.cells #[.int .u32 ((hX k : Nat) : Int), .int .u32 ((hL k : Nat) : Int)] 63)).cell (p := ⟨B6, 0, none⟩) hb6).trans t0; have t3 := ((((Below.refl _ w3).alloc (Nat.le_refl _) (.cells #[.int .u8 (p : Int), .int .u32 (m : Int)] 59)).alloc (by simp) (.cells #[.int .u32 ((hX k : Nat) : Int), .int .u32 ((hL k : Nat) : Int)] 63)).cell (p := ⟨B6, 1, none⟩) hb6).trans t1))
    go_wp2
    obtain ⟨w9, hw9⟩ : ∃ w9, w9 = (w3.alloc (.cells #[.int .u8 (p : Int), .int .u32 (m : Int)] 59)).alloc (.cells #[.int .u32 ((hX k : Nat) : Int), .int .u32 ((hL k : Nat) : Int)] 63) := ⟨_, rfl⟩
    rw [← hw9]
    have g39 : w3.grownBy w9 none := by
      rw [hw9]
      exact (World.grownBy_alloc w3 _ none).andThen (World.grownBy_alloc _ _ none) (fun j e => by cases e)
    have hBs : w9.heap[w3.heap.size]? = some (.cells #[.int .u8 (p : Int), .int .u32 (m : Int)] 59 (0, 0)) := by
      rw [hw9]
      exact keepObj (World.grownBy_alloc _ _ none) (World.alloc_heap_new w3 _) (by simp)
    have hBh : w9.heap[w3.heap.size + 1]? = some (.cells #[.int .u32 ((hX k : Nat) : Int), .int .u32 ((hL k : Nat) : Int)] 63 (0, 0)) := by
      rw [hw9]
      have h1 := World.alloc_heap_new (w3.alloc (.cells #[.int .u8 (p : Int), .int .u32 (m : Int)] 59)) (.cells #[.int .u32 ((hX k : Nat) : Int), .int .u32 ((hL k : Nat) : Int)] 63)
      rw [World.size_alloc] at h1
      exact h1
    have x0' : Boxed w9 w.heap.size 24 (.slice (some ⟨bf, fo, none⟩) n cap) := keepObj g39 ((b3.block _ x0.lt).trans x0) (by simp)
    have x1' : Boxed w9 (w.heap.size + 1) 4 (.bool false) := keepObj g39 ((b3.block _ x1.lt).trans x1) (by simp)
    have x2' : Boxed w9 (w.heap.size + 1 + 1) 25 (.int .i64 0) := keepObj g39 ((b3.block _ x2.lt).trans x2) (by simp)
    have bw3 : Below w.heap.size w w3 := bd.trans (b3.mono bd.size)
    have bw9 : Below w.heap.size w w9 := bw3.grown g39 bw3.size (fun j e => by cases e)
    have l0 := x0'.lt
    have l1 := x1'.lt
    have l2 := x2'.lt
    have hBs9 := (Array.getElem?_eq_some_iff.1 hBs).1
    obtain ⟨ep, em⟩ := hpm.out.1 (by first | rfl | trivial)
    have hm64 : 64 ≤ m ∧ m ≤ 20971520 ∧ m % 8 = 0 ∧ p ≤ 14 := by have := HNM.out; rw [em, ep]; omega
    have HNE : Hid (n = 6 + m / 8) := by have := HNM.out; rw [em]; exact this.1
    have HPM : Hid (p = pIn L ∧ m = mIn L) := ⟨ep, em⟩
    have hxl := hX_lt k
    have hyl := hL_lt k
    clear hw9 b3 bd s0 s1 s0d s1d t0 t1 t2 t3 hb6 g39 x0 x1 x2 y0 y1 y2 z1 z2 bw1 hsh hB6 ep em hpm HHa HPl bw3
    refine (wpIn_wide (n := 5)).1 ?_
    refine wpIn_rangeFunc_ownG (F := Fence.wide) (w := w9) (w0 := w9) rfl (by decide) (gf := 48) (lb := #[.pointer (some ⟨w3.heap.size + 1, 0, none⟩), .pointer (some ⟨w3.heap.size, 0, none⟩)]) rfl trivial (enters_of Try.func48 (by kernel_rfl) rfl)
      (places_stops 4 (by decide) w3.heap.size (w3.heap.size + 1) p m (hX k) (hL k) (by omega) (by omega) (by omega) hxl hyl w9 hBs hBh) (fun h k => Eq.trans k h) (fun W l o o' hl _ _ _ => World.putObj_heap_other (by omega)) (Below.refl _ _) (fun _ => rfl)
      (fun pre W => (∀ j ∈ pre, bitsOf L j.val = true) ∧ w9.grownBy W none)
      (fun c pre W => c = Code.ret ∧ (∃ j ∈ pre, bitsOf L j.val = false) ∧ Boxed W (w.heap.size + 1) 4 (.bool false) ∧ Boxed W (w.heap.size + 1 + 1) 25 (.int .i64 0) ∧ Below w.heap.size w W)
      (fun s A B row hs hg hr => ⟨hs.1, hs.2.andThen hg (fun j e => .inl (hr j e).1)⟩)
      (fun c s A B row hs hg hr => ⟨hs.1, hs.2.1, hs.2.2.1.kept hg (fun e => by have := (hr _ e.symm).1; omega), hs.2.2.2.1.kept hg (fun e => by have := (hr _ e.symm).1; omega), hs.2.2.2.2.grown hg hs.2.2.2.2.size (fun j e => by have := (hr j e).1; have := bw9.size; omega)⟩)
      ⟨(fun j hj => by cases hj), ⟨rfl, rfl, rfl, Nat.le_refl _, fun _ _ _ => rfl⟩⟩
      (fun i => { tmps := #[.slice (some ⟨bf, fo, none⟩) n cap, .slice a' n' cap', .pointer (some ⟨w.heap.size, 0, none⟩), undef, .pointer (some ⟨w.heap.size + 1, 0, none⟩), .pointer (some ⟨w.heap.size + 1 + 1, 0, none⟩), .pointer (some ⟨B6, 0, none⟩), .bool true, .int .i64 ((i.val : Nat) : Int), .tuple #[.agg #[.int .u8 (p : Int), .int .u32 (m : Int)], .bool true], .slice (some ⟨bf, fo, none⟩) n cap, .tuple #[.agg #[.int .u8 (p : Int), .int .u32 (m : Int)], .bool true], .agg #[.int .u8 (p : Int), .int .u32 (m : Int)], .bool true, .bool true, .bool false, .agg #[.int .u8 (p : Int), .int .u32 (m : Int)], .slice a' n' cap', .agg #[.int .u32 ((hX k : Nat) : Int), .int .u32 ((hL k : Nat) : Int)], .func (.func 48) #[] #[.pointer (some ⟨w3.heap.size + 1, 0, none⟩), .pointer (some ⟨w3.heap.size, 0, none⟩)], .int .i64 ((i.val : Nat) : Int), undef, undef, undef, undef, undef, undef, undef, undef, undef, undef], defers := [] }) ?assign ?body ?done ?stop
    case assign =>
      intro l x W K hK
      gi_wp2
      exact hK
    case stop =>
      rintro Dm cc pre W hD ⟨kk, hkk, rfl⟩ ⟨rfl, ⟨j, hj, hjb⟩, y1, y2, bW⟩ hK
      have hf : hasL L k = false := by
        unfold hasL
        rw [← HPM.out.1, ← HPM.out.2, List.all_eq_false]
        exact ⟨j.val, mem_plL hj hkk, by simp [hjb]⟩
      gi_wp2
      refine leaves_marks [Dm] W bW.size ⟨by simp, fun E hE => by simp at hE; subst hE; exact ⟨by have := bw9.size; omega, hK⟩⟩ fun w' hs => ⟨.tuple #[.bool false, .int .i64 0], ?_, rfl, bW.trans hs.below⟩
      have c1 := Boxed.cell (hs.cells _ _ y1 rfl)
      have c2 := Boxed.cell (hs.cells _ _ y2 rfl)
      simp [results, Try.results16, go_sem, c1, c2]
    case body =>
      rintro l pre i W ⟨hall, hgw⟩ hlen
      have HA : Hid ((∀ j ∈ pre, bitsOf L j.val = true) ∧ w9.grownBy W none) := ⟨hall, hgw⟩
      have bW : Below w.heap.size w W := bw9.grown hgw bw9.size (fun j e => by cases e)
      have cB := (x0'.kept hgw (by simp)).cell
      have y1 := x1'.kept hgw (by simp)
      have y2 := x2'.kept hgw (by simp)
      have c1 := y1.cell
      have c2 := y2.cell
      have d1 := y1.frozen
      have d2 := y2.frozen
      have hNE := HNE.out
      obtain ⟨iv, hiv2⟩ : ∃ iv, iv = i.val := ⟨_, rfl⟩
      have hiv : iv < m := by rw [hiv2]; exact i.isLt
      obtain ⟨q, hqq⟩ : ∃ q, q = 6 + iv / 8 := ⟨_, rfl⟩
      have hq : q < n := by omega
      have cL := (bW.cell (p := ⟨bf, fo + q, none⟩) (World.block_lt_of_cell? _ _ (HCL.out.2 q hq))).trans (HCL.out.2 q hq)
      have hyl8 := HCL.out.1.get q
      have hbit : bitsOf L iv = (L.getD q 0).testBit (7 - iv % 8) := by
        unfold bitsOf bitAt
        rw [hqq]
        congr 1
        simp [List.getD]
      obtain ⟨yv, hyv⟩ : ∃ yv, yv = L.getD q 0 := ⟨_, rfl⟩
      rw [← hyv] at cL hyl8 hbit
      have han := u8_and_nat yv (maskN iv) hyl8 (maskN_lt iv)
      have hmk := and_mask hyl8 iv
      rw [← hbit] at hmk
      have HMa : Hid (∀ n wx, CallsIn Fence.wide n Try.prog 37 #[.int .i64 (iv : Int)] wx fun e w' => e = .returned (.int .u8 ((maskN iv : Nat) : Int)) ∧ w' = wx) := fun n wx => callsIn_wide.2 (mask_any iv (by omega) wx)
      have hq2 : (q : Int) < (n : Int) := by omega
      have hwr : IntKind.i64.wrap (6 + IntKind.i64.wrap ((iv : Int) / 8)) = (q : Int) := by
        rw [IntWalk.i64_in ((iv : Int) / 8) ⟨by omega, by omega⟩, IntWalk.i64_in _ ⟨by omega, by omega⟩]
        omega
      obtain ⟨mk1, hmk1⟩ : ∃ mk1, mk1 = maskN iv := ⟨_, rfl⟩
      obtain ⟨nv, hnv⟩ : ∃ nv, nv = yv &&& maskN iv := ⟨_, rfl⟩
      rw [← hnv] at han hmk
      rw [← hmk1] at han HMa
      have HIV : Hid (iv = i.val) := hiv2
      rw [← hiv2]
      have hmix : Try.prog.follows .mixedOrders = true := by kernel_rfl
      have HY : Hid (Boxed W (w.heap.size + 1) 4 (.bool false) ∧ Boxed W (w.heap.size + 1 + 1) 25 (.int .i64 0) ∧ Below w.heap.size w W) := ⟨y1, y2, bW⟩
      cases hb : bitsOf L iv with
      | true =>
        have hnz : ((nv : Int) == 0) = false := by
          rw [hb] at hmk
          have : nv ≠ 0 := fun e => by have := hmk.1 e; cases this
          simp; omega
        have FIN : Hid (KeepsFrom w9.heap.size W W.drew ∧ KpB w3.heap.size W W.drew ∧ (∀ j ∈ pre ++ [i], bitsOf L j.val = true) ∧ w9.grownBy W.drew none) := by
          refine ⟨(KeepsOthers.drew _).from _, rfl, fun j hj => ?_, ⟨HA.out.2.os, HA.out.2.tape, HA.out.2.output, HA.out.2.size, HA.out.2.block⟩⟩
          rcases List.mem_append.1 hj with hj | hj
          · exact HA.out.1 j hj
          · simp at hj
            subst hj
            rw [← HIV.out]
            exact hb
        clear hall hgw hNE hiv2 hqq hbit hyv hmk1 hnv hmk y1 y2 x0' x1' x2' bw9 hBs hBh bW l0 l1 l2 hBs9 hb HA HCL
        gi_wp2
        gi_region_with_o (refine ⟨trivial, ?_⟩; gi_at_call 37; refine CallsIn.mono (CallsIn.inRound l (HMa.out _ _)) ?_; rintro e8 w8 ⟨rfl, rfl⟩)
        all_goals gi_wp2
        all_goals exact FIN.out
      | false =>
        have e0 : nv = 0 := hmk.2 hb
        have han' : bits .and .u8 (yv : Int) (mk1 : Int) = 0 := by rw [han, e0]; rfl
        have FIN : Hid (KeepsFrom w9.heap.size W ((W.setCell ⟨w.heap.size + 1, 0, none⟩ (.bool false)).setCell ⟨w.heap.size + 1 + 1, 0, none⟩ (.int .i64 0)).drew ∧ (Code.ret = Code.ret ∧ (∃ j ∈ pre ++ [i], bitsOf L j.val = false) ∧ Boxed ((W.setCell ⟨w.heap.size + 1, 0, none⟩ (.bool false)).setCell ⟨w.heap.size + 1 + 1, 0, none⟩ (.int .i64 0)).drew (w.heap.size + 1) 4 (.bool false) ∧ Boxed ((W.setCell ⟨w.heap.size + 1, 0, none⟩ (.bool false)).setCell ⟨w.heap.size + 1 + 1, 0, none⟩ (.int .i64 0)).drew (w.heap.size + 1 + 1) 25 (.int .i64 0) ∧ Below w.heap.size w ((W.setCell ⟨w.heap.size + 1, 0, none⟩ (.bool false)).setCell ⟨w.heap.size + 1 + 1, 0, none⟩ (.int .i64 0)).drew)) := by
          refine ⟨(((KeepsOthers.setCell W _ _).trans (KeepsOthers.setCell _ _ _)).trans (KeepsOthers.drew _)).from _, rfl, ⟨i, by simp, by rw [← HIV.out]; exact hb⟩, (y1.set _).other (by omega) _, (y2.other (by omega) _).set _, ((bW.setCell (p := ⟨w.heap.size + 1, 0, none⟩) (by simp) _).setCell (p := ⟨w.heap.size + 1 + 1, 0, none⟩) (by simp; omega) _).drew⟩
        clear hall hgw hNE hiv2 hqq hbit hyv hmk1 hnv hmk y1 y2 x0' x1' x2' bw9 hBs hBh bW l0 l1 l2 hBs9 hb HA HCL han e0
        gi_wp2
        gi_region_with_o (refine ⟨trivial, ?_⟩; gi_at_call 37; refine CallsIn.mono (CallsIn.inRound l (HMa.out _ _)) ?_; rintro e8 w8 ⟨rfl, rfl⟩)
        all_goals gi_wp2
        all_goals exact ⟨FIN.out.1, rfl, FIN.out.2.2⟩
    case done =>
      rintro Dm xs W hD rfl ⟨hall, hgw⟩ hK
      have y1 := x1'.kept hgw (by simp)
      have y2 := x2'.kept hgw (by simp)
      have c1 := y1.cell
      have c2 := y2.cell
      have d1 := y1.frozen
      have d2 := y2.frozen
      have hf : hasL L k = true := by
        unfold hasL
        rw [← HPM.out.1, ← HPM.out.2, List.all_eq_true]
        intro i hi
        obtain ⟨j, hj, rfl⟩ := placesN_mem (hm := by omega) hi
        exact hall j hj
      have bW : Below w.heap.size w W := bw9.grown hgw bw9.size (fun j e => by cases e)
      have HY : Hid (Boxed W (w.heap.size + 1) 4 (.bool false) ∧ Boxed W (w.heap.size + 1 + 1) 25 (.int .i64 0) ∧ Below w.heap.size w W) := ⟨y1, y2, bW⟩
      have hDw : w.heap.size ≤ Dm := by have := bw9.size; omega
      have hD1 : w.heap.size + 1 ≠ Dm := by omega
      have hD2 : w.heap.size + 1 + 1 ≠ Dm := by omega
      have hKK : Hid (((W.setCell ⟨w.heap.size + 1, 0, none⟩ (.bool true)).setCell ⟨w.heap.size + 1 + 1, 0, none⟩ (.int .i64 0)).heap[Dm]? = some (.deferred (some [])) ∧ Boxed ((W.setCell ⟨w.heap.size + 1, 0, none⟩ (.bool true)).setCell ⟨w.heap.size + 1 + 1, 0, none⟩ (.int .i64 0)) (w.heap.size + 1) 4 (.bool true) ∧ Boxed ((W.setCell ⟨w.heap.size + 1, 0, none⟩ (.bool true)).setCell ⟨w.heap.size + 1 + 1, 0, none⟩ (.int .i64 0)) (w.heap.size + 1 + 1) 25 (.int .i64 0) ∧ Below w.heap.size w ((W.setCell ⟨w.heap.size + 1, 0, none⟩ (.bool true)).setCell ⟨w.heap.size + 1 + 1, 0, none⟩ (.int .i64 0))) := by
        refine ⟨?_, (y1.set _).other (by omega) _, (y2.other (by omega) _).set _, (bW.setCell (p := ⟨w.heap.size + 1, 0, none⟩) (by simp) _).setCell (p := ⟨w.heap.size + 1 + 1, 0, none⟩) (by simp; omega) _⟩
        rw [heap_setCell_other _ ⟨w.heap.size + 1 + 1, 0, none⟩ Dm _ (fun e => hD2 (by simpa using e.symm)), heap_setCell_other _ ⟨w.heap.size + 1, 0, none⟩ Dm _ (fun e => hD1 (by simpa using e.symm))]
        exact hK
      go_wp2
      refine leaves_marks [Dm] _ hKK.out.2.2.2.size ⟨by simp, fun E hE => by simp at hE; subst hE; exact ⟨hDw, hKK.out.1⟩⟩ fun w' hs => ⟨.tuple #[.bool true, .int .i64 0], ?_, rfl, hKK.out.2.2.2.trans hs.below⟩
      have c3 := Boxed.cell (hs.cells _ _ hKK.out.2.1 rfl)
      have c4 := Boxed.cell (hs.cells _ _ hKK.out.2.2.1 rfl)
      simp [results, Try.results16, go_sem, c3, c4]
end Go.Proofs.Ytieehdhinponcaa

namespace Go.Proofs.Ytieehdhinponcaa
open Go.RowKit Go.Shelf
set_option linter.unusedVariables false

theorem byteS_or2 (S T : Nat → Bool) (q : Nat) : byteS S q ||| byteS T q = byteS (fun i => S i || T i) q := by
  refine byte_ext (or_lt (byteS_lt _ _) (byteS_lt _ _)) (byteS_lt _ _) fun k hk => ?_
  rw [Nat.testBit_or, byteS_bit S q k hk, byteS_bit T q k hk, byteS_bit _ q k hk]
theorem bodyS_or (m : Nat) (S T : Nat → Bool) : (bodyS m S).zipWith (· ||| ·) (bodyS m T) = bodyS m (fun i => S i || T i) := by
  apply List.ext_getElem
  · simp [bodyS]
  · intro q h1 h2
    simp [bodyS, byteS_or2]
/-- The union of two filters of one shape. -/
theorem union_is {p m : Nat} (S T : Nat → Bool) : unionL (filt p m S) (filt p m T) = filt p m (fun i => S i || T i) := by
  unfold unionL
  have e1 : (filt p m S).take 6 = headL p m := by simp [filt, headL]
  have e2 : ∀ S, (filt p m S).drop 6 = bodyS m S := fun S => by simp [filt, headL]
  rw [e1, e2, e2, bodyS_or]
  rfl

theorem good_build {b : Nat} {ks : List (List Nat)} (hb : b ≤ 20) (hn : ks.length ≤ 1048576) : good (buildL b ks) = true ∧ pIn (buildL b ks) = pOf b ∧ mIn (buildL b ks) = mOf b (uniq ks).length :=
  good_filt _ (pOf_le hb) (mOf_le hb (Nat.le_trans (uniq_le ks) hn))
theorem build_bys {b : Nat} {ks : List (List Nat)} (hb : b ≤ 20) (hn : ks.length ≤ 1048576) : Bys (buildL b ks) := by
  have h1 := pOf_le hb
  have h2 := mOf_le (n := (uniq ks).length) hb (Nat.le_trans (uniq_le ks) hn)
  exact filt_bys _ (by omega) (by omega)
theorem build_len {b : Nat} {ks : List (List Nat)} (hb : b ≤ 20) (hn : ks.length ≤ 1048576) : (buildL b ks).length ≤ 3000000 ∧ 14 ≤ (buildL b ks).length := by
  have h2 := mOf_le (n := (uniq ks).length) hb (Nat.le_trans (uniq_le ks) hn)
  unfold buildL
  rw [filt_length]
  omega
/-- A union with a filter of its shape has all that is in it. -/
theorem has_union {b : Nat} {ks qs : List (List Nat)} {k : List Nat} (hb : b ≤ 20) (hn : ks.length ≤ 1048576) (hq : qs.length ≤ 1048576) (hu : uniE (buildL b ks) (buildL b qs) = 0) :
    good (unionL (buildL b ks) (buildL b qs)) = true ∧ (k ∈ ks → hasL (unionL (buildL b ks) (buildL b qs)) k = true) := by
  obtain ⟨g1, p1, m1⟩ := good_build hb hn
  obtain ⟨g2, p2, m2⟩ := good_build hb hq
  have hsh : mOf b (uniq ks).length = mOf b (uniq qs).length := by
    unfold uniE at hu
    rw [g1, g2] at hu
    simp only [Bool.and_self, if_true] at hu
    split at hu
    · rename_i h
      rw [m1, m2] at h
      exact h.2
    · cases hu
  have e : unionL (buildL b ks) (buildL b qs) = filt (pOf b) (mOf b (uniq ks).length) (fun i => keyS ks (pOf b) (mOf b (uniq ks).length) i || keyS qs (pOf b) (mOf b (uniq ks).length) i) := by
    unfold buildL
    rw [← hsh]
    exact union_is _ _
  have hm := mOf_le (n := (uniq ks).length) hb (Nat.le_trans (uniq_le ks) hn)
  obtain ⟨g3, p3, m3⟩ := good_filt (fun i => keyS ks (pOf b) (mOf b (uniq ks).length) i || keyS qs (pOf b) (mOf b (uniq ks).length) i) (pOf_le hb) hm
  rw [e]
  refine ⟨g3, fun hk => ?_⟩
  unfold hasL
  rw [p3, m3, List.all_eq_true]
  intro i hi
  rw [bitsOf_filt _ hm.2.2 (placesN_lt (by omega) hi)]
  have : keyS ks (pOf b) (mOf b (uniq ks).length) i = true := by
    unfold keyS
    rw [List.any_eq_true]
    exact ⟨k, hk, by simpa using hi⟩
  rw [this]
  rfl
theorem uni_or {b : Nat} {ks qs : List (List Nat)} (hb : b ≤ 20) (hn : ks.length ≤ 1048576) (hq : qs.length ≤ 1048576) : uniE (buildL b ks) (buildL b qs) = 0 ∨ uniE (buildL b ks) (buildL b qs) = 63 := by
  unfold uniE
  rw [(good_build hb hn).1, (good_build hb hq).1]
  simp only [Bool.and_self, if_true]
  split
  · exact .inl rfl
  · exact .inr rfl

theorem st_1 : bldE 10 2 = 0 := by decide
theorem st_2 : hasB (buildL 10 [[97], [98]]) [98] = true := by decide +kernel
theorem st_3 : hasB (buildL 10 [[97], [98]]) [122, 122] = false := by decide +kernel
theorem st_4 : chkE (buildL 10 [[97], [98]]) = 0 := by decide +kernel
theorem st_5 : onesL (buildL 10 [[97], [98]]) > 1 := by decide +kernel
theorem st_6 : onesL (buildL 10 [[97], [98]]) < 1000 := by decide +kernel

theorem rd_lit {w : World} {g n : Nat} {bs : List Nat} (hn : n = bs.length) (hb : Bys bs) (hl : bs.length ≤ 1000) (h : ∀ i, i < bs.length → w.cell? ⟨g, i, none⟩ = some (.int .u8 ((bs.getD i 0 : Nat) : Int))) : Rd w (.slice (some ⟨g, 0, none⟩) n n) bs := by
  subst hn
  exact ⟨hb, _, _, rfl, Nat.le_refl _, by unfold maxLen; omega, by omega, .inr ⟨g, 0, rfl⟩, .inr ⟨g, 0, rfl, fun i hi => by rw [Nat.zero_add]; exact h i hi⟩⟩
theorem bys97 : Bys [97] := by intro x hx; simp at hx; omega
theorem bys98 : Bys [98] := by intro x hx; simp at hx; omega
theorem byszz : Bys [122, 122] := by intro x hx; simp at hx; omega

set_option maxRecDepth 100000 in
set_option maxHeartbeats 2000000 in
theorem started_any (w : World) : Calls Try.prog 12 #[] w fun e w' => e = .returned (.bool true) ∧ Below w.heap.size w w' := by
  have HB : Hid (∀ (wx : World) (v : Value), RdP wx v [[97], [98]] → Calls Try.prog 13 #[.int .i64 10, v] wx fun e w' => ∃ a m c, e = .returned (.tuple #[.slice a m c, .int .i64 0]) ∧ Own w' wx.heap.size (.slice a m c) m (buildL 10 [[97], [98]]) ∧ Below wx.heap.size wx w') := by
    intro wx v hv
    have := build_any 10 hv
    unfold bldL at this
    rw [show ([[97], [98]] : List (List Nat)).length = 2 from rfl, st_1] at this
    exact this
  have HBY : Hid (Bys (buildL 10 [[97], [98]])) := build_bys (by decide) (by decide)
  have HLN := build_len (b := 10) (ks := [[97], [98]]) (by decide) (by decide)
  have HST : Hid (hasB (buildL 10 [[97], [98]]) [98] = true ∧ hasB (buildL 10 [[97], [98]]) [122, 122] = false ∧ chkE (buildL 10 [[97], [98]]) = 0 ∧ onesL (buildL 10 [[97], [98]]) > 1 ∧ onesL (buildL 10 [[97], [98]]) < 1000) := ⟨st_2, st_3, st_4, st_5, st_6⟩
  generalize buildL 10 [[97], [98]] = F at *
  have k1 := Joins.run_convert_bytes_const_at (P := Try.prog) w 24 5 #[.int .u8 97] 1 1 w.heap.size rfl und_bytes und_byte
  have k2 := Joins.run_convert_bytes_const_at (P := Try.prog) (w.alloc (.cells #[.int .u8 97] 5 (1, 2))) 24 5 #[.int .u8 98] 1 1 (w.heap.size + 1) (by simp) und_bytes und_byte
  simp only [List.size_toArray, List.length_cons, List.length_nil, Nat.zero_add] at k1 k2
  obtain ⟨W2, hW2⟩ : ∃ W2, W2 = ((w.alloc (.cells #[.int .u8 97] 5 (1, 2))).alloc (.cells #[.int .u8 98] 5 (1, 2))).alloc (.cells #[.slice (some ⟨w.heap.size, 0, none⟩) 1 1, .slice (some ⟨w.heap.size + 1, 0, none⟩) 1 1] 24) := ⟨_, rfl⟩
  have hRP : Hid (RdP W2 (.slice (some ⟨w.heap.size + 1 + 1, 0, none⟩) 2 2) [[97], [98]] ∧ Below w.heap.size w W2) := by
    have h0 : W2.heap[w.heap.size]? = some (.cells #[.int .u8 97] 5 (1, 2)) := by
      rw [hW2]; exact keepObj (World.grownBy_alloc _ _ none) (keepObj (World.grownBy_alloc _ _ none) (World.alloc_heap_new w _) (by simp)) (by simp)
    have h1 : W2.heap[w.heap.size + 1]? = some (.cells #[.int .u8 98] 5 (1, 2)) := by
      rw [hW2]
      have e := World.alloc_heap_new (w.alloc (.cells #[.int .u8 97] 5 (1, 2))) (.cells #[.int .u8 98] 5 (1, 2))
      rw [World.size_alloc] at e
      exact keepObj (World.grownBy_alloc _ _ none) e (by simp)
    have h2 : W2.heap[w.heap.size + 1 + 1]? = some (.cells #[.slice (some ⟨w.heap.size, 0, none⟩) 1 1, .slice (some ⟨w.heap.size + 1, 0, none⟩) 1 1] 24 (0, 0)) := by
      rw [hW2]
      have e := World.alloc_heap_new ((w.alloc (.cells #[.int .u8 97] 5 (1, 2))).alloc (.cells #[.int .u8 98] 5 (1, 2))) (.cells #[.slice (some ⟨w.heap.size, 0, none⟩) 1 1, .slice (some ⟨w.heap.size + 1, 0, none⟩) 1 1] 24)
      rw [World.size_alloc, World.size_alloc] at e
      exact e
    refine ⟨⟨by simp, _, _, rfl, .inr ⟨w.heap.size + 1 + 1, 0, rfl, fun i hi => ?_⟩⟩, ?_⟩
    · match i, hi with
      | 0, _ => exact ⟨.slice (some ⟨w.heap.size, 0, none⟩) 1 1, (Joins.cell_of_block h2 _).trans rfl, rd_lit rfl bys97 (by simp) (fun j hj => by match j, hj with | 0, _ => exact (Joins.cell_of_block h0 _).trans rfl)⟩
      | 1, _ => exact ⟨.slice (some ⟨w.heap.size + 1, 0, none⟩) 1 1, (Joins.cell_of_block h2 _).trans rfl, rd_lit rfl bys98 (by simp) (fun j hj => by match j, hj with | 0, _ => exact (Joins.cell_of_block h1 _).trans rfl)⟩
    · rw [hW2]; exact (((Below.refl _ _).alloc (Nat.le_refl _) _).alloc (by simp) _).alloc (by simp; omega) _
  have HW2 : Hid (W2 = ((w.alloc (.cells #[.int .u8 97] 5 (1, 2))).alloc (.cells #[.int .u8 98] 5 (1, 2))).alloc (.cells #[.slice (some ⟨w.heap.size, 0, none⟩) 1 1, .slice (some ⟨w.heap.size + 1, 0, none⟩) 1 1] 24)) := hW2
  clear hW2
  have k3 : ∀ wx : World, (convert 24 24 (.slice (some ⟨wx.heap.size, 0, none⟩) 1 1)).run Try.prog (wx.alloc (.cells #[.int .u8 98] 5)) = .ok (.slice (some ⟨wx.heap.size, 0, none⟩) 1 1) (wx.alloc (.cells #[.int .u8 98] 5 (1, 2))) := fun wx => Joins.run_convert_bytes_const_at (P := Try.prog) wx 24 5 #[.int .u8 98] 1 1 wx.heap.size rfl und_bytes und_byte
  have k4 : ∀ wx : World, (convert 24 24 (.slice (some ⟨wx.heap.size, 0, none⟩) 2 2)).run Try.prog (wx.alloc (.cells #[.int .u8 122, .int .u8 122] 5)) = .ok (.slice (some ⟨wx.heap.size, 0, none⟩) 2 2) (wx.alloc (.cells #[.int .u8 122, .int .u8 122] 5 (2, 3))) := fun wx => Joins.run_convert_bytes_const_at (P := Try.prog) wx 24 5 #[.int .u8 122, .int .u8 122] 2 2 wx.heap.size rfl und_bytes und_byte
  have HH1 : Hid (∀ (w1 : World) (a : Option Addr) (m c : Nat), Rd w1 (.slice a m c) F → Calls Try.prog 16 #[.slice a m c, .slice (some ⟨w1.heap.size, 0, none⟩) 1 1] (w1.alloc (.cells #[.int .u8 98] 5 (1, 2))) fun e w' => e = .returned (.tuple #[.bool true, .int .i64 0]) ∧ Below w1.heap.size w1 w') := by
    intro w1 a m c hr
    have ba := (Below.refl _ w1).alloc (Nat.le_refl _) (.cells #[.int .u8 98] 5 (1, 2))
    have h0 := World.alloc_heap_new w1 (.cells #[.int .u8 98] 5 (1, 2))
    have hk : Rd (w1.alloc (.cells #[.int .u8 98] 5 (1, 2))) (.slice (some ⟨w1.heap.size, 0, none⟩) 1 1) [98] := rd_lit rfl bys98 (by simp) (fun j hj => by match j, hj with | 0, _ => exact (Joins.cell_of_block h0 _).trans rfl)
    refine Calls.mono (has_any (hr.later ba) hk) fun e w' h => ⟨by rw [h.1, HST.out.1, HST.out.2.2.1]; rfl, ba.trans (h.2.mono (by simp))⟩
  have HH2 : Hid (∀ (w1 : World) (a : Option Addr) (m c : Nat), Rd w1 (.slice a m c) F → Calls Try.prog 16 #[.slice a m c, .slice (some ⟨w1.heap.size, 0, none⟩) 2 2] (w1.alloc (.cells #[.int .u8 122, .int .u8 122] 5 (2, 3))) fun e w' => e = .returned (.tuple #[.bool false, .int .i64 0]) ∧ Below w1.heap.size w1 w') := by
    intro w1 a m c hr
    have ba := (Below.refl _ w1).alloc (Nat.le_refl _) (.cells #[.int .u8 122, .int .u8 122] 5 (2, 3))
    have h0 := World.alloc_heap_new w1 (.cells #[.int .u8 122, .int .u8 122] 5 (2, 3))
    have hk : Rd (w1.alloc (.cells #[.int .u8 122, .int .u8 122] 5 (2, 3))) (.slice (some ⟨w1.heap.size, 0, none⟩) 2 2) [122, 122] := rd_lit rfl byszz (by simp) (fun j hj => by match j, hj with | 0, _ => exact (Joins.cell_of_block h0 _).trans rfl | 1, _ => exact (Joins.cell_of_block h0 _).trans rfl)
    refine Calls.mono (has_any (hr.later ba) hk) fun e w' h => ⟨by rw [h.1, HST.out.2.1, HST.out.2.2.1]; rfl, ba.trans (h.2.mono (by simp))⟩
  obtain ⟨o, ho⟩ : ∃ o, o = onesL F := ⟨_, rfl⟩
  have ho1 : (1 : Int) < (o : Int) := by have := HST.out.2.2.2.1; omega
  have HO : Hid (∀ (wx : World) (a : Option Addr) (m c : Nat), Rd wx (.slice a m c) F → Calls Try.prog 20 #[.slice a m c] wx fun e w' => e = .returned (.int .i64 (o : Int)) ∧ Below wx.heap.size wx w') := by
    intro wx a m c hr
    rw [ho]
    exact ones_any hr
  clear ho
  have HN : Hid (∀ (z : Int) (wx : World), Calls Try.prog 14 #[.int .i64 z] wx fun e w' => e = .returned (.int .i64 z) ∧ w' = wx) := num_any
  go_enter Try.func12, Try.ntmps12
  go_wp2_with (first | (go_at_call 13; rw [← HW2.out]; refine Calls.mono (HB.out _ _ hRP.out.1) ?_; rintro e1 w1 ⟨a1, m1, c1, rfl, own1, b1⟩; have r1 : Hid (Rd w1 (.slice a1 m1 c1) F ∧ Below w.heap.size w w1) := ⟨own1.rd HBY.out (by rw [own1.1]; omega), hRP.out.2.trans (b1.mono hRP.out.2.size)⟩; clear own1 b1) | (have R2 := r2; go_at_call 16; refine Calls.mono (HH2.out _ _ _ _ r2.out.1) ?_; rintro e3 w3 ⟨rfl, b3⟩; have r3 : Hid (Rd w3 (.slice a1 m1 c1) F ∧ Below w.heap.size w w3) := ⟨r2.out.1.later b3, r2.out.2.trans (b3.mono r2.out.2.size)⟩; clear b3) | (go_at_call 16; refine Calls.mono (HH1.out _ _ _ _ r1.out.1) ?_; rintro e2 w2 ⟨rfl, b2⟩; have r2 : Hid (Rd w2 (.slice a1 m1 c1) F ∧ Below w.heap.size w w2) := ⟨r1.out.1.later b2, r1.out.2.trans (b2.mono r1.out.2.size)⟩; clear b2) | (go_at_call 14; refine Calls.mono (HN.out _ _) ?_; rintro e4 w4 ⟨rfl, rfl⟩) | (go_at_call 20; refine Calls.mono (HO.out _ _ _ _ r3.out.1) ?_; rintro e5 w5 ⟨rfl, b5⟩))
  go_ret
  exact ⟨rfl, r3.out.2.trans (b5.mono r3.out.2.size)⟩
end Go.Proofs.Ytieehdhinponcaa
