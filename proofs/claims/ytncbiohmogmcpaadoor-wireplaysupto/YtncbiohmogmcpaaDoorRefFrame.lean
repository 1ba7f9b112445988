import Derived.Test.YtncbiohmogmcpaaDoorRefSum
import Derived.Deep.RegionHeld3
namespace Go.Proofs.YtncbiohmogmcpaaDoor
open Go.RowKit
set_option linter.unusedVariables false

theorem refSum_at {v : Value} {ps : List (List Nat)} {w : World} (hp : RdP w v ps) {S : Nat} (h : sumL ps.flatten = S) :
    Calls Tryd.prog 70 #[v] w fun e w' => e = .returned (.int .u32 (S : Int)) ∧ w' = w := by subst h; exact refSum_any hp

theorem own_new (w : World) (B g : Nat) (hg : g = w.heap.size) (hB : B ≤ w.heap.size) (arr : Array Value) (bs : List Nat) (h : arr.toList = bv bs) (n : Nat) (hn : n = bs.length) (hl : n ≤ 1000) : Own (w.alloc (.cells arr 5)) B (.slice (some ⟨g, 0, none⟩) n n) n bs := by
  subst hg
  have hsz : arr.size = n := by rw [← Array.length_toList, h, bv_length, hn]
  refine ⟨hn, by rw [bv_length, hn]; omega, .inr ⟨w.heap.size, n, arr, rfl, hB, heap_new w _, Nat.le_refl _, by unfold maxLen; omega, by omega, ?_⟩⟩
  rw [h, List.take_of_length_le (by rw [bv_length]; omega)]

set_option maxRecDepth 100000 in
set_option maxHeartbeats 1000000 in
theorem sealed_any {v : Value} {bs : List Nat} {w : World} (hr : Rd w v bs) :
    Calls Tryd.prog 73 #[v] w fun e w' => ∃ a m c, e = .returned (.slice a m c) ∧ Own w' w.heap.size (.slice a m c) m (le4 (sumL bs)) ∧ Below w.heap.size w w' := by
  obtain ⟨a, n, cap, rfl⟩ := rd_slice hr
  obtain ⟨S, hS⟩ : ∃ S, S = sumL bs := ⟨_, rfl⟩
  have HS : Hid (sumL [bs].flatten = S) := by unfold Hid; rw [hS]; simp
  have hs : S < 4294967296 := hS ▸ sumL_lt bs
  rw [← hS]
  clear hS
  have hp := RdP.one hr
  have A1 := (Below.refl w.heap.size w).alloc (Nat.le_refl _) (.cells #[.slice a n cap] 27)
  go_enter Tryd.func73, Tryd.ntmps73
  go_wp2_with fail
  refine (refSum_at hp HS.out).mono ?_
  rintro e w1 ⟨rfl, rfl⟩
  go_wp2
  go_ret
  have A2 := A1.alloc A1.size (.cells #[.int .u8 ((S : Int) % 256), .int .u8 ((S : Int) / 256 % 256), .int .u8 ((S : Int) / 65536 % 256), .int .u8 ((S : Int) / 16777216)] 5)
  refine ⟨_, 4, 4, rfl, own_new _ w.heap.size _ (by simp) A1.size _ _ ?_ 4 rfl (by omega), A2⟩
  simp [bv, le4]

set_option maxRecDepth 100000 in
theorem refFrame_long {v : Value} {bs : List Nat} {w : World} (hr : Rd w v bs) (hl : 1048576 < bs.length) :
    Calls Tryd.prog 42 #[v] w fun e w' => e = .returned (.tuple #[.slice none 0 0, .int .i64 2]) ∧ w' = w := by
  obtain ⟨a, n, cap, rfl⟩ := rd_slice hr
  obtain ⟨hn, _, _, _⟩ := rd_lens hr
  have h : (1048576 : Int) < (n : Int) := by omega
  clear hr hn
  go_enter Tryd.func42, Tryd.ntmps42
  go_wp2
  go_ret2
  exact ⟨rfl, rfl⟩
theorem be8_low (n : Nat) (h : n ≤ 1048576) : (be8 n).drop 4 = be4 n := by
  have h1 : n / 16777216 % 256 = n / 16777216 := by omega
  simp [be8, be4, h1]

set_option maxRecDepth 100000 in
set_option maxHeartbeats 2000000 in
theorem refFrame_ok {v : Value} {bs : List Nat} {w : World} (hr : Rd w v bs) (hl : bs.length ≤ 1048576) :
    Calls Tryd.prog 42 #[v] w fun e w' => ∃ a m c, e = .returned (.tuple #[.slice a m c, .int .i64 0]) ∧ Own w' w.heap.size (.slice a m c) m (frameL bs) ∧ Below w.heap.size w w' := by
  obtain ⟨a, n, cap, rfl⟩ := rd_slice hr
  obtain ⟨hn, hle, hm, hl48⟩ := rd_lens hr
  rw [← hn] at hl
  have HN : Hid (n = bs.length) := hn
  have hl2 : (n : Int) ≤ 1048576 := by omega
  have hem : (n : Int) % 18446744073709551616 = (n : Int) := by omega
  have HB4 : Hid ((be8 n).drop 4 = be4 n) := be8_low n hl
  have HBY : Hid (Bys (be4 n)) := be4_bys n (by omega)
  have HF : Hid (frameL bs = ((be4 n ++ le4 (sumL (be4 n))) ++ bs) ++ le4 (sumL bs)) := by unfold Hid frameL; rw [← hn]
  have HSB : Hid (∀ l : List Nat, Bys (le4 (sumL l))) := fun l => le4_bys _ (sumL_lt l)
  clear hn
  go_enter Tryd.func42, Tryd.ntmps42
  go_wp2_with fail
  refine (eight_any n (by omega) _).mono ?_
  rintro e w1 ⟨a1, m1, c1, rfl, own1, hb1⟩
  have hm1 : m1 = 8 := own1.1
  subst hm1
  have r8 := own1.rd (be8_bys n) (by omega)
  obtain ⟨hx8, hc8, hcm, hy8⟩ := rd_lens r8
  clear hx8 hy8
  rcases rd_some r8 with ⟨h0, _⟩ | ⟨g, off, rfl⟩
  · omega
  have r4 := r8.past 4 (by omega) (off' := off + 4) (n' := 4) (cap' := c1 - 4) rfl rfl rfl
  rw [HB4.out] at r4
  have hc4 : (4 : Int) ≤ (c1 : Int) := by omega
  have hc4' : ¬ c1 = 4 := by omega
  have HR4 : Hid (Rd w1 (.slice (some ⟨g, off + 4, none⟩) 4 (c1 - 4)) (be4 n)) := r4
  clear own1 r8 r4
  go_wp2_with fail
  refine (refPart_at HR4.out _ _ 0 4 rfl rfl (by omega) (by omega) (by omega)).mono ?_
  rintro e w2 ⟨a2, m2, c2, rfl, own2, hb2⟩
  have own22 : Own w2 w1.heap.size (.slice a2 m2 c2) m2 (be4 n) := by simpa [be4] using own2
  obtain rfl : m2 = 4 := own22.1
  clear own2
  have HR42 := HR4.out.later hb2
  go_wp2_with fail
  refine (sealed_any HR42).mono ?_
  rintro e w3 ⟨a3, m3, c3, rfl, own3, hb3⟩
  obtain rfl : m3 = 4 := own3.1
  have r3 := own3.rd (HSB.out _) (by omega)
  have B2 := hb1.trans (hb2.mono hb1.size)
  have B3 := B2.trans (hb3.mono B2.size)
  have own23 := (own22.later hb3).mono hb1.size
  have HS2 : ∀ m : Nat, m = (be4 n ++ le4 (sumL (be4 n))).length → m = 8 := fun m h => h
  have HS3 : ∀ m : Nat, m = ((be4 n ++ le4 (sumL (be4 n))) ++ bs).length → m = 8 + n := fun m h => by rw [h, List.length_append, HN.out]; rfl
  clear own22 own3 hb1 hb2 hb3 HR42
  go_wp2_with (first
    | (at_builtin; refine wpList_append_at rfl (.tmp 15) _ rfl w.heap.size a2 4 c2 _ rfl own23 a3 4 c3 _ rfl r3 (by omega) B3.size ?_; intro a4 m4 c4 w4 own4 hb4)
    | (at_builtin; refine wpList_append_at rfl (.tmp 19) _ rfl w.heap.size a4 m4 c4 _ rfl own4 a n cap bs rfl (hr.later (B3.trans hb4)) (by have := HS2 m4 own4.1; omega) (B3.trans hb4).size ?_; intro a5 m5 c5 w5 own5 hb5))
  have B5 := (B3.trans hb4).trans hb5
  have hr5 := hr.later B5
  refine (sealed_any hr5).mono ?_
  rintro e w6 ⟨a6, m6, c6, rfl, own6, hb6⟩
  obtain rfl : m6 = 4 := own6.1
  have r6 := own6.rd (HSB.out _) (by omega)
  have own56 := own5.later hb6
  have B6 := B5.trans (hb6.mono B5.size)
  go_wp2_with (at_builtin; refine wpList_append_at rfl (.tmp 22) _ rfl w.heap.size a5 m5 c5 _ rfl own56 a6 4 c6 _ rfl r6 (by have := HS3 m5 own5.1; omega) B6.size ?_; intro a7 m7 c7 w7 own7 hb7)
  go_ret2
  exact ⟨a7, m7, c7, rfl, by rw [HF.out]; exact own7, B6.trans hb7⟩

end Go.Proofs.YtncbiohmogmcpaaDoor
