import Derived.Test.YtbfeecnhmlcfaaaDoorReadOrdered
import Derived.Test.YtbfeecnhmlcfaaaDoorTrip
namespace Go.Proofs.YtbfeecnhmlcfaaaDoor
open Go.RowKit
set_option linter.unusedVariables false

theorem und_ws : Tryd.prog.underlying 53 = some (.slice 56) := by kernel_rfl
theorem info_w : (Tryd.prog.info? 56).map (fun i => (i.zero, i.size, i.bytes)) = some (some (.agg #[.slice none 0 0, .int .i64 0]), 2, 32) := by kernel_rfl

theorem rising_atL (z : Int) (n : Nat) (hz : z = (n : Int)) (hn : n < 9223372036854775808) (w : World) {L : List Nat} (hL : be8 n = L) :
    Calls Tryd.prog 30 #[.int .i64 z] w fun e w' => ∃ a m c, e = .returned (.tuple #[.slice a m c, .int .i64 0]) ∧ Own w' w.heap.size (.slice a m c) m L ∧ Below w.heap.size w w' := by
  subst hz hL; exact rising_any n hn w

theorem falling_atL (z : Int) (n : Nat) (hz : z = (n : Int)) (hn : n < 9223372036854775808) (w : World) {L : List Nat} (hL : be8 (9223372036854775807 - n) = L) :
    Calls Tryd.prog 31 #[.int .i64 z] w fun e w' => ∃ a m c, e = .returned (.tuple #[.slice a m c, .int .i64 0]) ∧ Own w' w.heap.size (.slice a m c) m L ∧ Below w.heap.size w w' := by
  subst hz hL; exact falling_any n hn w

theorem owns_later {w w' : World} {B e size n : Nat} {v : Value} {xs : List Value} (h : w.ownsRow B e size v n xs) (hb : Below w.heap.size w w') : w'.ownsRow B e size v n xs := by
  refine ⟨h.1, ?_⟩
  rcases h.2 with h2 | ⟨g, cap, cur, h3, h4, h5, h6⟩
  · exact .inl h2
  · exact .inr ⟨g, cap, cur, h3, h4, by rw [hb.block g (Array.getElem?_eq_some_iff.1 h5).1]; exact h5, h6⟩

/-- What 'written' hands out: six values, each with the number of its Read. -/
def Six (w : World) (g : Nat) (v : Nat) (bs : List Nat) : Prop :=
  ∃ u0 u1 u2 u3 u4 u5 : Value, (∀ j x, [u0, .int .i64 2, u1, .int .i64 6, u2, .int .i64 8, u3, .int .i64 4, u4, .int .i64 10, u5, .int .i64 13][j]? = some x → w.cell? ⟨g, j, none⟩ = some x) ∧
    Rd w u0 (uintL v) ∧ Rd w u1 (be8 (v / 2)) ∧ Rd w u2 (be8 (9223372036854775807 - v / 2)) ∧ Rd w u3 (bytesL bs) ∧ Rd w u4 (ordL bs) ∧ Rd w u5 (frameL bs)

set_option maxRecDepth 100000 in
set_option maxHeartbeats 2000000 in
theorem written_any (v : Nat) (hv : v < 18446744073709551616) {vb : Value} {bs : List Nat} {w : World} (hb : Rd w vb bs) (ht : Tab w) (hl : bs.length ≤ 1048576) :
    Calls Tryd.prog 35 #[.int .u64 (v : Int), vb] w fun e w' => ∃ g c, e = .returned (.slice (some ⟨g, 0, none⟩) 6 c) ∧ Six w' g v bs ∧ Below w.heap.size w w' := by
  obtain ⟨i0, hi, hz0, hz1, hz2⟩ := info_parts info_w
  obtain ⟨a, n, cap, rfl⟩ := rd_slice hb
  obtain ⟨hn, _, _, _⟩ := rd_lens hb
  rw [← hn] at hl
  have HN : Hid (n = bs.length) := hn
  clear hn
  have hbys := hb.1
  obtain ⟨LR, hLR⟩ : ∃ L, be8 (v / 2) = L := ⟨_, rfl⟩
  obtain ⟨LF, hLF⟩ : ∃ L, be8 (9223372036854775807 - v / 2) = L := ⟨_, rfl⟩
  have HLR : Hid (be8 (v / 2) = LR) := hLR
  have HLF : Hid (be8 (9223372036854775807 - v / 2) = LF) := hLF
  have HV2 : Hid (v / 2 < 9223372036854775808) := by unfold Hid; omega
  have HLRB : Hid (Bys LR ∧ LR.length = 8) := by unfold Hid; rw [← hLR]; exact ⟨be8_bys _, rfl⟩
  have HLFB : Hid (Bys LF ∧ LF.length = 8) := by unfold Hid; rw [← hLF]; exact ⟨be8_bys _, rfl⟩
  clear hLR hLF
  have HDIV : Hid (((v : Int) / 2) = ((v / 2 : Nat) : Int)) := by unfold Hid; omega
  have HORD : Hid ((ordL bs).length ≤ 4194304) := by
    unfold Hid
    have h1 := ordL_len bs
    have h2 : bs.count 0 ≤ bs.length := List.count_le_length
    have := HN.out
    omega
  have hln : (n : Int) ≤ 1048576 := by omega
  go_enter Tryd.func35, Tryd.ntmps35
  go_wp2_with fail
  refine (rising_atL _ (v / 2) HDIV.out HV2.out _ HLR.out).mono ?_
  rintro e w1 ⟨a1, m1, c1, rfl, own1, hb1⟩
  have r1 := own1.rd HLRB.out.1 (by rw [own1.1, HLRB.out.2]; omega)
  have hs1 := hb1.size
  clear own1
  go_wp2_with fail
  refine (falling_atL _ (v / 2) HDIV.out HV2.out _ HLF.out).mono ?_
  rintro e w2 ⟨a2, m2, c2, rfl, own2, hb2⟩
  have r2 := own2.rd HLFB.out.1 (by rw [own2.1, HLFB.out.2]; omega)
  have r1 := r1.later hb2
  have hb2' := hb1.trans (hb2.mono hs1)
  have hs2 := hb2'.size
  clear own2 hb2 hb1 hs1
  go_wp2_with fail
  refine (uint_at _ v rfl hv _ rfl).mono ?_
  rintro e w3 ⟨a3, m3, c3, rfl, own3, hb3⟩
  have r0 := own3.rd (uintL_bys v hv) (by rw [own3.1]; have := (uintL_len v).2; omega)
  have r1 := r1.later hb3
  have r2 := r2.later hb3
  have hb3' := hb2'.trans (hb3.mono hs2)
  have hs3 := hb3'.size
  clear own3 hb3 hb2' hs2
  go_wp2_with fail
  refine (bytes_any (hb.later hb3') (by rw [← HN.out]; omega)).mono ?_
  rintro e w4 ⟨a4, m4, c4, rfl, own4, hb4⟩
  have hm4 : m4 ≤ 2097152 := by
    have h1 := own4.1
    have h2 := uintL_len bs.length
    unfold bytesL at h1
    rw [List.length_append, ← HN.out] at h1
    rw [← HN.out] at h2
    omega
  have r3 := own4.rd ((uintL_bys _ (by rw [← HN.out]; omega)).app hbys) (by omega)
  have r0 := r0.later hb4
  have r1 := r1.later hb4
  have r2 := r2.later hb4
  have hb4' := hb3'.trans (hb4.mono hs3)
  have hs4 := hb4'.size
  clear own4 hb4 hb3' hs3
  go_wp2_with fail
  refine (ordered_any (hb.later hb4') (by have := HORD.out; omega)).mono ?_
  rintro e w5 ⟨a5, m5, c5, rfl, own5, hb5⟩
  have r4 := own5.rd (ordL_bys bs hbys) (by rw [own5.1]; have := HORD.out; omega)
  have r0 := r0.later hb5
  have r1 := r1.later hb5
  have r2 := r2.later hb5
  have r3 := r3.later hb5
  have hb5' := hb4'.trans (hb5.mono hs4)
  have hs5 := hb5'.size
  clear own5 hb5 hb4' hs4
  go_wp2_with fail
  have A6 := (Below.refl w5.heap.size w5).alloc (Nat.le_refl _) (.cells #[.slice a3 m3 c3, .int .i64 2, .slice a1 m1 c1, .int .i64 6, .slice a2 m2 c2, .int .i64 8, .slice a4 m4 c4, .int .i64 4, .slice a5 m5 c5, .int .i64 10] 56)
  have hown : (w5.alloc (.cells #[.slice a3 m3 c3, .int .i64 2, .slice a1 m1 c1, .int .i64 6, .slice a2 m2 c2, .int .i64 8, .slice a4 m4 c4, .int .i64 4, .slice a5 m5 c5, .int .i64 10] 56)).ownsRow w.heap.size 56 2 (.slice (some ⟨w5.heap.size, 0, none⟩) 5 5) 5 [.slice a3 m3 c3, .int .i64 2, .slice a1 m1 c1, .int .i64 6, .slice a2 m2 c2, .int .i64 8, .slice a4 m4 c4, .int .i64 4, .slice a5 m5 c5, .int .i64 10] :=
    ⟨rfl, .inr ⟨w5.heap.size, 5, _, rfl, hs5, heap_alloc_new w5 _, Nat.le_refl _, by unfold maxLen; omega, rfl, rfl⟩⟩
  have hb6 := hb5'.trans (A6.mono hs5)
  refine (frame_ok (hb.later hb6) (ht.later hb6) (by rw [← HN.out]; exact hl)).mono ?_
  rintro e w6 ⟨a6, m6, c6, rfl, own6, hb6f⟩
  have hown6 := owns_later hown hb6f
  have B5 := A6.trans (hb6f.mono A6.size)
  have hb7 := hb6.trans (hb6f.mono hb6.size)
  have hs7 := hb7.size
  have hs6 := hb6f.size
  have hm6 : m6 ≤ 2097152 := by rw [own6.1]; simp [frameL, be4, le4]; rw [← HN.out]; omega
  clear hb6f hb6 hown A6
  go_wp2_with (at_builtin; refine wpList_append_own _ rfl _ _ 53 rfl w.heap.size 56 i0 (.agg #[.slice none 0 0, .int .i64 0]) 2 32 und_ws hi hz0 hz1 hz2 rfl (by decide) _ 5 _ rfl (hown6.alloc _) ⟨w6.heap.size, 0, none⟩ 1 1 [.slice a6 m6 c6, .int .i64 13] rfl rfl (news_new _ _ _) ?c2 ?c3 ?c4 ?c5 ?_)
  case c2 => intro u hu; simp at hu; rcases hu with rfl | rfl <;> rfl
  case c3 => unfold maxLen; omega
  case c4 => omega
  case c5 => simp; omega
  intro v' w8 hown8 hgrow _
  have hsz : w5.heap.size + 1 ≤ w6.heap.size := by simpa using hs6
  have B8 : Below w5.heap.size w5 w8 := (B5.alloc B5.size _).grown hgrow (by simp; omega) (fun k hk => by simp [Value.ownBlock] at hk; omega)
  have hb8 := hb5'.trans (B8.mono hs5)
  have o6 := (own6.2.alloc (.cells #[.slice a6 m6 c6, .int .i64 13] 56)).kept hgrow (by
    by_cases hnb : (Value.slice a6 m6 c6).ownBlock = none
    · exact .inl hnb
    · right
      intro he
      have h1 := own6.2.lt w5.heap.size (by rw [he]; rfl)
      have h2 := h1.1
      simp at h2
      omega)
  have own8 : Own w8 (w5.heap.size + 1) (.slice a6 m6 c6) m6 (frameL bs) := ⟨own6.1, by simpa using o6⟩
  have r5 := own8.rd (frameL_bys bs hbys (by rw [← HN.out]; exact hl)) (by omega)
  have r0 := r0.later B8
  have r1 := r1.later B8
  have r2 := r2.later B8
  have r3 := r3.later B8
  have r4 := r4.later B8
  obtain ⟨g8, c8, hv8⟩ : ∃ g c, v' = .slice (some ⟨g, 0, none⟩) 6 c := by
    rcases hown8.2 with ⟨_, h⟩ | ⟨g, c, cur, h, _⟩
    · omega
    · exact ⟨g, c, h⟩
  rw [hv8] at hown8 ⊢
  have hsix : Six w8 g8 v bs := by
    refine ⟨_, _, _, _, _, _, fun j x hj => ?_, r0, by rw [HLR.out]; exact r1, by rw [HLF.out]; exact r2, r3, r4, r5⟩
    have hjl : j < 12 := by
      have := (List.getElem?_eq_some_iff.1 hj).1
      simpa using this
    rw [hown8.cellAt j (by omega)]
    exact hj
  have HSIX : Hid (Six w8 g8 v bs) := hsix
  clear hown8 hgrow own6 own8 o6 r0 r1 r2 r3 r4 r5 B5 B8 hown6 hsix
  go_wp2
  go_ret
  exact ⟨g8, c8, rfl, HSIX.out, hb8⟩

end Go.Proofs.YtbfeecnhmlcfaaaDoor
