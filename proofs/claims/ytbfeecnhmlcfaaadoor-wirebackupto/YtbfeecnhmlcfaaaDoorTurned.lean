import Derived.Test.YtbfeecnhmlcfaaaDoorCrc2
import Derived.Test.YtbfeecnhmlcfaaaDoorSums
import Derived.RegionTactic
import Derived.BigRegion
namespace Go.Proofs.YtbfeecnhmlcfaaaDoor
open Go.RowKit
set_option linter.unusedVariables false

def turnI (bs : List Nat) (z : Int) : List Nat := if 0 ≤ z ∧ z < 8 * (bs.length : Int) then flip bs z.toNat else bs
def turnsI (bs : List Nat) (zs : List Int) : List Nat := zs.foldl turnI bs
theorem turnI_len (bs : List Nat) (z : Int) : (turnI bs z).length = bs.length := by unfold turnI; split <;> simp [flip_len]
theorem turnsI_len (zs : List Int) : ∀ bs, (turnsI bs zs).length = bs.length := by
  induction zs with
  | nil => intro bs; rfl
  | cons z zs ih => intro bs; show (turnsI (turnI bs z) zs).length = _; rw [ih, turnI_len]
theorem turnI_bys (bs : List Nat) (z : Int) (h : Bys bs) : Bys (turnI bs z) := by unfold turnI; split; exact flip_bys _ _ h; exact h
theorem turnsI_bys (zs : List Int) : ∀ bs, Bys bs → Bys (turnsI bs zs) := by
  induction zs with
  | nil => intro bs h; exact h
  | cons z zs ih => intro bs h; exact ih _ (turnI_bys bs z h)
theorem turnsI_snoc (bs : List Nat) (zs : List Int) (k : Nat) (h : k < zs.length) : turnsI bs (zs.take (k + 1)) = turnI (turnsI bs (zs.take k)) (zs.getD k 0) := by
  rw [List.take_succ_eq_append_getElem h]
  unfold turnsI
  rw [List.foldl_append]
  simp [List.getD, List.getElem?_eq_getElem h]

set_option maxRecDepth 100000 in
set_option maxHeartbeats 2000000 in
theorem turned_any {w : World} {B g m c bq : Nat} {xs : List Nat} {zs : List Int} (own : Own w B (.slice (some ⟨g, 0, none⟩) m c) m xs) (hby : Bys xs) (hB : B ≤ g) (hg : g < w.heap.size) (hm : m ≤ 4194304) (hz3 : zs.length = 3)
    (hwf : ∀ i, i < 3 → -9223372036854775808 ≤ zs.getD i 0 ∧ zs.getD i 0 ≤ 9223372036854775807) (hbq : bq ≠ g) (hcq : ∀ i, i < 3 → w.cell? ⟨bq, i, none⟩ = some (.int .i64 (zs.getD i 0))) :
    Calls Tryd.prog 22 #[.slice (some ⟨g, 0, none⟩) m c, .slice (some ⟨bq, 0, none⟩) 3 3] w fun e w' => e = .returned (.bool (!decide (xs = turnsI xs zs))) ∧ Own w' B (.slice (some ⟨g, 0, none⟩) m c) m (turnsI xs zs) ∧ Below B w w' := by
  have hbql : bq < w.heap.size := World.block_lt_of_cell? w _ (hcq 0 (by omega))
  have r0 := own.rd hby (by omega)
  have A1 := (Below.refl w.heap.size w).alloc (Nat.le_refl _) (.cells #[.slice (some ⟨g, 0, none⟩) m c] 22)
  go_enter Tryd.func22, Tryd.ntmps22
  go_wp2_with fail
  refine (join_any (RdP.one r0) (by simp; rw [← own.1]; omega)).mono ?_
  rintro e w2 ⟨a2, m2, c2, rfl, own2, hb2⟩
  have e2 : [xs].flatten = xs := by simp
  rw [e2] at own2
  have own2' : Own w2 w.heap.size (.slice a2 m2 c2) m2 xs := own2.mono (by simp)
  have hb2' := A1.trans (hb2.mono A1.size)
  have ownf := own.later hb2'
  have hcq2 : ∀ i, i < 3 → w2.cell? ⟨bq, i, none⟩ = some (.int .i64 (zs.getD i 0)) := fun i hi => by
    rw [hb2'.cell (p := ⟨bq, i, none⟩) hbql]; exact hcq i hi
  have hbB := hb2'.mono (show B ≤ w.heap.size by omega)
  have hs2 := hb2'.size
  clear own2 hb2 A1 hb2' own hcq r0 e2
  go_wp2
  go_loopw [6] (fun i wr => ∃ k, k ≤ 3 ∧ i = .int .i64 ((k : Nat) : Int) ∧ Own wr B (.slice (some ⟨g, 0, none⟩) m c) m (turnsI xs (zs.take k)) ∧ Own wr w.heap.size (.slice a2 m2 c2) m2 xs ∧ (∀ i, i < 3 → wr.cell? ⟨bq, i, none⟩ = some (.int .i64 (zs.getD i 0))) ∧ Below B w wr) (fun i _ => 3 - (intOf i).toNat)
  case atStart => exact ⟨0, by omega, rfl, by simpa [turnsI] using ownf, own2', hcq2, hbB⟩
  case round =>
    obtain ⟨k, hk, rfl, ownk, ownw, hck, hbk⟩ := hrel
    by_cases hlt : k < 3
    · have hlt2 : (k : Int) < 3 := by omega
      have hc := hck k hlt
      have hw := hwf k hlt
      obtain ⟨z, hz⟩ : ∃ z, z = zs.getD k 0 := ⟨_, rfl⟩
      rw [← hz] at hc hw
      have HZ : Hid (z = zs.getD k 0) := hz
      have HCK : Hid (∀ i, i < 3 → wr.cell? ⟨bq, i, none⟩ = some (.int .i64 (zs.getD i 0))) := hck
      clear hz hck
      by_cases hin : 0 ≤ z ∧ z < 8 * (m : Int)
      · obtain ⟨h0, h8⟩ := hin
        obtain ⟨q, rfl⟩ := Int.eq_ofNat_of_zero_le h0
        have hqm : q / 8 < m := by omega
        obtain ⟨Y, hY⟩ : ∃ Y, Y = turnsI xs (zs.take k) := ⟨_, rfl⟩
        have hYl : Y.length = m := by rw [hY, turnsI_len, ownw.1.symm.trans (show m2 = m from by rw [ownw.1, ← turnsI_len (zs.take k) xs, ← ownk.1])]
        rw [← hY] at ownk
        have HY : Hid (Y = turnsI xs (zs.take k)) := hY
        have hYb : Bys Y := by rw [hY]; exact turnsI_bys _ _ hby
        clear hY
        have hcell : wr.cell? ⟨g, q / 8, none⟩ = some (.int .u8 ((Y.getD (q / 8) 0 : Nat) : Int)) := by
          rw [ownk.2.cellAt (q / 8) (by omega)]
          simp [bv, List.getElem?_eq_getElem (show q / 8 < Y.length by omega)]
        have hyl := hYb.get (q / 8)
        obtain ⟨y, hy⟩ : ∃ y, y = Y.getD (q / 8) 0 := ⟨_, rfl⟩
        rw [← hy] at hcell hyl
        have HYY : Hid (y = Y.getD (q / 8) 0) := hy
        have HYL : Hid (Y.length = m) := hYl
        clear hy hYl
        have hfz := ownk.2.frozenAt (q / 8)
        have hq1 : (0 : Int) ≤ (q : Int) / 8 := by omega
        have hq2 : (q : Int) / 8 < (m : Int) := by omega
        have hk0 : (0 : Int) ≤ (k : Int) := by omega
        have hval : bits .xor .u8 (y : Int) (2 ^ (q % 8) % 256) = ((y ^^^ 2 ^ (q % 8) : Nat) : Int) := by
          have h2 : 2 ^ (q % 8) < 256 := Nat.lt_of_lt_of_le (Nat.pow_lt_pow_right (by omega) (show q % 8 < 8 by omega)) (by decide)
          have h3 : ((2 : Int) ^ (q % 8)) = ((2 ^ (q % 8) : Nat) : Int) := by simp
          rw [h3]
          generalize 2 ^ (q % 8) = t at h2
          rw [show (t : Int) % 256 = (t : Int) by omega]
          exact u8_xor_nat y _ hyl h2
        have HVAL : Hid (bits .xor .u8 (y : Int) (2 ^ (q % 8) % 256) = ((y ^^^ 2 ^ (q % 8) : Nat) : Int)) := hval
        clear hval
        have HOWN : Hid (Own wr B (.slice (some ⟨g, 0, none⟩) m c) m Y) := ownk
        have HOWW : Hid (Own wr w.heap.size (.slice a2 m2 c2) m2 xs) := ownw
        have HBK : Hid (Below B w wr) := hbk
        clear ownk ownw hbk
        go_wp2
        go_region
        go_wp2
        go_roundw
        case rel =>
          have st := HOWN.out.2.stored (q / 8) (.int .u8 (bits .xor .u8 (y : Int) (2 ^ (q % 8) % 256)))
          refine ⟨k + 1, by omega, by go_num, ?_, ?_, ?_, ?_⟩
          · rw [turnsI_snoc xs zs k (by omega), ← HY.out, ← HZ.out]
            have ht : turnI Y (q : Int) = Y.set (q / 8) (y ^^^ 2 ^ (q % 8)) := by
              unfold turnI
              rw [HYL.out, if_pos ⟨by omega, h8⟩, Int.toNat_natCast]
              unfold flip
              rw [← HYY.out]
            rw [ht]
            refine ⟨by rw [List.length_set, HYL.out], ?_⟩
            have := st.1
            rw [HVAL.out] at this
            have e : bv (Y.set (q / 8) (y ^^^ 2 ^ (q % 8))) = (bv Y).set (q / 8) (.int .u8 ((y ^^^ 2 ^ (q % 8) : Nat) : Int)) := by
              simp [bv, List.map_set]
            rw [e, HVAL.out]
            exact this
          · exact ⟨HOWW.out.1, ownsRow_setCell_below HOWW.out.2 (by exact hg) _⟩
          · intro i hi
            have h1 := HCK.out i hi
            show (wr.setCell ⟨g, q / 8, none⟩ _).cell? ⟨bq, i, none⟩ = _
            rw [World.cell?_of_block (w := wr) (Below.heap_setCell wr ⟨g, q / 8, none⟩ _ bq hbq)]
            exact h1
          · exact (HBK.out.setCell (p := ⟨g, q / 8, none⟩) hB _).drew
        case measure => simp [intOf]; omega
      · have hsame : turnI (turnsI xs (zs.take k)) z = turnsI xs (zs.take k) := by
          unfold turnI
          rw [turnsI_len, ownw.1.symm.trans (show m2 = m from by rw [ownw.1, ← turnsI_len (zs.take k) xs, ← ownk.1])]
          rw [if_neg hin]
        have HS : Hid (turnsI xs (zs.take (k + 1)) = turnsI xs (zs.take k)) := by
          unfold Hid
          rw [turnsI_snoc xs zs k (by omega), ← HZ.out, hsame]
        clear hsame
        by_cases h0 : 0 ≤ z
        · have h8 : 8 * (m : Int) ≤ z := by
            by_cases h : z < 8 * (m : Int)
            · exact absurd ⟨h0, h⟩ hin
            · omega
          clear hin
          go_wp2
          go_roundw
          case rel => exact ⟨k + 1, by omega, by go_num, by rw [HS.out]; exact ownk, ownw, HCK.out, hbk⟩
          case measure => simp [intOf]; omega
        · have hd : decide (0 ≤ z) = false := by simpa using h0
          clear hin
          go_wp2
          go_roundw
          case rel => exact ⟨k + 1, by omega, by go_num, by rw [HS.out]; exact ownk, ownw, HCK.out, hbk⟩
          case measure => simp [intOf]; omega
    · have hge : (3 : Int) ≤ (k : Int) := by omega
      obtain rfl : k = 3 := by omega
      have e3 : zs.take 3 = zs := List.take_of_length_le (by omega)
      rw [e3] at ownk
      clear e3 hck
      have rw_ := ownw.rd hby (by rw [ownw.1, ← turnsI_len zs xs, ← ownk.1]; omega)
      have rf := ownk.rd (turnsI_bys _ _ hby) (by omega)
      go_wp2_with fail
      refine (same_any rw_ rf).mono ?_
      rintro e w6 ⟨rfl, rfl⟩
      go_wp2
      go_ret
      exact ⟨rfl, ownk, hbk⟩

end Go.Proofs.YtbfeecnhmlcfaaaDoor
