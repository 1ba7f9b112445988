import Derived.Test.YthpdlclgiggekaaBase
import Derived.Test.YthpdlclgiggekaaPlain
namespace Go.Proofs.Ythpdlclgiggekaa
open Go.RowKit
set_option linter.unusedVariables false

/-- What is owned, and one byte more. -/
theorem own_snoc {w1 : World} {B n : Nat} {v : Value} {acc : List Nat} {x : Int} {y : Nat} (h : w1.ownsRow B 5 1 v (n + 1) (bv acc ++ [.int .u8 x])) (hn : n = acc.length) (hx : x = (y : Int)) :
    w1.ownsRow B 5 1 v (acc ++ [y]).length (bv (acc ++ [y])) := by
  subst hx
  subst hn
  simpa [bv] using h

set_option maxRecDepth 100000 in
set_option maxHeartbeats 400000 in
theorem uint_any (v : Nat) (hv : v < 18446744073709551616) (w : World) :
    Calls Try.prog 91 #[.int .u64 (v : Int)] w fun e w' => ∃ s, e = .returned s ∧ w'.ownsRow w.heap.size 5 1 s (uintL v).length (bv (uintL v)) ∧ Below w.heap.size w w' := by
  obtain ⟨i0, hi, hz0, hz1, hz2⟩ := info_parts info_byte
  have hmk : ∀ w, (Instr.makeSlice 33 (.int .i64 0) (.int .i64 10)).run Try.prog w = .ok (.slice (some ⟨w.heap.size, 0, none⟩) 0 10) (w.alloc (.cells #[.int .u8 0, .int .u8 0, .int .u8 0, .int .u8 0, .int .u8 0, .int .u8 0, .int .u8 0, .int .u8 0, .int .u8 0, .int .u8 0] 5)) := fun _ => by kernel_rfl
  go_enter Try.func91, Try.ntmps91
  go_wp2
  go_loopw [0, 3] (fun x s wr => ∃ (u f : Nat) (acc : List Nat), x = .int .u64 (u : Int) ∧ u < 128 ^ (f + 1) ∧ u < 18446744073709551616 ∧ acc.length + f = 9 ∧ uintL v = acc ++ uintF f u ∧ wr.ownsRow w.heap.size 5 1 s acc.length (bv acc) ∧ Below w.heap.size w wr)
    (fun x _ _ => (intOf x).toNat)
  case atStart => exact ⟨v, 9, [], rfl, by omega, hv, rfl, rfl, World.ownsRow_made w _ 10 (Nat.le_refl _) (by decide) (by simp), (Below.refl _ _).alloc (Nat.le_refl _) _⟩
  case round =>
    obtain ⟨u, f, acc, rfl, hu, hu2, hacc, hl, hown, hb⟩ := hrel
    have HL : Hid (uintL v = acc ++ uintF f u) := hl
    clear hl
    have HU : Hid (u < 128 ^ (f + 1)) := hu
    clear hu
    have hbs := hb.size
    by_cases hgt : 127 < u
    · have hgt2 : (127 : Int) < (u : Int) := by omega
      go_wp2_with (at_builtin; refine wpList_append_own _ rfl _ _ 33 rfl w.heap.size 5 i0 (.int .u8 0) 1 1 und_bytes hi hz0 hz1 hz2 rfl (by decide) _ acc.length (bv acc) rfl (hown.alloc _) ⟨wr.heap.size, 0, none⟩ 1 1 [_] rfl rfl (cell_one_new _ _ _) ?c2 ?c3 ?c4 ?c5 ?_)
      case c2 => intro u hu; simp at hu; subst hu; rfl
      case c3 => unfold maxLen; omega
      case c4 => omega
      case c5 => simp; omega
      intro v' w1 hown' hgrow _
      have ho := own_snoc hown' rfl (grp u hu2)
      have hb1 : Below w.heap.size w w1 := (hb.alloc hbs _).grown hgrow (by simp; omega) (fun k hk => (hown.lt k hk).1)
      clear hown' hgrow hown hb
      go_wp2
      go_roundw
      case rel =>
        obtain ⟨f', rfl⟩ : ∃ f', f = f' + 1 := ⟨f - 1, by
          have h1 : f ≠ 0 := by
            intro h0
            have := HU.out
            rw [h0] at this
            omega
          omega⟩
        refine ⟨u / 128, f', acc ++ [u % 128 + 128], by go_num, ?_, by omega, by simp; omega, ?_, ho, hb1⟩
        · have := HU.out
          rw [Nat.pow_succ] at this
          exact Nat.div_lt_of_lt_mul (by rw [Nat.mul_comm]; exact this)
        · rw [HL.out, uintF_go f' u hgt]; simp
      case measure => simp [intOf]; omega
    · have hgt2 : (u : Int) ≤ 127 := by omega
      go_wp2_with (at_builtin; refine wpList_append_own _ rfl _ _ 33 rfl w.heap.size 5 i0 (.int .u8 0) 1 1 und_bytes hi hz0 hz1 hz2 rfl (by decide) _ acc.length (bv acc) rfl (hown.alloc _) ⟨wr.heap.size, 0, none⟩ 1 1 [_] rfl rfl (cell_one_new _ _ _) ?c2 ?c3 ?c4 ?c5 ?_)
      case c2 => intro u hu; simp at hu; subst hu; rfl
      case c3 => unfold maxLen; omega
      case c4 => omega
      case c5 => simp; omega
      intro v' w1 hown' hgrow _
      have ho := own_snoc (y := u) hown' rfl (by omega)
      have hb1 : Below w.heap.size w w1 := (hb.alloc hbs _).grown hgrow (by simp; omega) (fun k hk => (hown.lt k hk).1)
      clear hown' hgrow hown hb
      go_wp2
      go_ret
      refine ⟨_, rfl, ?_, hb1⟩
      rw [HL.out, uintF_stop f u (by omega)]
      exact ho

end Go.Proofs.Ythpdlclgiggekaa
