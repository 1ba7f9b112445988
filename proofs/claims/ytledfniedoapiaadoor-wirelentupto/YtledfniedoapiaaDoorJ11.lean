import Derived.Test.YtledfniedoapiaaDoorJ10
import Derived.Lib.Hide
import Derived.Test.YtledfniedoapiaaDoorJ05
import Derived.Test.YtledfniedoapiaaDoorJ04
namespace Go.Proofs.YtledfniedoapiaaDoor
open Go.RowKit
set_option linter.unusedVariables false

def lenOf : Value → Nat | .slice _ n _ => n | _ => 0
set_option maxRecDepth 100000 in
set_option maxHeartbeats 2000000 in
theorem only_any {v : Value} {k mk : Nat} {w : World} (hr : Rd w v (List.replicate k mk)) :
    Calls Tryd.prog 43 #[v, .int .u8 (mk : Int)] w fun e w' => e = .returned (.bool true) ∧ w' = w := by
  obtain ⟨a, n, c, rfl⟩ := rd_slice hr
  obtain ⟨hn, _, _, hn48⟩ := rd_lens hr
  have HR := Lib.hid hr
  have HN : Hid (n = k) := by unfold Hid; simpa using hn
  have hk48 : n ≤ 281474976710656 := hn48
  clear hr hn hn48
  go_enter Tryd.func43, Tryd.ntmps43
  go_wp2
  go_loopw [5] (fun i wr => ∃ t : Nat, t ≤ n ∧ i = .int .i64 (t : Int) ∧ wr = w) (fun i _ => n - (intOf i).toNat)
  case atStart => exact ⟨0, by omega, rfl, rfl⟩
  case round =>
    obtain ⟨t, ht, rfl, rfl⟩ := hrel
    by_cases hlt : t < n
    · have hlt2 : (t : Int) < (n : Int) := by omega
      have ht0 : (0 : Int) ≤ (t : Int) := by omega
      rcases rd_some HR.out with ⟨_, h0, _⟩ | ⟨b, off, rfl⟩
      · omega
      obtain ⟨cq, _⟩ := rd_cell HR.out t hlt
      have htk : t < k := by have := HN.out; omega
      have e : (List.replicate k mk).getD t 0 = mk := by simp [List.getD, htk]
      rw [e] at cq
      clear e htk
      go_wp2
      go_roundw
      case rel => exact ⟨t + 1, by omega, by go_num, trivial⟩
      case measure => simp [intOf]; omega
    · have hge : (n : Int) ≤ (t : Int) := by omega
      go_wp2
      go_ret
      exact ⟨rfl, rfl⟩
theorem mkOf_int (t : Nat) : ((mkOf t : Nat) : Int) = 1 + (t : Int) % 251 := by unfold mkOf; omega
set_option maxRecDepth 100000 in
set_option maxHeartbeats 8000000 in
theorem settle_any {w0 w : World} {B g n : Nat} {its : List Item} (hk0 : Bk w0 B g n its) (h0 : Below w0.heap.size w0 w) (hn : n ≤ 1000) (hB : B ≤ w.heap.size) :
    Calls Tryd.prog 20 #[.pointer (some ⟨g, 0, none⟩)] w fun r w' => r = .returned (.bool true) ∧ Below B w w' ∧ Fr w w' its ∧ ∀ wx, Below w0.heap.size w' wx → Bs wx B g n its := by
  obtain ⟨aL, cL, aW, cW, sb⟩ := hk0.sb
  have HS0 := Lib.hid sb
  have HS := Lib.hid (sb.later h0)
  have HK := Lib.hid (hk0.later h0)
  clear hk0 sb h0
  go_enter Tryd.func20, Tryd.ntmps20
  go_wp2_with fail
  refine (untouched_any HK.out hn).mono ?_
  rintro r w1 ⟨rfl, hb0⟩
  have F0 : Hid (Fr w w1 its) := (Fr.refl w its).later hb0
  have N0 : Hid (Now w1 B its (fillTo its 0)) := (Now.start HK.out).later hb0
  clear hb0
  go_wp2
  go_loopw [3, 4] (fun i c wr => ∃ t : Nat, t ≤ n ∧ i = .int .i64 (t : Int) ∧ Hid (Fr w wr its ∧ Now wr B its (fillTo its t))) (fun i _ _ => n - (intOf i).toNat)
  case atStart => exact ⟨0, by omega, rfl, F0.out, N0.out⟩
  case round =>
    obtain ⟨t, ht, rfl, HR⟩ := hrel
    have kl := (HS.out.kbox HR.out.1).l
    by_cases hlt : t < n
    · have hlt2 : (t : Int) < (n : Int) := by omega
      have ht0 : (0 : Int) ≤ (t : Int) := by omega
      obtain ⟨p, gL, al, cl, hp, hpl, hx, rfl, c1⟩ := HS.out.item HR.out.1 hlt
      obtain ⟨nx, hnx⟩ : ∃ nx, nx = p.xs.length := ⟨_, rfl⟩
      have HP := Lib.hid (And.intro hp (And.intro hpl hnx))
      rw [← hnx] at c1 hx
      clear hp hpl hnx
      go_wp2
      go_loopw [4] (fun c wr2 => ∃ q : Nat, q ≤ nx ∧ c = .int .i64 (q : Int) ∧ Hid (Fr w wr2 its ∧ Now wr2 B its (fillIn its t q))) (fun c _ => nx - (intOf c).toNat)
      case atStart => exact ⟨0, by omega, rfl, HR.out.1, HR.out.2.congr (fillIn_zero its t)⟩
      case round =>
        obtain ⟨q, hq, rfl, HR2⟩ := hrel
        have kl2 := (HS.out.kbox HR2.out.1).l
        clear kl c1
        obtain ⟨p', gL', al', cl', hp', hpl', _, eL, c2⟩ := HS.out.item HR2.out.1 hlt
        obtain rfl : p = p' := by have := HP.out.1; rw [hp'] at this; simpa using this.symm
        obtain rfl : gL = gL' := by simpa using eL
        rw [HP.out.2.1] at hpl'
        simp only [Value.slice.injEq] at hpl'
        obtain ⟨rfl, _, rfl⟩ := hpl'
        rw [← HP.out.2.2] at c2
        clear eL hp'
        by_cases hlq : q < nx
        · have hlq2 : (q : Int) < (nx : Int) := by omega
          have hq0 : (0 : Int) ≤ (q : Int) := by omega
          have own := HR2.out.2 t p HP.out.1
          rw [HP.out.2.1, ← HP.out.2.2] at own
          obtain ⟨gi, rfl⟩ : ∃ gi, al = some ⟨gi, 0, none⟩ := by
            rcases own.2.2 with ⟨h1, h2⟩ | ⟨gi, cap, cur, h1, _⟩
            · omega
            · simp only [Value.slice.injEq] at h1
              exact ⟨gi, h1.1⟩
          have hfz := own.2.frozenAt q
          have hcell : ∃ y : Nat, wr.cell? ⟨gi, q, none⟩ = some (.int .u8 (y : Int)) := by
            refine ⟨(fillIn its t q t).getD q 0, ?_⟩
            rw [own.2.cellAt q (by omega)]
            exact bv_at _ _ (by have := own.1; omega)
          obtain ⟨y, hcell⟩ := hcell
          clear own
          go_wp2
          go_roundw
          case rel =>
            have st := HR2.out.2.store HS.out.apart HP.out.1 (q := q) (mk := mkOf t) (by rw [HP.out.2.1])
            rw [mkOf_int] at st
            exact ⟨q + 1, by omega, by go_num, HR2.out.1.grow (set_grown _ gi q _) (fun x hx => .inr ⟨p, List.mem_of_getElem? HP.out.1, by cases hx; rw [HP.out.2.1]; rfl⟩), st.congr (fillIn_next (by rw [xsAt_eq HP.out.1, ← HP.out.2.2]; exact hlq))⟩
          case measure => simp [intOf]; omega
        · have hge : (nx : Int) ≤ (q : Int) := by omega
          obtain rfl : q = nx := by omega
          go_wp2
          go_roundw
          case rel =>
            refine ⟨t + 1, by omega, by go_num, HR2.out.1, HR2.out.2.congr (fun j => ?_)⟩
            have e := fillIn_end its t j
            rw [xsAt_eq HP.out.1, ← HP.out.2.2] at e
            exact e
          case measure => simp [intOf]; omega
    · have hge : (n : Int) ≤ (t : Int) := by omega
      obtain rfl : t = n := by omega
      have L0 : Hid (Lg w wr B 0 its (.slice none 0 0) []) := Lg.start HS.out HR.out.1 HR.out.2
      clear HR F0 N0
      go_wp2
      go_loopw [5, 6, 7, 8] (fun m i s c wr2 => ∃ u : Nat, u ≤ t ∧ i = .int .i64 (u : Int) ∧ ∃ am cm ms, m = .slice am u cm ∧ Hid (Lg w wr2 B u its (.slice am u cm) ms)) (fun _ i _ _ _ => t - (intOf i).toNat)
      case atStart => exact ⟨0, by omega, rfl, none, 0, [], rfl, L0⟩
      case round =>
        clear L0 kl
        obtain ⟨u, hu, rfl, am, cm, ms, rfl, HL⟩ := hrel
        have kl := (HS.out.kbox HL.out.fr).l
        by_cases hlu : u < t
        · have hlu2 : (u : Int) < (t : Int) := by omega
          have hu0 : (0 : Int) ≤ (u : Int) := by omega
          obtain ⟨p, gL, al, cl, hp, hpl, hx, rfl, c1⟩ := HS.out.item HL.out.fr hlu
          obtain ⟨nx, hnx⟩ : ∃ nx, nx = p.xs.length := ⟨_, rfl⟩
          have O1 := HL.out.rest u p (Nat.le_refl _) hp
          rw [hpl, ← hnx] at O1
          have HO := Lib.hid O1
          have HP := Lib.hid (And.intro hp (And.intro hpl hnx))
          have hBr : B ≤ wr.heap.size := Nat.le_trans hB HL.out.fr.size
          rw [← hnx] at c1 hx
          clear hp hpl hnx O1
          go_wp2
          go_loopw [7] (fun s wr2 => ∃ q a' m c', q ≤ nx + 70 ∧ s = .slice a' m c' ∧ Own wr2 B (.slice a' m c') m (List.replicate (nx + q) (mkOf u)) ∧ Near wr (.slice al nx cl) (.slice a' m c') ∧ Keeps (mkOf u) wr wr2 ∧ wr.grownBy wr2 (Value.slice al nx cl).ownBlock ∧ B ≤ wr2.heap.size) (fun s _ => 2 * nx + 70 - lenOf s)
          case atStart => exact ⟨0, al, nx, cl, by omega, rfl, HO.out, .inl rfl, Keeps.refl _ _, World.grownBy.refl _ _, hBr⟩
          case round =>
            clear kl c1
            obtain ⟨q, a4, m4, c4, hq, rfl, own4, N4, K4, gw4, hB4⟩ := hrel
            have hm4 : Hid (m4 = nx + q) := by unfold Hid; rw [own4.1]; simp
            have hm4b : m4 ≤ 8388700 := by have := hm4.out; omega
            by_cases hlq : q < nx + 70
            · have hlq2 : (m4 : Int) < 2 * (nx : Int) + 70 := by have := hm4.out; omega
              have HH : Hid (_ ∧ _ ∧ _) := ⟨N4, K4, gw4⟩
              clear N4 K4 gw4
              go_wp2_with (at_builtin; refine wpList_append_mark rfl _ _ rfl B a4 m4 c4 (mkOf u) _ rfl own4 [_] 1 rfl (by simp [bv, mkOf_int]) (by decide) (by omega) hB4 ?_; intro a5 m5 c5 w5 hm5 own5 gr5 ol5 nr5 kp5; refine Hid.out ?_)
              refine Lib.hid ?_
              rw [List.replicate_append_replicate] at own5
              have H5 : Hid (_ ∧ _ ∧ _ ∧ _) := ⟨own5, Near.on HH.out.1 nr5 HH.out.2.2.size, HH.out.2.1.trans kp5, grown_trans HH.out.2.2 gr5 HH.out.1⟩
              have hB5 : B ≤ w5.heap.size := Nat.le_trans hB4 gr5.size
              have HM5 := hm5
              clear own5 nr5 kp5 gr5 ol5 HH hm5
              go_wp2
              go_roundw
              case rel => exact ⟨q + 1, a5, m5, c5, by omega, rfl, H5.out.1, H5.out.2.1, H5.out.2.2.1, H5.out.2.2.2, hB5⟩
              case measure => simp only [lenOf]; have := HM5.out; have := hm4.out; omega
            · have hgq : 2 * (nx : Int) + 70 ≤ (m4 : Int) := by have := hm4.out; omega
              obtain rfl : q = nx + 70 := by omega
              have R4 := HL.out.row.far gw4 (fun x hx hy => by
                have h1 := (HL.out.row.2.2.lt x hy).1
                have h2 := ((HS.out.own p (List.mem_of_getElem? HP.out.1)).1.2.lt x (by rw [HP.out.2.1, ← HP.out.2.2]; exact hx)).2
                omega)
              have HF : Hid (_ ∧ _ ∧ _ ∧ _) := ⟨own4, N4, K4, gw4⟩
              clear own4 N4 K4 gw4
              go_wp2_with (at_builtin; refine wpList_append_one rfl _ _ rfl w.heap.size am u cm ms rfl R4 (.slice a4 m4 c4) rfl rfl (by omega) (Nat.le_trans HL.out.fr.size HF.out.2.2.2.size) ?_; intro am' cm' w6 r6 g6 b6; refine Hid.out ?_)
              refine Lib.hid ?_
              have H6 : Hid (Lg w w6 B (u + 1) its (.slice am' (u + 1) cm') (ms ++ [.slice a4 m4 c4])) := by
                obtain ⟨o4, n4, k4, g4⟩ := HF.out
                obtain ⟨hp, hpl, hnx⟩ := HP.out
                have e4 := hm4.out
                have e5 : nx + (nx + 70) = 2 * p.xs.length + 70 := by omega
                rw [e5] at o4 e4
                rw [hnx] at n4 g4
                subst e4
                rw [← hpl] at n4 g4
                exact Lg.step HS.out HL.out hp o4 n4 k4 g4 r6 g6
              clear r6 g6 b6 R4 HF
              go_wp2
              go_roundw
              case rel => exact ⟨u + 1, by omega, by go_num, am', cm', _, rfl, H6⟩
              case measure => simp [intOf]; omega
        · have hge : (t : Int) ≤ (u : Int) := by omega
          obtain rfl : u = t := by omega
          have HD : Hid (Lg w wr B u its (.slice am u cm) ms) := HL
          go_wp2
          go_loopw [9] (fun i wr2 => ∃ y : Nat, y ≤ u ∧ i = .int .i64 (y : Int) ∧ wr2 = wr) (fun i _ => u - (intOf i).toNat)
          case atStart => exact ⟨0, by omega, rfl, rfl⟩
          case round =>
            obtain ⟨y, hy, rfl, rfl⟩ := hrel
            by_cases hly : y < u
            · have hly2 : (y : Int) < (u : Int) := by omega
              have hy0 : (0 : Int) ≤ (y : Int) := by omega
              obtain ⟨p, gL, al, cl, hp, hpl, hx, rfl, c1⟩ := HS.out.item HD.out.fr hly
              obtain ⟨nx, hnx⟩ : ∃ nx, nx = p.xs.length := ⟨_, rfl⟩
              obtain ⟨gM, rfl, cM⟩ := HD.out.row.at hly
              have hyl : y < ms.length := by have := HD.out.row.1; omega
              obtain ⟨O2, _⟩ := HD.out.new y p ms[y] hp (by simp [hyl])
              have RO := HD.out.old y p hp
              obtain ⟨a2, c2, e2⟩ := own_form O2.2
              rw [List.getElem?_eq_getElem hyl, e2] at cM
              rw [e2] at O2
              have RN := O2.rd (rep_bys _ _ (mkOf_lt y)) (by omega)
              rw [hpl] at RO
              rw [← hnx] at c1 hx cM RN RO
              obtain ⟨nz, hnz⟩ : ∃ nz, nz = 2 * nx + 70 := ⟨_, rfl⟩
              rw [← hnz] at cM RN
              have CN : Hid (Calls _ _ _ _ _) := only_any RN
              have CO : Hid (Calls _ _ _ _ _) := only_any RO
              rw [mkOf_int] at CN CO
              clear O2 RN RO e2 hp hpl hnx hnz
              go_wp2_with fail
              refine CO.out.mono ?_
              rintro r w5 ⟨rfl, rfl⟩
              go_wp2_with fail
              refine CN.out.mono ?_
              rintro r w6 ⟨rfl, rfl⟩
              go_wp2
              go_roundw
              case rel => exact ⟨y + 1, by omega, by go_num, trivial⟩
              case measure => simp [intOf]; omega
            · have hgy : (u : Int) ≤ (y : Int) := by omega
              go_wp2
              go_ret
              exact ⟨rfl, HD.out.fr.below (fun p hp x hx => ((HS.out.own p hp).1.2.lt x hx).1) hB, HD.out.fr, fun wx k => HD.out.bs HS0.out HS.out k⟩

end Go.Proofs.YtledfniedoapiaaDoor

namespace Go.Proofs.YtledfniedoapiaaDoor
open Go.RowKit
set_option linter.unusedVariables false

theorem ruint_uintF : ∀ (f u i q : Nat) (rest : List Nat), i + f = 9 → u < 128 ^ (f + 1) → (0 < i → 0 < u) → q < 128 ^ i → q + u * 128 ^ i < 18446744073709551616 → ruint f (uintF f u ++ rest) i q = (q + u * 128 ^ i, i + (uintF f u).length, 0) := by
  intro f
  induction f with
  | zero =>
    intro u i q rest hi hu hp hq ht
    have hi9 : i = 9 := by omega
    subst hi9
    have hu1 : u ≤ 1 := by
      have e : (128 : Nat) ^ 9 = 9223372036854775808 := by decide
      rw [e] at ht
      omega
    show ruint 0 (u :: rest) 9 q = _
    unfold ruint
    rw [if_neg (by omega), if_neg (by omega), if_neg (by omega)]
    rw [Nat.mod_eq_of_lt (by omega)]
    rfl
  | succ f ih =>
    intro u i q rest hi hu hp hq ht
    by_cases h127 : 127 < u
    · rw [uintF_go f u h127, List.cons_append]
      unfold ruint
      rw [if_neg (by omega), if_pos (by omega)]
      have e1 : (u % 128 + 128) % 128 = u % 128 := by omega
      rw [e1]
      have e2 : q + u % 128 * 128 ^ i + u / 128 * 128 ^ (i + 1) = q + u * 128 ^ i := by
        have : u * 128 ^ i = (128 * (u / 128) + u % 128) * 128 ^ i := by rw [Nat.div_add_mod]
        rw [this, Nat.add_mul, Nat.pow_succ]
        have : u / 128 * (128 ^ i * 128) = 128 * (u / 128) * 128 ^ i := by rw [Nat.mul_comm (128 ^ i) 128, ← Nat.mul_assoc, Nat.mul_comm (u / 128) 128]
        omega
      rw [ih (u / 128) (i + 1) _ rest (by omega) (by rw [Nat.pow_succ] at hu; exact Nat.div_lt_of_lt_mul (by rw [Nat.mul_comm]; exact hu)) (by omega) (next_lt q u i hq) (by rw [e2]; exact ht), e2]
      simp
      omega
    · rw [uintF_stop (f + 1) u (by omega)]
      show ruint (f + 1) (u :: rest) i q = _
      unfold ruint
      rw [if_neg (by omega), if_neg (by omega), if_neg (by omega), Nat.mod_eq_of_lt (by omega)]
      rfl

/-- What Uint writes, ReadUint reads, wherever it stands. -/
theorem uint_trip (v : Nat) (hv : v < 18446744073709551616) (pre rest : List Nat) : uintR (pre ++ (uintL v ++ rest)) pre.length = (v, pre.length + (uintL v).length, 0) := by
  unfold uintR
  rw [List.drop_left]
  have := ruint_uintF 9 v 0 0 rest rfl (Nat.lt_of_lt_of_le hv (by decide)) (by omega) (by simp) (by simpa using hv)
  rw [uintL, this]
  simp
/-- What Bytes writes, ReadBytes reads, wherever it stands. -/
theorem bytes_trip (bs : List Nat) (hl : bs.length < 18446744073709551616) (most : Nat) (hm : bs.length ≤ most) (pre rest : List Nat) :
    bytesR (pre ++ (bytesL bs ++ rest)) pre.length most = (bs, pre.length + (bytesL bs).length, 0) := by
  unfold bytesR bytesL
  rw [List.append_assoc (uintL bs.length) bs rest, uint_trip bs.length hl pre (bs ++ rest)]
  have h1 : ¬ most < bs.length := by omega
  have h2 : ¬ (pre ++ (uintL bs.length ++ (bs ++ rest))).length < pre.length + (uintL bs.length).length + bs.length := by simp; omega
  simp only [ne_eq, not_true_eq_false, if_false, h1, h2]
  have e : pre ++ (uintL bs.length ++ (bs ++ rest)) = (pre ++ uintL bs.length) ++ (bs ++ rest) := by simp
  rw [e, show pre.length + (uintL bs.length).length = (pre ++ uintL bs.length).length by simp, List.drop_left, List.take_left]
  simp
  omega

end Go.Proofs.YtledfniedoapiaaDoor

namespace Go.Proofs.YtledfniedoapiaaDoor
open Go.RowKit
set_option linter.unusedVariables false

theorem und_ws : Tryd.prog.underlying 48 = some (.slice 51) := by kernel_rfl
theorem info_w : (Tryd.prog.info? 51).map (fun i => (i.zero, i.size, i.bytes)) = some (some (.agg #[.slice none 0 0, .int .i64 0]), 2, 32) := by kernel_rfl

theorem rising_atL (z : Int) (n : Nat) (hz : z = (n : Int)) (hn : n < 9223372036854775808) (w : World) {L : List Nat} (hL : be8 n = L) :
    Calls Tryd.prog 44 #[.int .i64 z] w fun e w' => ∃ a m c, e = .returned (.tuple #[.slice a m c, .int .i64 0]) ∧ Own w' w.heap.size (.slice a m c) m L ∧ Below w.heap.size w w' := by
  subst hz hL; exact rising_any n hn w

theorem falling_atL (z : Int) (n : Nat) (hz : z = (n : Int)) (hn : n < 9223372036854775808) (w : World) {L : List Nat} (hL : be8 (9223372036854775807 - n) = L) :
    Calls Tryd.prog 45 #[.int .i64 z] w fun e w' => ∃ a m c, e = .returned (.tuple #[.slice a m c, .int .i64 0]) ∧ Own w' w.heap.size (.slice a m c) m L ∧ Below w.heap.size w w' := by
  subst hz hL; exact falling_any n hn w

theorem owns_later {w w' : World} {B e size n : Nat} {v : Value} {xs : List Value} (h : w.ownsRow B e size v n xs) (hb : Below w.heap.size w w') : w'.ownsRow B e size v n xs := by
  refine ⟨h.1, ?_⟩
  rcases h.2 with h2 | ⟨g, cap, cur, h3, h4, h5, h6⟩
  · exact .inl h2
  · exact .inr ⟨g, cap, cur, h3, h4, by rw [hb.block g (Array.getElem?_eq_some_iff.1 h5).1]; exact h5, h6⟩

/-- What 'written' hands out: six values, each with the number of its Read. -/
def Six (w : World) (g : Nat) (v : Nat) (bs : List Nat) : Prop :=
  ∃ u0 u1 u2 u3 u4 u5 : Value, (∀ j x, [u0, .int .i64 2, u1, .int .i64 6, u2, .int .i64 8, u3, .int .i64 4, u4, .int .i64 10, u5, .int .i64 13][j]? = some x → w.cell? ⟨g, j, none⟩ = some x) ∧
    Rd w u0 (uintL v) ∧ Rd w u1 (be8 (v / 2)) ∧ Rd w u2 (be8 (9223372036854775807 - v / 2)) ∧ Rd w u3 (bytesL bs) ∧ Rd w u4 (ordL bs) ∧ Rd w u5 (frameL bs)

set_option maxRecDepth 100000 in
set_option maxHeartbeats 2000000 in
theorem written_any (v : Nat) (hv : v < 18446744073709551616) {vb : Value} {bs : List Nat} {w : World} (hb : Rd w vb bs) (ht : Tab w) (hl : bs.length ≤ 1048576) :
    Calls Tryd.prog 21 #[.int .u64 (v : Int), vb] w fun e w' => ∃ g c, e = .returned (.slice (some ⟨g, 0, none⟩) 6 c) ∧ Six w' g v bs ∧ Below w.heap.size w w' := by
  obtain ⟨i0, hi, hz0, hz1, hz2⟩ := info_parts info_w
  obtain ⟨a, n, cap, rfl⟩ := rd_slice hb
  obtain ⟨hn, _, _, _⟩ := rd_lens hb
  rw [← hn] at hl
  have HN : Hid (n = bs.length) := hn
  clear hn
  have hbys := hb.1
  obtain ⟨LR, hLR⟩ : ∃ L, be8 (v / 2) = L := ⟨_, rfl⟩
  obtain ⟨LF, hLF⟩ : ∃ L, be8 (9223372036854775807 - v / 2) = L := ⟨_, rfl⟩
  have HLR : Hid (be8 (v / 2) = LR) := hLR
  have HLF : Hid (be8 (9223372036854775807 - v / 2) = LF) := hLF
  have HV2 : Hid (v / 2 < 9223372036854775808) := by unfold Hid; omega
  have HLRB : Hid (Bys LR ∧ LR.length = 8) := by unfold Hid; rw [← hLR]; exact ⟨be8_bys _, rfl⟩
  have HLFB : Hid (Bys LF ∧ LF.length = 8) := by unfold Hid; rw [← hLF]; exact ⟨be8_bys _, rfl⟩
  clear hLR hLF
  have HDIV : Hid (((v : Int) / 2) = ((v / 2 : Nat) : Int)) := by unfold Hid; omega
  have HORD : Hid ((ordL bs).length ≤ 4194304) := by
    unfold Hid
    have h1 := ordL_len bs
    have h2 : bs.count 0 ≤ bs.length := List.count_le_length
    have := HN.out
    omega
  have hln : (n : Int) ≤ 1048576 := by omega
  go_enter Tryd.func21, Tryd.ntmps21
  go_wp2_with fail
  refine (rising_atL _ (v / 2) HDIV.out HV2.out _ HLR.out).mono ?_
  rintro e w1 ⟨a1, m1, c1, rfl, own1, hb1⟩
  have r1 := own1.rd HLRB.out.1 (by rw [own1.1, HLRB.out.2]; omega)
  have hs1 := hb1.size
  clear own1
  go_wp2_with fail
  refine (falling_atL _ (v / 2) HDIV.out HV2.out _ HLF.out).mono ?_
  rintro e w2 ⟨a2, m2, c2, rfl, own2, hb2⟩
  have r2 := own2.rd HLFB.out.1 (by rw [own2.1, HLFB.out.2]; omega)
  have r1 := r1.later hb2
  have hb2' := hb1.trans (hb2.mono hs1)
  have hs2 := hb2'.size
  clear own2 hb2 hb1 hs1
  go_wp2_with fail
  refine (uint_at _ v rfl hv _ rfl).mono ?_
  rintro e w3 ⟨a3, m3, c3, rfl, own3, hb3⟩
  have r0 := own3.rd (uintL_bys v hv) (by rw [own3.1]; have := (uintL_len v).2; omega)
  have r1 := r1.later hb3
  have r2 := r2.later hb3
  have hb3' := hb2'.trans (hb3.mono hs2)
  have hs3 := hb3'.size
  clear own3 hb3 hb2' hs2
  go_wp2_with fail
  refine (bytes_any (hb.later hb3') (by rw [← HN.out]; omega)).mono ?_
  rintro e w4 ⟨a4, m4, c4, rfl, own4, hb4⟩
  have hm4 : m4 ≤ 2097152 := by
    have h1 := own4.1
    have h2 := uintL_len bs.length
    unfold bytesL at h1
    rw [List.length_append, ← HN.out] at h1
    rw [← HN.out] at h2
    omega
  have r3 := own4.rd ((uintL_bys _ (by rw [← HN.out]; omega)).app hbys) (by omega)
  have r0 := r0.later hb4
  have r1 := r1.later hb4
  have r2 := r2.later hb4
  have hb4' := hb3'.trans (hb4.mono hs3)
  have hs4 := hb4'.size
  clear own4 hb4 hb3' hs3
  go_wp2_with fail
  refine (ordered_any (hb.later hb4') (by have := HORD.out; omega)).mono ?_
  rintro e w5 ⟨a5, m5, c5, rfl, own5, hb5⟩
  have r4 := own5.rd (ordL_bys bs hbys) (by rw [own5.1]; have := HORD.out; omega)
  have r0 := r0.later hb5
  have r1 := r1.later hb5
  have r2 := r2.later hb5
  have r3 := r3.later hb5
  have hb5' := hb4'.trans (hb5.mono hs4)
  have hs5 := hb5'.size
  clear own5 hb5 hb4' hs4
  go_wp2_with fail
  have A6 := (Below.refl w5.heap.size w5).alloc (Nat.le_refl _) (.cells #[.slice a3 m3 c3, .int .i64 2, .slice a1 m1 c1, .int .i64 6, .slice a2 m2 c2, .int .i64 8, .slice a4 m4 c4, .int .i64 4, .slice a5 m5 c5, .int .i64 10] 51)
  have hown : (w5.alloc (.cells #[.slice a3 m3 c3, .int .i64 2, .slice a1 m1 c1, .int .i64 6, .slice a2 m2 c2, .int .i64 8, .slice a4 m4 c4, .int .i64 4, .slice a5 m5 c5, .int .i64 10] 51)).ownsRow w.heap.size 51 2 (.slice (some ⟨w5.heap.size, 0, none⟩) 5 5) 5 [.slice a3 m3 c3, .int .i64 2, .slice a1 m1 c1, .int .i64 6, .slice a2 m2 c2, .int .i64 8, .slice a4 m4 c4, .int .i64 4, .slice a5 m5 c5, .int .i64 10] :=
    ⟨rfl, .inr ⟨w5.heap.size, 5, _, rfl, hs5, heap_alloc_new w5 _, Nat.le_refl _, by unfold maxLen; omega, rfl, rfl⟩⟩
  have hb6 := hb5'.trans (A6.mono hs5)
  refine (frame_ok (hb.later hb6) (ht.later hb6) (by rw [← HN.out]; exact hl)).mono ?_
  rintro e w6 ⟨a6, m6, c6, rfl, own6, hb6f⟩
  have hown6 := owns_later hown hb6f
  have B5 := A6.trans (hb6f.mono A6.size)
  have hb7 := hb6.trans (hb6f.mono hb6.size)
  have hs7 := hb7.size
  have hs6 := hb6f.size
  have hm6 : m6 ≤ 2097152 := by rw [own6.1]; simp [frameL, be4, le4]; rw [← HN.out]; omega
  clear hb6f hb6 hown A6
  go_wp2_with (at_builtin; refine wpList_append_own _ rfl _ _ 48 rfl w.heap.size 51 i0 (.agg #[.slice none 0 0, .int .i64 0]) 2 32 und_ws hi hz0 hz1 hz2 rfl (by decide) _ 5 _ rfl (hown6.alloc _) ⟨w6.heap.size, 0, none⟩ 1 1 [.slice a6 m6 c6, .int .i64 13] rfl rfl (news_new _ _ _) ?c2 ?c3 ?c4 ?c5 ?_)
  case c2 => intro u hu; simp at hu; rcases hu with rfl | rfl <;> rfl
  case c3 => unfold maxLen; omega
  case c4 => omega
  case c5 => simp; omega
  intro v' w8 hown8 hgrow _
  have hsz : w5.heap.size + 1 ≤ w6.heap.size := by simpa using hs6
  have B8 : Below w5.heap.size w5 w8 := (B5.alloc B5.size _).grown hgrow (by simp; omega) (fun k hk => by simp [Value.ownBlock] at hk; omega)
  have hb8 := hb5'.trans (B8.mono hs5)
  have o6 := (own6.2.alloc (.cells #[.slice a6 m6 c6, .int .i64 13] 51)).kept hgrow (by
    by_cases hnb : (Value.slice a6 m6 c6).ownBlock = none
    · exact .inl hnb
    · right
      intro he
      have h1 := own6.2.lt w5.heap.size (by rw [he]; rfl)
      have h2 := h1.1
      simp at h2
      omega)
  have own8 : Own w8 (w5.heap.size + 1) (.slice a6 m6 c6) m6 (frameL bs) := ⟨own6.1, by simpa using o6⟩
  have r5 := own8.rd (frameL_bys bs hbys (by rw [← HN.out]; exact hl)) (by omega)
  have r0 := r0.later B8
  have r1 := r1.later B8
  have r2 := r2.later B8
  have r3 := r3.later B8
  have r4 := r4.later B8
  obtain ⟨g8, c8, hv8⟩ : ∃ g c, v' = .slice (some ⟨g, 0, none⟩) 6 c := by
    rcases hown8.2 with ⟨_, h⟩ | ⟨g, c, cur, h, _⟩
    · omega
    · exact ⟨g, c, h⟩
  rw [hv8] at hown8 ⊢
  have hsix : Six w8 g8 v bs := by
    refine ⟨_, _, _, _, _, _, fun j x hj => ?_, r0, by rw [HLR.out]; exact r1, by rw [HLF.out]; exact r2, r3, r4, r5⟩
    have hjl : j < 12 := by
      have := (List.getElem?_eq_some_iff.1 hj).1
      simpa using this
    rw [hown8.cellAt j (by omega)]
    exact hj
  have HSIX : Hid (Six w8 g8 v bs) := hsix
  clear hown8 hgrow own6 own8 o6 r0 r1 r2 r3 r4 r5 B5 B8 hown6 hsix
  go_wp2
  go_ret
  exact ⟨g8, c8, rfl, HSIX.out, hb8⟩

end Go.Proofs.YtledfniedoapiaaDoor

namespace Go.Proofs.YtledfniedoapiaaDoor
open Go.RowKit
set_option linter.unusedVariables false

theorem Pend.push0 {w w' : World} {B : Nat} {vs : List (Value × List Nat)} {v : Value} {xs : List Nat} (h : Pend w B [] vs) (hb : Below w.heap.size w w') (ho : Own w' w.heap.size v xs.length xs) (hB : B ≤ w.heap.size) (hby : Bys xs) (hl : xs.length ≤ 4194304) : Pend w' B [] (vs ++ [(v, xs)]) := by
  have hv : ∀ x, v.ownBlock = some x → w.heap.size ≤ x := fun x hx => (ho.2.lt x hx).1
  refine ⟨fun p hp => ?_, ?_, fun p hp q hq => by cases hq⟩
  · rcases List.mem_append.1 hp with hp | hp
    · exact (h.later hb).own p hp
    · simp at hp
      subst hp
      exact ⟨ho.mono hB, hby, hl⟩
  · rw [List.map_append, List.pairwise_append]
    refine ⟨h.ap, by simp, fun u hu y hy => ?_⟩
    simp at hy
    subst hy
    obtain ⟨p, hp, rfl⟩ := List.mem_map.1 hu
    exact fun x hx hy => by have := ((h.own p hp).1.2.lt x hx).2; have := hv x hy; omega
theorem Pend.perm {w : World} {B : Nat} {its : List Item} {vs vs' : List (Value × List Nat)} (h : Pend w B its vs) (k : vs.Perm vs') : Pend w B its vs' :=
  ⟨fun p hp => h.own p (k.mem_iff.2 hp), (List.Perm.pairwise_iff (fun {x y} (a : AP x y) => a.symm) (k.map Prod.fst)).1 h.ap, fun p hp => h.hap p (k.mem_iff.2 hp)⟩
theorem perm6 {α : Type} (a b c d e f : α) : [a, b, c, d, e, f].Perm [c, a, b, d, e, f] := by
  have h1 : [a, b, c, d, e, f].Perm [a, c, b, d, e, f] := .cons _ (.swap _ _ _)
  exact h1.trans (.swap _ _ _)
/-- What 'written' hands out: six values, each of which owns its bytes, all apart. -/
def SixO (w : World) (B g : Nat) (v : Nat) (bs : List Nat) : Prop :=
  ∃ u0 u1 u2 u3 u4 u5 : Value, (∀ j x, [u0, .int .i64 2, u1, .int .i64 6, u2, .int .i64 8, u3, .int .i64 4, u4, .int .i64 10, u5, .int .i64 13][j]? = some x → w.cell? ⟨g, j, none⟩ = some x) ∧
    u0.oneCell' = true ∧ u1.oneCell' = true ∧ u2.oneCell' = true ∧ u3.oneCell' = true ∧ u4.oneCell' = true ∧ u5.oneCell' = true ∧
    Pend w B [] [(u0, uintL v), (u1, be8 (v / 2)), (u2, be8 (9223372036854775807 - v / 2)), (u3, bytesL bs), (u4, ordL bs), (u5, frameL bs)]

set_option maxRecDepth 100000 in
set_option maxHeartbeats 2000000 in
theorem written_own (v : Nat) (hv : v < 18446744073709551616) {vb : Value} {bs : List Nat} {w : World} (hb : Rd w vb bs) (ht : Tab w) (hl : bs.length ≤ 1048576) :
    Calls Tryd.prog 21 #[.int .u64 (v : Int), vb] w fun e w' => ∃ g c, e = .returned (.slice (some ⟨g, 0, none⟩) 6 c) ∧ SixO w' w.heap.size g v bs ∧ Below w.heap.size w w' := by
  obtain ⟨i0, hi, hz0, hz1, hz2⟩ := info_parts info_w
  obtain ⟨a, n, cap, rfl⟩ := rd_slice hb
  obtain ⟨hn, _, _, _⟩ := rd_lens hb
  rw [← hn] at hl
  have HN : Hid (n = bs.length) := hn
  clear hn
  have hbys := hb.1
  obtain ⟨LR, hLR⟩ : ∃ L, be8 (v / 2) = L := ⟨_, rfl⟩
  obtain ⟨LF, hLF⟩ : ∃ L, be8 (9223372036854775807 - v / 2) = L := ⟨_, rfl⟩
  have HLR : Hid (be8 (v / 2) = LR) := hLR
  have HLF : Hid (be8 (9223372036854775807 - v / 2) = LF) := hLF
  have HV2 : Hid (v / 2 < 9223372036854775808) := by unfold Hid; omega
  have HLRB : Hid (Bys LR ∧ LR.length = 8) := by unfold Hid; rw [← hLR]; exact ⟨be8_bys _, rfl⟩
  have HLFB : Hid (Bys LF ∧ LF.length = 8) := by unfold Hid; rw [← hLF]; exact ⟨be8_bys _, rfl⟩
  clear hLR hLF
  have HDIV : Hid (((v : Int) / 2) = ((v / 2 : Nat) : Int)) := by unfold Hid; omega
  have HORD : Hid ((ordL bs).length ≤ 4194304) := by
    unfold Hid
    have h1 := ordL_len bs
    have h2 : bs.count 0 ≤ bs.length := List.count_le_length
    have := HN.out
    omega
  have hln : (n : Int) ≤ 1048576 := by omega
  go_enter Tryd.func21, Tryd.ntmps21
  go_wp2_with fail
  refine (rising_atL _ (v / 2) HDIV.out HV2.out _ HLR.out).mono ?_
  rintro e w1 ⟨a1, m1, c1, rfl, own1, hb1⟩
  have hs1 := hb1.size
  have P1 : Pend w1 w.heap.size [] [(.slice a1 m1 c1, LR)] := (Pend.nil w w.heap.size []).push0 hb1 (own_len own1) (Nat.le_refl _) HLRB.out.1 (by rw [HLRB.out.2]; omega)
  clear own1
  go_wp2_with fail
  refine (falling_atL _ (v / 2) HDIV.out HV2.out _ HLF.out).mono ?_
  rintro e w2 ⟨a2, m2, c2, rfl, own2, hb2⟩
  have P2 : Pend w2 w.heap.size [] [(.slice a1 m1 c1, LR), (.slice a2 m2 c2, LF)] := P1.push0 hb2 (own_len own2) hs1 HLFB.out.1 (by rw [HLFB.out.2]; omega)
  clear P1
  have hb2' := hb1.trans (hb2.mono hs1)
  have hs2 := hb2'.size
  clear own2 hb2 hb1 hs1
  go_wp2_with fail
  refine (uint_at _ v rfl hv _ rfl).mono ?_
  rintro e w3 ⟨a3, m3, c3, rfl, own3, hb3⟩
  have P3 : Pend w3 w.heap.size [] [(.slice a1 m1 c1, LR), (.slice a2 m2 c2, LF), (.slice a3 m3 c3, uintL v)] := P2.push0 hb3 (own_len own3) hs2 (uintL_bys v hv) (by have := (uintL_len v).2; omega)
  clear P2
  have hb3' := hb2'.trans (hb3.mono hs2)
  have hs3 := hb3'.size
  clear own3 hb3 hb2' hs2
  go_wp2_with fail
  refine (bytes_any (hb.later hb3') (by rw [← HN.out]; omega)).mono ?_
  rintro e w4 ⟨a4, m4, c4, rfl, own4, hb4⟩
  have hm4 : m4 ≤ 2097152 := by
    have h1 := own4.1
    have h2 := uintL_len bs.length
    unfold bytesL at h1
    rw [List.length_append, ← HN.out] at h1
    rw [← HN.out] at h2
    omega
  have P4 : Pend w4 w.heap.size [] [(.slice a1 m1 c1, LR), (.slice a2 m2 c2, LF), (.slice a3 m3 c3, uintL v), (.slice a4 m4 c4, bytesL bs)] := P3.push0 hb4 (own_len own4) hs3 ((uintL_bys _ (by rw [← HN.out]; omega)).app hbys) (by have h1 := own4.1; unfold bytesL at h1 ⊢; omega)
  clear P3
  have hb4' := hb3'.trans (hb4.mono hs3)
  have hs4 := hb4'.size
  clear own4 hb4 hb3' hs3
  go_wp2_with fail
  refine (ordered_any (hb.later hb4') (by have := HORD.out; omega)).mono ?_
  rintro e w5 ⟨a5, m5, c5, rfl, own5, hb5⟩
  have P5 := Lib.hid (show Pend w5 w.heap.size [] [(.slice a1 m1 c1, LR), (.slice a2 m2 c2, LF), (.slice a3 m3 c3, uintL v), (.slice a4 m4 c4, bytesL bs), (.slice a5 m5 c5, ordL bs)] from P4.push0 hb5 (own_len own5) hs4 (ordL_bys bs hbys) HORD.out)
  clear P4
  have hb5' := hb4'.trans (hb5.mono hs4)
  have hs5 := hb5'.size
  clear own5 hb5 hb4' hs4
  go_wp2_with fail
  have A6 := (Below.refl w5.heap.size w5).alloc (Nat.le_refl _) (.cells #[.slice a3 m3 c3, .int .i64 2, .slice a1 m1 c1, .int .i64 6, .slice a2 m2 c2, .int .i64 8, .slice a4 m4 c4, .int .i64 4, .slice a5 m5 c5, .int .i64 10] 51)
  have hown : (w5.alloc (.cells #[.slice a3 m3 c3, .int .i64 2, .slice a1 m1 c1, .int .i64 6, .slice a2 m2 c2, .int .i64 8, .slice a4 m4 c4, .int .i64 4, .slice a5 m5 c5, .int .i64 10] 51)).ownsRow w.heap.size 51 2 (.slice (some ⟨w5.heap.size, 0, none⟩) 5 5) 5 [.slice a3 m3 c3, .int .i64 2, .slice a1 m1 c1, .int .i64 6, .slice a2 m2 c2, .int .i64 8, .slice a4 m4 c4, .int .i64 4, .slice a5 m5 c5, .int .i64 10] :=
    ⟨rfl, .inr ⟨w5.heap.size, 5, _, rfl, hs5, heap_alloc_new w5 _, Nat.le_refl _, by unfold maxLen; omega, rfl, rfl⟩⟩
  have hb6 := hb5'.trans (A6.mono hs5)
  refine (frame_ok (hb.later hb6) (ht.later hb6) (by rw [← HN.out]; exact hl)).mono ?_
  rintro e w6 ⟨a6, m6, c6, rfl, own6, hb6f⟩
  have hown6 := owns_later hown hb6f
  have B5 := A6.trans (hb6f.mono A6.size)
  have hb7 := hb6.trans (hb6f.mono hb6.size)
  have hs7 := hb7.size
  have hs6 := hb6f.size
  have hm6 : m6 ≤ 2097152 := by rw [own6.1]; simp [frameL, be4, le4]; rw [← HN.out]; omega
  clear hb6f hb6 hown A6
  go_wp2_with (at_builtin; refine wpList_append_own _ rfl _ _ 48 rfl w.heap.size 51 i0 (.agg #[.slice none 0 0, .int .i64 0]) 2 32 und_ws hi hz0 hz1 hz2 rfl (by decide) _ 5 _ rfl (hown6.alloc _) ⟨w6.heap.size, 0, none⟩ 1 1 [.slice a6 m6 c6, .int .i64 13] rfl rfl (news_new _ _ _) ?c2 ?c3 ?c4 ?c5 ?_)
  case c2 => intro u hu; simp at hu; rcases hu with rfl | rfl <;> rfl
  case c3 => unfold maxLen; omega
  case c4 => omega
  case c5 => simp; omega
  intro v' w8 hown8 hgrow _
  have hsz : w5.heap.size + 1 ≤ w6.heap.size := by simpa using hs6
  have B8 : Below w5.heap.size w5 w8 := (B5.alloc B5.size _).grown hgrow (by simp; omega) (fun k hk => by simp [Value.ownBlock] at hk; omega)
  have hb8 := hb5'.trans (B8.mono hs5)
  have o6 := (own6.2.alloc (.cells #[.slice a6 m6 c6, .int .i64 13] 51)).kept hgrow (by
    by_cases hnb : (Value.slice a6 m6 c6).ownBlock = none
    · exact .inl hnb
    · right
      intro he
      have h1 := own6.2.lt w5.heap.size (by rw [he]; rfl)
      have h2 := h1.1
      simp at h2
      omega)
  have own8 : Own w8 (w5.heap.size + 1) (.slice a6 m6 c6) m6 (frameL bs) := ⟨own6.1, by simpa using o6⟩
  have P6 : Pend w8 w.heap.size [] [(.slice a1 m1 c1, LR), (.slice a2 m2 c2, LF), (.slice a3 m3 c3, uintL v), (.slice a4 m4 c4, bytesL bs), (.slice a5 m5 c5, ordL bs), (.slice a6 m6 c6, frameL bs)] := P5.out.push0 B8 (own_len (own8.mono (by omega))) hs5 (frameL_bys bs hbys (by rw [← HN.out]; exact hl)) (by have := own8.1; omega)
  obtain ⟨g8, c8, hv8⟩ : ∃ g c, v' = .slice (some ⟨g, 0, none⟩) 6 c := by
    rcases hown8.2 with ⟨_, h⟩ | ⟨g, c, cur, h, _⟩
    · omega
    · exact ⟨g, c, h⟩
  rw [hv8] at hown8 ⊢
  have hsix : SixO w8 w.heap.size g8 v bs := by
    refine ⟨.slice a3 m3 c3, .slice a1 m1 c1, .slice a2 m2 c2, .slice a4 m4 c4, .slice a5 m5 c5, .slice a6 m6 c6, fun j x hj => ?_, rfl, rfl, rfl, rfl, rfl, rfl, P6.perm ?_⟩
    rotate_left
    · rw [HLR.out, HLF.out]
      exact perm6 _ _ _ _ _ _
    have hjl : j < 12 := by
      have := (List.getElem?_eq_some_iff.1 hj).1
      simpa using this
    rw [hown8.cellAt j (by omega)]
    exact hj
  have HSIX : Hid (SixO w8 w.heap.size g8 v bs) := hsix
  clear hown8 hgrow own6 own8 o6 P6 P5 B5 B8 hown6 hsix
  go_wp2
  go_ret
  exact ⟨g8, c8, rfl, HSIX.out, hb8⟩


end Go.Proofs.YtledfniedoapiaaDoor
