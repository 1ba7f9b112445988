import Derived.Test.YtncbiohmogmcpaaDoorRoomy
import Derived.Deep.DeepCutAuto
import Derived.RegionTactic
namespace Go.Proofs.YtncbiohmogmcpaaDoor
open Go.RowKit
set_option linter.unusedVariables false

set_option maxRecDepth 100000 in
set_option maxHeartbeats 4000000 in
theorem plays_12 {vb vp : Value} {bs : List Nat} {ps : List (List Nat)} {w : World} (z nn vv : Int) (hb : Rd w vb bs) (hp : RdP w vp ps) (ht : Tab w) (hlb : bs.length ≤ 1048576) (hlp : ps.length ≤ 1048576) (hlpp : ∀ i, (ps.getD i []).length ≤ 1048576)
    (hcall : ∀ (w2 : World) (ub up : Value), Rd w2 ub bs → RdP w2 up ps → Tab w2 → Calls Tryd.prog 36 #[.agg #[.int .i64 12, ub, .int .i64 z, .int .i64 nn, .int .u64 vv, up]] w2 fun e w' => e = .returned (.bool true) ∧ Below w2.heap.size w2 w') :
    Calls Tryd.prog 33 #[.agg #[.int .i64 12, vb, .int .i64 z, .int .i64 nn, .int .u64 vv, vp]] w fun e w' => e = .returned (.bool true) ∧ Below w.heap.size w w' := by
  have HCALL : Hid (∀ (w2 : World) (ub up : Value), Rd w2 ub bs → RdP w2 up ps → Tab w2 → Calls Tryd.prog 36 #[.agg #[.int .i64 12, ub, .int .i64 z, .int .i64 nn, .int .u64 vv, up]] w2 fun e w' => e = .returned (.bool true) ∧ Below w2.heap.size w2 w') := hcall
  clear hcall
  have hp0 := hp
  obtain ⟨ab, nb, capb, rfl⟩ := rd_slice hb
  obtain ⟨hnb, hleb, hmb, hl48b⟩ := rd_lens hb
  obtain ⟨hpl, ap, cp, hvp, hpc⟩ := hp
  subst hvp
  obtain ⟨n, hn⟩ : ∃ n, n = ps.length := ⟨_, rfl⟩
  rw [← hn] at hpl hlp hp0 ⊢
  have HN : Hid (n = ps.length) := hn
  have HNB : Hid (nb = bs.length) := hnb
  have hlnb : nb ≤ 1048576 := by omega
  have HLPP : Hid (∀ i, (ps.getD i []).length ≤ 1048576) := hlpp
  have HPC : Hid (ps = [] ∨ ∃ b off, ap = some ⟨b, off, none⟩ ∧ ∀ i, i < ps.length → ∃ u, w.cell? ⟨b, off + i, none⟩ = some u ∧ Rd w u (ps.getD i [])) := hpc
  have HLB : Hid (bs.length ≤ 1048576) := hlb
  clear hn hnb hlpp hpc hlb
  have A1 := (Below.refl w.heap.size w).alloc (Nat.le_refl _) (.cells #[.int .i64 12, .slice ab nb capb, .int .i64 z, .int .i64 nn, .int .u64 vv, .slice ap n cp] 34)
  have bx1 := Box.new w 12 (.slice ab nb capb) z nn vv (.slice ap n cp)
  have rb1 := hb.later A1
  go_enter Tryd.func33, Tryd.ntmps33
  go_wp2_with fail
  refine (roomy_any rb1 (by have := HLB.out; omega)).mono ?_
  rintro e w2 ⟨g0, c0, rfl, hc0, hc0m, own0, hb2⟩
  rw [← HNB.out] at hc0 own0 ⊢
  have B2 : Below w.heap.size w w2 := A1.trans (hb2.mono A1.size)
  have bx2 := bx1.later hb2
  have own02 := own0.mono A1.size
  clear own0 bx1 rb1 hb2 A1
  go_wp2
  go_loopw [4, 5, 6] (fun s i x wr => ∃ k a c us, k ≤ n ∧ i = .int .i64 ((k : Nat) : Int) ∧ s = .slice a k c ∧ wr.ownsRow w.heap.size 27 1 (.slice a k c) k us ∧ (∀ j u, us[j]? = some u → Wide wr w.heap.size u (ps.getD j [])) ∧ Own wr w.heap.size (.slice (some ⟨g0, 0, none⟩) (nb + 5) c0) (nb + 5) (bs ++ marks) ∧ Box wr w.heap.size 12 (.slice ab nb capb) z nn vv (.slice ap n cp) ∧ Below w.heap.size w wr) (fun _ i _ _ => n - (intOf i).toNat)
  case atStart => exact ⟨0, _, _, [], Nat.zero_le _, rfl, rfl, World.ownsRow_nil _ _ _ _, fun j u h => by simp at h, own02, bx2, B2⟩
  case round =>
    obtain ⟨k, a1, c1, us, hk, rfl, rfl, row1, hwide, own1, bx, hb1⟩ := hrel
    have HW : Hid (∀ j u, us[j]? = some u → Wide wr w.heap.size u (ps.getD j [])) := hwide
    have BX : Hid (Box wr w.heap.size 12 (.slice ab nb capb) z nn vv (.slice ap n cp)) := bx
    have hxp := bx.p
    have hs1 := hb1.size
    clear hwide
    by_cases hlt : k < n
    · have hlt2 : (k : Int) < (n : Int) := by omega
      rcases HPC.out with h0 | ⟨bp, offp, rfl, hpc⟩
      · have := HN.out; rw [h0] at this; simp at this; omega
      obtain ⟨u, hu0, hru0⟩ := hpc k (by rw [← HN.out]; exact hlt)
      have hu : wr.cell? ⟨bp, offp + k, none⟩ = some u := by rw [hb1.cell (p := ⟨bp, offp + k, none⟩) (World.block_lt_of_cell? w _ hu0)]; exact hu0
      have hru := hru0.later hb1
      obtain ⟨au, nu, cu, rfl⟩ := rd_slice hru
      obtain ⟨hnu, hleu, hmu, _⟩ := rd_lens hru
      have hlu := HLPP.out k
      have HNU : Hid (nu = (ps.getD k []).length) := hnu
      rw [← hnu] at hlu
      clear hpc hnu bx
      go_wp2_with fail
      refine (roomy_any hru (by rw [← HNU.out]; omega)).mono ?_
      rintro e w3 ⟨g3, c3, rfl, hc3, hc3m, own3, hb3⟩
      rw [← HNU.out] at hc3 own3 ⊢
      have B3 : Below w.heap.size w w3 := hb1.trans (hb3.mono hs1)
      have bx3 := BX.out.later hb3
      have hxp3 := bx3.p
      have row3 := Row.later row1 hb3
      have own13 := own1.later hb3
      have HW3 : Hid (∀ j u, us[j]? = some u → Wide w3 w.heap.size u (ps.getD j [])) := fun j u h => (HW.out j u h).later hb3
      have own33 := own3.mono hs1
      have hu3 : w3.cell? ⟨bp, offp + k, none⟩ = some (.slice au nu cu) := by rw [hb3.cell (p := ⟨bp, offp + k, none⟩) (World.block_lt_of_cell? wr _ hu)]; exact hu
      have BX3 : Hid (Box w3 w.heap.size 12 _ z nn vv _) := bx3
      have hnu0 : (0 : Int) ≤ (nu : Int) := by omega
      have hnuc : (nu : Int) ≤ (c3 : Int) := by omega
      clear own3 hb3 bx3 row1 own1 HW hu hxp
      go_wp2_with (at_builtin; refine wpList_append_u rfl (.tmp 27) _ rfl w.heap.size a1 k c1 us rfl row3 (.slice (some ⟨g3, 0, none⟩) nu c3) rfl _ rfl rfl (by omega) B3.size ?_; intro a4 c4 w4 row4 gr4 hb4)
      have AL := (Below.refl w3.heap.size w3).alloc (Nat.le_refl _) (.cells #[.slice (some ⟨g3, 0, none⟩) nu c3] 27)
      have rowA := Row.later row3 AL
      have W4 : ∀ j u, (us ++ [Value.slice (some ⟨g3, 0, none⟩) nu c3])[j]? = some u → Wide w4 w.heap.size u (ps.getD j []) := by
        intro j u h
        have hul : us.length = k := by have := row3.1; omega
        by_cases hj : j < us.length
        · rw [List.getElem?_append_left hj] at h
          exact ((HW3.out j u h).later AL).beside rowA gr4
        · rw [List.getElem?_append_right (by omega)] at h
          have hj2 : j = k := by
            by_cases h9 : j - us.length = 0
            · omega
            · rw [List.getElem?_eq_none (by simp; omega)] at h; cases h
          subst hj2
          rw [hul, Nat.sub_self] at h
          simp at h
          subst h
          refine ⟨g3, c3, by rw [← HNU.out], by rw [← HNU.out]; exact hc3, hc3m, ?_⟩
          rw [← HNU.out]
          exact (own33.later AL).beside rowA gr4
      have OW4 := (own13.later AL).beside rowA gr4
      have BX4 := (BX3.out.later AL).beside rowA gr4
      have B4 := B3.trans hb4
      go_roundw
      case rel => exact ⟨k + 1, a4, c4, _, by omega, by go_num, rfl, row4, W4, OW4, BX4, B4⟩
      case measure => simp [intOf]; omega
    · have hkn : k = n := by omega
      have hge : (n : Int) ≤ (k : Int) := by omega
      have HKN : Hid (k = n) := hkn
      clear hkn
      have AO := (Below.refl wr.heap.size wr).alloc (Nat.le_refl _) (.cells #[.int .u8 207] 5)
      have row2 := Row.later row1 AO
      have o207 := own_one wr w.heap.size 207 hs1
      have BA : Below w.heap.size w (wr.alloc (.cells #[.int .u8 207] 5)) := hb1.trans (AO.mono hs1)
      clear bx
      go_wp2_with (
        at_builtin
        refine wpList_append_u rfl (.tmp 38) _ rfl w.heap.size a1 k c1 us rfl row2 (.slice (some ⟨wr.heap.size, 0, none⟩) 1 1) rfl (wr.heap.size + 1) (by simp) rfl (by omega) BA.size ?_
        intro a4 c4 w4 row4 gr4 hb4
        have AL := (Below.refl _ (wr.alloc (.cells #[.int .u8 207] 5))).alloc (Nat.le_refl _) (.cells #[.slice (some ⟨wr.heap.size, 0, none⟩) 1 1] 27)
        have rowA := Row.later row2 AL
        have HW4 : Hid (∀ j u, us[j]? = some u → Wide w4 w.heap.size u (ps.getD j [])) := fun j u h => (((HW.out j u h).later AO).later AL).beside rowA gr4
        have OW4 := ((own1.later AO).later AL).beside rowA gr4
        have BX4 : Hid (Box w4 w.heap.size 12 _ z nn vv _) := ((BX.out.later AO).later AL).beside rowA gr4
        have o4 := (o207.later AL).beside rowA gr4
        have B4 : Below w.heap.size w w4 := BA.trans hb4
        have hxk4 := BX4.out.kind
        have hlt4 : w.heap.size < w4.heap.size := World.block_lt_of_cell? w4 _ hxk4
        have hne4 : ¬ (w.heap.size = w4.heap.size) := by omega
        have hxb4 := BX4.out.b
        have hxz4 := BX4.out.z
        have hxn4 := BX4.out.n
        have hxv4 := BX4.out.v
        have hxp4 := BX4.out.p
        have hnbc : (nb : Int) ≤ (c0 : Int) := by omega
        have hnb0 : (0 : Int) ≤ (nb : Int) := by omega
        have hn0 : (0 : Int) ≤ (n : Int) := by omega
        obtain ⟨gp, ul, rfl, hul, hcl, hkc, hkcm⟩ := Row.cell row4 k (by omega)
        have hnc4 : (n : Int) ≤ (c4 : Int) := by omega
        clear AL rowA gr4 hb4 o207 own1 row1 row2 AO BA)
      have A5 := (Below.refl w4.heap.size w4).alloc (Nat.le_refl _) (.cells #[.int .i64 12, .slice (some ⟨g0, 0, none⟩) nb c0, .int .i64 z, .int .i64 nn, .int .u64 vv, .slice (some ⟨gp, 0, none⟩) n c4] 34)
      have B5 := B4.trans (A5.mono B4.size)
      have rall : Rd w4 (.slice (some ⟨g0, 0, none⟩) (nb + 5) c0) (bs ++ marks) := OW4.rd (hb.1.app marks_bys) (by omega)
      have rub : Rd w4 (.slice (some ⟨g0, 0, none⟩) nb c0) bs := by
        have h := rall.upto nb (by omega)
        rw [HNB.out, List.take_left'] at h
        · rw [← HNB.out] at h; exact h
        · rfl
      have rps := rdp_of_row row4 HKN.out HN.out hlp HW4.out (rdp_bys HPC.out) HLPP.out
      refine (HCALL.out _ _ _ (rub.later A5) (rps.later A5) (ht.later B5)).mono ?_
      rintro e w6 ⟨rfl, hb6⟩
      have D6 : Below w4.heap.size w4 w6 := A5.trans (hb6.mono A5.size)
      have B6 : Below w.heap.size w w6 := B4.trans (D6.mono B4.size)
      have BX6 : Hid (Box w6 w.heap.size 12 _ z nn vv _) := BX4.out.later D6
      have row6 := Row.later row4 D6
      have rall6 := rall.later D6
      have o6 := (o4.later D6).rd bys207 (by omega)
      have HW6 : Hid (∀ j u, us[j]? = some u → Wide w6 w.heap.size u (ps.getD j [])) := fun j u h => (HW4.out j u h).later D6
      have hb6s := B6.size
      clear A5 B5 rall rub rps hb6 D6 row4 o4 HW4 OW4 BX4 hxk4 hxb4 hxz4 hxn4 hxv4 hxp4
      go_wp2
      go_loopw [8, 9, 10] (fun ok i x wy => ∃ k2 : Nat, k2 ≤ n ∧ ok = .bool true ∧ i = .int .i64 ((k2 : Nat) : Int) ∧ Below w6.heap.size w6 wy) (fun _ i _ _ => n - (intOf i).toNat)
      case atStart => exact ⟨0, Nat.zero_le _, rfl, rfl, Below.refl _ _⟩
      case round =>
        obtain ⟨k2, hk2, rfl, rfl, hby⟩ := hrel
        have hsy := hby.size
        have Bw : Below w.heap.size w wr := B6.trans (hby.mono hb6s)
        have bxr := BX6.out.later hby
        have hxpr := bxr.p
        have hxbr := bxr.b
        have hlp2 := HLPP.out k2
        by_cases hlt9 : k2 < n
        · have hl9 : (k2 : Int) < (n : Int) := by omega
          rcases HPC.out with h0 | ⟨bp, offp, rfl, hpc⟩
          · have := HN.out; rw [h0] at this; simp at this; omega
          obtain ⟨u, hu0, hru0⟩ := hpc k2 (by rw [← HN.out]; exact hlt9)
          have hu : wr.cell? ⟨bp, offp + k2, none⟩ = some u := by rw [Bw.cell (p := ⟨bp, offp + k2, none⟩) (World.block_lt_of_cell? w _ hu0)]; exact hu0
          have hru := hru0.later Bw
          obtain ⟨au, nu, cu, rfl⟩ := rd_slice hru
          obtain ⟨hnu, hleu, hmu, _⟩ := rd_lens hru
          have HNU : Hid (nu = (ps.getD k2 []).length) := hnu
          rw [← hnu] at hlp2
          obtain ⟨u2, hc2, gk, ck, hu2, hck, hckm, ownk⟩ := wide_of_row row6 HW6.out k2 (by have := HKN.out; omega)
          subst hu2
          rw [← hnu] at hc2 hck ownk
          have hc2r : wr.cell? ⟨gp, k2, none⟩ = some (.slice (some ⟨gk, 0, none⟩) nu ck) := by rw [hby.cell (p := ⟨gp, k2, none⟩) (World.block_lt_of_cell? w6 _ hc2)]; exact hc2
          have rk := (ownk.later hby).rd (hru.1.app marks_bys) (by omega)
          have hk1 : (k2 : Int) < (k : Int) + 1 := by have := HKN.out; omega
          have hk1' : k2 < k + 1 := by omega
          have hn5 : (nu : Int) + 5 ≤ (ck : Int) := by omega
          have hn50 : (0 : Int) ≤ (nu : Int) + 5 := by omega
          have HRK : Hid (Rd wr (.slice (some ⟨gk, 0, none⟩) (nu + 5) ck) (ps.getD k2 [] ++ marks)) := rk
          clear hpc hnu ownk rk hc2 hu0 hru0 hxp hlt4 hne4 hcl bxr
          go_wp2_with fail
          go_region
          have AD := (Below.refl wr.heap.size wr).drew
          have hruD := hru.later AD
          have hxprD : wr.drew.cell? ⟨w.heap.size, 5, none⟩ = some (.slice (some ⟨bp, offp, none⟩) n cp) := hxpr
          have huD : wr.drew.cell? ⟨bp, offp + k2, none⟩ = some (.slice au nu cu) := hu
          go_wp2_with fail
          refine (roomy_any hruD (by rw [← HNU.out]; omega)).mono ?_
          rintro e w7 ⟨g7, c7, rfl, hc7, hc7m, own7, hb7⟩
          have r7 := own7.rd (hru.1.app marks_bys) (by rw [← HNU.out]; omega)
          have D7 : Below wr.heap.size wr w7 := AD.trans (hb7.mono (Nat.le_refl _))
          have rk7 := HRK.out.later D7
          have Bz := hby.trans (D7.mono hsy)
          clear own7 hb7 hruD hxprD huD AD
          go_wp2_with fail
          refine (same_w rk7 r7 (by first | rfl | omega) (by first | rfl | omega | (simp; omega)) (by first | rfl | omega)).mono ?_
          rintro e w8 ⟨rfl, rfl⟩
          rw [decide_eq_true rfl]
          go_wp2
          go_roundw
          case rel => exact ⟨k2 + 1, by omega, rfl, by go_num, Bz⟩
          case measure => simp [intOf]; omega
        · have hge9 : (n : Int) ≤ (k2 : Int) := by omega
          have rbr := hb.later Bw
          have HRA : Hid (Rd wr (.slice (some ⟨g0, 0, none⟩) (nb + 5) c0) (bs ++ marks)) := rall6.later hby
          have h6 := last_of_row row6
          rw [HKN.out] at h6
          have hlast := (hby.cell (p := ⟨gp, n, none⟩) (World.block_lt_of_cell? w6 _ h6)).trans h6
          clear h6
          have HO : Hid (Rd wr _ [207]) := o6.later hby
          have hkl : (n : Int) < (k : Int) + 1 := by have := HKN.out; omega
          have hkl' : n < k + 1 := by omega
          clear hxp hlt4 hne4 hcl bxr
          go_wp2_with fail
          refine (roomy_any rbr (by have := HLB.out; omega)).mono ?_
          rintro e w7 ⟨g7, c7, rfl, hc7, hc7m, own7, hb7⟩
          have r7 := own7.rd (hb.1.app marks_bys) (by rw [← HNB.out]; omega)
          have rk7 := HRA.out.later hb7
          have hxp7 := (BX6.out.later (hby.trans (hb7.mono hsy))).p
          have hlast7 := (hb7.cell (p := ⟨gp, n, none⟩) (World.block_lt_of_cell? wr _ hlast)).trans hlast
          have o7 := HO.out.later hb7
          have Bz := Bw.trans (hb7.mono Bw.size)
          clear own7 hb7 hlast
          go_wp2_with fail
          refine (same_w rk7 r7 (by first | rfl | omega) (by first | rfl | omega) (by first | rfl | omega)).mono ?_
          rintro e w8 ⟨rfl, rfl⟩
          rw [decide_eq_true rfl]
          have A9 := (Below.refl w8.heap.size w8).alloc (Nat.le_refl _) (.cells #[.int .u8 207] 5)
          have r9 := rd_new w8 _ rfl [207] [.int .u8 207] rfl bys207 (by simp) 1 rfl
          have o9 := o7.later A9
          go_wp2_with fail
          refine (same_any o9 r9).mono ?_
          rintro e w10 ⟨rfl, rfl⟩
          go_wp2
          go_ret
          exact ⟨rfl, Bz.trans (A9.mono Bz.size)⟩

end Go.Proofs.YtncbiohmogmcpaaDoor
