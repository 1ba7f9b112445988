import Derived.Test.YtchebhafabhabaaGreatDoorK24
import Derived.Test.YtchebhafabhabaaGreatDoorRows
import Derived.ProofKit
import Derived.OpenShut
import Derived.Deep.DeepHandedRow
import Derived.Lib.LaidTab
import Derived.Deep.Slices
namespace Go.Proofs.YtchebhafabhabaaGreatDoor
open Go.RowKit Go.Shelf
set_option linter.unusedVariables false

structure RdT2 (w : World) (a : Option Addr) (ts : List (Int × Int)) : Prop where
  at_ : ts = [] ∨ ∃ b off, a = some ⟨b, off, none⟩ ∧ ∀ (i : Nat) t, ts[i]? = some t → w.cell? ⟨b, off + i * 2, none⟩ = some (.int .i64 t.1) ∧ w.cell? ⟨b, off + i * 2 + 1, none⟩ = some (.int .i64 t.2)
theorem row_cell1 {w : World} {B n c : Nat} {te : TypeId} {a : Option Addr} {vs : List Value} (h : w.ownsRow B te 1 (.slice a n c) n vs) {i : Nat} {u : Value} (hi : vs[i]? = some u) : ∃ g, a = some ⟨g, 0, none⟩ ∧ n ≤ c ∧ w.cell? ⟨g, i, none⟩ = some u := by
  have hl := h.1
  have hlt := (List.getElem?_eq_some_iff.1 hi).1
  rcases h.2 with ⟨h1, h2⟩ | ⟨g, cap, cur, h3, h4, h5, h6, h7, h8, h9⟩
  · rw [h2] at hl; omega
  · simp only [Value.slice.injEq] at h3
    obtain ⟨rfl, -, rfl⟩ := h3
    refine ⟨g, rfl, h6, ?_⟩
    have : cur.toList[i]? = some u := by
      have e : (cur.toList.take (n * 1))[i]? = some u := by rw [h9]; exact hi
      rw [List.getElem?_take_of_lt (by omega)] at e
      exact e
    simp [World.cell?, h5]
    simpa using this
set_option maxRecDepth 100000 in
set_option maxHeartbeats 8000000 in
theorem blockAgain_walk {W : World} {vb : Value} {ak aT : Option Addr} {kn kc nT cT : Nat} {bs0 key : List Nat} {ts : List (Int × Int)} (hb : Rd W vb bs0) (hkey : Rd W (.slice ak kn kc) key) (hT : RdT2 W aT ts) (hnT : nT = ts.length) (ht : Tab W) :
    Calls Tryz.prog 5 #[vb, .slice ak kn kc, .slice aT nT cT] W fun x w' => x = .returned (.bool true) ∧ Below W.heap.size W w' := by
  obtain ⟨ab, nb, cb, rfl⟩ := rd_slice hb
  have HKey := Lib.hid hkey
  have HT := Lib.hid (And.intro hT hnT)
  have HTab := Lib.hid ht
  have HCut := Lib.hid (cut5_any 20000 hb)
  clear hb hkey hT hnT ht
  go_enter Tryz.func5, Tryz.ntmps5
  go_wp2_with fail
  refine HCut.out.mono ?_
  rintro z W0 ⟨a1, n1, c1, rfl, rd1, rfl⟩
  have hn1 : n1 ≤ 20000 := by have := (rd_lens rd1).1; rw [List.length_take] at this; omega
  have HLd := Lib.hid (laid5_any rd1 (by omega))
  obtain ⟨bs1, hbs1⟩ : ∃ bs1, bs1 = bs0.take 20000 := ⟨_, rfl⟩
  rw [← hbs1] at HLd rd1
  have hbl1 : bs1.length = n1 := (rd_lens rd1).1.symm
  have HBy := Lib.hid (And.intro rd1.1 hbl1)
  clear rd1 HCut hbs1 hbl1
  go_wp2_with fail
  refine HLd.out.mono ?_
  rintro z W1 ⟨u, rfl, hLu, b1⟩
  obtain ⟨gb, cb2, rfl, hcb⟩ : ∃ gb cb2, u = .slice (some ⟨gb, 0, none⟩) n1 cb2 ∧ n1 + 75 ≤ cb2 := by
    obtain ⟨g2, c2, k1, k2, k3⟩ := hLu
    rw [HBy.out.2] at k1 k2
    exact ⟨g2, c2, k1, k2⟩
  have HA : Hid (Ag5 W0 W1 gb n1 cb2 bs1 (.slice none 0 0) (.slice none 0 0) 0 0 [] [] (fun _ => False)) := ⟨hLu, HBy.out.2, HBy.out.1, World.ownsRow_nil _ _ _ _, World.ownsRow_nil _ _ _ _, (fun i p v h => by cases h), (fun k h => h.elim), id, (fun k h => by cases h), (fun k h => by cases h), b1⟩
  clear hLu b1 HLd HBy
  go_wp2
  go_loopw [8, 9, 10, 11, 12, 13, 14, 15, 16] (fun vo vw iv _ _ _ _ _ _ wr => ∃ (k no : Nat) (ao : Option Addr) (co : Nat) (aw : Option Addr) (cw : Nat), k ≤ 25 ∧ iv = .int .i64 (k : Int) ∧ vo = .slice ao no co ∧ vw = .slice aw no cw ∧ no ≤ k ∧ Hid (∃ bs ps ws I, Ag5 W0 wr gb n1 cb2 bs (.slice ao no co) (.slice aw no cw) no no ps ws I)) (fun _ _ iv _ _ _ _ _ _ _ => 25 - (intOf iv).toNat)
  case atStart => exact ⟨0, 0, none, 0, none, 0, by omega, rfl, rfl, rfl, Nat.le_refl _, _, _, _, _, HA.out⟩
  case round =>
    clear HA
    obtain ⟨k, no, ao, co, aw, cw, hk, rfl, rfl, rfl, hno, HU⟩ := hrel
    by_cases hgo : k ≤ nT ∧ k ≤ 24
    · have g1 : (k : Int) ≤ (nT : Int) := by omega
      have g2 : (k : Int) ≤ 24 := by omega
      obtain ⟨bs, ps, ws, I, A⟩ := HU.out
      have HAg := Lib.hid A
      have hbuf : Rd wr (.slice (some ⟨gb, 0, none⟩) n1 cb2) bs := A.laid.rd A.bys (by have := A.len; omega)
      have HCp := Lib.hid (copied5_any hbuf (by have := A.len; omega))
      clear A hbuf HU
      go_wp2_with fail
      refine HCp.out.mono ?_
      rintro z X1 ⟨a2, m2, c2, rfl, own2, b2⟩
      have HA1 := Lib.hid (HAg.out.later b2)
      have HW2 : Hid (Rd X1 (.slice a2 m2 c2) bs) := own2.rd HAg.out.bys (by have := own2.1; have := HAg.out.len; omega)
      have HOp := Lib.hid (open_any (HA1.out.laid.rd HA1.out.bys (by have := HA1.out.len; omega)) (HTab.out.later HA1.out.bel))
      clear own2 b2 HCp HAg
      go_wp2_with fail
      refine HOp.out.mono ?_
      rintro z X2 ⟨b3, hop⟩
      have HRo := Lib.hid (refOpen5_any (HW2.out.later b3))
      have HA2 := Lib.hid (HA1.out.later b3)
      have HW3 := Lib.hid (HW2.out.later b3)
      have HB3 := Lib.hid b3
      clear b3 HOp HW2
      by_cases h0 : opE bs = 0
      case neg =>
        rcases hop with ⟨-, rfl⟩ | ⟨h, -⟩
        case inr => exact absurd h h0
        obtain ⟨er, her⟩ : ∃ er, er = opE bs := ⟨_, rfl⟩
        rw [← her]
        go_wp2_with fail
        refine HRo.out.mono ?_
        rintro z X3 ⟨b4, ⟨-, rfl⟩ | ⟨h, -⟩⟩
        case inr => exact absurd h h0
        rw [← her]
        have her0 : ¬ er = 0 := by rw [her]; exact h0
        have her0i : ¬ (er : Int) = 0 := by omega
        have her0b : ((er : Int) != 0) = true := by simp; omega
        have her0c : ((er : Int) == 0) = false := by simp; omega
        have HA3 := Lib.hid (HA2.out.later b4)
        have HIn := Lib.hid (intact5_any HA3.out.laid (HW3.out.later b4) (by have := HA3.out.len; omega))
        clear b4 HRo her h0 HA1 HA2 HW3 HB3
        go_wp2_with fail
        refine HIn.out.mono ?_
        rintro z X4 ⟨rfl, b5⟩
        have HS : Hid (∃ bs ps ws I, Ag5 W0 X4 gb n1 cb2 bs (.slice ao no co) (.slice aw no cw) no no ps ws I) := ⟨bs, ps, ws, I, HA3.out.later b5⟩
        obtain ⟨no', ao', co', aw', cw', hno', e1, e2, e3, e4, e5⟩ : ∃ no' ao' co' aw' cw', no' ≤ k + 1 ∧ no' = no ∧ ao' = ao ∧ co' = co ∧ aw' = aw ∧ cw' = cw := ⟨no, ao, co, aw, cw, by omega, rfl, rfl, rfl, rfl, rfl⟩
        subst e1 e2 e3 e4 e5
        clear b5 HIn HA3 hno
        by_cases hlt : k < nT
        · have hlt2 : (k : Int) < (nT : Int) := by omega
          have k0 : (0 : Int) ≤ (k : Int) := by omega
          have hkts : k < ts.length := by rw [← HT.out.2]; exact hlt
          obtain ⟨t9, ht9⟩ : ∃ t9, ts[k]? = some t9 := ⟨_, List.getElem?_eq_getElem hkts⟩
          obtain ⟨bT, oT, rfl, hcT⟩ : ∃ bT oT, aT = some ⟨bT, oT, none⟩ ∧ ∀ wx, Below W0.heap.size W0 wx → wx.cell? ⟨bT, oT + k * 2, none⟩ = some (.int .i64 t9.1) ∧ wx.cell? ⟨bT, oT + k * 2 + 1, none⟩ = some (.int .i64 t9.2) := by
            rcases HT.out.1.at_ with h | ⟨bT, oT, e, hc⟩
            · rw [h] at ht9; cases ht9
            · exact ⟨bT, oT, e, fun wx bx => ⟨(bx.cell (World.block_lt_of_cell? _ _ (hc k t9 ht9).1)).trans (hc k t9 ht9).1, (bx.cell (World.block_lt_of_cell? _ _ (hc k t9 ht9).2)).trans (hc k t9 ht9).2⟩⟩
          have D0 : Below X4.heap.size X4 X4.drew := (Below.refl _ _).drew
          obtain ⟨bs7, ps7, ws7, I7, A7⟩ := HS.out
          have A7d := A7.later D0
          have KS := Lib.hid (hcT _ A7d.bel)
          have HPu : Hid (Calls Tryz.prog 36 #[.slice (some ⟨gb, 0, none⟩) n1 cb2, .int .i64 t9.1, .int .i64 t9.2] X4.drew fun r w' => r = .returned (.tuple #[]) ∧ Hid (∃ bs ps ws I, Ag5 W0 w' gb n1 cb2 bs (.slice ao' no' co') (.slice aw' no' cw') no' no' ps ws I) ∧ w'.cell? ⟨bT, oT + k * 2, none⟩ = some (.int .i64 t9.1) ∧ w'.cell? ⟨bT, oT + k * 2 + 1, none⟩ = some (.int .i64 t9.2)) := by
            refine (put5_any A7d.laid (by have := A7d.len; omega) A7d.bys).mono ?_
            rintro r w' ⟨rfl, bs', q1, q2, q3, q4⟩
            have A8 := A7d.buf (Fb.of_grown q4 (fun i e => by cases e; rfl)) q3 q1 q2
            exact ⟨rfl, ⟨bs', ps7, ws7, I7, A8⟩, hcT _ A8.bel⟩
          clear A7 A7d ht9 hcT HS hkts
          go_wp2_with fail
          go_region_held3 (fun wx => wx.cell? ⟨bT, oT + k * 2, none⟩ = some (.int .i64 t9.1) ∧ wx.cell? ⟨bT, oT + k * 2 + 1, none⟩ = some (.int .i64 t9.2)) (first | exact KS.out | exact hq9) (first | (go_at_call 36; refine HPu.out.mono ?_; rintro z Y1 ⟨rfl, HS, hq9⟩))
          clear HPu KS hq9 D0
          obtain ⟨q3, hq3⟩ : ∃ q3, q3 = k % 3 := ⟨_, rfl⟩
          have hq3i : (k : Int) % 3 = (q3 : Int) := by omega
          have hq3l : q3 < 3 := by omega
          clear hq3
          by_cases hq1 : q3 = 1
          · subst hq1
            have hq3j : (k : Int) % 3 = 1 := by omega
            clear hq3i
            go_upto_region 19 with fail
            clear hq3j
            obtain ⟨Y9, hY9⟩ : ∃ Y9, Y9 = Y1 := ⟨_, rfl⟩
            rw [← hY9] at HS ⊢
            clear hY9
            go_wp2
            go_loopw [16] (fun kv wz => ∃ j : Nat, j ≤ no' ∧ kv = .int .i64 (j : Int) ∧ Hid (Below Y9.heap.size Y9 wz)) (fun kv _ => no' - (intOf kv).toNat)
            case atStart => exact ⟨0, Nat.zero_le _, rfl, Below.refl _ _⟩
            case round =>
              obtain ⟨j, hj, rfl, HJ⟩ := hrel
              have j0 : (0 : Int) ≤ (j : Int) := by omega
              by_cases hjl : j < no'
              · have hjl2 : (j : Int) < (no' : Int) := by omega
                obtain ⟨bs9, ps9, ws9, I9, A9⟩ := HS.out
                have A9 := A9.later HJ.out
                have lp : ps9.length = no' := by have := A9.ro.1; omega
                have lw : ws9.length = no' := by have := A9.rw_.1; omega
                obtain ⟨p9, hp9⟩ : ∃ p9, ps9[j]? = some p9 := ⟨_, List.getElem?_eq_getElem (by omega)⟩
                obtain ⟨v9, hv9⟩ : ∃ v9, ws9[j]? = some v9 := ⟨_, List.getElem?_eq_getElem (by omega)⟩
                have it9 := A9.its j p9 v9 hp9 hv9
                obtain ⟨go, rfl, hco, hc1⟩ := row_cell1 A9.ro hp9
                obtain ⟨gw, rfl, hcw, hc2⟩ := row_cell1 A9.rw_ hv9
                have hwb : Below W0.heap.size W0 wr := A9.bel
                obtain ⟨g9, r9, b9, ne9, ce9, np9, cp9, E9, P9, a9, cap9, xs9, rfl, rfl, hL9, hk9, hr9, hck9, -⟩ := it9
                obtain ⟨m9, hm9⟩ : ∃ m9, m9 = xs9.length := ⟨_, rfl⟩
                have D0 : Below wr.heap.size wr wr.drew := (Below.refl _ _).drew
                have HTe : Hid (Calls Tryz.prog 38 #[.pointer (some ⟨g9, 0, none⟩), .slice a9 m9 cap9, .slice ak kn kc] wr.drew fun x w' => x = .returned (.bool true) ∧ Below wr.drew.heap.size wr.drew w') := by
                  rw [hm9]
                  exact tells5_any hL9 ⟨hk9.box.later D0, hk9.ents.later D0, hk9.pls.later D0, hk9.bg, hk9.bb, hk9.ne⟩ (hr9.later D0) hck9 ((HKey.out.later hwb).later D0)
                rw [← hm9] at hc2
                have KS : Hid (∀ wx, Below wr.heap.size wr wx → wx.cell? ⟨go, j, none⟩ = some (.pointer (some ⟨g9, 0, none⟩)) ∧ wx.cell? ⟨gw, j, none⟩ = some (.slice a9 m9 cap9)) := fun wx bx => ⟨(bx.cell (World.block_lt_of_cell? _ _ hc1)).trans hc1, (bx.cell (World.block_lt_of_cell? _ _ hc2)).trans hc2⟩
                clear A9 lp lw hp9 hv9 hc1 hc2 hwb hL9 hk9 hr9 hck9 hm9
                go_wp2_with fail
                go_region_held3 (fun wx => wx.cell? ⟨go, j, none⟩ = some (.pointer (some ⟨g9, 0, none⟩)) ∧ wx.cell? ⟨gw, j, none⟩ = some (.slice a9 m9 cap9)) (first | exact KS.out _ D0 | exact KS.out _ D1) (first | (go_at_call 38; refine HTe.out.mono ?_; rintro z wk ⟨rfl, hbk⟩; have D1 := D0.trans (hbk.mono (Nat.le_refl _))))
                have HJ2 := Lib.hid (HJ.out.trans (D1.mono HJ.out.size))
                clear D0 D1 hbk KS HTe
                go_wp2
                go_roundw
                case rel => exact ⟨j + 1, by omega, by go_num, HJ2.out⟩
                case measure => simp [intOf]; omega
              · have hjg : ¬ (j : Int) < (no' : Int) := by omega
                have HS2 : Hid (∃ bs ps ws I, Ag5 W0 wr gb n1 cb2 bs (.slice ao' no' co') (.slice aw' no' cw') no' no' ps ws I) := by
                  obtain ⟨bs9, ps9, ws9, I9, A9⟩ := HS.out
                  exact ⟨bs9, ps9, ws9, I9, A9.later HJ.out⟩
                go_wp2
                go_roundw
                case rel => exact ⟨k + 1, no', ao', co', aw', cw', by omega, by go_num, rfl, rfl, hno', HS2.out⟩
                case measure => simp [intOf]; omega
          · have hq1i : ¬ (q3 : Int) = 1 := by omega
            obtain ⟨bs7, ps7, ws7, I7, A7⟩ := HS.out
            have HSu : Hid (Calls Tryz.prog 37 #[.slice (some ⟨gb, 0, none⟩) n1 cb2] Y1 fun r w' => r = .returned (.tuple #[]) ∧ Hid (∃ bs ps ws I, Ag5 W0 w' gb n1 cb2 bs (.slice ao' no' co') (.slice aw' no' cw') no' no' ps ws I)) := by
              refine (summed5_any A7.laid (by have := A7.len; omega) A7.bys).mono ?_
              rintro r w' ⟨rfl, bs', q1, q2, q3, q4⟩
              exact ⟨rfl, bs', ps7, ws7, I7, A7.buf q4 q3 q1 q2⟩
            clear A7 HS
            go_wp2_with fail
            refine HSu.out.mono ?_
            rintro z Y9 ⟨rfl, HS⟩
            clear HSu hq3i hq1i
            go_wp2
            go_loopw [16] (fun kv wz => ∃ j : Nat, j ≤ no' ∧ kv = .int .i64 (j : Int) ∧ Hid (Below Y9.heap.size Y9 wz)) (fun kv _ => no' - (intOf kv).toNat)
            case atStart => exact ⟨0, Nat.zero_le _, rfl, Below.refl _ _⟩
            case round =>
              obtain ⟨j, hj, rfl, HJ⟩ := hrel
              have j0 : (0 : Int) ≤ (j : Int) := by omega
              by_cases hjl : j < no'
              · have hjl2 : (j : Int) < (no' : Int) := by omega
                obtain ⟨bs9, ps9, ws9, I9, A9⟩ := HS.out
                have A9 := A9.later HJ.out
                have lp : ps9.length = no' := by have := A9.ro.1; omega
                have lw : ws9.length = no' := by have := A9.rw_.1; omega
                obtain ⟨p9, hp9⟩ : ∃ p9, ps9[j]? = some p9 := ⟨_, List.getElem?_eq_getElem (by omega)⟩
                obtain ⟨v9, hv9⟩ : ∃ v9, ws9[j]? = some v9 := ⟨_, List.getElem?_eq_getElem (by omega)⟩
                have it9 := A9.its j p9 v9 hp9 hv9
                obtain ⟨go, rfl, hco, hc1⟩ := row_cell1 A9.ro hp9
                obtain ⟨gw, rfl, hcw, hc2⟩ := row_cell1 A9.rw_ hv9
                have hwb : Below W0.heap.size W0 wr := A9.bel
                obtain ⟨g9, r9, b9, ne9, ce9, np9, cp9, E9, P9, a9, cap9, xs9, rfl, rfl, hL9, hk9, hr9, hck9, -⟩ := it9
                obtain ⟨m9, hm9⟩ : ∃ m9, m9 = xs9.length := ⟨_, rfl⟩
                have D0 : Below wr.heap.size wr wr.drew := (Below.refl _ _).drew
                have HTe : Hid (Calls Tryz.prog 38 #[.pointer (some ⟨g9, 0, none⟩), .slice a9 m9 cap9, .slice ak kn kc] wr.drew fun x w' => x = .returned (.bool true) ∧ Below wr.drew.heap.size wr.drew w') := by
                  rw [hm9]
                  exact tells5_any hL9 ⟨hk9.box.later D0, hk9.ents.later D0, hk9.pls.later D0, hk9.bg, hk9.bb, hk9.ne⟩ (hr9.later D0) hck9 ((HKey.out.later hwb).later D0)
                rw [← hm9] at hc2
                have KS : Hid (∀ wx, Below wr.heap.size wr wx → wx.cell? ⟨go, j, none⟩ = some (.pointer (some ⟨g9, 0, none⟩)) ∧ wx.cell? ⟨gw, j, none⟩ = some (.slice a9 m9 cap9)) := fun wx bx => ⟨(bx.cell (World.block_lt_of_cell? _ _ hc1)).trans hc1, (bx.cell (World.block_lt_of_cell? _ _ hc2)).trans hc2⟩
                clear A9 lp lw hp9 hv9 hc1 hc2 hwb hL9 hk9 hr9 hck9 hm9
                go_wp2_with fail
                go_region_held3 (fun wx => wx.cell? ⟨go, j, none⟩ = some (.pointer (some ⟨g9, 0, none⟩)) ∧ wx.cell? ⟨gw, j, none⟩ = some (.slice a9 m9 cap9)) (first | exact KS.out _ D0 | exact KS.out _ D1) (first | (go_at_call 38; refine HTe.out.mono ?_; rintro z wk ⟨rfl, hbk⟩; have D1 := D0.trans (hbk.mono (Nat.le_refl _))))
                have HJ2 := Lib.hid (HJ.out.trans (D1.mono HJ.out.size))
                clear D0 D1 hbk KS HTe
                go_wp2
                go_roundw
                case rel => exact ⟨j + 1, by omega, by go_num, HJ2.out⟩
                case measure => simp [intOf]; omega
              · have hjg : ¬ (j : Int) < (no' : Int) := by omega
                have HS2 : Hid (∃ bs ps ws I, Ag5 W0 wr gb n1 cb2 bs (.slice ao' no' co') (.slice aw' no' cw') no' no' ps ws I) := by
                  obtain ⟨bs9, ps9, ws9, I9, A9⟩ := HS.out
                  exact ⟨bs9, ps9, ws9, I9, A9.later HJ.out⟩
                go_wp2
                go_roundw
                case rel => exact ⟨k + 1, no', ao', co', aw', cw', by omega, by go_num, rfl, rfl, hno', HS2.out⟩
                case measure => simp [intOf]; omega
        · have hlt2 : ¬ (k : Int) < (nT : Int) := by omega
          go_wp2
          go_loopw [16] (fun kv wz => ∃ j : Nat, j ≤ no' ∧ kv = .int .i64 (j : Int) ∧ Hid (Below X4.heap.size X4 wz)) (fun kv _ => no' - (intOf kv).toNat)
          case atStart => exact ⟨0, Nat.zero_le _, rfl, Below.refl _ _⟩
          case round =>
            obtain ⟨j, hj, rfl, HJ⟩ := hrel
            have j0 : (0 : Int) ≤ (j : Int) := by omega
            by_cases hjl : j < no'
            · have hjl2 : (j : Int) < (no' : Int) := by omega
              obtain ⟨bs9, ps9, ws9, I9, A9⟩ := HS.out
              have A9 := A9.later HJ.out
              have lp : ps9.length = no' := by have := A9.ro.1; omega
              have lw : ws9.length = no' := by have := A9.rw_.1; omega
              obtain ⟨p9, hp9⟩ : ∃ p9, ps9[j]? = some p9 := ⟨_, List.getElem?_eq_getElem (by omega)⟩
              obtain ⟨v9, hv9⟩ : ∃ v9, ws9[j]? = some v9 := ⟨_, List.getElem?_eq_getElem (by omega)⟩
              have it9 := A9.its j p9 v9 hp9 hv9
              obtain ⟨go, rfl, hco, hc1⟩ := row_cell1 A9.ro hp9
              obtain ⟨gw, rfl, hcw, hc2⟩ := row_cell1 A9.rw_ hv9
              have hwb : Below W0.heap.size W0 wr := A9.bel
              obtain ⟨g9, r9, b9, ne9, ce9, np9, cp9, E9, P9, a9, cap9, xs9, rfl, rfl, hL9, hk9, hr9, hck9, -⟩ := it9
              obtain ⟨m9, hm9⟩ : ∃ m9, m9 = xs9.length := ⟨_, rfl⟩
              have D0 : Below wr.heap.size wr wr.drew := (Below.refl _ _).drew
              have HTe : Hid (Calls Tryz.prog 38 #[.pointer (some ⟨g9, 0, none⟩), .slice a9 m9 cap9, .slice ak kn kc] wr.drew fun x w' => x = .returned (.bool true) ∧ Below wr.drew.heap.size wr.drew w') := by
                rw [hm9]
                exact tells5_any hL9 ⟨hk9.box.later D0, hk9.ents.later D0, hk9.pls.later D0, hk9.bg, hk9.bb, hk9.ne⟩ (hr9.later D0) hck9 ((HKey.out.later hwb).later D0)
              rw [← hm9] at hc2
              have KS : Hid (∀ wx, Below wr.heap.size wr wx → wx.cell? ⟨go, j, none⟩ = some (.pointer (some ⟨g9, 0, none⟩)) ∧ wx.cell? ⟨gw, j, none⟩ = some (.slice a9 m9 cap9)) := fun wx bx => ⟨(bx.cell (World.block_lt_of_cell? _ _ hc1)).trans hc1, (bx.cell (World.block_lt_of_cell? _ _ hc2)).trans hc2⟩
              clear A9 lp lw hp9 hv9 hc1 hc2 hwb hL9 hk9 hr9 hck9 hm9
              go_wp2_with fail
              go_region_held3 (fun wx => wx.cell? ⟨go, j, none⟩ = some (.pointer (some ⟨g9, 0, none⟩)) ∧ wx.cell? ⟨gw, j, none⟩ = some (.slice a9 m9 cap9)) (first | exact KS.out _ D0 | exact KS.out _ D1) (first | (go_at_call 38; refine HTe.out.mono ?_; rintro z wk ⟨rfl, hbk⟩; have D1 := D0.trans (hbk.mono (Nat.le_refl _))))
              have HJ2 := Lib.hid (HJ.out.trans (D1.mono HJ.out.size))
              clear D0 D1 hbk KS HTe
              go_wp2
              go_roundw
              case rel => exact ⟨j + 1, by omega, by go_num, HJ2.out⟩
              case measure => simp [intOf]; omega
            · have hjg : ¬ (j : Int) < (no' : Int) := by omega
              have HS2 : Hid (∃ bs ps ws I, Ag5 W0 wr gb n1 cb2 bs (.slice ao' no' co') (.slice aw' no' cw') no' no' ps ws I) := by
                obtain ⟨bs9, ps9, ws9, I9, A9⟩ := HS.out
                exact ⟨bs9, ps9, ws9, I9, A9.later HJ.out⟩
              go_wp2
              go_roundw
              case rel => exact ⟨k + 1, no', ao', co', aw', cw', by omega, by go_num, rfl, rfl, hno', HS2.out⟩
              case measure => simp [intOf]; omega
      rcases hop with ⟨h, -⟩ | ⟨-, g, b, ne, ce, np, cp, rfl, hk5⟩
      case inl => exact absurd h0 h
      go_wp2_with fail
      refine HRo.out.mono ?_
      rintro z X3 ⟨b4, ⟨h, -⟩ | ⟨-, a3, cap3, xs, rfl, hwl, hbl, hxn⟩⟩
      case inl => exact absurd h0 h
      have hcnt : (kvL xs).length = cntOf bs := by rw [kvL_len]; exact hxn
      have hit := opI_of HB3.out b4 hk5 (Below.refl _ _) hwl hbl hcnt
      obtain ⟨m3, hm3⟩ : ∃ m3, m3 = xs.length := ⟨_, rfl⟩
      rw [← hm3] at hit ⊢
      have b24 := HB3.out.trans (b4.mono HB3.out.size)
      have HA3 := Lib.hid (HA1.out.more b24)
      have HIt := Lib.hid (hit.mono (I' := fun k => I k ∨ (X1.heap.size ≤ k ∧ k < X3.heap.size)) (fun i hi => .inr hi))
      have HIn := Lib.hid (intact5_any HA3.out.laid (HW3.out.later b4) (by have := HA3.out.len; omega))
      clear hk5 hwl hbl hcnt hxn hit hm3 b4 b24 HRo HA1 HA2 HW3 HB3
      go_wp2_with fail
      refine HIn.out.mono ?_
      rintro z X4 ⟨rfl, b5⟩
      have HA4 := Lib.hid (HA3.out.later b5)
      have HIt4 := Lib.hid (HIt.out.later b5)
      have bA := (Below.refl X4.heap.size X4).alloc (Nat.le_refl _) (.cells #[.pointer (some ⟨g, 0, none⟩)] 58)
      have hcA : (X4.alloc (.cells #[.pointer (some ⟨g, 0, none⟩)] 58)).cell? ⟨X4.heap.size, 0, none⟩ = some (.pointer (some ⟨g, 0, none⟩)) := Cell1B.cell (t := 58) (heap_alloc_new X4 _)
      have HA5 := Lib.hid (HA4.out.later bA)
      have HIt5 := Lib.hid (HIt4.out.later bA)
      have HcA := Lib.hid hcA
      clear b5 HIn HA3 HIt HA4 HIt4 bA hcA
      go_upto_region 14 with (at_builtin; refine wpl_append1 rfl _ _ 58 74 8 (.pointer none) und_ptrs info_ptrs rfl (by omega) rfl W0.heap.size ao no co ps rfl HA5.out.ro _ _ rfl HcA.out rfl (by omega) HA5.out.bel.size ?_; intro a6 c6 X6 r6 g6 l6)
      have HA6 := Lib.hid (HA5.out.pushO (Nat.le_refl _) g6 r6 l6)
      have HIt6 := Lib.hid (HIt5.out.fb (Fb.of_grown (O := fun k => (Value.slice ao no co).ownBlock = some k) g6 (fun i e => e)) (fun k hk e => (HA5.out.no_ k e).1 hk))
      have bB := (Below.refl X6.heap.size X6).alloc (Nat.le_refl _) (.cells #[.slice a3 m3 cap3] 22)
      have hcB : (X6.alloc (.cells #[.slice a3 m3 cap3] 22)).cell? ⟨X6.heap.size, 0, none⟩ = some (.slice a3 m3 cap3) := Cell1B.cell (t := 22) (heap_alloc_new X6 _)
      have HA7 := Lib.hid (HA6.out.later bB)
      have HIt7 := Lib.hid (HIt6.out.later bB)
      have HcB := Lib.hid hcB
      clear r6 g6 l6 HA5 HIt5 HcA HA6 HIt6 bB hcB
      go_upto_region 15 with (at_builtin; refine wpl_append1 rfl _ _ 22 75 24 (.slice none 0 0) und_lists info_lists rfl (by omega) rfl W0.heap.size aw no cw ws rfl HA7.out.rw_ _ _ rfl HcB.out rfl (by omega) HA7.out.bel.size ?_; intro a8 c8 X8 r8 g8 l8)
      have HS : Hid (∃ bs ps ws I, Ag5 W0 X8 gb n1 cb2 bs (.slice a6 (no + 1) c6) (.slice a8 (no + 1) c8) (no + 1) (no + 1) ps ws I) := ⟨_, _, _, _, HA7.out.pushW HIt7.out g8 r8 l8⟩
      obtain ⟨no', ao', co', aw', cw', hno', e1, e2, e3, e4, e5⟩ : ∃ no' ao' co' aw' cw', no' ≤ k + 1 ∧ no + 1 = no' ∧ ao' = a6 ∧ co' = c6 ∧ aw' = a8 ∧ cw' = c8 := ⟨no + 1, a6, c6, a8, c8, by omega, rfl, rfl, rfl, rfl, rfl⟩
      rw [e1] at HS ⊢
      subst e2 e3 e4 e5
      clear r8 g8 l8 HA7 HIt7 HcB e1 hno
      by_cases hlt : k < nT
      · have hlt2 : (k : Int) < (nT : Int) := by omega
        have k0 : (0 : Int) ≤ (k : Int) := by omega
        have hkts : k < ts.length := by rw [← HT.out.2]; exact hlt
        obtain ⟨t9, ht9⟩ : ∃ t9, ts[k]? = some t9 := ⟨_, List.getElem?_eq_getElem hkts⟩
        obtain ⟨bT, oT, rfl, hcT⟩ : ∃ bT oT, aT = some ⟨bT, oT, none⟩ ∧ ∀ wx, Below W0.heap.size W0 wx → wx.cell? ⟨bT, oT + k * 2, none⟩ = some (.int .i64 t9.1) ∧ wx.cell? ⟨bT, oT + k * 2 + 1, none⟩ = some (.int .i64 t9.2) := by
          rcases HT.out.1.at_ with h | ⟨bT, oT, e, hc⟩
          · rw [h] at ht9; cases ht9
          · exact ⟨bT, oT, e, fun wx bx => ⟨(bx.cell (World.block_lt_of_cell? _ _ (hc k t9 ht9).1)).trans (hc k t9 ht9).1, (bx.cell (World.block_lt_of_cell? _ _ (hc k t9 ht9).2)).trans (hc k t9 ht9).2⟩⟩
        have D0 : Below X8.heap.size X8 X8.drew := (Below.refl _ _).drew
        obtain ⟨bs7, ps7, ws7, I7, A7⟩ := HS.out
        have A7d := A7.later D0
        have KS := Lib.hid (hcT _ A7d.bel)
        have HPu : Hid (Calls Tryz.prog 36 #[.slice (some ⟨gb, 0, none⟩) n1 cb2, .int .i64 t9.1, .int .i64 t9.2] X8.drew fun r w' => r = .returned (.tuple #[]) ∧ Hid (∃ bs ps ws I, Ag5 W0 w' gb n1 cb2 bs (.slice ao' no' co') (.slice aw' no' cw') no' no' ps ws I) ∧ w'.cell? ⟨bT, oT + k * 2, none⟩ = some (.int .i64 t9.1) ∧ w'.cell? ⟨bT, oT + k * 2 + 1, none⟩ = some (.int .i64 t9.2)) := by
          refine (put5_any A7d.laid (by have := A7d.len; omega) A7d.bys).mono ?_
          rintro r w' ⟨rfl, bs', q1, q2, q3, q4⟩
          have A8 := A7d.buf (Fb.of_grown q4 (fun i e => by cases e; rfl)) q3 q1 q2
          exact ⟨rfl, ⟨bs', ps7, ws7, I7, A8⟩, hcT _ A8.bel⟩
        clear A7 A7d ht9 hcT HS hkts
        go_wp2_with fail
        go_region_held3 (fun wx => wx.cell? ⟨bT, oT + k * 2, none⟩ = some (.int .i64 t9.1) ∧ wx.cell? ⟨bT, oT + k * 2 + 1, none⟩ = some (.int .i64 t9.2)) (first | exact KS.out | exact hq9) (first | (go_at_call 36; refine HPu.out.mono ?_; rintro z Y1 ⟨rfl, HS, hq9⟩))
        clear HPu KS hq9 D0
        obtain ⟨q3, hq3⟩ : ∃ q3, q3 = k % 3 := ⟨_, rfl⟩
        have hq3i : (k : Int) % 3 = (q3 : Int) := by omega
        have hq3l : q3 < 3 := by omega
        clear hq3
        by_cases hq1 : q3 = 1
        · subst hq1
          have hq3j : (k : Int) % 3 = 1 := by omega
          clear hq3i
          go_upto_region 19 with fail
          clear hq3j
          obtain ⟨Y9, hY9⟩ : ∃ Y9, Y9 = Y1 := ⟨_, rfl⟩
          rw [← hY9] at HS ⊢
          clear hY9
          go_wp2
          go_loopw [16] (fun kv wz => ∃ j : Nat, j ≤ no' ∧ kv = .int .i64 (j : Int) ∧ Hid (Below Y9.heap.size Y9 wz)) (fun kv _ => no' - (intOf kv).toNat)
          case atStart => exact ⟨0, Nat.zero_le _, rfl, Below.refl _ _⟩
          case round =>
            obtain ⟨j, hj, rfl, HJ⟩ := hrel
            have j0 : (0 : Int) ≤ (j : Int) := by omega
            by_cases hjl : j < no'
            · have hjl2 : (j : Int) < (no' : Int) := by omega
              obtain ⟨bs9, ps9, ws9, I9, A9⟩ := HS.out
              have A9 := A9.later HJ.out
              have lp : ps9.length = no' := by have := A9.ro.1; omega
              have lw : ws9.length = no' := by have := A9.rw_.1; omega
              obtain ⟨p9, hp9⟩ : ∃ p9, ps9[j]? = some p9 := ⟨_, List.getElem?_eq_getElem (by omega)⟩
              obtain ⟨v9, hv9⟩ : ∃ v9, ws9[j]? = some v9 := ⟨_, List.getElem?_eq_getElem (by omega)⟩
              have it9 := A9.its j p9 v9 hp9 hv9
              obtain ⟨go, rfl, hco, hc1⟩ := row_cell1 A9.ro hp9
              obtain ⟨gw, rfl, hcw, hc2⟩ := row_cell1 A9.rw_ hv9
              have hwb : Below W0.heap.size W0 wr := A9.bel
              obtain ⟨g9, r9, b9, ne9, ce9, np9, cp9, E9, P9, a9, cap9, xs9, rfl, rfl, hL9, hk9, hr9, hck9, -⟩ := it9
              obtain ⟨m9, hm9⟩ : ∃ m9, m9 = xs9.length := ⟨_, rfl⟩
              have D0 : Below wr.heap.size wr wr.drew := (Below.refl _ _).drew
              have HTe : Hid (Calls Tryz.prog 38 #[.pointer (some ⟨g9, 0, none⟩), .slice a9 m9 cap9, .slice ak kn kc] wr.drew fun x w' => x = .returned (.bool true) ∧ Below wr.drew.heap.size wr.drew w') := by
                rw [hm9]
                exact tells5_any hL9 ⟨hk9.box.later D0, hk9.ents.later D0, hk9.pls.later D0, hk9.bg, hk9.bb, hk9.ne⟩ (hr9.later D0) hck9 ((HKey.out.later hwb).later D0)
              rw [← hm9] at hc2
              have KS : Hid (∀ wx, Below wr.heap.size wr wx → wx.cell? ⟨go, j, none⟩ = some (.pointer (some ⟨g9, 0, none⟩)) ∧ wx.cell? ⟨gw, j, none⟩ = some (.slice a9 m9 cap9)) := fun wx bx => ⟨(bx.cell (World.block_lt_of_cell? _ _ hc1)).trans hc1, (bx.cell (World.block_lt_of_cell? _ _ hc2)).trans hc2⟩
              clear A9 lp lw hp9 hv9 hc1 hc2 hwb hL9 hk9 hr9 hck9 hm9
              go_wp2_with fail
              go_region_held3 (fun wx => wx.cell? ⟨go, j, none⟩ = some (.pointer (some ⟨g9, 0, none⟩)) ∧ wx.cell? ⟨gw, j, none⟩ = some (.slice a9 m9 cap9)) (first | exact KS.out _ D0 | exact KS.out _ D1) (first | (go_at_call 38; refine HTe.out.mono ?_; rintro z wk ⟨rfl, hbk⟩; have D1 := D0.trans (hbk.mono (Nat.le_refl _))))
              have HJ2 := Lib.hid (HJ.out.trans (D1.mono HJ.out.size))
              clear D0 D1 hbk KS HTe
              go_wp2
              go_roundw
              case rel => exact ⟨j + 1, by omega, by go_num, HJ2.out⟩
              case measure => simp [intOf]; omega
            · have hjg : ¬ (j : Int) < (no' : Int) := by omega
              have HS2 : Hid (∃ bs ps ws I, Ag5 W0 wr gb n1 cb2 bs (.slice ao' no' co') (.slice aw' no' cw') no' no' ps ws I) := by
                obtain ⟨bs9, ps9, ws9, I9, A9⟩ := HS.out
                exact ⟨bs9, ps9, ws9, I9, A9.later HJ.out⟩
              go_wp2
              go_roundw
              case rel => exact ⟨k + 1, no', ao', co', aw', cw', by omega, by go_num, rfl, rfl, hno', HS2.out⟩
              case measure => simp [intOf]; omega
        · have hq1i : ¬ (q3 : Int) = 1 := by omega
          obtain ⟨bs7, ps7, ws7, I7, A7⟩ := HS.out
          have HSu : Hid (Calls Tryz.prog 37 #[.slice (some ⟨gb, 0, none⟩) n1 cb2] Y1 fun r w' => r = .returned (.tuple #[]) ∧ Hid (∃ bs ps ws I, Ag5 W0 w' gb n1 cb2 bs (.slice ao' no' co') (.slice aw' no' cw') no' no' ps ws I)) := by
            refine (summed5_any A7.laid (by have := A7.len; omega) A7.bys).mono ?_
            rintro r w' ⟨rfl, bs', q1, q2, q3, q4⟩
            exact ⟨rfl, bs', ps7, ws7, I7, A7.buf q4 q3 q1 q2⟩
          clear A7 HS
          go_wp2_with fail
          refine HSu.out.mono ?_
          rintro z Y9 ⟨rfl, HS⟩
          clear HSu hq3i hq1i
          go_wp2
          go_loopw [16] (fun kv wz => ∃ j : Nat, j ≤ no' ∧ kv = .int .i64 (j : Int) ∧ Hid (Below Y9.heap.size Y9 wz)) (fun kv _ => no' - (intOf kv).toNat)
          case atStart => exact ⟨0, Nat.zero_le _, rfl, Below.refl _ _⟩
          case round =>
            obtain ⟨j, hj, rfl, HJ⟩ := hrel
            have j0 : (0 : Int) ≤ (j : Int) := by omega
            by_cases hjl : j < no'
            · have hjl2 : (j : Int) < (no' : Int) := by omega
              obtain ⟨bs9, ps9, ws9, I9, A9⟩ := HS.out
              have A9 := A9.later HJ.out
              have lp : ps9.length = no' := by have := A9.ro.1; omega
              have lw : ws9.length = no' := by have := A9.rw_.1; omega
              obtain ⟨p9, hp9⟩ : ∃ p9, ps9[j]? = some p9 := ⟨_, List.getElem?_eq_getElem (by omega)⟩
              obtain ⟨v9, hv9⟩ : ∃ v9, ws9[j]? = some v9 := ⟨_, List.getElem?_eq_getElem (by omega)⟩
              have it9 := A9.its j p9 v9 hp9 hv9
              obtain ⟨go, rfl, hco, hc1⟩ := row_cell1 A9.ro hp9
              obtain ⟨gw, rfl, hcw, hc2⟩ := row_cell1 A9.rw_ hv9
              have hwb : Below W0.heap.size W0 wr := A9.bel
              obtain ⟨g9, r9, b9, ne9, ce9, np9, cp9, E9, P9, a9, cap9, xs9, rfl, rfl, hL9, hk9, hr9, hck9, -⟩ := it9
              obtain ⟨m9, hm9⟩ : ∃ m9, m9 = xs9.length := ⟨_, rfl⟩
              have D0 : Below wr.heap.size wr wr.drew := (Below.refl _ _).drew
              have HTe : Hid (Calls Tryz.prog 38 #[.pointer (some ⟨g9, 0, none⟩), .slice a9 m9 cap9, .slice ak kn kc] wr.drew fun x w' => x = .returned (.bool true) ∧ Below wr.drew.heap.size wr.drew w') := by
                rw [hm9]
                exact tells5_any hL9 ⟨hk9.box.later D0, hk9.ents.later D0, hk9.pls.later D0, hk9.bg, hk9.bb, hk9.ne⟩ (hr9.later D0) hck9 ((HKey.out.later hwb).later D0)
              rw [← hm9] at hc2
              have KS : Hid (∀ wx, Below wr.heap.size wr wx → wx.cell? ⟨go, j, none⟩ = some (.pointer (some ⟨g9, 0, none⟩)) ∧ wx.cell? ⟨gw, j, none⟩ = some (.slice a9 m9 cap9)) := fun wx bx => ⟨(bx.cell (World.block_lt_of_cell? _ _ hc1)).trans hc1, (bx.cell (World.block_lt_of_cell? _ _ hc2)).trans hc2⟩
              clear A9 lp lw hp9 hv9 hc1 hc2 hwb hL9 hk9 hr9 hck9 hm9
              go_wp2_with fail
              go_region_held3 (fun wx => wx.cell? ⟨go, j, none⟩ = some (.pointer (some ⟨g9, 0, none⟩)) ∧ wx.cell? ⟨gw, j, none⟩ = some (.slice a9 m9 cap9)) (first | exact KS.out _ D0 | exact KS.out _ D1) (first | (go_at_call 38; refine HTe.out.mono ?_; rintro z wk ⟨rfl, hbk⟩; have D1 := D0.trans (hbk.mono (Nat.le_refl _))))
              have HJ2 := Lib.hid (HJ.out.trans (D1.mono HJ.out.size))
              clear D0 D1 hbk KS HTe
              go_wp2
              go_roundw
              case rel => exact ⟨j + 1, by omega, by go_num, HJ2.out⟩
              case measure => simp [intOf]; omega
            · have hjg : ¬ (j : Int) < (no' : Int) := by omega
              have HS2 : Hid (∃ bs ps ws I, Ag5 W0 wr gb n1 cb2 bs (.slice ao' no' co') (.slice aw' no' cw') no' no' ps ws I) := by
                obtain ⟨bs9, ps9, ws9, I9, A9⟩ := HS.out
                exact ⟨bs9, ps9, ws9, I9, A9.later HJ.out⟩
              go_wp2
              go_roundw
              case rel => exact ⟨k + 1, no', ao', co', aw', cw', by omega, by go_num, rfl, rfl, hno', HS2.out⟩
              case measure => simp [intOf]; omega
      · have hlt2 : ¬ (k : Int) < (nT : Int) := by omega
        go_wp2
        go_loopw [16] (fun kv wz => ∃ j : Nat, j ≤ no' ∧ kv = .int .i64 (j : Int) ∧ Hid (Below X8.heap.size X8 wz)) (fun kv _ => no' - (intOf kv).toNat)
        case atStart => exact ⟨0, Nat.zero_le _, rfl, Below.refl _ _⟩
        case round =>
          obtain ⟨j, hj, rfl, HJ⟩ := hrel
          have j0 : (0 : Int) ≤ (j : Int) := by omega
          by_cases hjl : j < no'
          · have hjl2 : (j : Int) < (no' : Int) := by omega
            obtain ⟨bs9, ps9, ws9, I9, A9⟩ := HS.out
            have A9 := A9.later HJ.out
            have lp : ps9.length = no' := by have := A9.ro.1; omega
            have lw : ws9.length = no' := by have := A9.rw_.1; omega
            obtain ⟨p9, hp9⟩ : ∃ p9, ps9[j]? = some p9 := ⟨_, List.getElem?_eq_getElem (by omega)⟩
            obtain ⟨v9, hv9⟩ : ∃ v9, ws9[j]? = some v9 := ⟨_, List.getElem?_eq_getElem (by omega)⟩
            have it9 := A9.its j p9 v9 hp9 hv9
            obtain ⟨go, rfl, hco, hc1⟩ := row_cell1 A9.ro hp9
            obtain ⟨gw, rfl, hcw, hc2⟩ := row_cell1 A9.rw_ hv9
            have hwb : Below W0.heap.size W0 wr := A9.bel
            obtain ⟨g9, r9, b9, ne9, ce9, np9, cp9, E9, P9, a9, cap9, xs9, rfl, rfl, hL9, hk9, hr9, hck9, -⟩ := it9
            obtain ⟨m9, hm9⟩ : ∃ m9, m9 = xs9.length := ⟨_, rfl⟩
            have D0 : Below wr.heap.size wr wr.drew := (Below.refl _ _).drew
            have HTe : Hid (Calls Tryz.prog 38 #[.pointer (some ⟨g9, 0, none⟩), .slice a9 m9 cap9, .slice ak kn kc] wr.drew fun x w' => x = .returned (.bool true) ∧ Below wr.drew.heap.size wr.drew w') := by
              rw [hm9]
              exact tells5_any hL9 ⟨hk9.box.later D0, hk9.ents.later D0, hk9.pls.later D0, hk9.bg, hk9.bb, hk9.ne⟩ (hr9.later D0) hck9 ((HKey.out.later hwb).later D0)
            rw [← hm9] at hc2
            have KS : Hid (∀ wx, Below wr.heap.size wr wx → wx.cell? ⟨go, j, none⟩ = some (.pointer (some ⟨g9, 0, none⟩)) ∧ wx.cell? ⟨gw, j, none⟩ = some (.slice a9 m9 cap9)) := fun wx bx => ⟨(bx.cell (World.block_lt_of_cell? _ _ hc1)).trans hc1, (bx.cell (World.block_lt_of_cell? _ _ hc2)).trans hc2⟩
            clear A9 lp lw hp9 hv9 hc1 hc2 hwb hL9 hk9 hr9 hck9 hm9
            go_wp2_with fail
            go_region_held3 (fun wx => wx.cell? ⟨go, j, none⟩ = some (.pointer (some ⟨g9, 0, none⟩)) ∧ wx.cell? ⟨gw, j, none⟩ = some (.slice a9 m9 cap9)) (first | exact KS.out _ D0 | exact KS.out _ D1) (first | (go_at_call 38; refine HTe.out.mono ?_; rintro z wk ⟨rfl, hbk⟩; have D1 := D0.trans (hbk.mono (Nat.le_refl _))))
            have HJ2 := Lib.hid (HJ.out.trans (D1.mono HJ.out.size))
            clear D0 D1 hbk KS HTe
            go_wp2
            go_roundw
            case rel => exact ⟨j + 1, by omega, by go_num, HJ2.out⟩
            case measure => simp [intOf]; omega
          · have hjg : ¬ (j : Int) < (no' : Int) := by omega
            have HS2 : Hid (∃ bs ps ws I, Ag5 W0 wr gb n1 cb2 bs (.slice ao' no' co') (.slice aw' no' cw') no' no' ps ws I) := by
              obtain ⟨bs9, ps9, ws9, I9, A9⟩ := HS.out
              exact ⟨bs9, ps9, ws9, I9, A9.later HJ.out⟩
            go_wp2
            go_roundw
            case rel => exact ⟨k + 1, no', ao', co', aw', cw', by omega, by go_num, rfl, rfl, hno', HS2.out⟩
            case measure => simp [intOf]; omega
    · have hgo2 : ¬ ((k : Int) ≤ (nT : Int) ∧ (k : Int) ≤ 24) := by omega
      obtain ⟨bs, ps, ws, I, A⟩ := HU.out
      have HTo := Lib.hid (told5_any wr (HTab.out.later A.bel))
      have HB9 := Lib.hid A.bel
      clear A HU
      by_cases hg1 : k ≤ nT
      · have g1 : (k : Int) ≤ (nT : Int) := by omega
        have g2 : ¬ (k : Int) ≤ 24 := by omega
        go_wp2_with fail
        refine HTo.out.mono ?_
        rintro z Z1 ⟨rfl, bz⟩
        have HEnd := Lib.hid (HB9.out.trans (bz.mono HB9.out.size))
        clear bz HTo
        go_wp2
        go_ret
        exact ⟨rfl, HEnd.out⟩
      · have g1 : ¬ (k : Int) ≤ (nT : Int) := by omega
        go_wp2_with fail
        refine HTo.out.mono ?_
        rintro z Z1 ⟨rfl, bz⟩
        have HEnd := Lib.hid (HB9.out.trans (bz.mono HB9.out.size))
        clear bz HTo
        go_wp2
        go_ret
        exact ⟨rfl, HEnd.out⟩
end Go.Proofs.YtchebhafabhabaaGreatDoor


namespace Go.Proofs.YtchebhafabhabaaGreatDoor
open Go.ChangeShapes Go.WideShapes Go.ChangeAt Go.RowKit
set_option linter.unusedVariables false

theorem own_knob : ownKnob Tryz.prog.godebug = none := by kernel_rfl
theorem laid_out : laidOutB Tryz.prog = true := by kernel_rfl
theorem g_tab : Tryz.prog.globalNamed "strata/wire.halves" = some 0 := by kernel_rfl
theorem g_tab_type : (Tryz.prog.globals[0]?).map (·.type) = some 128 := by kernel_rfl
theorem und_tab : Tryz.prog.underlying 128 = some (.array 16 98) := by kernel_rfl
theorem und_u32 : Tryz.prog.underlying 98 = some (.int .u32) := by kernel_rfl
theorem und_int : Tryz.prog.underlying 3 = some (.int .i64) := by kernel_rfl
theorem und_bool : Tryz.prog.underlying 4 = some .bool := by kernel_rfl
theorem cells_tab : Tryz.prog.cellsOf 128 = 16 := by kernel_rfl
theorem cells_u32 : Tryz.prog.cellsOf 98 = 1 := by kernel_rfl
theorem cells_byte : Tryz.prog.cellsOf 5 = 1 := by kernel_rfl
theorem tab_of {W : World} (h : laidMetH Tryz.prog Rows.blockBuildsRow.laid W) : Tab W := by
  have t : Lib.TabIs Tryz.prog W "strata/wire.halves" .u32 [0, 274646895, 549293790, 820201905, 1098587580, 1361435347, 1640403810, 1905808397, 2197175160, 2460548119, 2722870694, 2987750089, 3280807620, 3553878443, 3811616794, 4084100981] :=
    Lib.tabIs_of_head (rest := []) g_tab g_tab_type und_tab und_u32 cells_u32 cells_tab h
  intro i hi
  have := t.cell g_tab i (by simpa using hi)
  rw [this]
  have key : ∀ j, j < 16 → ([0, 274646895, 549293790, 820201905, 1098587580, 1361435347, 1640403810, 1905808397, 2197175160, 2460548119, 2722870694, 2987750089, 3280807620, 3553878443, 3811616794, 4084100981] : List Int).getD j 0 = ((tab.getD j 0 : Nat) : Int) := by decide
  rw [key i hi]

theorem bulk_pos {H : Type} (d : DataW H) : 1 ≤ Rows.uptoBulk d := by
  cases d with
  | lit l => cases l <;> simp [Rows.uptoBulk]
  | nil => simp [Rows.uptoBulk]
  | ptr d => simp [Rows.uptoBulk]
  | slice elems spare => simp [Rows.uptoBulk]
  | agg parts => simp [Rows.uptoBulk]
  | iface t d => simp [Rows.uptoBulk]
  | map entries => simp [Rows.uptoBulk]
  | held h => simp [Rows.uptoBulk]
theorem bulk_len {H : Type} (l : List (DataW H)) : l.length ≤ Rows.uptoBulkAll l := by
  induction l with
  | nil => simp [Rows.uptoBulkAll]
  | cons x r ih => have := bulk_pos x; simp only [Rows.uptoBulkAll, List.length_cons]; omega

theorem open_bytes {H : Type} {enc : TypeId × Value → H} {W : World} {v : Value} {d : DataW H} {p : List MemPlace} {base : Nat} {held : Bool} (h : DataW.Trod enc Tryz.prog W base (fun _ => true) held 36 v d p) (hs : ∃ a n c, v = .slice a n c) :
    ∃ bs : List Nat, (bs.length ≤ 281474976710656 → Rd W v bs) ∧ bs.length + 1 ≤ Rows.uptoBulk d ∧ (bs = [] ∨ ∃ elems spare, d = .slice elems spare ∧ elems.length = bs.length) := by
  obtain ⟨a, n, c, rfl⟩ := hs
  obtain ⟨fuel, hf⟩ := h
  rcases open_ints und_bytes und_byte cells_byte hf with ⟨hcs, hx⟩ | ⟨x, l, c', zs, hcs, _, hl, hm, hz, hx, hcell, hwz⟩
  · simp [Value.cells] at hcs
    obtain ⟨rfl, rfl, rfl⟩ := hcs
    refine ⟨[], fun _ => Rd.nil W, ?_, .inl rfl⟩
    have := bulk_pos d
    simpa using this
  · simp [Value.cells] at hcs
    obtain ⟨rfl, rfl, rfl⟩ := hcs
    simp only [if_true] at hz
    simp only [Prod.mk.injEq] at hx
    obtain ⟨rfl, _⟩ := hx
    have hby : ∀ i, i < zs.length → 0 ≤ zs.getD i 0 ∧ zs.getD i 0 < 256 := by
      intro i hi
      have hmem : zs.getD i 0 ∈ zs := by simp [List.getD, List.getElem?_eq_getElem hi]
      have := bounds_u8 (hwz _ hmem)
      omega
    refine ⟨(zs.take n).map Int.toNat, fun hlen => ⟨?_, some x, c, ?_, ?_, hm, hlen, ?_, ?_⟩, ?_, .inr ⟨_, _, rfl, by simp [lits]⟩⟩
    · intro y hy
      simp only [List.mem_map] at hy
      obtain ⟨z, hz1, rfl⟩ := hy
      have := bounds_u8 (hwz z (List.mem_of_mem_take hz1))
      omega
    · simp; omega
    · simp; omega
    · by_cases hc0 : c = 0
      · exact .inl hc0
      · right
        obtain ⟨b, off, spot⟩ := x
        have hc := hcell 0 (by omega)
        have hspot : spot = none := by simpa [Addr.add] using World.cell?_spot hc
        subst hspot
        exact ⟨b, off, rfl⟩
    · by_cases hn0 : n = 0
      · left; simp [hn0]
      · right
        obtain ⟨b, off, spot⟩ := x
        have hc := hcell 0 (by omega)
        have hspot : spot = none := by simpa [Addr.add] using World.cell?_spot hc
        subst hspot
        refine ⟨b, off, rfl, fun i hi => ?_⟩
        have hin : i < n := by simp at hi; omega
        have hc := hcell i (by omega)
        have e : (⟨b, off, none⟩ : Addr).add i = ⟨b, off + i, none⟩ := by unfold Addr.add; split <;> simp_all
        rw [e] at hc
        rw [hc]
        have hb := hby i (by omega)
        have e2 : ((zs.take n).map Int.toNat).getD i 0 = (zs.getD i 0).toNat := by
          simp [List.getElem?_take_of_lt hin, List.getElem?_eq_getElem (show i < zs.length by omega)]
        rw [e2, Int.toNat_of_nonneg hb.1]
    · have h1 := bulk_len (H := H) (lits .u8 (zs.take n))
      simp only [Rows.uptoBulk]
      simp [lits] at h1 ⊢
      omega

theorem reach_bytes {H : Type} {ts : List TypeId} {ds gs : List (DataW H)} (h : (DataW.weightsEach Tryz.prog ts (ds ++ gs)).all (fun x => decide (x ≤ reachBytes)) = true) (j : Nat) (ht : ts[j]? = some 36) {d : DataW H} (hd : ds[j]? = some d) {bs : List Nat} (hx : bs = [] ∨ ∃ elems spare, d = .slice elems spare ∧ elems.length = bs.length) : bs.length ≤ 140737488351232 := by
  rcases hx with rfl | ⟨elems, spare, rfl, hl⟩
  · simp
  · have hd2 : (ds ++ gs)[j]? = some (.slice elems spare) := by
      rw [List.getElem?_append_left (List.getElem?_eq_some_iff.1 hd).1]
      exact hd
    have := sized_slice h ht hd2 und_bytes
    rw [show Tryz.prog.bytesOf 5 = 1 by kernel_rfl] at this
    unfold reachBytes at this
    omega

end Go.Proofs.YtchebhafabhabaaGreatDoor

namespace Go.Proofs.YtchebhafabhabaaGreatDoor
open Go.ChangeShapes Go.WideShapes Go.ChangeAt Go.RowKit
set_option linter.unusedVariables false

theorem und_pair5 : Tryz.prog.underlying 77 = some (.array 2 3) := by kernel_rfl
theorem und_pairs5 : Tryz.prog.underlying 73 = some (.slice 77) := by kernel_rfl
theorem cells_pair5 : Tryz.prog.cellsOf 77 = 2 := by kernel_rfl
theorem cells_int5 : Tryz.prog.cellsOf 3 = 1 := by kernel_rfl
set_option maxRecDepth 100000 in
theorem open_pair5 {H : Type} {enc : TypeId × Value → H} {W : World} {base fuel : Nat} {held : Bool} {cs : List Value} {x : DataW H × List MemPlace} (h : DataW.trod enc Tryz.prog W base (fun _ => true) held fuel 77 cs = some x) :
    ∃ t : Int × Int, cs = [.int .i64 t.1, .int .i64 t.2] := by
  obtain ⟨xs, n, _, _, hcl, hxl, hf⟩ := DataW.trod_array und_pair5 h
  rw [cells_pair5] at hcl
  obtain ⟨c0, c1, rfl⟩ : ∃ c0 c1, cs = [c0, c1] := by
    match cs, hcl with
    | [c0, c1], _ => exact ⟨_, _, rfl⟩
  obtain ⟨x0, x1, rfl⟩ : ∃ x0 x1, xs = [x0, x1] := by
    match xs, hxl with
    | [c0, c1], _ => exact ⟨_, _, rfl⟩
  have f0 := hf 0 (by decide)
  have f1 := hf 1 (by decide)
  simp [cells_int5] at f0 f1
  obtain ⟨n0, e0, _, w0⟩ := DataW.trod_int und_int f0
  obtain ⟨n1, e1, _, w1⟩ := DataW.trod_int und_int f1
  simp at e0 e1
  subst e0 e1
  exact ⟨(n0, n1), rfl⟩
set_option maxRecDepth 100000 in
theorem open_pairs5 {H : Type} {enc : TypeId × Value → H} {W : World} {v : Value} {d : DataW H} {p : List MemPlace} {base : Nat} {held : Bool} (h : DataW.Trod enc Tryz.prog W base (fun _ => true) held 73 v d p) (hs : ∃ a n c, v = .slice a n c) :
    ∃ a c, ∃ ts : List (Int × Int), v = .slice a ts.length c ∧ RdT2 W a ts := by
  obtain ⟨a, n, c, rfl⟩ := hs
  obtain ⟨fuel, hf⟩ := h
  rcases Deep.open_slice und_pairs5 hf with ⟨hcs, hx⟩ | ⟨x, l, c', m, k, D, Pl, hcs, _, hl, hm, hmm, hx, hel⟩
  · simp [Value.cells] at hcs
    obtain ⟨rfl, rfl, rfl⟩ := hcs
    exact ⟨none, 0, [], rfl, ⟨.inl rfl⟩⟩
  · simp [Value.cells] at hcs
    obtain ⟨rfl, rfl, rfl⟩ := hcs
    simp only [if_true] at hmm
    rw [cells_pair5] at hel
    have hop : ∀ i, i < n → ∃ t : Int × Int, ∀ j y, ([.int .i64 t.1, .int .i64 t.2] : List Value)[j]? = some y → W.cell? ((x.add (i * 2)).add j) = some y := by
      intro i hi
      obtain ⟨cs', hc1, hc2⟩ := hel i (by omega)
      obtain ⟨t, rfl⟩ := open_pair5 hc2
      refine ⟨t, fun j y hj => ?_⟩
      obtain ⟨_, hlen, hget⟩ := World.cells?_some hc1
      have hj3 : j < 2 := by
        have := (List.getElem?_eq_some_iff.1 hj).1
        simpa using this
      rw [hget j hj3]
      exact hj
    have build : ∀ q, q ≤ n → ∃ ts : List (Int × Int), ts.length = q ∧ ∀ (i : Nat) t, ts[i]? = some t → ∀ j y, ([.int .i64 t.1, .int .i64 t.2] : List Value)[j]? = some y → W.cell? ((x.add (i * 2)).add j) = some y := by
      intro q
      induction q with
      | zero => intro _; exact ⟨[], rfl, fun i o h => by simp at h⟩
      | succ q ih =>
        intro hq
        obtain ⟨os, hol, hos⟩ := ih (by omega)
        obtain ⟨o, ho⟩ := hop q (by omega)
        refine ⟨os ++ [o], by simp [hol], fun i o' h => ?_⟩
        by_cases hi : i < os.length
        · rw [List.getElem?_append_left hi] at h
          exact hos i o' h
        · have hi2 : i = os.length := by have := (List.getElem?_eq_some_iff.1 h).1; simp at this; omega
          subst hi2
          rw [List.getElem?_append_right (Nat.le_refl _)] at h
          simp at h
          subst h
          rw [hol]
          exact ho
    obtain ⟨os, hol, hos⟩ := build n (Nat.le_refl _)
    refine ⟨some x, c, os, by rw [hol], ⟨?_⟩⟩
    by_cases hn0 : n = 0
    · left; exact List.eq_nil_of_length_eq_zero (by omega)
    · right
      obtain ⟨b, off, spot⟩ := x
      obtain ⟨o, hc⟩ := hop 0 (by omega)
      have h0 := hc 0 _ rfl
      have hspot : spot = none := by simpa [Addr.add] using World.cell?_spot h0
      subst hspot
      have e : ∀ i, (⟨b, off, none⟩ : Addr).add i = ⟨b, off + i, none⟩ := fun i => by unfold Addr.add; split <;> simp_all
      have e2 : ∀ i j, ((⟨b, off, none⟩ : Addr).add i).add j = ⟨b, off + i + j, none⟩ := fun i j => by rw [e]; unfold Addr.add; split <;> simp_all
      refine ⟨b, off, rfl, fun i t ht => ⟨?_, ?_⟩⟩
      · have := hos i t ht 0 _ rfl
        rw [e2] at this
        exact this
      · have := hos i t ht 1 _ rfl
        rw [e2] at this
        exact this
theorem blockAgain_walk2 {W : World} {vb vk : Value} {aT : Option Addr} {cT : Nat} {bs0 key : List Nat} {ts : List (Int × Int)} (hb : Rd W vb bs0) (hkey : Rd W vk key) (hT : RdT2 W aT ts) (ht : Tab W) :
    Calls Tryz.prog 5 #[vb, vk, .slice aT ts.length cT] W fun x w' => x = .returned (.bool true) ∧ Below W.heap.size W w' := by
  obtain ⟨ak, kn, kc, rfl⟩ := rd_slice hkey
  exact blockAgain_walk hb hkey hT rfl ht
end Go.Proofs.YtchebhafabhabaaGreatDoor
