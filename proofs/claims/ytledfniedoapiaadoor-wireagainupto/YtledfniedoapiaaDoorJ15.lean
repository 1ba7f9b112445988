import Derived.Test.YtledfniedoapiaaDoorJ14
import Derived.Deep.RegionHeld3
import Derived.Deep.DeepCutAuto
import Derived.Lib.Hide
import Derived.Test.YtledfniedoapiaaDoorCards
import Derived.Test.YtledfniedoapiaaDoorTie
namespace Go.Proofs.YtledfniedoapiaaDoor
open Go.RowKit
set_option linter.unusedVariables false

theorem rdp_bys2 {w : World} {v : Value} {ps : List (List Nat)} (h : RdP w v ps) : ∀ p ∈ ps, Bys p := by
  obtain ⟨_, a, cap, _, hat⟩ := h
  intro p hp
  rcases hat with h0 | ⟨b, off, _, hc⟩
  · rw [h0] at hp; simp at hp
  · obtain ⟨i, hi, rfl⟩ := List.getElem_of_mem hp
    obtain ⟨u, _, h2⟩ := hc i hi
    have e2 : ps.getD i [] = ps[i] := by simp [hi]
    rw [e2] at h2
    exact h2.1
/-- The call that is asked reads as the call that was given. -/
theorem Aw.ok {w X : World} {B : Nat} {o : OpD} {go gp : Nat} {dd : DeskS} {ls : List DeskS} {aD : Option Addr} {cD nD : Nat} {aP : Option Addr} {cP : Nat} {us : List Value} (h : Aw w X B o go gp dd ls aD cD nD o.ps.length aP cP us) (hok : OpD.Ok w o) :
    OpD.Ok X ⟨o.k, .slice dd.a o.bs.length dd.c, o.z, o.n, o.v, .slice aP o.ps.length cP, o.bs, o.ps⟩ := by
  obtain ⟨hb, hp, l1, l2, l3⟩ := hok
  have D := h.ds.one dd List.mem_cons_self
  refine ⟨?_, h.rdp (rdp_bys2 hp) l2, l1, l2, l3⟩
  obtain ⟨e1, e2, e3, gR, e4⟩ := h.ld
  have ow := D.own
  unfold DeskS.room at ow
  rw [e4, e1] at ow
  have := desk_rd ow hb.1 (by omega) (by have := D.fit; omega)
  simp only
  rw [e4]
  exact this
/-- What stands while the desks are wiped. -/
structure Cw (w X : World) (B : Nat) (o : OpD) (go : Nat) (dd : DeskS) (ls : List DeskS) (aD : Option Addr) (cD nD q : Nat) : Prop where
  bel : Below B w X
  ds : Ds X B (dd :: ls)
  rd : RowP X B (.slice aD nD cD) nD ls
  bo : Box X go o.k o.vb o.z o.n o.v o.vp
  pt : ∀ j, q ≤ j → j < o.ps.length → ∃ d p, ls[j]? = some d ∧ o.ps[j]? = some p ∧ Lent d p
  hB : B ≤ X.heap.size
theorem Cw.sw {w X : World} {B : Nat} {o : OpD} {go : Nat} {dd : DeskS} {ls : List DeskS} {aD : Option Addr} {cD nD q : Nat} (h : Cw w X B o go dd ls aD cD nD q) : Sw w X B o go ls aD cD nD := ⟨h.bel, h.rd, h.bo⟩
theorem Cw.bw {w X : World} {B : Nat} {o : OpD} {go : Nat} {dd : DeskS} {ls : List DeskS} {aD : Option Addr} {cD nD q : Nat} (h : Cw w X B o go dd ls aD cD nD q) : Bw w X B dd ls aD cD nD := ⟨h.bel, h.ds, h.rd, h.hB⟩
theorem Cw.later {w X wx : World} {B : Nat} {o : OpD} {go : Nat} {dd : DeskS} {ls : List DeskS} {aD : Option Addr} {cD nD q : Nat} (h : Cw w X B o go dd ls aD cD nD q) (hb : Below X.heap.size X wx) : Cw w wx B o go dd ls aD cD nD q :=
  ⟨h.bel.trans (hb.mono h.hB), h.ds.later hb, (KT.of_below (l := []) hb).rowP h.rd (by simp), h.bo.later hb, h.pt, Nat.le_trans h.hB hb.size⟩
theorem Aw.wiped {w X w2 : World} {B : Nat} {o : OpD} {go gp : Nat} {dd d' : DeskS} {ls : List DeskS} {aD : Option Addr} {cD nD : Nat} {aP : Option Addr} {cP : Nat} {us : List Value} (h : Aw w X B o go gp dd ls aD cD nD o.ps.length aP cP us) (hds : Ds w2 B ((dd :: ls).set 0 d')) (f : Fd X w2 dd.g dd.room.ownBlock) :
    Cw w w2 B o go d' ls aD cD nD 0 := by
  have D := h.ds.one dd List.mem_cons_self
  have kt := f.kt D
  refine ⟨h.bel.trans (f.below D.hg (fun x hx => (D.own.2.lt x hx).1) h.hB), by simpa using hds, kt.rowP h.rd (by decide), kt.box h.bo (by decide), ?_, Nat.le_trans h.hB f.size⟩
  intro j _ hj
  obtain ⟨d1, p, q1, q2, q3, q4⟩ := h.pt j hj
  exact ⟨d1, p, q1, q2, q4⟩
theorem Cw.wiped {w X w2 : World} {B : Nat} {o : OpD} {go : Nat} {dd d d' : DeskS} {ls : List DeskS} {aD : Option Addr} {cD nD q : Nat} (h : Cw w X B o go dd ls aD cD nD q) (hd : ls[q]? = some d) (hg : d'.g = d.g) (hds : Ds w2 B ((dd :: ls).set (q + 1) d')) (f : Fd X w2 d.g d.room.ownBlock) :
    Cw w w2 B o go dd (ls.set q d') aD cD nD (q + 1) := by
  have D := h.ds.one d (List.mem_cons_of_mem _ (List.mem_of_getElem? hd))
  have kt := f.kt D
  have e : (ls.set q d').map (fun d => Value.pointer (some ⟨d.g, 0, none⟩)) = ls.map fun d => Value.pointer (some ⟨d.g, 0, none⟩) := by
    apply List.ext_getElem?
    intro i
    by_cases hi : q = i
    · subst hi
      obtain ⟨hl, e1⟩ := List.getElem?_eq_some_iff.1 hd
      simp [hl, e1, hg]
    · simp [hi]
  have r := kt.rowP h.rd (by decide)
  refine ⟨h.bel.trans (f.below D.hg (fun x hx => (D.own.2.lt x hx).1) h.hB), by simpa using hds, ⟨by simpa using r.1, by rw [e]; exact r.2⟩, kt.box h.bo (by decide), ?_, Nat.le_trans h.hB f.size⟩
  intro j hj hl
  obtain ⟨d1, p, q1, q2, q4⟩ := h.pt j (by omega) hl
  exact ⟨d1, p, by rw [List.getElem?_set]; simp [show q ≠ j by omega, q1], q2, q4⟩

end Go.Proofs.YtledfniedoapiaaDoor

namespace Go.Proofs.YtledfniedoapiaaDoor
open Go.RowKit
set_option linter.unusedVariables false

set_option maxRecDepth 100000 in
set_option maxHeartbeats 32000000 in
theorem wireAgain_walk {v : Value} {os : List OpD} {w : World} (ho : RdO w v os) (ht : Tab w) :
    Calls Tryd.prog 4 #[v] w fun e w' => e = .returned (.bool true) ∧ Below w.heap.size w w' := by
  obtain ⟨i0, hi, hz0, hz1, hz2⟩ := info_parts info_ptr
  obtain ⟨hn0, a, cap, rfl, hc⟩ := ho
  obtain ⟨n, hn⟩ : ∃ n, n = os.length := ⟨_, rfl⟩
  rw [← hn] at hn0 ⊢
  have HN := Lib.hid hn
  have HC := Lib.hid hc
  have HT := Lib.hid ht
  clear hn hc ht
  go_enter Tryd.func4, Tryd.ntmps4
  go_wp2_with fail
  refine (started_any HT.out).mono ?_
  rintro r w1 ⟨rfl, hb1⟩
  obtain ⟨B, hB⟩ : ∃ B, B = w.heap.size := ⟨_, rfl⟩
  obtain ⟨g0, hg0⟩ : ∃ g0, g0 = w1.heap.size := ⟨_, rfl⟩
  have BW0 : Hid (Bw w (w1.alloc (.cells #[.slice none 0 0, .int .i64 0] 35)) B ⟨g0, none, 0, 0, 0, []⟩ [] none 0 0) := by
    have A := (Below.refl w1.heap.size w1).alloc (Nat.le_refl _) (.cells #[.slice none 0 0, .int .i64 0] 35)
    have hs := hb1.size
    have dz : Ds w1 B [] := ⟨by simp, by simp, by simp⟩
    have da := dz.add (by omega)
    rw [hg0, hB]
    refine ⟨hb1.trans (A.mono hs), ?_, ⟨rfl, World.ownsRow_nil _ _ _ _⟩, by simp; omega⟩
    rw [hB] at da
    simpa using da
  have HBB := Lib.hid hB
  clear hb1 hB
  go_wp2
  rw [← hg0]
  clear hg0
  go_loopw [4, 5, 6, 7, 8, 9, 10] (fun s i s6 s7 s8 s9 s10 wr => ∃ t : Nat, t ≤ n ∧ i = .int .i64 (t : Int) ∧ ∃ aD nD cD dd ls, s = .slice aD nD cD ∧ Hid (dd.g = g0 ∧ Bw w wr B dd ls aD cD nD)) (fun _ i _ _ _ _ _ _ => n - (intOf i).toNat)
  case atStart => exact ⟨0, by omega, rfl, none, 0, 0, _, [], rfl, rfl, BW0.out⟩
  case round =>
    clear BW0
    obtain ⟨t, ht, rfl, aD, nD, cD, dd, ls, rfl, HB⟩ := hrel
    by_cases hlt : t < n
    · have hlt2 : (t : Int) < (n : Int) := by omega
      have ht0 : (0 : Int) ≤ (t : Int) := by omega
      rcases HC.out with h0 | ⟨b, off, rfl, hcell⟩
      · have := HN.out; rw [h0] at this; simp at this; omega
      obtain ⟨o, hoi⟩ : ∃ o, os[t]? = some o := ⟨os[t]'(by rw [← HN.out]; exact hlt), List.getElem?_eq_getElem _⟩
      obtain ⟨hcs, hok⟩ := hcell t o hoi
      have HCS : Hid (∀ j x, o.cells[j]? = some x → wr.cell? ⟨b, off + t * 6 + j, none⟩ = some x) := fun j x h => by
        have h1 := hcs j x h
        have h2 : b < B := by have h3 := World.block_lt_of_cell? w _ h1; simp only at h3; have := HBB.out; omega
        rw [HB.out.2.bel.cell (p := ⟨b, off + t * 6 + j, none⟩) h2]; exact h1
      have c0 := HCS.out 0 _ rfl
      have c1 := HCS.out 1 _ rfl
      have c2 := HCS.out 2 _ rfl
      have c3 := HCS.out 3 _ rfl
      have c4 := HCS.out 4 _ rfl
      have c5 := HCS.out 5 _ rfl
      simp only [Nat.add_zero] at c0
      have HOK := Lib.hid hok
      have HBEL : Hid (∀ wx, Below B w wx → OpD.Ok wx o ∧ Tab wx) := fun wx h => by
        rw [HBB.out] at h
        obtain ⟨q1, q2, q3⟩ := hok
        exact ⟨⟨q1.later h, q2.later h, q3⟩, HT.out.later h⟩
      have HFAR : Hid (o.bs ≠ [] → ∀ x, o.vb.ownBlock = some x → x < B) := fun hne x hx => by rw [HBB.out]; exact rd_far hok.1 hne x hx
      clear hcs hcell hoi HCS
      obtain ⟨kk, vb, z, nn, vv, vp, bs, ps⟩ := o
      simp only at c0 c1 c2 c3 c4 c5
      obtain ⟨xb, zb, rfl⟩ : ∃ xb zb, vb = .slice xb bs.length zb := by
        obtain ⟨⟨_, a1, c1', e, _⟩, _⟩ := hok
        exact ⟨a1, c1', e⟩
      obtain ⟨xp, zp, rfl⟩ : ∃ xp zp, vp = .slice xp ps.length zp := by
        obtain ⟨_, ⟨_, a1, c1', e, _⟩, _⟩ := hok
        exact ⟨a1, c1', e⟩
      obtain ⟨nb, hnb⟩ : ∃ nb, nb = bs.length := ⟨_, rfl⟩
      obtain ⟨np, hnp⟩ : ∃ np, np = ps.length := ⟨_, rfl⟩
      have hnbl : nb ≤ 1048576 := by rw [hnb]; exact hok.2.2.1
      have hnpl : np ≤ 1048576 := by rw [hnp]; exact hok.2.2.2.1
      clear hok
      rw [← hnb] at c1
      rw [← hnp] at c5
      rw [← hnb, ← hnp] at HBEL
      rw [← hnb] at HFAR
      have HNB := Lib.hid (And.intro hnb hnp)
      clear hnb hnp HOK
      obtain ⟨go, hgo⟩ : ∃ go, go = wr.heap.size := ⟨_, rfl⟩
      obtain ⟨gp, hgp⟩ : ∃ gp, gp = go + 1 := ⟨_, rfl⟩
      obtain ⟨W2, hW2⟩ : ∃ W2, W2 = (wr.alloc (.cells #[.int .i64 kk, .slice xb nb zb, .int .i64 z, .int .i64 nn, .int .u64 vv, .slice xp np zp] 38)).alloc (.cells #[.int .i64 kk, .slice xb nb zb, .int .i64 z, .int .i64 nn, .int .u64 vv, .slice xp np zp] 38) := ⟨_, rfl⟩
      have A1 := (Below.refl wr.heap.size wr).alloc (Nat.le_refl _) (.cells #[.int .i64 kk, .slice xb nb zb, .int .i64 z, .int .i64 nn, .int .u64 vv, .slice xp np zp] 38)
      have A2 := (Below.refl (wr.alloc (.cells #[.int .i64 kk, .slice xb nb zb, .int .i64 z, .int .i64 nn, .int .u64 vv, .slice xp np zp] 38)).heap.size (wr.alloc (.cells #[.int .i64 kk, .slice xb nb zb, .int .i64 z, .int .i64 nn, .int .u64 vv, .slice xp np zp] 38))).alloc (Nat.le_refl _) (.cells #[.int .i64 kk, .slice xb nb zb, .int .i64 z, .int .i64 nn, .int .u64 vv, .slice xp np zp] 38)
      have BW2 := Lib.hid ((HB.out.2.later A1).later A2)
      have BO2 := Lib.hid ((Box.new wr kk (.slice xb nb zb) z nn vv (.slice xp np zp)).later A2)
      have BP2 := Lib.hid (Box.new (wr.alloc (.cells #[.int .i64 kk, .slice xb nb zb, .int .i64 z, .int .i64 nn, .int .u64 vv, .slice xp np zp] 38)) kk (.slice xb nb zb) z nn vv (.slice xp np zp))
      rw [World.size_alloc] at BP2
      rw [← hW2, ← hgo] at BO2 BP2
      rw [← hW2] at BW2
      rw [← hgp] at BP2
      have hdg := HB.out.1
      have hgB : B ≤ go ∧ B ≤ gp := by have := HB.out.2.hB; omega
      have hgne : go ≠ gp := by omega
      have CK : Hid (Calls _ _ _ _ _) := lend_ds (k := 0) (d := dd) BW2.out.ds rfl (HBEL.out W2 BW2.out.bel).1.1 hnbl BW2.out.hB HFAR.out
      rw [hdg] at CK
      have HDG := Lib.hid hdg
      clear HB A1 A2 hdg
      go_wp2_with fail
      rw [← hW2]
      clear hW2 c0 c1 c2 c3 c4 c5
      subst hgp
      subst hgo
      obtain ⟨wt, hwt⟩ : ∃ wt, wt = wr := ⟨_, rfl⟩
      subst hwt
      refine CK.out.mono ?_
      rintro r w3 ⟨dl, rfl, hL, hg', ds3, f3⟩
      rw [← HDG.out] at f3
      have D1d := BW2.out.ds.one dd List.mem_cons_self
      have KT3 := f3.kt D1d
      have BO3 := KT3.box BO2.out (by decide)
      have BP3 := KT3.box BP2.out (by decide)
      have RD3 := KT3.rowP BW2.out.rd (by decide)
      have BE3 := BW2.out.bel.trans (f3.below D1d.hg (fun x hx => (D1d.own.2.lt x hx).1) BW2.out.hB)
      have hB3 : B ≤ w3.heap.size := Nat.le_trans BW2.out.hB f3.size
      have ds3' : Ds w3 B (dl :: ls) := by simpa using ds3
      have HL := Lib.hid (And.intro hL hg')
      have ST3 := Lib.hid (And.intro BO3 (And.intro BP3 (And.intro RD3 (And.intro BE3 (And.intro hB3 ds3')))))
      have p1 := BP3.b
      have p1f := BP3.fz (i := 1)
      clear CK BW2 BO2 BP2 ds3 f3 D1d KT3 BO3 BP3 RD3 BE3 ds3' hL hg' hB3
      go_upto_region 11 with fail
      obtain ⟨W4, hW4⟩ : ∃ W4, W4 = w3.setCell ⟨wt.heap.size + 1, 1, none⟩ (.slice dl.a nb dl.c) := ⟨_, rfl⟩
      have ST4 : Hid (Box W4 wt.heap.size kk (.slice xb nb zb) z nn vv (.slice xp np zp) ∧ Box W4 (wt.heap.size + 1) kk (.slice dl.a nb dl.c) z nn vv (.slice xp np zp) ∧ RowP W4 B (.slice aD nD cD) nD ls ∧ Below B w W4 ∧ B ≤ W4.heap.size ∧ Ds W4 B (dl :: ls)) := by
        obtain ⟨i1, i2, i3, i4, i5, i6⟩ := ST3.out
        have kt := box_kt (i := 1) (x := .slice dl.a nb dl.c) i2
        rw [← hW4] at kt
        have sg := set_grown w3 (wt.heap.size + 1) 1 (.slice dl.a nb dl.c)
        rw [← hW4] at sg
        refine ⟨by rw [hW4]; exact i1.other hgne, by rw [hW4]; exact i2.setB _, kt.rowP i3 (by decide), i4.trans ⟨sg.os, sg.tape, sg.output, sg.size, fun i hi => sg.block i (by omega) (fun e => by simp at e; omega)⟩, Nat.le_trans i5 sg.size, kt.ds i6 (by decide) (by decide)⟩
      rw [← hW4]
      clear hW4 ST3 p1 p1f
      have p5 := ST4.out.2.1.p
      have p5f := ST4.out.2.1.fz (i := 5)
      go_upto_region 12 with fail
      obtain ⟨W5, hW5⟩ : ∃ W5, W5 = W4.setCell ⟨wt.heap.size + 1, 5, none⟩ (.slice none 0 0) := ⟨_, rfl⟩
      have AW0 : Hid (0 ≤ nD ∧ Aw w W5 B (⟨kk, .slice xb nb zb, z, nn, vv, .slice xp np zp, bs, ps⟩ : OpD) wt.heap.size (wt.heap.size + 1) dl ls aD cD nD 0 none 0 []) := by
        obtain ⟨i1, i2, i3, i4, i5, i6⟩ := ST4.out
        have kt := box_kt (i := 5) (x := .slice none 0 0) i2
        rw [← hW5] at kt
        have sg := set_grown W4 (wt.heap.size + 1) 5 (.slice none 0 0)
        rw [← hW5] at sg
        have bp := i2.setP (.slice none 0 0)
        rw [← hW5, HNB.out.1] at bp
        refine ⟨Nat.zero_le _, ⟨i4.trans ⟨sg.os, sg.tape, sg.output, sg.size, fun i hi => sg.block i (by omega) (fun e => by simp at e; omega)⟩, kt.ds i6 (by decide) (by decide), kt.rowP i3 (by decide), by rw [hW5]; exact i1.other hgne, bp, hgne, hgB.1, hgB.2, HL.out.1, ⟨rfl, by simp, World.ownsRow_nil _ _ _ _⟩, fun j hj => by omega, Nat.le_trans i5 sg.size⟩⟩
      rw [← hW5]
      clear hW5 ST4 p5 p5f
      go_wp2
      go_loopw [4, 8] (fun s kx wr2 => ∃ k : Nat, k ≤ np ∧ kx = .int .i64 (k : Int) ∧ ∃ aD nD cD ls aP cP us, s = .slice aD nD cD ∧ Hid (k ≤ nD ∧ Aw w wr2 B (⟨kk, .slice xb nb zb, z, nn, vv, .slice xp np zp, bs, ps⟩ : OpD) wt.heap.size (wt.heap.size + 1) dl ls aD cD nD k aP cP us)) (fun _ k _ => np - (intOf k).toNat)
      case atStart => exact ⟨0, by omega, rfl, aD, nD, cD, ls, none, 0, [], rfl, AW0⟩
      case round =>
        clear AW0
        obtain ⟨k, hk, rfl, aD, nD, cD, ls, aP, cP, us, rfl, HA⟩ := hrel
        have bo5 := HA.out.2.bo.p
        simp only at bo5
        by_cases hlk : k < np
        · have hlk2 : (k : Int) < (np : Int) := by omega
          have hk0 : (0 : Int) ≤ (k : Int) := by omega
          go_upto_if 42 with fail
          go_cut [4] (fun s wx => ∃ aD' nD' cD' ls', s = .slice aD' nD' cD' ∧ k < nD' ∧ Hid (Aw w wx B (⟨kk, .slice xb nb zb, z, nn, vv, .slice xp np zp, bs, ps⟩ : OpD) wt.heap.size (wt.heap.size + 1) dl ls' aD' cD' nD' k aP cP us))
          case first =>
            by_cases hkn : k = nD
            · have hkb : ((k : Int) == (nD : Int)) = true := by simp; omega
              have hnD : nD < 1048576 := by omega
              have hkl : k < nD + 1 := by omega
              clear hkn
              have AA := HA.out.2
              have A1 := (Below.refl wr.heap.size wr).alloc (Nat.le_refl _) (.cells #[.slice none 0 0, .int .i64 0] 35)
              have R1 := (KT.of_below (l := []) A1).rowP AA.rd (by simp)
              have hBw := AA.hB
              have HAA := Lib.hid (And.intro AA A1)
              clear AA A1 HA
              have NW := news_new (wr.alloc (.cells #[.slice none 0 0, .int .i64 0] 35)) ([.pointer (some ⟨wr.heap.size, 0, none⟩)] : List Value) 33
              rw [World.size_alloc] at NW
              go_wp2_with (at_builtin; refine wpList_append_own _ rfl _ _ 36 rfl B 33 i0 (.pointer none) 1 8 und_ds hi hz0 hz1 hz2 rfl (by decide) _ nD _ rfl (R1.2.alloc _) ⟨wr.heap.size + 1, 0, none⟩ 1 1 [.pointer (some ⟨wr.heap.size, 0, none⟩)] rfl rfl NW ?c2 ?c3 ?c4 ?c5 ?_)
              case c2 => intro u hu; simp at hu; subst hu; rfl
              case c3 => unfold maxLen; omega
              case c4 => omega
              case c5 => simp; omega
              intro v' w8 hown8 hgrow _
              obtain ⟨a8, c8, rfl⟩ := ptrs_form hown8
              have H8 : Hid (Aw w w8 B (⟨kk, .slice xb nb zb, z, nn, vv, .slice xp np zp, bs, ps⟩ : OpD) wt.heap.size (wt.heap.size + 1) dl (ls ++ [⟨wr.heap.size, none, 0, 0, 0, []⟩]) a8 c8 (nD + 1) k aP cP us) := by
                obtain ⟨AA, A1⟩ := HAA.out
                have A2 := (Below.refl (wr.alloc (.cells #[.slice none 0 0, .int .i64 0] 35)).heap.size (wr.alloc (.cells #[.slice none 0 0, .int .i64 0] 35))).alloc (Nat.le_refl _) (.cells ([.pointer (some ⟨wr.heap.size, 0, none⟩)] : List Value).toArray 33)
                have R2 := (KT.of_below (l := []) A2).rowP R1 (by simp)
                have kt := rowp_kt R2 hgrow
                have dsa := (AA.ds.add AA.hB).later A2
                have Z := (AA.later A1).later A2
                have e : RowP w8 B (.slice a8 (nD + 1) c8) (nD + 1) (ls ++ [⟨wr.heap.size, none, 0, 0, 0, []⟩]) := ⟨by simp [R2.1], by simpa using hown8⟩
                refine ⟨Z.bel.grown hgrow Z.hB (fun x hx => (R2.2.lt x hx).1), by simpa using kt.ds dsa (by decide) (by decide), e, kt.box Z.bo (by decide), kt.box Z.bp (by decide), Z.ne, Z.hgo, Z.hgp, Z.ld, kt.rowS Z.rp (by decide), ?_, Nat.le_trans Z.hB hgrow.size⟩
                intro j hj
                obtain ⟨d, p, q1, q2, q3, q4⟩ := Z.pt j hj
                exact ⟨d, p, by rw [List.getElem?_append_left (List.getElem?_eq_some_iff.1 q1).1]; exact q1, q2, q3, q4⟩
              go_wp2
              go_meet
              exact ⟨a8, nD + 1, c8, _, rfl, hkl, H8⟩
            · have hkb : ((k : Int) == (nD : Int)) = false := by simp; omega
              have hki : ¬ (k : Int) = (nD : Int) := by omega
              have hkl : k < nD := by have := HA.out.1; omega
              have H2 := Lib.hid HA.out.2
              go_wp2
              go_meet
              exact ⟨aD, nD, cD, ls, rfl, hkl, H2⟩
          case rest =>
          clear HA
          obtain ⟨aD', nD', cD', ls', rfl, hkn, HA⟩ := hcut
          have hnps : k < ps.length := by rw [← HNB.out.2]; exact hlk
          obtain ⟨bO, oO, zO, ab, cb, p, hv, hp, hu, hrd, hpl, hbO⟩ := part_at (k := k) (HBEL.out w (Below.refl _ _)).1 hnps
          simp only [Value.slice.injEq] at hv
          obtain ⟨rfl, hv2, rfl⟩ := hv
          obtain ⟨d, hd⟩ : ∃ d, ls'[k]? = some d := ⟨ls'[k]'(by rw [← HA.out.rd.1]; exact hkn), List.getElem?_eq_getElem _⟩
          obtain ⟨gD, rfl, _⟩ := HA.out.rd.at hd
          have hbB : bO < B := by rw [HBB.out]; exact hbO
          have SEE : Hid (∀ X ls2 d2, Sw w X B (⟨kk, .slice xb nb zb, z, nn, vv, .slice (some ⟨bO, oO, none⟩) np zp, bs, ps⟩ : OpD) wt.heap.size ls2 (some ⟨gD, 0, none⟩) cD' nD' → ls2[k]? = some d2 → X.cell? ⟨gD, k, none⟩ = some (.pointer (some ⟨d2.g, 0, none⟩)) ∧ X.cell? ⟨wt.heap.size, 5, none⟩ = some (.slice (some ⟨bO, oO, none⟩) np zp) ∧ X.cell? ⟨bO, oO + k, none⟩ = some (.slice ab p.length cb)) := fun X ls2 d2 h h2 => h.see h2 rfl hu hbB
          have D0 := (Below.refl wc.heap.size wc).drew
          have AD := HA.out.later D0
          have hrdX : Rd wc.drew (.slice ab p.length cb) p := hrd.later (by rw [← HBB.out]; exact AD.bel)
          have CK := lend_ds (k := k + 1) (d := d) AD.ds (by simpa using hd) hrdX hpl AD.hB (fun hne x hx => by rw [HBB.out]; exact rd_far hrd hne x hx)
          have S0 := SEE.out wc ls' d HA.out.sw hd
          have HP0 := HA.out.bp.p
          have HPP := Lib.hid (And.intro hp (And.intro hd hpl))
          have HCK := Lib.hid (And.intro CK (And.intro S0 HP0))
          clear CK S0 HP0 hp hd hrdX AD D0 hrd hu hpl
          go_upto_region 17 with fail
          refine again17_region HCK.out.2.1 HCK.out.2.2 hkn hlk HCK.out.1 (fun r w2 h => by obtain ⟨d', rfl, _⟩ := h; exact ⟨_, _, _, rfl⟩) _ (fun va vm vc w2 hr => ?_)
          obtain ⟨d', he, hL', hg', hds', f'⟩ := hr
          simp only [Ending.returned.injEq, Value.slice.injEq] at he
          obtain ⟨rfl, rfl, rfl⟩ := he
          obtain ⟨hp, hd, hpl⟩ := HPP.out
          have A2 := (HA.out.later (Below.refl wc.heap.size wc).drew).lent hd hg' hds' f'
          have hd2 : (ls'.set k d')[k]? = some d' := by
            obtain ⟨hl, _⟩ := List.getElem?_eq_some_iff.1 hd
            simp [hl]
          have hkb := HA.out.pt
          have S2 := SEE.out w2 _ d' A2.sw hd2
          rw [hg'] at S2
          refine ⟨S2, A2.bp.p, fun o => ?_, B, us, A2.rp, A2.hB, by omega, fun aP' cP' w3 hr3 hgr hor => ?_⟩
          · have := SEE.out _ _ d' (A2.later ((Below.refl w2.heap.size w2).alloc (Nat.le_refl _) (.cells o 23))).sw hd2
            rw [hg'] at this
            exact this
          have G3 := A2.grown hgr
          have hus : us.length = k := by have := A2.rp.1; omega
          have A4 := A2.joined hgr hd2 hp hL' hus hr3
          have S3 := SEE.out w3 _ d' G3.1 hd2
          have S4 := SEE.out _ _ d' A4.sw hd2
          rw [hg'] at S3 S4
          refine ⟨S3, S4, ⟨_, G3.2.2.1.p⟩, G3.2.2.1.fz, ?_⟩
          have hkl2 : k + 1 ≤ nD' := by omega
          have HA4 := Lib.hid (And.intro hkl2 A4)
          clear HCK SEE HPP A2 S2 hd2 S3 S4 G3 A4 hr3 hgr hor hp hd hpl hL' hg' hds' f'
          obtain ⟨W6, hW6⟩ : ∃ W6, W6 = w3.setCell ⟨wt.heap.size + 1, 5, none⟩ (.slice aP' (k + 1) cP') := ⟨_, rfl⟩
          rw [← hW6] at HA4 ⊢
          clear hW6
          unfold againAct
          go_wp2
          go_roundw
          case rel => exact ⟨k + 1, by omega, by go_num, _, nD', cD', _, aP', cP', _, rfl, HA4⟩
          case measure => simp [intOf]; omega
        · have hge : (np : Int) ≤ (k : Int) := by omega
          have HKN : Hid (k = ps.length) := by unfold Hid; have := HNB.out.2; omega
          have hkp := HKN.out
          have HA2 : Hid (Aw w wr B (⟨kk, .slice xb nb zb, z, nn, vv, .slice xp np zp, bs, ps⟩ : OpD) wt.heap.size (wt.heap.size + 1) dl ls aD cD nD ps.length aP cP us) := by
            rw [← hkp]; exact HA.out.2
          obtain ⟨c0, c1, c2, c3, c4, c5⟩ : wr.cell? ⟨wt.heap.size + 1, 0, none⟩ = some (.int .i64 kk) ∧ wr.cell? ⟨wt.heap.size + 1, 1, none⟩ = some (.slice dl.a nb dl.c) ∧ wr.cell? ⟨wt.heap.size + 1, 2, none⟩ = some (.int .i64 z) ∧ wr.cell? ⟨wt.heap.size + 1, 3, none⟩ = some (.int .i64 nn) ∧ wr.cell? ⟨wt.heap.size + 1, 4, none⟩ = some (.int .u64 vv) ∧ wr.cell? ⟨wt.heap.size + 1, 5, none⟩ = some (.slice aP k cP) := by
            have b := HA.out.2.bp
            rw [HNB.out.1]
            exact ⟨b.kind, b.b, b.z, b.n, b.v, b.p⟩
          have CA : Hid (Calls _ _ _ _ _) := answered_any (HBEL.out wr HA2.out.bel).2 (HA2.out.ok (HBEL.out w (Below.refl _ _)).1)
          simp only at CA
          rw [← hkp, ← HNB.out.1] at CA
          clear HA hkp
          go_wp2_with fail
          refine CA.out.mono ?_
          rintro r w7 ⟨rfl, hb7⟩
          have HA7 := Lib.hid (HA2.out.later hb7)
          have c1 := HA7.out.bo.b
          simp only at c1
          have CB : Hid (Calls _ _ _ _ _) := back_ds (k := 0) (d := dl) HA7.out.ds rfl HL.out.1 (HBEL.out w7 HA7.out.bel).1.1
          rw [HL.out.2] at CB
          clear CA HA2 hb7 c0 c2 c3 c4 c5
          go_wp2_with fail
          refine CB.out.mono ?_
          rintro r w8 ⟨rfl, hb8⟩
          have HA8 := Lib.hid (HA7.out.later hb8)
          have CC : Hid (Calls _ _ _ _ _) := wipe_ds (k := 0) (d := dl) HA8.out.ds rfl HL.out.1
          rw [HL.out.2] at CC
          clear CB HA7 hb8 c1
          go_wp2_with fail
          refine CC.out.mono ?_
          rintro r w9 ⟨rfl, d9, hg9, ds9, f9⟩
          rw [← HL.out.2] at f9 hg9
          have HC0 : Hid (d9.g = g0 ∧ Cw w w9 B (⟨kk, .slice xb nb zb, z, nn, vv, .slice xp np zp, bs, ps⟩ : OpD) wt.heap.size d9 ls aD cD nD 0) := ⟨by rw [hg9]; exact HL.out.2, HA8.out.wiped ds9 f9⟩
          clear CC HA8 hg9 ds9 f9
          go_wp2
          go_loopw [10] (fun qx wr2 => ∃ m : Nat, m ≤ np ∧ qx = .int .i64 (m : Int) ∧ ∃ ls2, Hid (d9.g = g0 ∧ Cw w wr2 B (⟨kk, .slice xb nb zb, z, nn, vv, .slice xp np zp, bs, ps⟩ : OpD) wt.heap.size d9 ls2 aD cD nD m)) (fun q _ => np - (intOf q).toNat)
          case atStart => exact ⟨0, by omega, rfl, ls, HC0⟩
          case round =>
            clear HC0
            obtain ⟨m, hm, rfl, ls2, HC2⟩ := hrel
            have bo5 := HC2.out.2.bo.p
            simp only at bo5
            by_cases hlm : m < np
            · have hlm2 : (m : Int) < (np : Int) := by omega
              have hm0 : (0 : Int) ≤ (m : Int) := by omega
              have hnps : m < ps.length := by rw [← HNB.out.2]; exact hlm
              obtain ⟨bO, oO, zO, ab, cb, p, hv, hp, hu, hrd, hpl, hbO⟩ := part_at (k := m) (HBEL.out w (Below.refl _ _)).1 hnps
              simp only [Value.slice.injEq] at hv
              obtain ⟨rfl, hv2, rfl⟩ := hv
              obtain ⟨d, p2, hd, hp2, hL2⟩ := HC2.out.2.pt m (Nat.le_refl _) hnps
              simp only at hp2
              rw [hp] at hp2
              obtain rfl : p = p2 := by simpa using hp2
              obtain ⟨gD, rfl, _, hmn⟩ := HC2.out.2.rd.at hd
              have hmn2 : (m : Int) < (nD : Int) := by omega
              have hbB : bO < B := by rw [HBB.out]; exact hbO
              obtain ⟨np2, hnp2⟩ : ∃ np2, np2 = p.length := ⟨_, rfl⟩
              rw [← hnp2] at hu hrd
              have D0 : Below wr.heap.size wr wr.drew := (Below.refl _ _).drew
              have KS : Hid (∀ wx, Below wr.heap.size wr wx → wx.cell? ⟨gD, m, none⟩ = some (.pointer (some ⟨d.g, 0, none⟩)) ∧ wx.cell? ⟨wt.heap.size, 5, none⟩ = some (.slice (some ⟨bO, oO, none⟩) np zp) ∧ wx.cell? ⟨bO, oO + m, none⟩ = some (.slice ab np2 cb)) := fun wx h => (HC2.out.2.later h).sw.see hd rfl hu hbB
              have HCB : Hid (Calls _ _ _ _ _) := back_ds (k := m + 1) (d := d) (HC2.out.2.later D0).ds (by simpa using hd) hL2 (hrd.later (by rw [← HBB.out]; exact (HC2.out.2.later D0).bel))
              have HD := Lib.hid (And.intro hd hL2)
              clear hu hrd hp hp2 hnp2 hpl hd hL2 bo5 hv2 hnps
              have bo5 := (KS.out wr (Below.refl _ _)).2.1
              go_upto_region 25 with fail
              clear bo5
              go_region_held3 (fun wx => wx.cell? ⟨gD, m, none⟩ = some (.pointer (some ⟨d.g, 0, none⟩)) ∧ wx.cell? ⟨wt.heap.size, 5, none⟩ = some (.slice (some ⟨bO, oO, none⟩) np zp) ∧ wx.cell? ⟨bO, oO + m, none⟩ = some (.slice ab np2 cb)) (first | exact KS.out _ D0 | exact KS.out _ DD1)
                (first | (go_at_call 16; refine HCB.out.mono ?_; rintro e1 w11 ⟨rfl, hb1⟩; have DD1 := D0.trans (hb1.mono D0.size)))
              obtain ⟨hd, hL2⟩ := HD.out
              have HC11 := Lib.hid (HC2.out.2.later DD1)
              have cD0 := (KS.out w11 DD1).1
              have CD : Hid (Calls _ _ _ _ _) := wipe_ds (k := m + 1) (d := d) HC11.out.ds (by simpa using hd) hL2
              have HG9 := Lib.hid HC2.out.1
              clear HCB hL2 HC2 KS D0 DD1 hb1 hd
              go_wp2_with fail
              refine CD.out.mono ?_
              rintro r w12 ⟨rfl, d12, hg12, ds12, f12⟩
              have HC12 := Lib.hid (And.intro HG9.out (HC11.out.wiped HD.out.1 hg12 ds12 f12))
              clear CD HC11 hg12 ds12 f12 cD0 HD HG9
              go_wp2
              go_roundw
              case rel => exact ⟨m + 1, by omega, by go_num, _, HC12⟩
              case measure => simp [intOf]; omega
            · have hge : (np : Int) ≤ (m : Int) := by omega
              have HB9 : Hid (d9.g = g0 ∧ Bw w wr B d9 ls2 aD cD nD) := ⟨HC2.out.1, HC2.out.2.bw⟩
              clear HC2
              go_wp2
              go_roundw
              case rel => exact ⟨t + 1, by omega, by go_num, aD, nD, cD, d9, ls2, rfl, HB9⟩
              case measure => simp [intOf]; omega
    · have hge : (n : Int) ≤ (t : Int) := by omega
      go_wp2
      go_ret
      have := HB.out.2.bel
      rw [HBB.out] at this
      exact ⟨rfl, this⟩

end Go.Proofs.YtledfniedoapiaaDoor

namespace Go.Proofs.YtledfniedoapiaaDoor.wireAgainUptoRow
open Go.ChangeShapes Go.WideShapes Go.ChangeAt Go.RowKit
set_option linter.unusedVariables false
set_option maxRecDepth 100000

theorem contract (H : Type) (enc : TypeId × Value → H) (W : World) (base : Nat) (args : Array Value) (ds gs : List (DataW H)) (before : List MemPlace)
    (hval0 : ∀ (j : Nat) t v, Tryd.f4.params[j]? = some t → args[j]? = some v → Value.okWide Tryd.prog W .any base t v)
    (hW : DataW.Whole enc Tryd.prog Tryd.f4.params.toList Rows.wireAgainSpec.vars false W args.toList ds gs before) (hL : laidMetH Tryd.prog Rows.wireAgainUptoRow.laid W) (hk : Rows.uptoSmall H (ds ++ gs) = true) :
    Calls Tryd.prog 4 args W fun e W' => ∃ v, e = .returned v ∧ Rows.wireAgainSpec.post enc Tryd.prog Tryd.f4 false true false false W args v W' := by
  have hW' := hW
  obtain ⟨p, q, hA0, hV, rfl, hfz, hnd⟩ := hW
  have hA : DataW.TrodAll enc Tryd.prog W 0 (fun _ => true) true Tryd.f4.params.toList args.toList ds p := hA0
  have hval := hval0
  rw [Tryd.params4] at hA hval
  obtain ⟨v0, vs0, d0, ds0, p0, q0, hargs, rfl, rfl, h0, r0⟩ := trodAll_cons hA
  obtain ⟨rfl, rfl, rfl⟩ := trodAll_nil r0
  obtain rfl : args = #[v0] := by cases args; simp_all
  obtain ⟨rfl, rfl⟩ := trodVars_none hV
  have hbulk : Rows.uptoBulkAll ([d0] ++ []) ≤ 1048576 := of_decide_eq_true hk
  simp only [List.append_nil, Rows.uptoBulkAll] at hbulk
  have s0 := okWide_slice und_ops (hval 0 32 v0 rfl rfl)
  have k0 := h0
  have lt0 : ∀ x ∈ p0, x.block < W.heap.size := by obtain ⟨m, hm⟩ := k0; exact DataW.trod_lt m _ _ _ hm
  obtain ⟨x0, rd0⟩ := open_ops h0 s0 (by omega)
  clear hA0 hval0
  refine (wireAgain_walk rd0 (tab_of hL)).mono fun e W' ⟨he, bel⟩ => ?_
  subst he
  exact ⟨_, rfl, _, _, _, [], _, [], hW', trodAll_mk1 (shut_bool und_bool _), (trodAll_cons_mk (Below.trod laid_out (by kernel_rfl) (of_decide_eq_true (by kernel_rfl)) k0 bel lt0) trodAll_mk0), rfl, bel.frame _, fun h => by cases h⟩

theorem laid_met (os : Os) : laidMet Tryd.prog Rows.wireAgainUptoRow.laid (({ World.holding Tryd.prog os ⟨#[], #[], []⟩ with heap := (World.holding Tryd.prog os ⟨#[], #[], []⟩).heap.modify 0 fun | .cells _ t frozen => .cells #[.int .u32 0, .int .u32 274646895, .int .u32 549293790, .int .u32 820201905, .int .u32 1098587580, .int .u32 1361435347, .int .u32 1640403810, .int .u32 1905808397, .int .u32 2197175160, .int .u32 2460548119, .int .u32 2722870694, .int .u32 2987750089, .int .u32 3280807620, .int .u32 3553878443, .int .u32 3811616794, .int .u32 4084100981] t frozen | o => o } : World).forCall (fun _ _ => 0) ⟨#[], #[.slice none 0 0], []⟩).memory :=
  laidMet_of_run' 8 (by kernel_rfl) (by kernel_rfl)
theorem reads (os : Os) {H : Type} (enc : TypeId × Value → H) : ∃ places, DataW.whole enc Tryd.prog (({ World.holding Tryd.prog os ⟨#[], #[], []⟩ with heap := (World.holding Tryd.prog os ⟨#[], #[], []⟩).heap.modify 0 fun | .cells _ t frozen => .cells #[.int .u32 0, .int .u32 274646895, .int .u32 549293790, .int .u32 820201905, .int .u32 1098587580, .int .u32 1361435347, .int .u32 1640403810, .int .u32 1905808397, .int .u32 2197175160, .int .u32 2460548119, .int .u32 2722870694, .int .u32 2987750089, .int .u32 3280807620, .int .u32 3553878443, .int .u32 3811616794, .int .u32 4084100981] t frozen | o => o } : World).forCall (fun _ _ => 0) ⟨#[], #[.slice none 0 0], []⟩).memory Tryd.f4.params.toList Rows.wireAgainSpec.vars false (#[.slice none 0 0] : Array Value).toList 8 = some ([.nil], [], places) :=
  ⟨[], by kernel_rfl⟩

set_option maxRecDepth 100000 in
theorem lifted (os : Os) (started : os.Started) (H : Type) (enc : TypeId × Value → H) (F : Stop.Interp) :
    ReturnsInHanded {} Tryd.checked os 4 .any ((Rows.OpenSpec.upto Rows.wireAgainSpec).preRow enc Tryd.prog Tryd.f4 Rows.wireAgainUptoRow.domain false Rows.wireAgainUptoRow.laid) (((Rows.OpenSpec.upto Rows.wireAgainSpec).at F).post enc Tryd.prog Tryd.f4 false true false false) := by
  obtain ⟨places, hx⟩ := reads os enc
  refine returnsInHanded_of_row (C := Tryd.checked) (s := Rows.OpenSpec.upto Rows.wireAgainSpec) own_knob started (by kernel_rfl) Tryd.func4
    (witness_row_at (enc := enc) (C := Tryd.checked) false ({ World.holding Tryd.prog os ⟨#[], #[], []⟩ with heap := (World.holding Tryd.prog os ⟨#[], #[], []⟩).heap.modify 0 fun | .cells _ t frozen => .cells #[.int .u32 0, .int .u32 274646895, .int .u32 549293790, .int .u32 820201905, .int .u32 1098587580, .int .u32 1361435347, .int .u32 1640403810, .int .u32 1905808397, .int .u32 2197175160, .int .u32 2460548119, .int .u32 2722870694, .int .u32 2987750089, .int .u32 3280807620, .int .u32 3553878443, .int .u32 3811616794, .int .u32 4084100981] t frozen | o => o }) #[.slice none 0 0] rfl (by kernel_rfl) (by kernel_rfl) (by kernel_rfl)
      (OpenSpec.preRow_of_cond 8 hx (by kernel_rfl) (fun k hk => by cases hk; kernel_rfl) (by kernel_rfl) (laid_met os))) ?_
  intro W base args ds gs before hval hW _ hcond hsz hL _ _
  exact contract H enc W base args ds gs before hval hW hL (hcond _ rfl)

theorem said : Rows.WireAgainUptoSaid :=
  OpenClaim.holds_of_cond 4 Tryd.f4 rfl rfl rfl rfl rfl rfl rfl ⟨rfl, rfl, rfl, rfl, rfl⟩ rfl rfl rfl rfl rfl (by kernel_rfl) Tryd.func4 (by kernel_rfl)
    (of_decide_eq_true (by kernel_rfl)) (by unfold Func.isWrapper; first | (rw [if_pos (by decide +kernel)]; kernel_rfl) | (rw [if_neg (by decide +kernel)]; exact ⟨rfl, rfl⟩))
    (fun os started H enc _ F => by rw [OpenClaim.pre_eq_preRow]; exact lifted os started H enc F)

theorem plain (f : FuncId) (fn : Func) (hf : Tryd.pinned.checked.prog.funcNamed "strata/stratalaw1.WireAgain" = some f) (hfn : Tryd.pinned.checked.prog.funcs[f]? = some fn) :
    false = Tryd.pinned.checked.prog.looks [] ∧ ∀ (j : Nat) t, fn.params[j]? = some t → Tryd.pinned.checked.prog.wantsStandIn t = false := by
  obtain rfl : f = 4 := Option.some.inj ((show Tryd.prog.funcNamed "strata/stratalaw1.WireAgain" = some 4 by kernel_rfl).symm.trans hf) |>.symm
  obtain rfl : fn = Tryd.f4 := (Option.some.inj (Tryd.func4.symm.trans hfn)).symm
  refine ⟨by kernel_rfl, fun j t ht => ?_⟩
  rw [Tryd.params4] at ht
  have hm : t ∈ [32] := by simpa using Array.mem_of_getElem? ht
  have hall : ([32].all fun u => !Tryd.prog.wantsStandIn u) = true := by kernel_rfl
  exact (show Tryd.prog.wantsStandIn t = false by simpa using List.all_eq_true.1 hall t hm)

end Go.Proofs.YtledfniedoapiaaDoor.wireAgainUptoRow
namespace Go.Proofs.YtledfniedoapiaaDoor

theorem wireAgainUpto_card : Rows.WireAgainUptoCardSaid :=
  Claim7.holds_tied_plain_at .later [] _ _ _ _ wireAgainUptoRow.said (fun _ h => by cases h) (by kernel_rfl) (fun _ h => by cases h) wireAgainUpto_row_tie rfl ⟨rfl, rfl⟩ (by kernel_rfl) rfl wireAgainUptoRow.plain (by kernel_rfl)
#print axioms wireAgainUpto_card
end Go.Proofs.YtledfniedoapiaaDoor
