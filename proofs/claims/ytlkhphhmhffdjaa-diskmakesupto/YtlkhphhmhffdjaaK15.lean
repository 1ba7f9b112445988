import Derived.Test.YtlkhphhmhffdjaaK14
set_option linter.unusedSimpArgs false
set_option linter.unusedVariables false
namespace Go.Proofs.Ytlkhphhmhffdjaa
open Go.RowKit Go.MapKept Go.Sort
variable {w w' W X : World} {O O' : Nat → Prop} {dB rB : Nat} {d r : Dk4}
def takeR (r : Dk4) (s : ByteArray) (bs : List Nat) (y : Int) : Int × Dk4 :=
 if ¬ DkName s then (40, r)
 else if (atP r.fs s).isSome then (41, r)
 else if y < 0 ∨ (bs.length : Int) < y then (43, r)
 else if r.cap - (totP r.fs : Int) < (bs.length : Int) then (4, r)
 else (0, ⟨insP r.fs (s, bs, y.toNat), r.cap, r.arm, r.down, r.c⟩)
def loadLR : Dk4 → List GF → Int × Dk4
 | d, [] => (0, d)
 | d, x :: xs => if (takeR d x.1 x.2.1 x.2.2).1 ≠ 0 then takeR d x.1 x.2.1 x.2.2 else loadLR (takeR d x.1 x.2.1 x.2.2).2 xs
def loadR (n : Int) (l : List GF) : Int × Dk4 :=
 if n < 0 ∨ 67108864 < n then (1, newD n) else if 256 < l.length then (44, newD n) else loadLR (newD n) l
theorem idxI_at (l : List PF) (s : ByteArray) : (idxI l s = -1 ∧ atP l s = none) ∨ (0 ≤ idxI l s ∧ (atP l s).isSome = true) := by
 unfold idxI
 cases e : idxP l s with
 | none => exact .inl ⟨rfl, (idxP_none e).1⟩
 | some i =>
  obtain ⟨v, _, h, _⟩ := idxP_some e
  exact .inr ⟨by simp, by rw [h]; rfl⟩
theorem rAt_rd (h : RD w O rB r) (s : ByteArray) : Calls Try.prog 41 #[.pointer (some ⟨rB, 0, none⟩), .string s] w fun e w' => e = .returned (.int .i64 (idxI r.fs s)) ∧ w' = w := by
 obtain ⟨_, a, n, k, l, hm, hl⟩ := h
 have := rAt_any hm s
 rw [hl] at this
 exact this
theorem rUsed_rd (h : RD w O rB r) : Calls Try.prog 36 #[.pointer (some ⟨rB, 0, none⟩)] w fun e w' => e = .returned (.int .i64 (totP r.fs : Int)) ∧ w' = w := by
 obtain ⟨⟨ok, _⟩, a, n, k, l, hm, hl⟩ := h
 have := rUsed_any hm (by rw [hl]; have := ok.tot; have := ok.cap1; omega)
 rw [hl] at this
 exact this
theorem RDM.more {a : Option Addr} {n k : Nat} {l : List (PF × Value)} {cap arm : Int} {off : Bool} {c : Nat → Int} (h : RDM w O rB a n k l cap off arm c) (q : ∀ i, O i → O' i) (lt' : ∀ i, O' i → i < w.heap.size) : RDM w O' rB a n k l cap off arm c :=
 ⟨h.box, h.row, fun g hg => q g (h.rowO g hg), fun x hx => (h.dat x hx).kept (fun g hg => ⟨rfl, q g ((h.dat x hx).blk g hg)⟩), h.nod, q _ h.orb, lt'⟩
theorem takeR_ok {s : ByteArray} {bs : List Nat} {y : Int} (ok : r.Ok) (srt : Srt r.fs) (hc : r.fs.length < 256) (h : (takeR r s bs y).1 = 0) :
  (takeR r s bs y).2 = ⟨insP r.fs (s, bs, y.toNat), r.cap, r.arm, r.down, r.c⟩ ∧ (takeR r s bs y).2.Ok ∧ Srt (takeR r s bs y).2.fs ∧ (takeR r s bs y).2.fs.length = r.fs.length + 1 := by
 unfold takeR at h ⊢
 split at h
 ·cases h
 ·split at h
  ·cases h
  ·split at h
   ·cases h
   ·split at h
    ·cases h
    ·rename_i h1 h2 h3 h4
     rw [if_neg h1, if_neg h2, if_neg h3, if_neg h4]
     have hn : atP r.fs s = none := by simpa using h2
     have hs : DkName s := Classical.not_not.1 h1
     have f := ok_ins (f := (s, bs, y.toNat)) ok (fsOk_take ok hs hn hc h3 h4) hn
     refine ⟨rfl, ok.mk2 f ok.arm0 ok.arm1 r.down r.c, insP_srt srt (fun p hp => atP_none hn p hp), ?_⟩
     have := (insP_perm (s, bs, y.toNat) r.fs).length_eq
     simpa using this
theorem rPut_rd (h : RD w O rB r) {s : ByteArray} {va : Option Addr} {vn vk y : Nat} {bs : List Nat} {Ov : Nat → Prop} (hv : OwnO w Ov (.slice va vn vk) bs) (hap : ∀ i, Ov i → ¬ O i) (hlt : ∀ i, Ov i → i < w.heap.size) {r2 : Dk4} (e2 : r2 = ⟨insP r.fs (s, bs, y), r.cap, r.arm, r.down, r.c⟩) (ok2 : r2.Ok) (srt2 : Srt r2.fs) :
  Calls Try.prog 42 #[.pointer (some ⟨rB, 0, none⟩), .agg #[.string s, .slice va vn vk, .int .i64 (y : Int)]] w fun e w' => e = .returned (.tuple #[]) ∧ ∃ O2, RD w' O2 rB r2 ∧ Go4 w w' (fun i => O i ∨ Ov i) O2 := by
 obtain ⟨⟨ok, srt⟩, a, n, k, l, hm, hl⟩ := h
 have hn : n = r.fs.length := by rw [← hl, List.length_map]; exact hm.row.len
 have hm2 := hm.more (O' := fun i => O i ∨ Ov i) (fun i hi => .inl hi) (fun i hi => hi.elim (hm.lt i) (hlt i))
 refine (rPut_any hm2 (by have := ok.cnt; omega) (s := s) (y := y) (hv.kept (fun g hg => ⟨rfl, .inr (hv.blk g hg)⟩)) (fun x hx g hg e => hap g (hv.blk g e) ((hm.dat x hx).blk g hg))).mono ?_
 rintro e w1 ⟨he, O2, a2, n2, k2, l2, h2, e3, g4⟩
 subst e2
 exact ⟨he, O2, ⟨⟨ok2, srt2⟩, a2, n2, k2, l2, h2, by rw [e3, hl]⟩, g4⟩
structure MadR (w X : World) (O : Nat → Prop) (rB : Nat) (r : Dk4) : Prop where
 dsk : RD X O rB r
 bel : Below w.heap.size w X
 own : ∀ i, O i → w.heap.size ≤ i
theorem MadR.later (h : MadR w X O rB r) (k : Below X.heap.size X w') : MadR w w' O rB r := ⟨h.dsk.below k, h.bel.trans (k.mono h.bel.size), h.own⟩
theorem MadR.go {O1 : Nat → Prop} {r2 : Dk4} (h : MadR w X O rB r) (k : RD w' O' rB r2) (g : Go4 X w' O1 O') (h1 : ∀ i, O1 i → w.heap.size ≤ i) : MadR w w' O' rB r2 := ⟨k, h.bel.trans (g.below h.bel.size h1), fun i hi => (g.new i hi).elim (h1 i) (fun q => Nat.le_trans h.bel.size q)⟩
def LoadR (w : World) (q : Int × Dk4) (e : Ending) (w' : World) : Prop :=
 ∃ p, e = .returned (.tuple #[p, .int .i64 q.1]) ∧ Below w.heap.size w w' ∧ (q.1 ≠ 0 → p = .pointer none) ∧ (q.1 = 0 → ∃ O rB, p = .pointer (some ⟨rB, 0, none⟩) ∧ MadR w w' O rB q.2)
theorem fb3 {fb : Nat} {x y z : Value} {ty : TypeId} (h : w.heap[fb]? = some (.cells #[x, y, z] ty (0, 0))) : w.cell? ⟨fb, 0, none⟩ = some x ∧ w.cell? ⟨fb, 1, none⟩ = some y ∧ w.cell? ⟨fb, 2, none⟩ = some z := by
 simp [World.cell?, h]
set_option maxRecDepth 100000 in
set_option maxHeartbeats 8000000 in
theorem rLoad_any {n : Int} {a : Option Addr} {m k : Nat} {l : List (GF × Value)} (hr : RdG4 w a k l) (hm : m = l.length) :
  Calls Try.prog 22 #[.int .i64 n, .slice a m k] w (LoadR w (loadR n (l.map (·.1)))) := by
 have hR : ∃ R, R = loadR n (l.map (·.1)) := ⟨_, rfl⟩
 obtain ⟨R, hR⟩ := hR
 rw [← hR]
 unfold loadR at hR
 by_cases hn : n < 0 ∨ 67108864 < n
 ·rw [if_pos hn] at hR
  subst hR
  have HC := Lib.hid (rNew_bad hn w)
  clear hn hr hm
  go_enter Try.func22, Try.ntmps22
  go_wp2_with fail
  refine HC.out.mono ?_
  rintro e w1 ⟨rfl, rfl⟩
  go_wp2
  go_ret2
  exact ⟨_, rfl, Below.refl _ _, fun _ => rfl, fun h => by cases h⟩
 ·rw [if_neg hn] at hR
  have HC := Lib.hid (rNew_any (n := n) (by omega) (by omega) w)
  have HNN := Lib.hid hn
  have HR := Lib.hid hR
  have HRD := Lib.hid hr
  have HM := Lib.hid hm
  have hmx : m ≤ 9223372036854775807 := by have := hr.cap; unfold maxLen at this; omega
  rw [List.length_map, ← hm] at HR
  clear hn hR hr hm
  by_cases h256 : 256 < m
  ·have i1 : (256 : Int) < (m : Int) := by omega
   have hRR : R = (44, newD n) := by rw [HR.out, if_pos h256]
   subst hRR
   clear h256
   go_enter Try.func22, Try.ntmps22
   go_wp2_with fail
   refine HC.out.mono ?_
   rintro e w1 ⟨O1, rB, rfl, d1, b1, o1⟩
   go_wp2
   go_ret2
   exact ⟨_, rfl, b1, fun _ => rfl, fun h => by cases h⟩
  ·have i1 : ¬ (256 : Int) < (m : Int) := by omega
   have hRR : R = loadLR (newD n) (l.map (·.1)) := by rw [HR.out, if_neg h256]
   have HRR := Lib.hid hRR
   have H256 := Lib.hid h256
   clear h256 hRR HR
   go_enter Try.func22, Try.ntmps22
   go_wp2_with fail
   refine HC.out.mono ?_
   rintro e w1 ⟨O1, rB, rfl, d1, b1, o1⟩
   have M1 := Lib.hid (show MadR w w1 O1 rB (newD n) from ⟨d1, b1, o1⟩)
   clear d1 b1 o1 HC
   go_wp2_with fail
   go_loopw [8, 9, 10] (fun i _ _ wr => ∃ (t : Nat) (O : Nat → Prop) (r : Dk4), t ≤ m ∧ i = .int .i64 (t : Int) ∧ MadR w wr O rB r ∧ R = loadLR r ((l.map (·.1)).drop t) ∧ r.fs.length = t ∧ r.cap = n) (fun i _ _ _ => m - (intOf i).toNat)
   case atStart => exact ⟨0, O1, _, by omega, rfl, M1.out, by rw [List.drop_zero]; exact HRR.out, rfl, rfl⟩
   case round =>
    obtain ⟨t, O, r, ht, rfl, hmad, hRt, hln, hcap⟩ := hrel
    have HT := Lib.hid (And.intro hmad (And.intro hRt (And.intro hln hcap)))
    clear hmad hRt hln hcap
    by_cases hlt : t < m
    ·have j1 : (t : Int) < (m : Int) := by omega
     have j2 : (0 : Int) ≤ (t : Int) := by omega
     have hx : ∃ x, l[t]? = some x := ⟨_, List.getElem?_eq_getElem (by rw [← HM.out]; exact hlt)⟩
     obtain ⟨x, hx⟩ := hx
     have hcx := HRD.out.cel t x hx
     obtain ⟨g, off, hag, hcx⟩ := hcx
     subst hag
     have hdx := HRD.out.dat x (List.mem_of_getElem? hx)
     obtain ⟨ap, cp, hvx, hrx⟩ := hdx
     have HBY := Lib.hid (hrx.1)
     have lg := World.block_lt_of_cell? _ _ hcx.1
     simp only at lg
     have hY : ∃ Y, Y = x.1.2.2 := ⟨_, rfl⟩
     obtain ⟨Y, hY⟩ := hY
     have hRx : R = if (takeR r x.1.1 x.1.2.1 Y).1 ≠ 0 then takeR r x.1.1 x.1.2.1 Y else loadLR (takeR r x.1.1 x.1.2.1 Y).2 ((l.map (·.1)).drop (t + 1)) := by
      rw [HT.out.2.1]
      have hd : (l.map (·.1)).drop t = x.1 :: (l.map (·.1)).drop (t + 1) := by
       have : (l.map (·.1))[t]? = some x.1 := by rw [List.getElem?_map, hx]; rfl
       obtain ⟨h1, h2⟩ := List.getElem?_eq_some_iff.1 this
       rw [List.drop_eq_getElem_cons h1, h2]
      rw [hd, loadLR, hY]
     have hnb : ∃ nb, nb = x.1.2.1.length := ⟨_, rfl⟩
     obtain ⟨nb, hnb⟩ := hnb
     rw [← hnb] at hvx
     rw [hvx] at hcx hrx
     rw [← hY] at hcx
     have HRX := Lib.hid hRx
     have HNB := Lib.hid hnb
     have HRX2 := Lib.hid hrx
     have hnbx : nb ≤ 281474976710656 := by
      obtain ⟨_, _, _, _, _, _, e5, _⟩ := hrx
      rw [hnb]
      exact e5
     have hbn : totP r.fs ≤ 67108864 ∧ nb ≤ 281474976710656 := ⟨by have h1 := HT.out.1.dsk.1.1.tot; have h2 := HT.out.1.dsk.1.1.cap1; omega, hnbx⟩
     have HBN := Lib.hid hbn
     have htk := fun h => takeR_ok (s := x.1.1) (bs := x.1.2.1) (y := Y) HT.out.1.dsk.1.1 HT.out.1.dsk.1.2 (by rw [HT.out.2.2.1]; have := H256.out; omega) h
     have HTK := Lib.hid htk
     have q0 := (HT.out.1.bel.cell (p := ⟨g, off + t * 3, none⟩) lg).trans hcx.1
     have q1 := (HT.out.1.bel.cell (p := ⟨g, off + t * 3 + 1, none⟩) lg).trans hcx.2.1
     have q2 := (HT.out.1.bel.cell (p := ⟨g, off + t * 3 + 2, none⟩) lg).trans hcx.2.2
     clear hcx hx hrx hvx hRx hnb hbn hnbx htk hY
     have bZ : Below wr.heap.size wr (wr.alloc (.cells #[.string x.1.1, .slice ap nb cp, .int .i64 Y] 60)) := (Below.refl _ _).alloc (Nat.le_refl _) _
     have cZ : (wr.alloc (.cells #[.string x.1.1, .slice ap nb cp, .int .i64 Y] 60)).heap[wr.heap.size]? = some (.cells #[.string x.1.1, .slice ap nb cp, .int .i64 Y] 60) := heap_alloc_new _ _
     have lZ : wr.heap.size < (wr.alloc (.cells #[.string x.1.1, .slice ap nb cp, .int .i64 Y] 60)).heap.size := (Array.getElem?_eq_some_iff.1 cZ).1
     have nO : ¬ O wr.heap.size := fun ho => Nat.lt_irrefl _ (HT.out.1.dsk.lt _ ho)
     obtain ⟨Z, hZ⟩ : ∃ Z, Z = wr.alloc (.cells #[.string x.1.1, .slice ap nb cp, .int .i64 Y] 60) := ⟨_, rfl⟩
     go_upto_region 10 with fail
     rw [← hZ] at bZ cZ lZ ⊢
     have u0 : Z.cell? ⟨wr.heap.size, 0, none⟩ = some (.string x.1.1) := by simp [World.cell?, cZ]
     have u1 : Z.cell? ⟨wr.heap.size, 1, none⟩ = some (.slice ap nb cp) := by simp [World.cell?, cZ]
     have u2 : Z.cell? ⟨wr.heap.size, 2, none⟩ = some (.int .i64 Y) := by simp [World.cell?, cZ]
     have MZ := Lib.hid (HT.out.1.later bZ)
     have HCZ := Lib.hid (And.intro lZ cZ)
     have HWB := Lib.hid nO
     obtain ⟨wb, hwb⟩ : ∃ wb, wb = wr.heap.size := ⟨_, rfl⟩
     rw [← hwb] at u0 u1 u2 HCZ HWB ⊢
     clear hZ bZ cZ lZ nO hwb q0 q1 q2
     go_wp2_with fail
     refine (refName_any x.1.1 Z).mono ?_
     rintro e Z1 ⟨rfl, hz1⟩
     rw [hz1]
     clear hz1 Z1
     by_cases hnm : DkName x.1.1
     ·rw [decide_eq_true hnm]
      go_wp2_with fail
      refine (rAt_rd MZ.out.dsk x.1.1).mono ?_
      rintro e Z1 ⟨rfl, hz1⟩
      rw [hz1]
      clear hz1 Z1
      rcases idxI_at r.fs x.1.1 with ⟨hi, hat⟩ | ⟨hi, hat⟩
      ·rw [hi]
       have HAT := Lib.hid hat
       clear hi hat
       by_cases y0 : Y < 0
       ·have hRX := HRX.out
        have htk : takeR r x.1.1 x.1.2.1 Y = (43, r) := by
         unfold takeR
         rw [if_neg (not_not_intro hnm), if_neg (by rw [HAT.out]; decide), if_pos (.inl y0)]
        rw [htk, if_pos (by simp)] at hRX
        subst hRX
        clear htk
        go_wp2
        go_ret2
        exact ⟨_, rfl, MZ.out.bel, fun _ => rfl, fun h => by cases h⟩
       ·by_cases y1 : (nb : Int) < Y
        ·have hRX := HRX.out
         have htk : takeR r x.1.1 x.1.2.1 Y = (43, r) := by
          unfold takeR
          rw [if_neg (not_not_intro hnm), if_neg (by rw [HAT.out]; decide), if_pos (.inr (by rw [← HNB.out]; exact y1))]
         rw [htk, if_pos (by simp)] at hRX
         subst hRX
         clear htk
         go_wp2
         go_ret2
         exact ⟨_, rfl, MZ.out.bel, fun _ => rfl, fun h => by cases h⟩
        ·have HY := Lib.hid (And.intro y0 y1)
         go_upto_region 17 with fail
         have BD : Below Z.heap.size Z Z.drew := (Below.refl _ _).drew
         refine wp_region_noPanic ?_
         refine wp_region_anyE (S := fun wx => wx.heap[wb]? = some (.cells #[.string x.1.1, .slice ap nb cp, .int .i64 Y] 60 (0, 0))) (E := fun j => true) (by kernel_rfl) ?_
         have hHeld : Z.drew.heap[wb]? = some (.cells #[.string x.1.1, .slice ap nb cp, .int .i64 Y] 60 (0, 0)) := (BD.block wb HCZ.out.1).trans HCZ.out.2
         have HB := Lib.hid BD
         have hZ0 : ∃ z, z = Z.drew := ⟨_, rfl⟩
         obtain ⟨Z0, hZ0⟩ := hZ0
         rw [← hZ0] at HB hHeld ⊢
         clear hZ0 BD
         refine AnyE.take (i := 0) (.pointer (some ⟨rB, 0, none⟩)) rfl (by kernel_rfl) (by kernel_rfl) (by kernel_rfl) (by kernel_rfl) (fun _ _ _ h => h) (.inl ⟨by kernel_rfl, fun wy hy => by (go_simp; done)⟩) hHeld ?_
         try simp only [Act.put, List.setIfInBounds_toArray, List.set_cons_zero, List.set_cons_succ]
         refine AnyE.take (i := 2) (.pointer (some ⟨wb, 1, none⟩)) rfl (by kernel_rfl) (by kernel_rfl) (by kernel_rfl) (by kernel_rfl) (fun _ _ _ h => h) (.inl ⟨by kernel_rfl, fun wy hy => by (go_simp; done)⟩) hHeld ?_
         try simp only [Act.put, List.setIfInBounds_toArray, List.set_cons_zero, List.set_cons_succ]
         refine AnyE.take (i := 3) (.slice ap nb cp) rfl (by kernel_rfl) (by kernel_rfl) (by kernel_rfl) (by kernel_rfl) (fun _ _ _ h => h) (.inl ⟨by kernel_rfl, fun wy hy => by (have q0 := (fb3 hy).2.1; go_simp; done)⟩) hHeld ?_
         try simp only [Act.put, List.setIfInBounds_toArray, List.set_cons_zero, List.set_cons_succ]
         refine AnyE.take (i := 4) (.int .i64 (nb : Int)) rfl (by kernel_rfl) (by kernel_rfl) (by kernel_rfl) (by kernel_rfl) (fun _ _ _ h => h) (.inl ⟨by kernel_rfl, fun wy hy => by (cases ap <;> go_simp; done)⟩) hHeld ?_
         try simp only [Act.put, List.setIfInBounds_toArray, List.set_cons_zero, List.set_cons_succ]
         refine AnyE.take (i := 6) (.int .i64 n) rfl (by kernel_rfl) (by kernel_rfl) (by kernel_rfl) (by kernel_rfl) (fun _ _ _ h => h) (.inl ⟨by kernel_rfl, fun wy hy => by (go_simp; done)⟩) hHeld ?_
         try simp only [Act.put, List.setIfInBounds_toArray, List.set_cons_zero, List.set_cons_succ]
         refine AnyE.one (i := 1) rfl (by kernel_rfl) (by kernel_rfl) (fun KK hK => ?_)
         go_simp
         go_at_call 36
         refine (rUsed_rd (MZ.out.later HB.out).dsk).mono ?_
         rintro e9 Z1 ⟨rfl, hz1⟩
         rw [hz1] at *
         clear hz1
         go_wp2_with fail
         refine hK.out _ _ ⟨fun _ => hHeld, ?_⟩
         clear hK
         try simp only [Act.put, List.setIfInBounds_toArray, List.set_cons_zero, List.set_cons_succ]
         refine AnyE.take (i := 5) (.int .i64 ((totP r.fs : Int) + (nb : Int))) rfl (by kernel_rfl) (by kernel_rfl) (by kernel_rfl) (by kernel_rfl) (fun _ _ _ h => h) (.inl ⟨by kernel_rfl, fun wy hy => by (go_simp; exact IntWalk.i64_in _ ⟨by have := HBN.out; omega, by have := HBN.out; omega⟩)⟩) hHeld ?_
         try simp only [Act.put, List.setIfInBounds_toArray, List.set_cons_zero, List.set_cons_succ]
         refine AnyE.one (i := 7) rfl (by kernel_rfl) (by kernel_rfl) (fun KK hK => ?_)
         go_simp
         refine hK.out _ _ ⟨fun _ => hHeld, ?_⟩
         clear hK
         try simp only [Act.put, List.setIfInBounds_toArray, List.set_cons_zero, List.set_cons_succ]
         refine AnyE.done (by kernel_rfl) (NoPanic.normal ?_) _
         clear hHeld
         have MZ0 := Lib.hid (MZ.out.later HB.out)
         have hcz0 : wb < Z0.heap.size ∧ Z0.heap[wb]? = some (.cells #[.string x.1.1, .slice ap nb cp, .int .i64 Y] 60 (0, 0)) := ⟨Nat.lt_of_lt_of_le HCZ.out.1 HB.out.size, (HB.out.block wb HCZ.out.1).trans HCZ.out.2⟩
         have HCZ0 := Lib.hid hcz0
         clear HCZ MZ HB hcz0
         have HCZ := HCZ0
         have MZ := MZ0
         clear HCZ0 MZ0
         obtain ⟨Z9, hZ9⟩ : ∃ z, z = Z0 := ⟨_, rfl⟩
         rw [← hZ9] at HCZ MZ ⊢
         clear hZ9
         go_simp
         go_step
         by_cases hfull : n < (totP r.fs : Int) + (nb : Int)
         ·have hRX := HRX.out
          have htk : takeR r x.1.1 x.1.2.1 Y = (4, r) := by
           unfold takeR
           rw [if_neg (not_not_intro hnm), if_neg (by rw [HAT.out]; decide), if_neg (by rw [← HNB.out]; have := HY.out; omega), if_pos (by rw [← HNB.out, HT.out.2.2.2]; omega)]
          rw [htk, if_pos (by simp)] at hRX
          subst hRX
          clear htk
          go_wp2
          go_ret2
          exact ⟨_, rfl, MZ.out.bel, fun _ => rfl, fun h => by cases h⟩
         ·have hto := HTK.out (by unfold takeR; rw [if_neg (not_not_intro hnm), if_neg (by rw [HAT.out]; decide), if_neg (by rw [← HNB.out]; have := HY.out; omega), if_neg (by rw [← HNB.out, HT.out.2.2.2]; omega)])
          have hRX := HRX.out
          have htk0 : (takeR r x.1.1 x.1.2.1 Y).1 = 0 := by unfold takeR; rw [if_neg (not_not_intro hnm), if_neg (by rw [HAT.out]; decide), if_neg (by rw [← HNB.out]; have := HY.out; omega), if_neg (by rw [← HNB.out, HT.out.2.2.2]; omega)]
          rw [htk0, if_neg (by simp)] at hRX
          obtain ⟨R2, hR2⟩ : ∃ R2, R2 = (takeR r x.1.1 x.1.2.1 Y).2 := ⟨_, rfl⟩
          rw [← hR2] at hto hRX
          have HTO := Lib.hid hto
          have HRY := Lib.hid hRX
          have hyn : ∃ yn : Nat, Y = (yn : Int) := ⟨Y.toNat, by have := HY.out; omega⟩
          obtain ⟨yn, hyn⟩ := hyn
          clear hto hRX htk0 hR2 HTK HRX
          subst hyn
          have hto := HTO.out
          rw [Int.toNat_natCast] at hto
          have HTN := Lib.hid hto
          clear hto HTO
          go_upto_region 19 with fail
          have BD : Below Z9.heap.size Z9 Z9.drew := (Below.refl _ _).drew
          refine wp_region_noPanic ?_
          refine wp_region_anyE (S := fun wx => wx.heap[wb]? = some (.cells #[.string x.1.1, .slice ap nb cp, .int .i64 (yn : Int)] 60 (0, 0))) (E := fun j => true) (by kernel_rfl) ?_
          have hHeld : Z9.drew.heap[wb]? = some (.cells #[.string x.1.1, .slice ap nb cp, .int .i64 (yn : Int)] 60 (0, 0)) := (BD.block wb HCZ.out.1).trans HCZ.out.2
          have HB := Lib.hid BD
          have hZ8 : ∃ z, z = Z9.drew := ⟨_, rfl⟩
          obtain ⟨Z8, hZ8⟩ := hZ8
          rw [← hZ8] at HB hHeld ⊢
          clear hZ8 BD
          refine AnyE.take (i := 0) (.pointer (some ⟨rB, 0, none⟩)) rfl (by kernel_rfl) (by kernel_rfl) (by kernel_rfl) (by kernel_rfl) (fun _ _ _ h => h) (.inl ⟨by kernel_rfl, fun wy hy => by (go_simp; done)⟩) hHeld ?_
          try simp only [Act.put, List.setIfInBounds_toArray, List.set_cons_zero, List.set_cons_succ]
          refine AnyE.take (i := 1) (.pointer (some ⟨wb, 0, none⟩)) rfl (by kernel_rfl) (by kernel_rfl) (by kernel_rfl) (by kernel_rfl) (fun _ _ _ h => h) (.inl ⟨by kernel_rfl, fun wy hy => by (go_simp; done)⟩) hHeld ?_
          try simp only [Act.put, List.setIfInBounds_toArray, List.set_cons_zero, List.set_cons_succ]
          refine AnyE.take (i := 2) (.string x.1.1) rfl (by kernel_rfl) (by kernel_rfl) (by kernel_rfl) (by kernel_rfl) (fun _ _ _ h => h) (.inl ⟨by kernel_rfl, fun wy hy => by (have q0 := (fb3 hy).1; go_simp; done)⟩) hHeld ?_
          try simp only [Act.put, List.setIfInBounds_toArray, List.set_cons_zero, List.set_cons_succ]
          refine AnyE.take (i := 3) (.pointer (some ⟨wb, 1, none⟩)) rfl (by kernel_rfl) (by kernel_rfl) (by kernel_rfl) (by kernel_rfl) (fun _ _ _ h => h) (.inl ⟨by kernel_rfl, fun wy hy => by (go_simp; done)⟩) hHeld ?_
          try simp only [Act.put, List.setIfInBounds_toArray, List.set_cons_zero, List.set_cons_succ]
          refine AnyE.take (i := 4) (.slice ap nb cp) rfl (by kernel_rfl) (by kernel_rfl) (by kernel_rfl) (by kernel_rfl) (fun _ _ _ h => h) (.inl ⟨by kernel_rfl, fun wy hy => by (have q0 := (fb3 hy).2.1; go_simp; done)⟩) hHeld ?_
          try simp only [Act.put, List.setIfInBounds_toArray, List.set_cons_zero, List.set_cons_succ]
          refine AnyE.take (i := 6) (.pointer (some ⟨wb, 2, none⟩)) rfl (by kernel_rfl) (by kernel_rfl) (by kernel_rfl) (by kernel_rfl) (fun _ _ _ h => h) (.inl ⟨by kernel_rfl, fun wy hy => by (go_simp; done)⟩) hHeld ?_
          try simp only [Act.put, List.setIfInBounds_toArray, List.set_cons_zero, List.set_cons_succ]
          refine AnyE.take (i := 7) (.int .i64 (yn : Int)) rfl (by kernel_rfl) (by kernel_rfl) (by kernel_rfl) (by kernel_rfl) (fun _ _ _ h => h) (.inl ⟨by kernel_rfl, fun wy hy => by (have q0 := (fb3 hy).2.2; go_simp; done)⟩) hHeld ?_
          try simp only [Act.put, List.setIfInBounds_toArray, List.set_cons_zero, List.set_cons_succ]
          refine AnyE.one (i := 5) rfl (by kernel_rfl) (by kernel_rfl) (fun KK hK => ?_)
          go_simp
          go_at_call 35
          refine (rCopied_any ((HRX2.out.later MZ.out.bel).later HB.out) (by rw [← HNB.out]; have := HNN.out; omega)).mono ?_
          rintro e9 Z6 ⟨ca, cc, rfl, hca, b6⟩
          rw [← HNB.out] at hca ⊢
          have ho : OwnO Z6 (fun i => Z8.heap.size ≤ i ∧ i < Z6.heap.size) (.slice ca nb cc) x.1.2.1 := by
           rw [HNB.out] at hca ⊢
           exact OwnO.of_row hca HBY.out
          have hHeld0 := hHeld
          have hHeld : Z6.heap[wb]? = some (.cells #[.string x.1.1, .slice ap nb cp, .int .i64 (yn : Int)] 60 (0, 0)) := (b6.block wb (by have := HB.out.size; have := HCZ.out.1; omega)).trans hHeld0
          have HOC := Lib.hid ho
          have HB6 := Lib.hid b6
          clear ho b6 hHeld0 hca
          go_wp2_with fail
          refine hK.out _ _ ⟨fun _ => hHeld, ?_⟩
          clear hK
          try simp only [Act.put, List.setIfInBounds_toArray, List.set_cons_zero, List.set_cons_succ]
          refine AnyE.one (i := 8) rfl (by kernel_rfl) (by kernel_rfl) (fun KK hK => ?_)
          go_simp
          refine hK.out _ _ ⟨fun _ => hHeld, ?_⟩
          clear hK
          try simp only [Act.put, List.setIfInBounds_toArray, List.set_cons_zero, List.set_cons_succ]
          refine AnyE.one (i := 9) rfl (by kernel_rfl) (by kernel_rfl) (fun KK hK => ?_)
          go_simp
          go_at_call 42
          refine (rPut_rd (MZ.out.later HB.out |>.later HB6.out).dsk (s := x.1.1) (y := yn) HOC.out (fun i hi ho => by have := (MZ.out.later HB.out).dsk.lt i ho; omega) (fun i hi => hi.2) HTN.out.1 HTN.out.2.1 HTN.out.2.2.1).mono ?_
          rintro e9 Z7 ⟨rfl, O7, hrd7, g7⟩
          have hHeld7 : Z7.heap[wb]? = some (.cells #[.string x.1.1, .slice ap nb cp, .int .i64 (yn : Int)] 60 (0, 0)) := (g7.block wb (by have := HB.out.size; have := HB6.out.size; have := HCZ.out.1; omega) (fun hi => by
           have := HB.out.size
           have := HCZ.out.1
           rcases hi with hi | hi
           ·exact HWB.out hi
           ·omega)).trans hHeld
          have M7 := Lib.hid ((MZ.out.later HB.out |>.later HB6.out).go hrd7 g7 (fun i hi => by
           rcases hi with hi | hi
           ·exact MZ.out.own i hi
           ·have := (MZ.out.later HB.out).bel.size
            omega))
          clear hrd7 g7
          go_wp2_with fail
          refine hK.out _ _ ⟨fun _ => hHeld7, ?_⟩
          clear hK
          try simp only [Act.put, List.setIfInBounds_toArray, List.set_cons_zero, List.set_cons_succ]
          refine AnyE.done (by kernel_rfl) (NoPanic.normal ?_) _
          clear hHeld7 hHeld
          go_simp
          go_step
          go_wp2
          go_roundw
          case rel => exact ⟨t + 1, O7, R2, by omega, by go_num, M7.out, HRY.out, by rw [HTN.out.2.2.2]; have := HT.out.2.2.1; omega, by rw [HTN.out.1]; exact HT.out.2.2.2⟩
          case measure => simp [intOf]; omega
      ·have hRX := HRX.out
       have htk : takeR r x.1.1 x.1.2.1 Y = (41, r) := by
        unfold takeR
        rw [if_neg (not_not_intro hnm), if_pos hat]
       rw [htk, if_pos (by simp)] at hRX
       subst hRX
       clear htk
       go_wp2
       go_ret2
       exact ⟨_, rfl, MZ.out.bel, fun _ => rfl, fun h => by cases h⟩
     ·rw [decide_eq_false hnm]
      have hRX := HRX.out
      have htk : takeR r x.1.1 x.1.2.1 Y = (40, r) := by
       unfold takeR
       rw [if_pos hnm]
      rw [htk, if_pos (by simp)] at hRX
      subst hRX
      clear htk
      go_wp2
      go_ret2
      exact ⟨_, rfl, MZ.out.bel, fun _ => rfl, fun h => by cases h⟩
    ·have j1 : (m : Int) ≤ (t : Int) := by omega
     have hRt := HT.out.2.1
     rw [List.drop_eq_nil_of_le (by rw [List.length_map, ← HM.out]; omega), loadLR] at hRt
     subst hRt
     go_wp2
     go_ret2
     exact ⟨_, rfl, HT.out.1.bel, fun h => absurd rfl h, fun _ => ⟨O, rB, rfl, HT.out.1⟩⟩
end Go.Proofs.Ytlkhphhmhffdjaa

namespace Go.Proofs.Ytlkhphhmhffdjaa
open Go.RowKit Go.MapKept Go.Sort
variable {w w' W X : World} {O O' : Nat → Prop} {dB : Nat} {d : Dk4}
set_option maxRecDepth 100000 in
set_option maxHeartbeats 4000000 in
theorem size4_any {s : ByteArray} (hD : Dsk w O dB d) : Calls Try.prog 69 #[.pointer (some ⟨dB, 0, none⟩), .string s] w fun e w' => e = .returned (.tuple #[.int .i64 (szR4 d s).1, .int .i64 (szR4 d s).2]) ∧ Below w.heap.size w w' := by
 have HD := Lib.hid hD
 obtain ⟨ok, mb, fl, hM, hfl⟩ := hD
 obtain ⟨es, clock, hm⟩ := hM.map
 obtain ⟨R, hR⟩ : ∃ R, R = szR4 d s := ⟨_, rfl⟩
 rw [← hR]
 unfold szR4 at hR
 have HRC := Lib.hid (reach_any hM.box hm s)
 obtain ⟨rp, hrp⟩ : ∃ rp, rp = ptrO (reaN d.down (fl.map fun f => (f.nm, f.b)) s).1 := ⟨_, rfl⟩
 obtain ⟨rc, hrc⟩ : ∃ rc, rc = (reaN d.down (fl.map fun f => (f.nm, f.b)) s).2 := ⟨_, rfl⟩
 rw [← hrp, ← hrc] at HRC
 have hrc2 : rc = reaE d s := hrc.trans (reaN_eq hfl)
 rw [← hrc2] at hR
 have HRR := Lib.hid hR
 have HRP := Lib.hid (And.intro hrp hrc2)
 have HM := Lib.hid (And.intro hM (And.intro ok hfl))
 clear hrp hrc hrc2 hm hM hfl ok hR
 go_enter Try.func69, Try.ntmps69
 go_wp2_with fail
 refine HRC.out.mono ?_
 rintro e w2 ⟨rfl, b2⟩
 have HB2 := Lib.hid b2
 clear b2 HRC
 by_cases h0 : rc = 0
 ·have hR := HRR.out
  rw [if_neg (by simp [h0])] at hR
  obtain ⟨hr, f, hf, hp, ha⟩ := reaN_ok (s := s) HM.out.2.2 (HRP.out.2.symm.trans h0)
  rw [ha] at hR
  simp only [Option.getD_some] at hR
  have hrp : rp = .pointer (some ⟨f.b, 0, none⟩) := by rw [HRP.out.1]; unfold ptrO; exact congrArg (fun o => Value.pointer (Option.map (fun b => (⟨b, 0, none⟩ : Addr)) o)) hp
  subst hrp
  have M2 := HM.out.1.below HB2.out
  have hfil := M2.fil f (atF_mem hf).1
  obtain ⟨a, c, hv⟩ := hfil.2.1.form
  have bx0 := hfil.1
  rw [hv] at bx0
  obtain ⟨n, hn⟩ : ∃ n, n = f.dat.length := ⟨_, rfl⟩
  rw [← hn] at bx0 hR hv
  have c0 := bx0.cells.1
  clear hfil hv hn hf hp ha M2 hr HRP HRR bx0
  subst h0
  subst hR
  go_wp2
  go_ret2
  exact ⟨rfl, HB2.out⟩
 ·have h0n : (rc != 0) = true := by simp [h0]
  have hR := HRR.out
  rw [if_pos h0] at hR
  subst hR
  go_wp2
  go_ret2
  exact ⟨rfl, HB2.out⟩
end Go.Proofs.Ytlkhphhmhffdjaa

namespace Go.Proofs.Ytlkhphhmhffdjaa
open Go.RowKit Go.MapKept Go.Sort
variable {d r : Dk4}
structure Lk (d r : Dk4) : Prop where
 fs : d.fs.Perm r.fs
 nod : (d.fs.map (·.1)).Nodup
 cap : d.cap = r.cap
 arm : d.arm = r.arm
 down : d.down = r.down
 c : d.c = r.c
theorem Lk.new (n : Int) : Lk (newD n) (newD n) := ⟨List.Perm.refl _, by simp [newD], rfl, rfl, rfl, rfl⟩
theorem Lk.rnod (h : Lk d r) : (r.fs.map (·.1)).Nodup := nod_perm h.fs h.nod
theorem Lk.at_ (h : Lk d r) (s : ByteArray) : atP d.fs s = atP r.fs s := atP_perm h.fs h.nod s
theorem Lk.files (h : Lk d r) (srt : Srt r.fs) : filesP d = r.fs := (filesP_srt h.nod).uniq srt ((filesP_perm h.nod).trans h.fs)
theorem Lk.actP {torn : Bool} {f g : List PF} {x : Nat → Int} (h : Lk d r) (p : f.Perm g) (hn : (f.map (·.1)).Nodup) : (actP d torn f x).1 = (actP r torn g x).1 ∧ Lk (actP d torn f x).2 (actP r torn g x).2 := by
 unfold Go.Proofs.Ytlkhphhmhffdjaa.actP
 rw [h.arm]
 split
 ·refine ⟨rfl, ?_⟩
  split
  ·exact ⟨p, hn, h.cap, rfl, rfl, rfl⟩
  ·exact ⟨h.fs, h.nod, h.cap, rfl, rfl, h.c⟩
 ·exact ⟨rfl, p, hn, h.cap, rfl, h.down, rfl⟩
theorem Lk.reaE (h : Lk d r) (s : ByteArray) : reaE d s = reaE r s := by
 unfold Go.Proofs.Ytlkhphhmhffdjaa.reaE
 rw [h.down, h.at_]
theorem ins_perm {f : PF} {l m : List PF} (p : l.Perm m) (hn : (l.map (·.1)).Nodup) (h : ∀ q ∈ m, q.1 ≠ f.1) : (setP l f).Perm (insP m f) :=
 ((setP_new (f := f) (fun q hq => h q (p.mem_iff.1 hq))) ▸ (List.perm_append_comm.trans (p.cons f))).trans (insP_perm f m).symm
theorem create_lk (h : Lk d r) (s : ByteArray) : (createD d s).1 = (createR r s).1 ∧ Lk (createD d s).2 (createR r s).2 := by
 unfold createD createR
 rw [h.down, h.at_, h.fs.length_eq, h.c]
 split
 ·exact ⟨rfl, h⟩
 ·split
  ·exact ⟨rfl, h⟩
  ·split
   ·exact ⟨rfl, h⟩
   ·rename_i h1 h2 h3
    exact h.actP (ins_perm h.fs h.nod (atP_none (by simpa using h2))) (setP_nod h.nod)
theorem append_lk (h : Lk d r) (s : ByteArray) (bs : List Nat) : (appendD d s bs).1 = (appendD r s bs).1 ∧ Lk (appendD d s bs).2 (appendD r s bs).2 := by
 unfold appendD
 rw [h.down, h.at_, totP_perm h.fs, h.cap, h.c]
 split
 ·exact ⟨rfl, h⟩
 ·split
  ·exact ⟨rfl, h⟩
  ·split
   ·exact ⟨rfl, h⟩
   ·split
    ·exact ⟨rfl, h⟩
    ·exact h.actP (setP_perm2 h.fs h.nod) (setP_nod h.nod)
theorem sync_lk (h : Lk d r) (s : ByteArray) : (syncD d s).1 = (syncD r s).1 ∧ Lk (syncD d s).2 (syncD r s).2 := by
 unfold syncD
 rw [h.reaE, h.at_, h.c]
 split
 ·exact ⟨rfl, h⟩
 ·exact h.actP (setP_perm2 h.fs h.nod) (setP_nod h.nod)
theorem delete_lk (h : Lk d r) (s : ByteArray) : (deleteD d s).1 = (deleteD r s).1 ∧ Lk (deleteD d s).2 (deleteD r s).2 := by
 unfold deleteD
 rw [h.reaE, h.c]
 split
 ·exact ⟨rfl, h⟩
 ·exact h.actP (delP_perm2 h.fs h.nod) (delP_nod h.nod)
theorem rename_lk (h : Lk d r) (s t : ByteArray) : (renameD d s t).1 = (renameR r s t).1 ∧ Lk (renameD d s t).2 (renameR r s t).2 := by
 unfold renameD renameR
 rw [h.down, h.at_, h.c]
 split
 ·exact ⟨rfl, h⟩
 ·cases hv : atP r.fs s with
  | none => exact ⟨rfl, h⟩
  | some v =>
   simp only
   refine h.actP ?_ (setP_nod (delP_nod h.nod))
   refine ((setP_perm (f := (t, v)) (delP_nod h.nod)).trans ?_).trans (insP_perm (t, v) _).symm
   refine List.Perm.cons _ ?_
   rw [← delP_filter (s := t) (delP_nod h.nod)]
   exact delP_perm2 (delP_perm2 h.fs h.nod) (delP_nod h.nod)
theorem arm_lk (h : Lk d r) (n : Int) : Lk (armD d n) (armD r n) := by
 unfold armD
 rw [h.down]
 split
 ·exact h
 ·exact ⟨h.fs, h.nod, h.cap, rfl, rfl, h.c⟩
theorem read_lk (h : Lk d r) (s : ByteArray) (x y : Int) : readD d s x y = readD r s x y := by
 unfold readD
 rw [h.reaE, h.at_]
theorem red_lk (h : Lk d r) (b : Bool) : Lk (d.red b) (r.red b) := by
 unfold Dk4.red
 split
 ·exact ⟨h.fs, h.nod, h.cap, h.arm, h.down, by rw [h.c]⟩
 ·exact h
theorem size_lk (h : Lk d r) (s : ByteArray) : szR4 d s = szR4 r s := by
 unfold szR4
 rw [h.reaE, h.at_]
theorem tot_lk (h : Lk d r) : totP d.fs = totP r.fs := totP_perm h.fs
theorem take_lk (h : Lk d r) (s : ByteArray) (bs : List Nat) (y : Int) : (takeD d s bs y).1 = (takeR r s bs y).1 ∧ Lk (takeD d s bs y).2 (takeR r s bs y).2 := by
 unfold takeD takeR
 rw [h.at_, h.cap, tot_lk h]
 split
 ·exact ⟨rfl, h⟩
 ·split
  ·exact ⟨rfl, h⟩
  ·split
   ·exact ⟨rfl, h⟩
   ·split
    ·exact ⟨rfl, h⟩
    ·rename_i h1 h2 h3 h4
     exact ⟨rfl, ins_perm h.fs h.nod (atP_none (by simpa using h2)), setP_nod h.nod, rfl, h.arm, h.down, h.c⟩
theorem loadL_lk : ∀ (l : List GF) (d r : Dk4), Lk d r → (loadL d l).1 = (loadLR r l).1 ∧ Lk (loadL d l).2 (loadLR r l).2
 | [], d, r, h => ⟨rfl, h⟩
 | x :: xs, d, r, h => by
  have t := take_lk h x.1 x.2.1 x.2.2
  rw [loadL, loadLR, ← t.1]
  split
  ·exact t
  ·exact loadL_lk xs _ _ t.2
theorem load_lk (n : Int) (l : List GF) : (loadD n l).1 = (loadR n l).1 ∧ Lk (loadD n l).2 (loadR n l).2 := by
 unfold loadD loadR
 split
 ·exact ⟨rfl, Lk.new n⟩
 ·split
  ·exact ⟨rfl, Lk.new n⟩
  ·exact loadL_lk l _ _ (Lk.new n)
theorem perm_at {l m : List PF} (hn : (l.map (·.1)).Nodup) (pn : (l.map (·.1)).Perm (m.map (·.1))) (h : ∀ p ∈ m, atP l p.1 = some p.2) : l.Perm m := by
 have e1 : (l.map (·.1)).map (fun s => ((s, (atP l s).getD ([], 0)) : PF)) = l := by
  rw [List.map_map]
  conv => rhs; rw [← List.map_id l]
  refine List.map_congr_left (fun x hx => ?_)
  simp only [Function.comp, id]
  rw [atP_of_mem hn (show (x.1, x.2) ∈ l from hx)]
  rfl
 have e2 : (m.map (·.1)).map (fun s => ((s, (atP l s).getD ([], 0)) : PF)) = m := by
  rw [List.map_map]
  conv => rhs; rw [← List.map_id m]
  refine List.map_congr_left (fun x hx => ?_)
  simp only [Function.comp, id]
  rw [h x hx]
  rfl
 have := pn.map (fun s => ((s, (atP l s).getD ([], 0)) : PF))
 rw [e1, e2] at this
 exact this
theorem crash_both (cuts : List Int) : ∀ (ps : List PF) (t : Nat) (fs : List PF), (ps.map (·.1)).Nodup → (∀ p ∈ ps, atP fs p.1 = some p.2) →
  (crashF cuts (ps.map (fun p => nmL p.1)) t fs).1 = (crashL cuts ps t).1 ∧ ∀ p ∈ (crashL cuts ps t).2, atP (crashF cuts (ps.map (fun p => nmL p.1)) t fs).2 p.1 = some p.2
 | [], t, fs, _, _ => ⟨rfl, fun p hp => by simp [crashL] at hp⟩
 | x :: xs, t, fs, hn, h => by
  have hx := h x (by simp)
  rw [List.map_cons, List.nodup_cons] at hn
  have hne : ∀ p ∈ xs, x.1 ≠ p.1 := fun p hp e => hn.1 (e ▸ List.mem_map_of_mem hp)
  have hne2 : ∀ y ∈ xs.map (fun p => nmL p.1), ofL y ≠ x.1 := fun y hy e => by
   obtain ⟨p, hp, rfl⟩ := List.mem_map.1 hy
   rw [ofL_nmL] at e
   exact hne p hp e.symm
  rw [List.map_cons, crashF, crashL]
  simp only [ofL_nmL, hx, Option.getD_some]
  by_cases e : x.2.2 = x.2.1.length
  ·rw [if_pos e, if_pos e]
   have ih := crash_both cuts xs t fs hn.2 (fun p hp => h p (by simp [hp]))
   refine ⟨ih.1, fun p hp => ?_⟩
   rcases List.mem_cons.1 hp with rfl | hp
   ·rw [crashF_other cuts _ t fs (fun y hy => by
     obtain ⟨p, hp, rfl⟩ := List.mem_map.1 hy
     rw [ofL_nmL]
     exact ⟨_, h p (by simp [hp])⟩) hne2]
    exact hx
   ·exact ih.2 p hp
  ·rw [if_neg e, if_neg e]
   have hex : ∃ v, atP fs (x.1, x.2.1.take (keepN x.2.2 x.2.1.length (cuts.getD t 0)), keepN x.2.2 x.2.1.length (cuts.getD t 0)).1 = some v := ⟨_, hx⟩
   have h1 : ∀ p ∈ xs, atP (setP fs (x.1, x.2.1.take (keepN x.2.2 x.2.1.length (cuts.getD t 0)), keepN x.2.2 x.2.1.length (cuts.getD t 0))) p.1 = some p.2 := fun p hp => by
    rw [atP_set_ne (f := (x.1, x.2.1.take (keepN x.2.2 x.2.1.length (cuts.getD t 0)), keepN x.2.2 x.2.1.length (cuts.getD t 0))) (hne p hp) fs hex]
    exact h p (by simp [hp])
   have ih := crash_both cuts xs (t + 1) _ hn.2 h1
   refine ⟨ih.1, fun p hp => ?_⟩
   rcases List.mem_cons.1 hp with rfl | hp
   ·rw [crashF_other cuts _ (t + 1) _ (fun y hy => by
     obtain ⟨p, hp, rfl⟩ := List.mem_map.1 hy
     rw [ofL_nmL]
     exact ⟨_, h1 p hp⟩) hne2]
    rw [atP_set_eq fs hex]
    unfold crash1
    rw [if_neg e]
   ·exact ih.2 p hp
theorem crash_lk (h : Lk d r) (srt : Srt r.fs) (cuts : List Int) : (crashD d cuts).1 = (crashR r cuts).1 ∧ Lk (crashD d cuts).2 (crashR r cuts).2 := by
 have e : lsP d.fs ⟨#[]⟩ = r.fs.map (fun p => nmL p.1) := by
  rw [← h.files srt]
  unfold filesP
  rw [List.map_map]
  conv => lhs; rw [← List.map_id (lsP d.fs ⟨#[]⟩)]
  refine List.map_congr_left (fun x _ => ?_)
  simp only [Function.comp, fileP, id, nmL_ofL]
 have hat : ∀ p ∈ r.fs, atP d.fs p.1 = some p.2 := fun p hp => by
  rw [h.at_]
  exact atP_of_mem h.rnod (show (p.1, p.2) ∈ r.fs from hp)
 have b := crash_both cuts r.fs 0 d.fs h.rnod hat
 have hnm := crashF_names cuts (r.fs.map (fun p => nmL p.1)) 0 d.fs (fun y hy => by
  obtain ⟨p, hp, rfl⟩ := List.mem_map.1 hy
  rw [ofL_nmL]
  exact ⟨_, hat p hp⟩)
 unfold crashD crashR
 rw [e]
 have hnd : ((crashF cuts (r.fs.map (fun p => nmL p.1)) 0 d.fs).2.map (·.1)).Nodup := by rw [hnm]; exact h.nod
 refine ⟨b.1, perm_at hnd ?_ b.2, hnd, h.cap, rfl, rfl, h.c⟩
 rw [hnm, crashL_names]
 exact h.fs.map _
end Go.Proofs.Ytlkhphhmhffdjaa

namespace Go.Proofs.Ytlkhphhmhffdjaa
open Go.RowKit Go.MapKept Go.Sort
variable {w w' W X : World} {O O' : Nat → Prop} {dB : Nat} {d r : Dk4}
theorem xor_bit4 (y q : Nat) (hyl : y < 256) : bits .xor .u8 (y : Int) (2 ^ (q % 8) % 256) = ((y ^^^ 2 ^ (q % 8) : Nat) : Int) := by
 have h2 : 2 ^ (q % 8) < 256 := Nat.lt_of_lt_of_le (Nat.pow_lt_pow_right (by omega) (show q % 8 < 8 by omega)) (by decide)
 have h3 : ((2 : Int) ^ (q % 8)) = ((2 ^ (q % 8) : Nat) : Int) := by simp
 rw [h3]
 generalize 2 ^ (q % 8) = t at h2
 rw [show (t : Int) % 256 = (t : Int) by omega]
 exact u8_xor_nat y _ hyl h2
theorem bit_lt (y j : Nat) (h : y < 256) : y ^^^ 2 ^ (j % 8) < 256 := Nat.xor_lt_two_pow (n := 8) h (Nat.lt_of_lt_of_le (Nat.pow_lt_pow_right (by omega) (show j % 8 < 8 by omega)) (by decide))
def flipB (bs : List Nat) (j : Nat) : List Nat := bs.set (j / 8) (bs.getD (j / 8) 0 ^^^ 2 ^ (j % 8))
def flipD (d : Dk4) (s : ByteArray) (x : Int) : Int × Dk4 :=
 if chkN [s] ≠ 0 then (chkN [s], d)
 else match atP d.fs s with
  | none => (42, d)
  | some v => if x < 0 ∨ (v.1.length : Int) ≤ x / 8 then (43, d) else (0, ⟨setP d.fs (s, flipB v.1 x.toNat, v.2), d.cap, d.arm, d.down, d.c⟩)
theorem flip_lk (h : Lk d r) (s : ByteArray) (x : Int) : (flipD d s x).1 = (flipD r s x).1 ∧ Lk (flipD d s x).2 (flipD r s x).2 := by
 unfold flipD
 rw [h.at_]
 split
 ·exact ⟨rfl, h⟩
 ·split
  ·exact ⟨rfl, h⟩
  ·split
   ·exact ⟨rfl, h⟩
   ·exact ⟨rfl, setP_perm2 h.fs h.nod, setP_nod h.nod, h.cap, h.arm, h.down, h.c⟩
theorem OwnO.setB4 {gv n c t x : Nat} {xs : List Nat} (h : OwnO w O (.slice (some ⟨gv, 0, none⟩) n c) xs) (hn : n = xs.length) (ht : t < n) (hx : x < 256) : OwnO (w.setCell ⟨gv, t, none⟩ (.int .u8 (x : Int))) O (.slice (some ⟨gv, 0, none⟩) n c) (xs.set t x) := by
 have ho := h.own
 rw [← hn] at ho
 have := row_set4 ho (j := t) (by simp [bv]; omega) (.int .u8 (x : Int))
 have e : (bv xs).set t (.int .u8 (x : Int)) = bv (xs.set t x) := by simp [bv, List.map_set]
 rw [e] at this
 refine ⟨by rw [List.length_set, ← hn]; exact this, fun y hy => ?_, h.blk⟩
 rcases List.mem_or_eq_of_mem_set hy with q | q
 ·exact h.bys y q
 ·rw [q]; exact hx
theorem flip_dsk {mb : Nat} {fl : List FE} {cap arm : Int} {down : Bool} {c : Nat → Int} {f : FE} {gv n cv t x : Nat} (h : DskM w O dB mb fl cap arm down c) (hf : atF fl f.nm = some f) (hv : f.v = .slice (some ⟨gv, 0, none⟩) n cv) (hn : n = f.dat.length) (ht : t < n) (hx : x < 256) :
  DskM (w.setCell ⟨gv, t, none⟩ (.int .u8 (x : Int))) O dB mb (setF fl ⟨f.nm, f.b, f.v, f.dat.set t x, f.syn⟩) cap arm down c ∧ Go4 w (w.setCell ⟨gv, t, none⟩ (.int .u8 (x : Int))) O O := by
 have hm := atF_mem hf
 have hfil := h.fil f hm.1
 have hO : O gv := hfil.2.1.blk gv (by rw [hv]; rfl)
 have hne : gv ≠ f.b := fun e => by
  obtain ⟨cur, hc⟩ := hfil.2.1.typ (g := gv) (by rw [hv]; rfl)
  have hb := hfil.1
  unfold FBox at hb
  rw [e, hb] at hc
  simp only [Option.some.injEq, Obj.cells.injEq] at hc
  exact absurd hc.2.1 (by decide)
 have ho := hfil.2.1
 rw [hv] at ho
 have ho2 := ho.setB4 (t := t) (x := x) hn ht hx
 rw [← hv] at ho2
 have hfb : FBox (w.setCell ⟨gv, t, none⟩ (.int .u8 (x : Int))) f.b f.v f.syn := by
  have hb := hfil.1
  unfold FBox at hb ⊢
  rw [heap_setCell_other _ _ _ _ (Ne.symm hne)]
  exact hb
 refine ⟨h.inF (f := f) (f' := ⟨f.nm, f.b, f.v, f.dat.set t x, f.syn⟩) hf rfl hfb ho2 (fun i hi => hi) (fun i h1 h2 h3 => heap_setCell_other _ _ _ _ (fun e => h3 (by rw [e, hv]; rfl))) (fun i hi => .inl hi) (fun i hi => by simp [World.setCell]; exact h.lt i hi), Go4.of_set (a := ⟨gv, t, none⟩) hO _⟩
end Go.Proofs.Ytlkhphhmhffdjaa
