import Derived.Test.YtlkhphhmhffdjaaK05
set_option linter.unusedSimpArgs false
set_option linter.unusedVariables false
namespace Go.Proofs.Ytlkhphhmhffdjaa
open Go.RowKit Go.MapKept
variable {w w' W X : World} {O O' : Nat → Prop} {dB : Nat} {d : Dk4}
abbrev GF := ByteArray × List Nat × Int
def loadL : Dk4 → List GF → Int × Dk4
 | d, [] => (0, d)
 | d, x :: xs => if (takeD d x.1 x.2.1 x.2.2).1 ≠ 0 then takeD d x.1 x.2.1 x.2.2 else loadL (takeD d x.1 x.2.1 x.2.2).2 xs
def loadD (n : Int) (l : List GF) : Int × Dk4 :=
 if n < 0 ∨ 67108864 < n then (1, newD n) else if 256 < l.length then (44, newD n) else loadL (newD n) l
structure RdG4 (w : World) (a : Option Addr) (k : Nat) (l : List (GF × Value)) : Prop where
 cap : l.length ≤ k ∧ k ≤ maxLen
 cel : ∀ i x, l[i]? = some x → ∃ g off, a = some ⟨g, off, none⟩ ∧ w.cell? ⟨g, off + i * 3, none⟩ = some (.string x.1.1) ∧ w.cell? ⟨g, off + i * 3 + 1, none⟩ = some x.2 ∧ w.cell? ⟨g, off + i * 3 + 2, none⟩ = some (.int .i64 x.1.2.2)
 dat : ∀ x ∈ l, ∃ ap cp, x.2 = .slice ap x.1.2.1.length cp ∧ Rd w x.2 x.1.2.1
theorem new4_bad {n : Int} (h : n < 0 ∨ 67108864 < n) (w : World) : Calls Try.prog 18 #[.int .i64 n] w fun e w' => e = .returned (.tuple #[.pointer none, .int .i64 1]) ∧ w' = w := by
 by_cases h0 : n < 0
 ·go_enter Try.func18, Try.ntmps18
  go_wp2
  go_ret2
  exact ⟨rfl, rfl⟩
 ·have h1 : (67108864 : Int) < n := h.elim (fun z => absurd z h0) id
  go_enter Try.func18, Try.ntmps18
  go_wp2
  go_ret2
  exact ⟨rfl, rfl⟩
theorem takeD_len {s : ByteArray} {bs : List Nat} {y : Int} (h : (takeD d s bs y).1 = 0) : (takeD d s bs y).2.fs.length = d.fs.length + 1 := by
 unfold takeD at h ⊢
 split at h
 ·cases h
 ·split at h
  ·cases h
  ·split at h
   ·cases h
   ·split at h
    ·cases h
    ·rename_i h1 h2 h3 h4
     rw [if_neg h1, if_neg h2, if_neg h3, if_neg h4]
     have hn : atP d.fs s = none := by simpa using h2
     simp [setP_new (f := (s, bs, y.toNat)) (atP_none hn)]
def LoadP (w : World) (r : Int × Dk4) (e : Ending) (w' : World) : Prop :=
 ∃ p, e = .returned (.tuple #[p, .int .i64 r.1]) ∧ Below w.heap.size w w' ∧ (r.1 ≠ 0 → p = .pointer none) ∧ (r.1 = 0 → ∃ O dB, p = .pointer (some ⟨dB, 0, none⟩) ∧ Mad w w' O dB r.2)
set_option maxRecDepth 100000 in
set_option maxHeartbeats 4000000 in
theorem load_any {n : Int} {a : Option Addr} {m k : Nat} {l : List (GF × Value)} (hr : RdG4 w a k l) (hm : m = l.length) :
  Calls Try.prog 21 #[.int .i64 n, .slice a m k] w (LoadP w (loadD n (l.map (·.1)))) := by
 have hR : ∃ R, R = loadD n (l.map (·.1)) := ⟨_, rfl⟩
 obtain ⟨R, hR⟩ := hR
 rw [← hR]
 unfold loadD at hR
 by_cases hn : n < 0 ∨ 67108864 < n
 ·rw [if_pos hn] at hR
  subst hR
  have HC := Lib.hid (new4_bad hn w)
  clear hn hr hm
  go_enter Try.func21, Try.ntmps21
  go_wp2_with fail
  refine HC.out.mono ?_
  rintro e w1 ⟨rfl, rfl⟩
  go_wp2
  go_ret2
  exact ⟨_, rfl, Below.refl _ _, fun _ => rfl, fun h => by cases h⟩
 ·rw [if_neg hn] at hR
  have HC := Lib.hid (new4_any (n := n) (by omega) (by omega) w)
  have HR := Lib.hid hR
  have HRD := Lib.hid hr
  have HM := Lib.hid hm
  have hmx : m ≤ 9223372036854775807 := by have := hr.cap; unfold maxLen at this; omega
  rw [List.length_map, ← hm] at HR
  clear hn hR hr hm
  by_cases h256 : 256 < m
  ·have i1 : (256 : Int) < (m : Int) := by omega
   have hRR : R = (44, newD n) := by rw [HR.out, if_pos h256]
   subst hRR
   clear h256
   go_enter Try.func21, Try.ntmps21
   go_wp2_with fail
   refine HC.out.mono ?_
   rintro e w1 ⟨O1, dB, rfl, d1, b1, o1⟩
   go_wp2
   go_ret2
   exact ⟨_, rfl, b1, fun _ => rfl, fun h => by cases h⟩
  ·have i1 : ¬ (256 : Int) < (m : Int) := by omega
   have hRR : R = loadL (newD n) (l.map (·.1)) := by rw [HR.out, if_neg h256]
   have HRR := Lib.hid hRR
   have H256 := Lib.hid h256
   clear h256 hRR HR
   go_enter Try.func21, Try.ntmps21
   go_wp2_with fail
   refine HC.out.mono ?_
   rintro e w1 ⟨O1, dB, rfl, d1, b1, o1⟩
   have M1 := Lib.hid (show Mad w w1 O1 dB (newD n) from ⟨d1, b1, o1⟩)
   clear d1 b1 o1 HC
   go_wp2_with fail
   go_loopw [9, 10, 24] (fun _ _ i wr => ∃ (t : Nat) (O : Nat → Prop) (d : Dk4), t ≤ m ∧ i = .int .i64 (t : Int) ∧ Mad w wr O dB d ∧ R = loadL d ((l.map (·.1)).drop t) ∧ d.fs.length = t) (fun _ _ i _ => m - (intOf i).toNat)
   case atStart => exact ⟨0, O1, _, by omega, rfl, M1.out, by rw [List.drop_zero]; exact HRR.out, rfl⟩
   case round =>
    obtain ⟨t, O, d, ht, rfl, hmad, hRt, hln⟩ := hrel
    have HT := Lib.hid (And.intro hmad (And.intro hRt hln))
    clear hmad hRt hln
    by_cases hlt : t < m
    ·have j1 : (t : Int) < (m : Int) := by omega
     have j2 : (0 : Int) ≤ (t : Int) := by omega
     have hx : ∃ x, l[t]? = some x := ⟨_, List.getElem?_eq_getElem (by rw [← HM.out]; exact hlt)⟩
     obtain ⟨x, hx⟩ := hx
     have hcx := HRD.out.cel t x hx
     obtain ⟨g, off, hag, hcx⟩ := hcx
     subst hag
     have hdx := HRD.out.dat x (List.mem_of_getElem? hx)
     obtain ⟨ap, cp, hvx, hrx⟩ := hdx
     have lg := World.block_lt_of_cell? _ _ hcx.1
     simp only at lg
     have hRx : R = if (takeD d x.1.1 x.1.2.1 x.1.2.2).1 ≠ 0 then takeD d x.1.1 x.1.2.1 x.1.2.2 else loadL (takeD d x.1.1 x.1.2.1 x.1.2.2).2 ((l.map (·.1)).drop (t + 1)) := by
      rw [HT.out.2.1]
      have hd : (l.map (·.1)).drop t = x.1 :: (l.map (·.1)).drop (t + 1) := by
       have : (l.map (·.1))[t]? = some x.1 := by rw [List.getElem?_map, hx]; rfl
       obtain ⟨h1, h2⟩ := List.getElem?_eq_some_iff.1 this
       rw [List.drop_eq_getElem_cons h1, h2]
      rw [hd, loadL]
     have hnb : ∃ nb, nb = x.1.2.1.length := ⟨_, rfl⟩
     obtain ⟨nb, hnb⟩ := hnb
     rw [← hnb] at hvx
     rw [hvx] at hcx hrx
     have HTK := Lib.hid (fun (Z : World) (bZ : Below wr.heap.size wr Z) => take4_any (s := x.1.1) (y := x.1.2.2) (HT.out.1.dsk.below bZ) ((hrx.later HT.out.1.bel).later bZ) (by rw [HT.out.2.2]; have := H256.out; omega))
     have HLN := Lib.hid (fun h => takeD_len (d := d) (s := x.1.1) (bs := x.1.2.1) (y := x.1.2.2) h)
     obtain ⟨r, hr⟩ : ∃ r, r = takeD d x.1.1 x.1.2.1 x.1.2.2 := ⟨_, rfl⟩
     rw [← hr] at HTK hRx HLN
     obtain ⟨re, rd⟩ := r
     simp only at hRx
     have HRX := Lib.hid hRx
     have q0 := (HT.out.1.bel.cell (p := ⟨g, off + t * 3, none⟩) lg).trans hcx.1
     have q1 := (HT.out.1.bel.cell (p := ⟨g, off + t * 3 + 1, none⟩) lg).trans hcx.2.1
     have q2 := (HT.out.1.bel.cell (p := ⟨g, off + t * 3 + 2, none⟩) lg).trans hcx.2.2
     clear hcx hx hrx hvx hr hRx hnb
     have bZ : Below wr.heap.size wr (wr.alloc (.cells #[.string x.1.1, .slice ap nb cp, .int .i64 x.1.2.2] 60)) := (Below.refl _ _).alloc (Nat.le_refl _) _
     have cZ : (wr.alloc (.cells #[.string x.1.1, .slice ap nb cp, .int .i64 x.1.2.2] 60)).heap[wr.heap.size]? = some (.cells #[.string x.1.1, .slice ap nb cp, .int .i64 x.1.2.2] 60) := heap_alloc_new _ _
     obtain ⟨Z, hZ⟩ : ∃ Z, Z = wr.alloc (.cells #[.string x.1.1, .slice ap nb cp, .int .i64 x.1.2.2] 60) := ⟨_, rfl⟩
     go_upto_region 9 with fail
     rw [← hZ] at bZ cZ ⊢
     have u0 : Z.cell? ⟨wr.heap.size, 0, none⟩ = some (.string x.1.1) := by simp [World.cell?, cZ]
     have u1 : Z.cell? ⟨wr.heap.size, 1, none⟩ = some (.slice ap nb cp) := by simp [World.cell?, cZ]
     have u2 : Z.cell? ⟨wr.heap.size, 2, none⟩ = some (.int .i64 x.1.2.2) := by simp [World.cell?, cZ]
     have MZ := Lib.hid (HT.out.1.later bZ)
     have HTK := Lib.hid (HTK.out Z bZ)
     obtain ⟨wb, hwb⟩ : ∃ wb, wb = wr.heap.size := ⟨_, rfl⟩
     rw [← hwb] at u0 u1 u2 ⊢
     clear hZ bZ cZ hwb q0 q1 q2
     go_wp2_with fail
     refine HTK.out.mono ?_
     intro e w5 hans
     have hst := MZ.out.step hans
     simp only at hst
     have he := hst.1
     have hst2 := hst.2
     obtain ⟨O5, m5⟩ := hst2
     subst he
     have M5 := Lib.hid m5
     clear hans hst m5 u0 u1 u2 HTK
     by_cases h0 : re = 0
     ·subst h0
      have hRX := HRX.out
      simp only [ne_eq, not_true_eq_false, if_false] at hRX
      have HRX := Lib.hid hRX
      clear hRX
      go_wp2
      go_roundw
      case rel => exact ⟨t + 1, O5, rd, by omega, by go_num, M5.out, HRX.out, by have h1 := HLN.out trivial; have h2 := HT.out.2.2; omega⟩
      case measure => simp [intOf]; omega
     ·have h0n : (re != 0) = true := by simp [h0]
      have hRX := HRX.out
      rw [if_pos h0] at hRX
      subst hRX
      go_wp2
      go_ret2
      exact ⟨_, rfl, M5.out.bel, fun _ => rfl, fun h => absurd h h0⟩
    ·have j1 : (m : Int) ≤ (t : Int) := by omega
     have hRt := HT.out.2.1
     rw [List.drop_eq_nil_of_le (by rw [List.length_map, ← HM.out]; omega), loadL] at hRt
     subst hRt
     go_wp2
     go_ret2
     exact ⟨_, rfl, HT.out.1.bel, fun h => absurd rfl h, fun _ => ⟨O, dB, rfl, HT.out.1⟩⟩
end Go.Proofs.Ytlkhphhmhffdjaa

namespace Go.Proofs.Ytlkhphhmhffdjaa
open Go.RowKit Go.MapKept Go.Sort
variable {w w' W X : World} {O O' : Nat → Prop} {dB : Nat} {d : Dk4}
def fileP (d : Dk4) (x : List UInt8) : PF := (ofL x, (atP d.fs (ofL x)).getD ([], 0))
def filesP (d : Dk4) : List PF := (lsP d.fs ⟨#[]⟩).map (fileP d)
theorem lsP_at {ps : List PF} {pre : ByteArray} {x : List UInt8} (h : x ∈ lsP ps pre) : ∃ v, atP ps (ofL x) = some v := by
 unfold lsP at h
 have h := (List.mergeSort_perm _ leB).mem_iff.1 h
 obtain ⟨s, hs, rfl⟩ := List.mem_map.1 h
 have hs := (List.mem_filter.1 hs).1
 obtain ⟨p, hp, rfl⟩ := List.mem_map.1 hs
 rw [ofL_nmL]
 cases h : atP ps p.1 with
 | some v => exact ⟨v, rfl⟩
 | none => exact absurd rfl (atP_none h p hp)
theorem OwnS.kept {B n : Nat} {v : Value} {ss : List (List UInt8)} {row : Option Nat} (h : OwnS w B v n ss) (hg : w.grownBy w' row) (hne : v.ownBlock = none ∨ v.ownBlock ≠ row) : OwnS w' B v n ss := ⟨h.1, h.2.kept hg hne⟩
theorem OwnS.later {B n : Nat} {v : Value} {ss : List (List UInt8)} (h : OwnS w B v n ss) (b : Below w.heap.size w w') : OwnS w' B v n ss := by
 refine ⟨h.1, h.2.1, ?_⟩
 rcases h.2.2 with h2 | ⟨g, cap, cur, h3, h4, h5, h6⟩
 ·exact .inl h2
 ·exact .inr ⟨g, cap, cur, h3, h4, by rw [b.block g (Array.getElem?_eq_some_iff.1 h5).1]; exact h5, h6⟩
theorem FLs.later {B n : Nat} {v : Value} {l : List (PF × Value)} (h : FLs w B v n l) (b : Below w.heap.size w w') : FLs w' B v n l := by
 refine ⟨h.len, ⟨h.row.1, ?_⟩, fun x hx => (h.dat x hx).kept (fun g hg => ⟨b.block g ?_, (h.dat x hx).blk g hg⟩)⟩
 ·rcases h.row.2 with h2 | ⟨g, cap, cur, h3, h4, h5, h6⟩
  ·exact .inl h2
  ·exact .inr ⟨g, cap, cur, h3, h4, by rw [b.block g (Array.getElem?_eq_some_iff.1 h5).1]; exact h5, h6⟩
 ·obtain ⟨cur, ht⟩ := (h.dat x hx).typ hg
  exact (Array.getElem?_eq_some_iff.1 ht).1
theorem FLs.nil (w : World) (B : Nat) : FLs w B (.slice none 0 0) 0 [] := ⟨rfl, World.ownsRow_nil _ _ _ _, fun x hx => by cases hx⟩
theorem row_ne {B B' n n' : Nat} {v v' : Value} {ss : List (List UInt8)} {l : List (PF × Value)} (h : OwnS w B v n ss) (k : FLs w B' v' n' l) : v.ownBlock = none ∨ v.ownBlock ≠ v'.ownBlock := by
 rcases h.2.2 with ⟨rfl, _⟩ | ⟨g, cap, cur, rfl, _, h5, _⟩
 ·exact .inl rfl
 ·right
  rcases k.row.2 with ⟨rfl, _⟩ | ⟨g2, cap2, cur2, rfl, _, h6, _⟩
  ·intro e; cases e
  ·intro e
   simp only [Value.ownBlock, Option.some.injEq] at e
   rw [e, h6] at h5
   simp only [Option.some.injEq, Obj.cells.injEq] at h5
   exact absurd h5.2.1 (by decide)
def FApart (l : List (PF × Value)) : Prop := l.Pairwise (fun x y => ∀ g, x.2.ownBlock = some g → y.2.ownBlock ≠ some g)
set_option maxRecDepth 100000 in
set_option maxHeartbeats 4000000 in
theorem files_any2 (hD : Dsk w O dB d) : Calls Try.prog 10 #[.pointer (some ⟨dB, 0, none⟩)] w fun e w' => ∃ a n k l, e = .returned (.slice a n k) ∧ FLs w' w.heap.size (.slice a n k) n l ∧ l.map (·.1) = filesP d ∧ Below w.heap.size w w' ∧ FApart l := by
 have HD := Lib.hid hD
 have HLIST := Lib.hid (list_dsk hD ⟨#[]⟩)
 obtain ⟨_, mb, fl, hM0, hfl0⟩ := id hD
 have HM0 := Lib.hid (And.intro hM0 hfl0)
 clear hM0 hfl0
 obtain ⟨L, hL⟩ : ∃ L, L = lsP d.fs ⟨#[]⟩ := ⟨_, rfl⟩
 have hF : filesP d = L.map (fileP d) := by rw [hL]; rfl
 rw [hF]
 rw [← hL] at HLIST
 have HL := Lib.hid hL
 have hlen : L.length ≤ 256 := by
  rw [hL]
  unfold lsP
  rw [List.length_mergeSort, List.length_map]
  refine Nat.le_trans (List.length_filter_le _ _) ?_
  rw [List.length_map]
  exact hD.1.cnt
 have HLEN := Lib.hid hlen
 clear hD hL hF hlen
 go_enter Try.func10, Try.ntmps10
 go_wp2_with fail
 refine HLIST.out.mono ?_
 rintro e w1 ⟨al, nl, kl, rfl, o1, b1⟩
 have HO1 := Lib.hid o1
 have HB1 := Lib.hid b1
 have hnl : nl ≤ 256 := by rw [o1.1]; exact HLEN.out
 clear o1 b1
 go_wp2_with fail
 go_loopw [3, 10] (fun v i wr => ∃ (t : Nat) (a : Option Addr) (n k : Nat) (l : List (PF × Value)), t ≤ nl ∧ i = .int .i64 (t : Int) ∧ v = .slice a n k ∧ FLs wr w.heap.size (.slice a n k) n l ∧ (l.map (·.1) = (L.take t).map (fileP d) ∧ FApart l) ∧ Below w.heap.size w wr ∧ OwnS wr w.heap.size (.slice al nl kl) nl L) (fun _ i _ => nl - (intOf i).toNat)
 case atStart => exact ⟨0, none, 0, 0, [], Nat.zero_le _, rfl, rfl, FLs.nil _ _, ⟨rfl, List.Pairwise.nil⟩, HB1.out, HO1.out⟩
 case round =>
  obtain ⟨t, a, n, k, l, ht, rfl, rfl, hfl, hll, hbw, hown⟩ := hrel
  have HFL := Lib.hid (And.intro hfl hll)
  have HBW := Lib.hid hbw
  have HOWN := Lib.hid hown
  clear hfl hll hbw hown
  by_cases hlt : t < nl
  ·have j1 : (t : Int) < (nl : Int) := by omega
   have j2 : (0 : Int) ≤ (t : Int) := by omega
   have htL : t < L.length := by rw [← HOWN.out.1]; exact hlt
   have hx : ∃ x, L[t]? = some x := ⟨_, List.getElem?_eq_getElem htL⟩
   obtain ⟨x, hx⟩ := hx
   have hc := HOWN.out.rd.2.cel t (ofL x) (by rw [List.getElem?_map, hx]; rfl)
   obtain ⟨gl, hc⟩ := hc
   obtain ⟨ol, hc⟩ := hc
   have hal := hc.1
   have hcl := hc.2
   subst hal
   clear hc
   have hM := HM0.out.1.below HBW.out
   have hfl := HM0.out.2
   have hat : ∃ v, atP d.fs (ofL x) = some v := lsP_at (by rw [← HL.out]; exact List.mem_of_getElem? hx)
   have hatF : ∃ f, atF fl (ofL x) = some f ∧ atP d.fs (ofL x) = some (f.dat, f.syn) := by
    obtain ⟨v, hv⟩ := hat
    rw [← hfl, atF_pf] at hv ⊢
    cases h : atF fl (ofL x) with
    | none => rw [h] at hv; cases hv
    | some f => exact ⟨f, rfl, rfl⟩
   obtain ⟨f, hf⟩ := hatF
   have hf1 := hf.1
   have hf2 := hf.2
   have hmp := hM.map
   obtain ⟨es, hmp⟩ := hmp
   obtain ⟨ck, hmp⟩ := hmp
   have hlook := hmp.look (ofL x)
   have e1 : atN (fl.map fun f => (f.nm, f.b)) (ofL x) = some f.b := by
    have := atF_nb (ofL x) fl
    rw [hf1] at this
    exact this
   rw [e1] at hlook
   have hmem := atF_mem hf1
   have hfb := hM.fil f hmem.1
   have hform := hfb.2.1.form
   obtain ⟨af, hform⟩ := hform
   obtain ⟨kf, hform⟩ := hform
   have hbx := hfb.1
   have hrd := hfb.2.1.rd (by have := totP_mem hf2; simp only at this; have := HD.out.1.tot; have := HD.out.1.cap1; omega)
   rw [hform] at hbx hrd
   have hl47 : f.dat.length ≤ 140737488355328 := by have := totP_mem hf2; simp only at this; have := HD.out.1.tot; have := HD.out.1.cap1; omega
   have c0 := hM.box.cells.1
   have hn256 : n ≤ 1000000 := by
    have h1 := HFL.out.1.len
    have h2 := congrArg List.length HFL.out.2.1
    rw [List.length_map, List.length_map, List.length_take] at h2
    omega
   have hlook2 : (Instr.lookup 77 (.map (some mb)) (.string (ofL x)) false).run Try.prog wr = .ok (.pointer (some ⟨f.b, 0, none⟩)) wr := hlook
   have hbl : f.b < w.heap.size := by
    exact HM0.out.1.lt _ (HM0.out.1.fil f hmem.1).2.2
   have HX := Lib.hid (And.intro hx (And.intro hf2 (And.intro hbx (And.intro hrd hl47))))
   clear hM hfl hat hf hf1 hf2 hmp hlook e1 hmem hfb hform hbx hrd hl47 hx
   go_upto_region 6 with fail
   refine wp_region_noPanic ?_
   refine wp_region_anyE (S := fun wx => Below w.heap.size w wx ∧ wx.cell? ⟨f.b, 0, none⟩ = some (.slice af f.dat.length kf) ∧ wx.cell? ⟨f.b, 1, none⟩ = some (.int .i64 (f.syn : Int))) (E := fun j => true) (by kernel_rfl) ?_
   have hbc := HX.out.2.2.1.cells
   have hHeld : Below w.heap.size w wr.drew ∧ wr.drew.cell? ⟨f.b, 0, none⟩ = some (.slice af f.dat.length kf) ∧ wr.drew.cell? ⟨f.b, 1, none⟩ = some (.int .i64 (f.syn : Int)) := ⟨HBW.out.drew, hbc.1, hbc.2⟩
   have HKB := Lib.hid hbc
   clear hbc
   have HZ := Lib.hid ((Below.refl wr.heap.size wr).drew)
   have hZ0 : ∃ z, z = wr.drew := ⟨_, rfl⟩
   obtain ⟨Z0, hZ0⟩ := hZ0
   rw [← hZ0] at HZ hHeld ⊢
   clear hZ0
   refine AnyE.take (i := 0) (.slice a n k) rfl (by kernel_rfl) (by kernel_rfl) (by kernel_rfl) (by kernel_rfl) (fun _ _ _ h => h) (.inl ⟨by kernel_rfl, fun wy hy => by (go_simp; done)⟩) hHeld ?_
   try simp only [Act.put, List.setIfInBounds_toArray, List.set_cons_zero, List.set_cons_succ]
   refine AnyE.take (i := 1) (.string (ofL x)) rfl (by kernel_rfl) (by kernel_rfl) (by kernel_rfl) (by kernel_rfl) (fun _ _ _ h => h) (.inl ⟨by kernel_rfl, fun wy hy => by (go_simp; done)⟩) hHeld ?_
   try simp only [Act.put, List.setIfInBounds_toArray, List.set_cons_zero, List.set_cons_succ]
   refine AnyE.take (i := 2) (.pointer (some ⟨f.b, 0, none⟩)) rfl (by kernel_rfl) (by kernel_rfl) (by kernel_rfl) (by kernel_rfl) (fun _ _ _ h => h) (.inl ⟨by kernel_rfl, fun wy hy => by (go_simp; done)⟩) hHeld ?_
   try simp only [Act.put, List.setIfInBounds_toArray, List.set_cons_zero, List.set_cons_succ]
   refine AnyE.take (i := 3) (.pointer (some ⟨f.b, 0, none⟩)) rfl (by kernel_rfl) (by kernel_rfl) (by kernel_rfl) (by kernel_rfl) (fun _ _ _ h => h) (.inl ⟨by kernel_rfl, fun wy hy => by (go_simp; done)⟩) hHeld ?_
   try simp only [Act.put, List.setIfInBounds_toArray, List.set_cons_zero, List.set_cons_succ]
   refine AnyE.take (i := 4) (.pointer (some ⟨f.b, 0, none⟩)) rfl (by kernel_rfl) (by kernel_rfl) (by kernel_rfl) (by kernel_rfl) (fun _ _ _ h => h) (.inl ⟨by kernel_rfl, fun wy hy => by (go_simp; done)⟩) hHeld ?_
   try simp only [Act.put, List.setIfInBounds_toArray, List.set_cons_zero, List.set_cons_succ]
   refine AnyE.take (i := 5) (.slice af f.dat.length kf) rfl (by kernel_rfl) (by kernel_rfl) (by kernel_rfl) (by kernel_rfl) (fun _ _ _ h => h) (.inl ⟨by kernel_rfl, fun wy hy => by (have q0 := hy.2.1; go_simp; done)⟩) hHeld ?_
   try simp only [Act.put, List.setIfInBounds_toArray, List.set_cons_zero, List.set_cons_succ]
   refine AnyE.take (i := 7) (.pointer (some ⟨f.b, 0, none⟩)) rfl (by kernel_rfl) (by kernel_rfl) (by kernel_rfl) (by kernel_rfl) (fun _ _ _ h => h) (.inl ⟨by kernel_rfl, fun wy hy => by (go_simp; done)⟩) hHeld ?_
   try simp only [Act.put, List.setIfInBounds_toArray, List.set_cons_zero, List.set_cons_succ]
   refine AnyE.take (i := 8) (.pointer (some ⟨f.b, 0, none⟩)) rfl (by kernel_rfl) (by kernel_rfl) (by kernel_rfl) (by kernel_rfl) (fun _ _ _ h => h) (.inl ⟨by kernel_rfl, fun wy hy => by (go_simp; done)⟩) hHeld ?_
   try simp only [Act.put, List.setIfInBounds_toArray, List.set_cons_zero, List.set_cons_succ]
   refine AnyE.take (i := 9) (.pointer (some ⟨f.b, 1, none⟩)) rfl (by kernel_rfl) (by kernel_rfl) (by kernel_rfl) (by kernel_rfl) (fun _ _ _ h => h) (.inl ⟨by kernel_rfl, fun wy hy => by (go_simp; done)⟩) hHeld ?_
   try simp only [Act.put, List.setIfInBounds_toArray, List.set_cons_zero, List.set_cons_succ]
   refine AnyE.take (i := 10) (.int .i64 (f.syn : Int)) rfl (by kernel_rfl) (by kernel_rfl) (by kernel_rfl) (by kernel_rfl) (fun _ _ _ h => h) (.inl ⟨by kernel_rfl, fun wy hy => by (have q0 := hy.2.2; go_simp; done)⟩) hHeld ?_
   try simp only [Act.put, List.setIfInBounds_toArray, List.set_cons_zero, List.set_cons_succ]
   refine AnyE.one (i := 6) rfl (by kernel_rfl) (by kernel_rfl) (fun KK hK => ?_)
   go_simp
   go_at_call 34
   refine (bclone_any (HX.out.2.2.2.1.later HZ.out) HX.out.2.2.2.2).mono ?_
   rintro e9 Z2 ⟨sv, rfl, ow, bw⟩
   have hsf := own_form ow
   obtain ⟨ac, hsf⟩ := hsf
   obtain ⟨kc, hsf⟩ := hsf
   subst hsf
   have hHeld : Below w.heap.size w Z2 ∧ Z2.cell? ⟨f.b, 0, none⟩ = some (.slice af f.dat.length kf) ∧ Z2.cell? ⟨f.b, 1, none⟩ = some (.int .i64 (f.syn : Int)) := ⟨hHeld.1.trans (bw.mono hHeld.1.size), (bw.cell (p := ⟨f.b, 0, none⟩) (World.block_lt_of_cell? _ _ hHeld.2.1)).trans hHeld.2.1, (bw.cell (p := ⟨f.b, 1, none⟩) (World.block_lt_of_cell? _ _ hHeld.2.2)).trans hHeld.2.2⟩
   have HOW := Lib.hid ow
   have HZZ := Lib.hid HZ.out
   have HZ := Lib.hid (HZ.out.trans (bw.mono HZ.out.size))
   clear ow bw
   go_wp2_with fail
   refine hK.out _ _ ⟨fun _ => hHeld, ?_⟩
   clear hK
   try simp only [Act.put, List.setIfInBounds_toArray, List.set_cons_zero, List.set_cons_succ]
   refine AnyE.one (i := 11) rfl (by kernel_rfl) (by kernel_rfl) (fun KK hK => ?_)
   go_simp
   refine hK.out _ _ ⟨fun _ => hHeld, ?_⟩
   clear hK
   try simp only [Act.put, List.setIfInBounds_toArray, List.set_cons_zero, List.set_cons_succ]
   refine AnyE.one (i := 12) rfl (by kernel_rfl) (by kernel_rfl) (fun KK hK => ?_)
   go_simp
   have bA := (Below.refl Z2.heap.size Z2).alloc (Nat.le_refl _) (.cells #[.string (ofL x), .slice ac f.dat.length kc, .int .i64 (f.syn : Int)] 60)
   have cA : (Z2.alloc (.cells #[.string (ofL x), .slice ac f.dat.length kc, .int .i64 (f.syn : Int)] 60)).cell? ⟨Z2.heap.size, 0, none⟩ = some (.string (ofL x)) ∧ (Z2.alloc (.cells #[.string (ofL x), .slice ac f.dat.length kc, .int .i64 (f.syn : Int)] 60)).cell? ⟨Z2.heap.size, 1, none⟩ = some (.slice ac f.dat.length kc) ∧ (Z2.alloc (.cells #[.string (ofL x), .slice ac f.dat.length kc, .int .i64 (f.syn : Int)] 60)).cell? ⟨Z2.heap.size, 2, none⟩ = some (.int .i64 (f.syn : Int)) := by
    refine ⟨?_, ?_, ?_⟩ <;> simp [go_sem]
   have hZ3 : ∃ z, z = Z2.alloc (.cells #[.string (ofL x), .slice ac f.dat.length kc, .int .i64 (f.syn : Int)] 60) := ⟨_, rfl⟩
   obtain ⟨Z3, hZ3⟩ := hZ3
   rw [← hZ3] at bA cA ⊢
   clear hZ3
   have hHeld : Below w.heap.size w Z3 ∧ Z3.cell? ⟨f.b, 0, none⟩ = some (.slice af f.dat.length kf) ∧ Z3.cell? ⟨f.b, 1, none⟩ = some (.int .i64 (f.syn : Int)) := ⟨hHeld.1.trans (bA.mono hHeld.1.size), (bA.cell (p := ⟨f.b, 0, none⟩) (World.block_lt_of_cell? _ _ hHeld.2.1)).trans hHeld.2.1, (bA.cell (p := ⟨f.b, 1, none⟩) (World.block_lt_of_cell? _ _ hHeld.2.2)).trans hHeld.2.2⟩
   have HCA := Lib.hid (And.intro bA cA)
   clear bA cA
   refine hK.out _ _ ⟨fun _ => hHeld, ?_⟩
   clear hK
   try simp only [Act.put, List.setIfInBounds_toArray, List.set_cons_zero, List.set_cons_succ]
   refine AnyE.one (i := 13) rfl (by kernel_rfl) (by kernel_rfl) (fun KK hK => ?_)
   have hwz : wr.heap.size ≤ Z3.heap.size := Nat.le_trans HZ.out.size HCA.out.1.size
   have efp : fileP d x = (ofL x, f.dat, f.syn) := by unfold fileP; rw [HX.out.2.1]; rfl
   have o2 : OwnO Z2 (fun i => w.heap.size ≤ i) (.slice ac f.dat.length kc) f.dat := by
    refine ⟨⟨HOW.out.1, ?_⟩, HX.out.2.2.2.1.1, fun g hg => ?_⟩
    ·rcases HOW.out.2 with h | ⟨g, cap, cur, h1, h2, h3⟩
     ·exact .inl h
     ·exact .inr ⟨g, cap, cur, h1, Nat.zero_le _, h3⟩
    ·have := (HOW.out.lt g hg).1
     exact Nat.le_trans HBW.out.size (Nat.le_trans HZZ.out.size this)
   have o3 : OwnO Z3 (fun i => w.heap.size ≤ i) (.slice ac f.dat.length kc) f.dat := o2.kept (fun g hg => ⟨HCA.out.1.block g (by obtain ⟨cur, ht⟩ := o2.typ hg; exact (Array.getElem?_eq_some_iff.1 ht).1), o2.blk g hg⟩)
   have HO3 := Lib.hid o3
   have HEF := Lib.hid efp
   clear o2 o3 efp
   refine file_append _ _ rfl (B := w.heap.size) (n := n) (blk := Z2.heap.size) (v := .slice a n k) (l := l) (f := ((ofL x, f.dat, f.syn), .slice ac f.dat.length kc)) rfl ((HFL.out.1.later HZ.out).later HCA.out.1) rfl HCA.out.2 HO3.out hn256 (Nat.le_trans HBW.out.size hwz) (fun a9 k9 Z4 own9 b9 g9 => ?_)
   have hHeld : Below w.heap.size w Z4 ∧ Z4.cell? ⟨f.b, 0, none⟩ = some (.slice af f.dat.length kf) ∧ Z4.cell? ⟨f.b, 1, none⟩ = some (.int .i64 (f.syn : Int)) := ⟨hHeld.1.trans b9, (b9.cell (p := ⟨f.b, 0, none⟩) hbl).trans hHeld.2.1, (b9.cell (p := ⟨f.b, 1, none⟩) hbl).trans hHeld.2.2⟩
   have HO4 := Lib.hid (((HOWN.out.later HZ.out).later HCA.out.1).kept g9 (row_ne HOWN.out HFL.out.1))
   have HF4 := Lib.hid (And.intro own9 hHeld.1)
   clear own9 b9 g9
   refine hK.out _ _ ⟨fun _ => hHeld, ?_⟩
   clear hK
   try simp only [Act.put, List.setIfInBounds_toArray, List.set_cons_zero, List.set_cons_succ]
   refine AnyE.one (i := 14) rfl (by kernel_rfl) (by kernel_rfl) (fun KK hK => ?_)
   go_simp
   refine hK.out _ _ ⟨fun _ => hHeld, ?_⟩
   clear hK hHeld
   try simp only [Act.put, List.setIfInBounds_toArray, List.set_cons_zero, List.set_cons_succ]
   refine AnyE.done (by kernel_rfl) (NoPanic.normal ?_) _
   go_simp
   go_step
   go_wp2
   go_roundw
   case rel =>
    refine ⟨t + 1, a9, n + 1, k9, l ++ [((ofL x, f.dat, f.syn), .slice ac f.dat.length kc)], by omega, by go_num, rfl, HF4.out.1, ⟨?_, ?_⟩, HF4.out.2, HO4.out⟩
    ·rw [List.map_append, HFL.out.2.1, List.take_add_one, HX.out.1, ← HEF.out]
     simp [HEF.out]
    ·refine List.pairwise_append.2 ⟨HFL.out.2.2, List.pairwise_singleton _ _, fun x1 hx1 y1 hy1 g e1 e2 => ?_⟩
     rw [List.mem_singleton] at hy1
     subst hy1
     have q1 := (HOW.out.lt g e2).1
     obtain ⟨cur, ht⟩ := (HFL.out.1.dat x1 hx1).typ e1
     have q3 := (Array.getElem?_eq_some_iff.1 ht).1
     have q4 := HZZ.out.size
     omega
   case measure => simp [intOf]; omega
  ·have j1 : (nl : Int) ≤ (t : Int) := by omega
   have hend : t = nl := by omega
   have hall : L.take t = L := by rw [hend, HOWN.out.1, List.take_length]
   have HALL := Lib.hid hall
   clear hall hend hlt
   go_wp2
   go_ret
   exact ⟨a, n, k, l, rfl, HFL.out.1, by rw [HFL.out.2.1, HALL.out], HBW.out, HFL.out.2.2⟩
theorem files_any (hD : Dsk w O dB d) : Calls Try.prog 10 #[.pointer (some ⟨dB, 0, none⟩)] w fun e w' => ∃ a n k l, e = .returned (.slice a n k) ∧ FLs w' w.heap.size (.slice a n k) n l ∧ l.map (·.1) = filesP d ∧ Below w.heap.size w w' := (files_any2 hD).mono (fun e w' h => by
 obtain ⟨a, n, k, l, h1, h2, h3, h4, _⟩ := h
 exact ⟨a, n, k, l, h1, h2, h3, h4⟩)
end Go.Proofs.Ytlkhphhmhffdjaa

namespace Go.Proofs.Ytlkhphhmhffdjaa
open Go.RowKit Go.MapKept Go.Sort
variable {w w' W X : World} {O O' : Nat → Prop} {dB : Nat} {d : Dk4}
def keepN (syn len : Nat) (st : Int) : Nat := syn + (min (max st 0) ((len : Int) - (syn : Int))).toNat
theorem keepN_le {syn len : Nat} (h : syn ≤ len) (st : Int) : syn ≤ keepN syn len st ∧ keepN syn len st ≤ len := by
 unfold keepN
 omega
set_option maxRecDepth 100000 in
set_option maxHeartbeats 4000000 in
theorem cut_any {b syn : Nat} {v : Value} {dat : List Nat} {st : Int} (hb : FBox w b v syn) (ho : OwnO w O v dat) (hs : syn ≤ dat.length) (hl : dat.length ≤ 67108864) (hbO : ∀ g, v.ownBlock = some g → g ≠ b) :
  Calls Try.prog 82 #[.pointer (some ⟨b, 0, none⟩), .int .i64 st] w fun e w' => e = .returned (.tuple #[]) ∧ ∃ v', FBox w' b v' (keepN syn dat.length st) ∧ OwnO w' (fun i => v.ownBlock = some i ∨ w.heap.size ≤ i) v' (dat.take (keepN syn dat.length st)) ∧ (v' = v ∨ ∀ g, v'.ownBlock = some g → w.heap.size ≤ g) ∧ Go4 w w' (fun i => i = b) (fun i => i = b) := by
 obtain ⟨a, c, rfl⟩ := ho.form
 obtain ⟨n, hn⟩ : ∃ n, n = dat.length := ⟨_, rfl⟩
 obtain ⟨k, hk⟩ : ∃ k, k = keepN syn dat.length st := ⟨_, rfl⟩
 have hkl := keepN_le hs st
 have hrd := ho.rd (by omega)
 have hnc : n ≤ c := by
  obtain ⟨_, a1, c1, h2, h3, _⟩ := hrd
  simp only [Value.slice.injEq] at h2
  obtain ⟨_, _, rfl⟩ := h2
  rw [hn]
  exact h3
 obtain ⟨m, hm⟩ : ∃ m : Int, max st 0 = m := ⟨_, rfl⟩
 obtain ⟨q, hq⟩ : ∃ q : Int, min m ((n : Int) - (syn : Int)) = q := ⟨_, rfl⟩
 have hkq : (syn : Int) + q = (k : Int) := by rw [hk]; unfold keepN; rw [hm, ← hn, hq]; omega
 have q0 : 0 ≤ q := by omega
 have q1 : q ≤ 67108864 := by omega
 rw [← hk] at hkl ⊢
 rw [← hn] at hb ho hs hl hkl hrd
 have lb := hb.lt
 have HBX := Lib.hid hb
 have HO := Lib.hid (And.intro hrd ho)
 have HN := Lib.hid (And.intro hn hk)
 have HBO := Lib.hid hbO
 have s2 : syn ≤ 67108864 := by omega
 have k2 : k ≤ n := hkl.2
 have HKQ := Lib.hid hkq
 clear hb ho hn hk hbO hrd hkl hkq
 go_enter Try.func82, Try.ntmps82
 go_upto_region 0 with fail
 have BD : Below w.heap.size w w.drew := (Below.refl _ _).drew
 refine wp_region_noPanic ?_
 refine wp_region_anyE (S := fun wx => Below w.heap.size w wx) (E := fun j => true) (by kernel_rfl) ?_
 have hHeld : Below w.heap.size w w.drew := BD
 have HB := Lib.hid BD
 have hZ0 : ∃ z, z = w.drew := ⟨_, rfl⟩
 obtain ⟨Z0, hZ0⟩ := hZ0
 rw [← hZ0] at HB hHeld ⊢
 clear hZ0 BD
 refine AnyE.take (i := 0) (.pointer (some ⟨b, 0, none⟩)) rfl (by kernel_rfl) (by kernel_rfl) (by kernel_rfl) (by kernel_rfl) (fun _ _ _ h => h) (.inl ⟨by kernel_rfl, fun wy hy => by (go_simp; done)⟩) hHeld ?_
 try simp only [Act.put, List.setIfInBounds_toArray, List.set_cons_zero, List.set_cons_succ]
 refine AnyE.take (i := 1) (.pointer (some ⟨b, 0, none⟩)) rfl (by kernel_rfl) (by kernel_rfl) (by kernel_rfl) (by kernel_rfl) (fun _ _ _ h => h) (.inl ⟨by kernel_rfl, fun wy hy => by (go_simp; done)⟩) hHeld ?_
 try simp only [Act.put, List.setIfInBounds_toArray, List.set_cons_zero, List.set_cons_succ]
 refine AnyE.take (i := 2) (.pointer (some ⟨b, 0, none⟩)) rfl (by kernel_rfl) (by kernel_rfl) (by kernel_rfl) (by kernel_rfl) (fun _ _ _ h => h) (.inl ⟨by kernel_rfl, fun wy hy => by (go_simp; done)⟩) hHeld ?_
 try simp only [Act.put, List.setIfInBounds_toArray, List.set_cons_zero, List.set_cons_succ]
 refine AnyE.take (i := 3) (.slice a n c) rfl (by kernel_rfl) (by kernel_rfl) (by kernel_rfl) (by kernel_rfl) (fun _ _ _ h => h) (.inl ⟨by kernel_rfl, fun wy hy => by (have q0 := (HBX.out.kept (hy.block _ lb)).cells.1; go_simp; done)⟩) hHeld ?_
 try simp only [Act.put, List.setIfInBounds_toArray, List.set_cons_zero, List.set_cons_succ]
 refine AnyE.take (i := 4) (.int .i64 (n : Int)) rfl (by kernel_rfl) (by kernel_rfl) (by kernel_rfl) (by kernel_rfl) (fun _ _ _ h => h) (.inl ⟨by kernel_rfl, fun wy hy => by (go_simp; first | done | (cases a <;> (go_simp; done)))⟩) hHeld ?_
 try simp only [Act.put, List.setIfInBounds_toArray, List.set_cons_zero, List.set_cons_succ]
 refine AnyE.take (i := 5) (.pointer (some ⟨b, 0, none⟩)) rfl (by kernel_rfl) (by kernel_rfl) (by kernel_rfl) (by kernel_rfl) (fun _ _ _ h => h) (.inl ⟨by kernel_rfl, fun wy hy => by (go_simp; done)⟩) hHeld ?_
 try simp only [Act.put, List.setIfInBounds_toArray, List.set_cons_zero, List.set_cons_succ]
 refine AnyE.take (i := 6) (.pointer (some ⟨b, 0, none⟩)) rfl (by kernel_rfl) (by kernel_rfl) (by kernel_rfl) (by kernel_rfl) (fun _ _ _ h => h) (.inl ⟨by kernel_rfl, fun wy hy => by (go_simp; done)⟩) hHeld ?_
 try simp only [Act.put, List.setIfInBounds_toArray, List.set_cons_zero, List.set_cons_succ]
 refine AnyE.take (i := 7) (.pointer (some ⟨b, 1, none⟩)) rfl (by kernel_rfl) (by kernel_rfl) (by kernel_rfl) (by kernel_rfl) (fun _ _ _ h => h) (.inl ⟨by kernel_rfl, fun wy hy => by (go_simp; done)⟩) hHeld ?_
 try simp only [Act.put, List.setIfInBounds_toArray, List.set_cons_zero, List.set_cons_succ]
 refine AnyE.take (i := 8) (.int .i64 (syn : Int)) rfl (by kernel_rfl) (by kernel_rfl) (by kernel_rfl) (by kernel_rfl) (fun _ _ _ h => h) (.inl ⟨by kernel_rfl, fun wy hy => by (have q0 := (HBX.out.kept (hy.block _ lb)).cells.2; go_simp; done)⟩) hHeld ?_
 try simp only [Act.put, List.setIfInBounds_toArray, List.set_cons_zero, List.set_cons_succ]
 refine AnyE.take (i := 9) (.int .i64 ((n : Int) - (syn : Int))) rfl (by kernel_rfl) (by kernel_rfl) (by kernel_rfl) (by kernel_rfl) (fun _ _ _ h => h) (.inl ⟨by kernel_rfl, fun wy hy => by (go_simp; exact IntWalk.i64_in _ ⟨by omega, by omega⟩)⟩) hHeld ?_
 try simp only [Act.put, List.setIfInBounds_toArray, List.set_cons_zero, List.set_cons_succ]
 refine AnyE.take (i := 10) (.int .i64 ((n : Int) - (syn : Int))) rfl (by kernel_rfl) (by kernel_rfl) (by kernel_rfl) (by kernel_rfl) (fun _ _ _ h => h) (.inl ⟨by kernel_rfl, fun wy hy => by (go_simp; done)⟩) hHeld ?_
 try simp only [Act.put, List.setIfInBounds_toArray, List.set_cons_zero, List.set_cons_succ]
 refine AnyE.done (by kernel_rfl) (NoPanic.normal ?_) _
 have hZ9 : ∃ z, z = Z0 := ⟨_, rfl⟩
 obtain ⟨W0, hZ9⟩ := hZ9
 rw [← hZ9] at HB ⊢
 clear hHeld hZ9
 have HB0 := Lib.hid HB.out
 have bx0 := HBX.out.kept (HB.out.block _ lb)
 have c0 := bx0.cells.1
 have c1 := bx0.cells.2
 have z1 := bx0.fz 1
 go_simp
 go_step
 go_upto_region 2 with fail
 rw [HKQ.out]
 have bX : FBox (W0.setCell ⟨b, 1, none⟩ (.int .i64 (k : Int))) b (.slice a n c) k := bx0.setSyn k
 have gX : Go4 w (W0.setCell ⟨b, 1, none⟩ (.int .i64 (k : Int))) (fun i => i = b) (fun i => i = b) := (Go4.of_below HB0.out).trans (Go4.of_set (O := fun i => i = b) (a := ⟨b, 1, none⟩) rfl _)
 have hX : ∃ x, x = W0.setCell ⟨b, 1, none⟩ (.int .i64 (k : Int)) := ⟨_, rfl⟩
 obtain ⟨X, hX⟩ := hX
 rw [← hX] at bX gX ⊢
 have HGX := Lib.hid gX
 have HBXX := Lib.hid bX
 have lX := bX.lt
 clear hX bX gX bx0 c0 c1 z1 HB hm hq q0 q1
 have BD : Below X.heap.size X X.drew := (Below.refl _ _).drew
 refine wp_region_noPanic ?_
 refine wp_region_anyE (S := fun wx => Below X.heap.size X wx) (E := fun j => true) (by kernel_rfl) ?_
 have hHeld : Below X.heap.size X X.drew := BD
 have HB := Lib.hid BD
 have hZ0 : ∃ z, z = X.drew := ⟨_, rfl⟩
 obtain ⟨Z0, hZ0⟩ := hZ0
 rw [← hZ0] at HB hHeld ⊢
 clear hZ0 BD
 refine AnyE.take (i := 0) (.pointer (some ⟨b, 0, none⟩)) rfl (by kernel_rfl) (by kernel_rfl) (by kernel_rfl) (by kernel_rfl) (fun _ _ _ h => h) (.inl ⟨by kernel_rfl, fun wy hy => by (go_simp; done)⟩) hHeld ?_
 try simp only [Act.put, List.setIfInBounds_toArray, List.set_cons_zero, List.set_cons_succ]
 refine AnyE.take (i := 1) (.pointer (some ⟨b, 0, none⟩)) rfl (by kernel_rfl) (by kernel_rfl) (by kernel_rfl) (by kernel_rfl) (fun _ _ _ h => h) (.inl ⟨by kernel_rfl, fun wy hy => by (go_simp; done)⟩) hHeld ?_
 try simp only [Act.put, List.setIfInBounds_toArray, List.set_cons_zero, List.set_cons_succ]
 refine AnyE.take (i := 2) (.pointer (some ⟨b, 1, none⟩)) rfl (by kernel_rfl) (by kernel_rfl) (by kernel_rfl) (by kernel_rfl) (fun _ _ _ h => h) (.inl ⟨by kernel_rfl, fun wy hy => by (go_simp; done)⟩) hHeld ?_
 try simp only [Act.put, List.setIfInBounds_toArray, List.set_cons_zero, List.set_cons_succ]
 refine AnyE.take (i := 3) (.int .i64 (k : Int)) rfl (by kernel_rfl) (by kernel_rfl) (by kernel_rfl) (by kernel_rfl) (fun _ _ _ h => h) (.inl ⟨by kernel_rfl, fun wy hy => by (have q0 := (HBXX.out.kept (hy.block _ lX)).cells.2; go_simp; done)⟩) hHeld ?_
 try simp only [Act.put, List.setIfInBounds_toArray, List.set_cons_zero, List.set_cons_succ]
 refine AnyE.take (i := 4) (.pointer (some ⟨b, 0, none⟩)) rfl (by kernel_rfl) (by kernel_rfl) (by kernel_rfl) (by kernel_rfl) (fun _ _ _ h => h) (.inl ⟨by kernel_rfl, fun wy hy => by (go_simp; done)⟩) hHeld ?_
 try simp only [Act.put, List.setIfInBounds_toArray, List.set_cons_zero, List.set_cons_succ]
 refine AnyE.take (i := 5) (.pointer (some ⟨b, 0, none⟩)) rfl (by kernel_rfl) (by kernel_rfl) (by kernel_rfl) (by kernel_rfl) (fun _ _ _ h => h) (.inl ⟨by kernel_rfl, fun wy hy => by (go_simp; done)⟩) hHeld ?_
 try simp only [Act.put, List.setIfInBounds_toArray, List.set_cons_zero, List.set_cons_succ]
 refine AnyE.take (i := 6) (.pointer (some ⟨b, 0, none⟩)) rfl (by kernel_rfl) (by kernel_rfl) (by kernel_rfl) (by kernel_rfl) (fun _ _ _ h => h) (.inl ⟨by kernel_rfl, fun wy hy => by (go_simp; done)⟩) hHeld ?_
 try simp only [Act.put, List.setIfInBounds_toArray, List.set_cons_zero, List.set_cons_succ]
 refine AnyE.take (i := 7) (.slice a n c) rfl (by kernel_rfl) (by kernel_rfl) (by kernel_rfl) (by kernel_rfl) (fun _ _ _ h => h) (.inl ⟨by kernel_rfl, fun wy hy => by (have q0 := (HBXX.out.kept (hy.block _ lX)).cells.1; go_simp; done)⟩) hHeld ?_
 try simp only [Act.put, List.setIfInBounds_toArray, List.set_cons_zero, List.set_cons_succ]
 refine AnyE.take (i := 8) (.int .i64 (n : Int)) rfl (by kernel_rfl) (by kernel_rfl) (by kernel_rfl) (by kernel_rfl) (fun _ _ _ h => h) (.inl ⟨by kernel_rfl, fun wy hy => by (go_simp; first | done | (cases a <;> (go_simp; done)))⟩) hHeld ?_
 try simp only [Act.put, List.setIfInBounds_toArray, List.set_cons_zero, List.set_cons_succ]
 refine AnyE.take (i := 9) (.bool (decide ((k : Int) < (n : Int)))) rfl (by kernel_rfl) (by kernel_rfl) (by kernel_rfl) (by kernel_rfl) (fun _ _ _ h => h) (.inl ⟨by kernel_rfl, fun wy hy => by (go_simp; done)⟩) hHeld ?_
 try simp only [Act.put, List.setIfInBounds_toArray, List.set_cons_zero, List.set_cons_succ]
 refine AnyE.done (by kernel_rfl) (NoPanic.normal ?_) _
 have hZ9 : ∃ z, z = Z0 := ⟨_, rfl⟩
 obtain ⟨Y, hZ9⟩ := hZ9
 rw [← hZ9] at HB ⊢
 clear hHeld hZ9
 have HBY := Lib.hid HB.out
 have HY := Lib.hid (HBXX.out.kept (HB.out.block _ lX))
 have HGY := Lib.hid (HGX.out.trans (Go4.of_below HB.out))
 have hown : OwnO Y (fun i => (Value.slice a n c).ownBlock = some i ∨ w.heap.size ≤ i) (.slice a n c) dat := by
  refine HO.out.2.kept (fun g hg => ⟨HGY.out.block g ?_ ?_, .inl hg⟩)
  ·obtain ⟨cur, ht⟩ := HO.out.2.typ hg
   exact (Array.getElem?_eq_some_iff.1 ht).1
  ·exact HBO.out g (by rw [← HN.out.1]; exact hg)
 have HOWN := Lib.hid hown
 clear hown HB
 go_simp
 go_step
 by_cases hkn : k = n
 ·have d1 : decide ((k : Int) < (n : Int)) = false := by simp; omega
  have d2 : ¬ (k : Int) < (n : Int) := by omega
  have HKN := Lib.hid hkn
  clear hkn
  go_wp2
  go_end0
  refine ⟨rfl, .slice a n c, HY.out, ?_, .inl (by rw [HN.out.1]), HGY.out⟩
  rw [HKN.out, HN.out.1, List.take_length]
  rw [← HN.out.1]
  exact HOWN.out
 ·have d1 : decide ((k : Int) < (n : Int)) = true := by simp; omega
  have d2 : (k : Int) < (n : Int) := by omega
  clear hkn
  have k0 : (0 : Int) ≤ (k : Int) := by omega
  have k3 : (k : Int) ≤ (c : Int) := by omega
  have lY := HY.out.lt
  go_upto_region 3 with fail
  have BD : Below Y.heap.size Y Y.drew := (Below.refl _ _).drew
  refine wp_region_noPanic ?_
  refine wp_region_anyE (S := fun wx => Below Y.heap.size Y wx) (E := fun j => decide (j < 13)) (by kernel_rfl) ?_
  have hHeld : Below Y.heap.size Y Y.drew := BD
  have HB := Lib.hid BD
  have hZ0 : ∃ z, z = Y.drew := ⟨_, rfl⟩
  obtain ⟨Z0, hZ0⟩ := hZ0
  rw [← hZ0] at HB hHeld ⊢
  clear hZ0 BD
  refine AnyE.take (i := 0) (.pointer (some ⟨b, 0, none⟩)) rfl (by kernel_rfl) (by kernel_rfl) (by kernel_rfl) (by kernel_rfl) (fun _ _ _ h => h) (.inl ⟨by kernel_rfl, fun wy hy => by (go_simp; done)⟩) hHeld ?_
  try simp only [Act.put, List.setIfInBounds_toArray, List.set_cons_zero, List.set_cons_succ]
  refine AnyE.take (i := 1) (.pointer (some ⟨b, 0, none⟩)) rfl (by kernel_rfl) (by kernel_rfl) (by kernel_rfl) (by kernel_rfl) (fun _ _ _ h => h) (.inl ⟨by kernel_rfl, fun wy hy => by (go_simp; done)⟩) hHeld ?_
  try simp only [Act.put, List.setIfInBounds_toArray, List.set_cons_zero, List.set_cons_succ]
  refine AnyE.take (i := 2) (.pointer (some ⟨b, 0, none⟩)) rfl (by kernel_rfl) (by kernel_rfl) (by kernel_rfl) (by kernel_rfl) (fun _ _ _ h => h) (.inl ⟨by kernel_rfl, fun wy hy => by (go_simp; done)⟩) hHeld ?_
  try simp only [Act.put, List.setIfInBounds_toArray, List.set_cons_zero, List.set_cons_succ]
  refine AnyE.take (i := 3) (.pointer (some ⟨b, 0, none⟩)) rfl (by kernel_rfl) (by kernel_rfl) (by kernel_rfl) (by kernel_rfl) (fun _ _ _ h => h) (.inl ⟨by kernel_rfl, fun wy hy => by (go_simp; done)⟩) hHeld ?_
  try simp only [Act.put, List.setIfInBounds_toArray, List.set_cons_zero, List.set_cons_succ]
  refine AnyE.take (i := 4) (.slice a n c) rfl (by kernel_rfl) (by kernel_rfl) (by kernel_rfl) (by kernel_rfl) (fun _ _ _ h => h) (.inl ⟨by kernel_rfl, fun wy hy => by (have q0 := (HY.out.kept (hy.block _ lY)).cells.1; go_simp; done)⟩) hHeld ?_
  try simp only [Act.put, List.setIfInBounds_toArray, List.set_cons_zero, List.set_cons_succ]
  refine AnyE.take (i := 5) (.pointer (some ⟨b, 0, none⟩)) rfl (by kernel_rfl) (by kernel_rfl) (by kernel_rfl) (by kernel_rfl) (fun _ _ _ h => h) (.inl ⟨by kernel_rfl, fun wy hy => by (go_simp; done)⟩) hHeld ?_
  try simp only [Act.put, List.setIfInBounds_toArray, List.set_cons_zero, List.set_cons_succ]
  refine AnyE.take (i := 6) (.pointer (some ⟨b, 0, none⟩)) rfl (by kernel_rfl) (by kernel_rfl) (by kernel_rfl) (by kernel_rfl) (fun _ _ _ h => h) (.inl ⟨by kernel_rfl, fun wy hy => by (go_simp; done)⟩) hHeld ?_
  try simp only [Act.put, List.setIfInBounds_toArray, List.set_cons_zero, List.set_cons_succ]
  refine AnyE.take (i := 7) (.pointer (some ⟨b, 1, none⟩)) rfl (by kernel_rfl) (by kernel_rfl) (by kernel_rfl) (by kernel_rfl) (fun _ _ _ h => h) (.inl ⟨by kernel_rfl, fun wy hy => by (go_simp; done)⟩) hHeld ?_
  try simp only [Act.put, List.setIfInBounds_toArray, List.set_cons_zero, List.set_cons_succ]
  refine AnyE.take (i := 8) (.int .i64 (k : Int)) rfl (by kernel_rfl) (by kernel_rfl) (by kernel_rfl) (by kernel_rfl) (fun _ _ _ h => h) (.inl ⟨by kernel_rfl, fun wy hy => by (have q0 := (HY.out.kept (hy.block _ lY)).cells.2; go_simp; done)⟩) hHeld ?_
  try simp only [Act.put, List.setIfInBounds_toArray, List.set_cons_zero, List.set_cons_succ]
  refine AnyE.take (i := 9) (.slice a k c) rfl (by kernel_rfl) (by kernel_rfl) (by kernel_rfl) (by kernel_rfl) (fun _ _ _ h => h) (.inl ⟨by kernel_rfl, fun wy hy => by (go_simp; first | done | (cases a <;> (go_simp; done)))⟩) hHeld ?_
  try simp only [Act.put, List.setIfInBounds_toArray, List.set_cons_zero, List.set_cons_succ]
  refine AnyE.one (i := 10) rfl (by kernel_rfl) (by kernel_rfl) (fun KK hK => ?_)
  go_simp
  go_at_call 34
  refine (bclone_any (((HO.out.1.upto4 k k2).go4 (w' := Y) (fun g off n9 c9 hv hb => ?_)).later HB.out) (by rw [List.length_take]; have := HN.out.1; omega)).mono ?_
  ·simp only [Value.slice.injEq] at hv
   obtain ⟨hv1, hv2, hv3⟩ := hv
   subst hv1
   exact HGY.out.block g hb (HBO.out g rfl)
  rintro e9 Z2 ⟨sv, rfl, ow, bw⟩
  have hm2 : ∃ m2, m2 = (dat.take k).length := ⟨_, rfl⟩
  obtain ⟨m2, hm2⟩ := hm2
  rw [← hm2] at ow
  have HM2 := Lib.hid hm2
  have hsf := own_form ow
  obtain ⟨ac, hsf⟩ := hsf
  obtain ⟨kc, hsf⟩ := hsf
  subst hsf
  have HOW := Lib.hid ow
  have HB1 := Lib.hid HB.out
  have HB := Lib.hid (HB.out.trans (bw.mono HB.out.size))
  clear ow bw hm2
  go_wp2_with fail
  refine hK.out _ _ ⟨fun _ => HB.out, ?_⟩
  have hHeld := HB.out
  clear hK
  try simp only [Act.put, List.setIfInBounds_toArray, List.set_cons_zero, List.set_cons_succ]
  refine AnyE.one (i := 11) rfl (by kernel_rfl) (by kernel_rfl) (fun KK hK => ?_)
  go_simp
  refine hK.out _ _ ⟨fun _ => HB.out, ?_⟩
  clear hK
  try simp only [Act.put, List.setIfInBounds_toArray, List.set_cons_zero, List.set_cons_succ]
  refine AnyE.one (i := 12) rfl (by kernel_rfl) (by kernel_rfl) (fun KK hK => ?_)
  go_simp
  refine hK.out _ _ ⟨fun _ => HB.out, ?_⟩
  clear hK
  try simp only [Act.put, List.setIfInBounds_toArray, List.set_cons_zero, List.set_cons_succ]
  refine AnyE.one (i := 13) rfl (by kernel_rfl) (by kernel_rfl) (fun KK hK => ?_)
  have z0 := (HY.out.kept (HB.out.block _ lY)).cells.1
  have z1 := (HY.out.kept (HB.out.block _ lY)).fz 0
  go_simp
  have bF : FBox (Z2.setCell ⟨b, 0, none⟩ (.slice ac m2 kc)) b (.slice ac m2 kc) k := (HY.out.kept (HB.out.block _ lY)).setV _
  have hnb : ∀ g, (Value.slice ac m2 kc).ownBlock = some g → Y.heap.size ≤ g := fun g hg => Nat.le_trans HB1.out.size (HOW.out.lt g hg).1
  have oF : OwnO (Z2.setCell ⟨b, 0, none⟩ (.slice ac m2 kc)) (fun i => (Value.slice a n c).ownBlock = some i ∨ w.heap.size ≤ i) (.slice ac m2 kc) (dat.take k) := by
   have o1 : OwnO Z2 (fun i => w.heap.size ≤ i) (.slice ac m2 kc) (dat.take k) := by
    refine ⟨⟨by rw [← HM2.out]; exact HOW.out.1, ?_⟩, fun x hx => HO.out.1.1 x (List.mem_of_mem_take hx), fun g hg => Nat.le_trans HGY.out.size (hnb g hg)⟩
    rw [← HM2.out]
    rcases HOW.out.2 with h | ⟨g, cap, cur, h1, h2, h3⟩
    ·exact .inl h
    ·exact .inr ⟨g, cap, cur, h1, Nat.zero_le _, h3⟩
   exact o1.kept (fun g hg => ⟨heap_setCell_other _ _ _ _ (fun e => by have := hnb g hg; simp only at e; omega), .inr (o1.blk g hg)⟩)
  have gF : Go4 w (Z2.setCell ⟨b, 0, none⟩ (.slice ac m2 kc)) (fun i => i = b) (fun i => i = b) := (HGY.out.trans (Go4.of_below HB.out)).trans (Go4.of_set (O := fun i => i = b) (a := ⟨b, 0, none⟩) rfl _)
  have HFIN := Lib.hid (And.intro bF (And.intro oF (And.intro gF hnb)))
  have hV : ∃ x, x = Z2.setCell ⟨b, 0, none⟩ (.slice ac m2 kc) := ⟨_, rfl⟩
  obtain ⟨V, hV⟩ := hV
  rw [← hV] at HFIN ⊢
  clear hV z0 z1 bF oF gF hnb hHeld
  refine hK.out _ _ ⟨fun h => (by cases h), ?_⟩
  clear hK
  try simp only [Act.put, List.setIfInBounds_toArray, List.set_cons_zero, List.set_cons_succ]
  refine AnyE.done (by kernel_rfl) (NoPanic.normal ?_) _
  go_simp
  go_end0
  refine ⟨rfl, _, HFIN.out.1, by rw [← HN.out.1]; exact HFIN.out.2.1, .inr (fun g hg => Nat.le_trans HGY.out.size (HFIN.out.2.2.2 g hg)), HFIN.out.2.2.1⟩
end Go.Proofs.Ytlkhphhmhffdjaa
