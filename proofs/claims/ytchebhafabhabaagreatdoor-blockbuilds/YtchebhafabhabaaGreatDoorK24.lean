import Derived.Test.YtchebhafabhabaaGreatDoorK23
namespace Go.Proofs.YtchebhafabhabaaGreatDoor
open Go.RowKit Go.Shelf
set_option linter.unusedVariables false
set_option linter.unusedSimpArgs false
attribute [local go_sem] Oper.semAt_some

structure RdBo (w : World) (a : Option Addr) (n c : Nat) (bs : List Bool) : Prop where
 len : bs.length = n
 cap : n ≤ c ∧ c ≤ maxLen
 at_ : n = 0 ∨ ∃ b off, a = some ⟨b, off, none⟩ ∧ ∀ (i : Nat) x, bs[i]? = some x → w.cell? ⟨b, off + i, none⟩ = some (.bool x)
theorem RdBo.later {w w' : World} {a : Option Addr} {n c : Nat} {bs : List Bool} (h : RdBo w a n c bs) (hb : Below w.heap.size w w') : RdBo w' a n c bs := by
 refine ⟨h.len, h.cap, ?_⟩
 rcases h.at_ with h1 | ⟨b, off, rfl, hc⟩
 ·exact .inl h1
 ·exact .inr ⟨b, off, rfl, fun i x hi => (hb.cell (World.block_lt_of_cell? _ _ (hc i x hi))).trans (hc i x hi)⟩
theorem four_new {X V : World} {o1 o2 o3 o4 : Array Value} {t1 t2 t3 t4 : TypeId} (hV : V = (((X.alloc (.cells o1 t1)).alloc (.cells o2 t2)).alloc (.cells o3 t3)).alloc (.cells o4 t4)) : Below X.heap.size X V ∧ V.heap.size = X.heap.size + 4 ∧ V.heap[X.heap.size]? = some (.cells o1 t1 (0, 0)) ∧ V.heap[X.heap.size + 1]? = some (.cells o2 t2 (0, 0)) ∧ V.heap[X.heap.size + 2]? = some (.cells o3 t3 (0, 0)) ∧ V.heap[X.heap.size + 3]? = some (.cells o4 t4 (0, 0)) := by
 subst hV
 have b1 := (Below.refl X.heap.size X).alloc (Nat.le_refl _) (.cells o1 t1)
 have b2 := b1.alloc b1.size (.cells o2 t2)
 have b3 := b2.alloc b2.size (.cells o3 t3)
 have b4 := b3.alloc b3.size (.cells o4 t4)
 have k1 := heap_alloc_new X (.cells o1 t1)
 have k2 := heap_alloc_new (X.alloc (.cells o1 t1)) (.cells o2 t2)
 have k3 := heap_alloc_new ((X.alloc (.cells o1 t1)).alloc (.cells o2 t2)) (.cells o3 t3)
 have k4 := heap_alloc_new (((X.alloc (.cells o1 t1)).alloc (.cells o2 t2)).alloc (.cells o3 t3)) (.cells o4 t4)
 have al : ∀ (w : World) (o : Obj), Below w.heap.size w (w.alloc o) := fun w o => (Below.refl w.heap.size w).alloc (Nat.le_refl _) o
 simp only [World.size_alloc] at k2 k3 k4
 exact ⟨b4, by simp, keepF (al _ _) (keepF (al _ _) (keepF (al _ _) k1)), keepF (al _ _) (keepF (al _ _) k2), keepF (al _ _) k3, k4⟩
theorem half_new {w : World} {h g r B : Nat} (hb : w.heap[h]? = some (.cells #[.pointer (some ⟨g, 0, none⟩), .int .i64 (r : Int), .slice none 0 0] 32 (0, 0))) (bx : BBox w g (r : Int) 0 (.slice none 0 0) (.slice none 0 0) (.slice none 0 0)) (hB : B ≤ g) (hgh : g ≠ h) (hl : h < w.heap.size) : HfX w h g r B Bs.zero [] (fun k => k = g) (fun k => k = h) := by
 have hg := (Array.getElem?_eq_some_iff.1 bx).1
 refine ⟨⟨_, _, _, none, 0, ⟨hb, bd_zero bx hB, ⟨⟨Nat.le_refl _, by unfold maxLen; omega⟩, .inl rfl, fun x hx => (by cases hx), fun _ => rfl⟩, rfl, by simp⟩, ?_, ?_⟩, rfl, fun D hD => (by cases hD), fun k e1 e2 => hgh (e1.symm.trans e2), ?_⟩
 ·rintro k ((e | e | e) | e)
  ·exact e
  ·cases e
  ·cases e
  ·cases e
 ·rintro k ⟨ad, e, -⟩
  cases e
 ·rintro k (e | e)
  ·rw [e]; exact hg
  ·rw [e]; exact hl
set_option maxRecDepth 100000 in
set_option maxHeartbeats 8000000 in
theorem blockBuilds_walk {W : World} {a a2 : Option Addr} {cap n2 c2 : Nat} {l : List EntD} {bs : List Bool} (r o : Int) (hr : RdL5 W a cap l) (hb : RdBo W a2 n2 c2 bs) (ht : Tab W) :
  Calls Tryz.prog 3 #[.int .i64 r, .int .i64 o, .slice a l.length cap, .slice a2 n2 c2] W fun x w' => x = .returned (.bool true) ∧ Below W.heap.size W w' := by
 obtain ⟨N0, hN0⟩ : ∃ N, N = l.length := ⟨_, rfl⟩
 rw [← hN0]
 have HN0 := Lib.hid hN0
 have HR := Lib.hid hr
 have HBo := Lib.hid hb
 have HT := Lib.hid ht
 have hcap := hr.cap
 clear hN0 hr hb ht
 go_enter Tryz.func3, Tryz.ntmps3
 go_wp2_with fail
 refine (told5_any W HT.out).mono ?_
 rintro z X1 ⟨rfl, b1⟩
 have HB1 := Lib.hid b1
 clear b1
 go_wp2_with fail
 refine (begin_any r X1).mono ?_
 rintro z X2 ⟨b2, hz2⟩
 have HB2 := Lib.hid (HB1.out.trans (b2.mono HB1.out.size))
 have HX12 := Lib.hid b2
 clear b2
 rcases hz2 with ⟨hr0, rfl⟩ | ⟨hr0, g0, hg0, rfl, bx0⟩
 ·have hrb : ∀ wx, Calls Tryz.prog 9 #[.int .i64 r] wx fun e w' => e = .returned (.int .i64 1) ∧ w' = wx := fun wx => by
   have := begin5_any r wx
   rw [if_neg hr0] at this
   exact this
  go_wp2_with fail
  refine (begin_any o X2).mono ?_
  rintro z X3 ⟨b3, hz3⟩
  have HB3 := Lib.hid (HB2.out.trans (b3.mono HB2.out.size))
  clear b3
  rcases hz3 with ⟨ho0, rfl⟩ | ⟨ho0, g1, hg1, rfl, -⟩
  ·have hob : ∀ wx, Calls Tryz.prog 9 #[.int .i64 o] wx fun e w' => e = .returned (.int .i64 1) ∧ w' = wx := fun wx => by
    have := begin5_any o wx
    rw [if_neg ho0] at this
    exact this
   clear hr0 ho0
   go_wp2_with fail
   refine (hrb _).mono ?_
   rintro z X4 ⟨rfl, rfl⟩
   go_wp2_with fail
   refine (hob _).mono ?_
   rintro z X5 ⟨rfl, rfl⟩
   go_wp2
   go_ret
   exact ⟨rfl, HB3.out⟩
  ·have hob : ∀ wx, Calls Tryz.prog 9 #[.int .i64 o] wx fun e w' => e = .returned (.int .i64 0) ∧ w' = wx := fun wx => by
    have := begin5_any o wx
    rw [if_pos ho0] at this
    exact this
   clear hr0 ho0
   go_wp2_with fail
   refine (hrb _).mono ?_
   rintro z X4 ⟨rfl, rfl⟩
   go_wp2_with fail
   refine (hob _).mono ?_
   rintro z X5 ⟨rfl, rfl⟩
   go_wp2
   go_ret
   exact ⟨rfl, HB3.out⟩
 ·have hrb : ∀ wx, Calls Tryz.prog 9 #[.int .i64 r] wx fun e w' => e = .returned (.int .i64 0) ∧ w' = wx := fun wx => by
   have := begin5_any r wx
   rw [if_pos hr0] at this
   exact this
  go_wp2_with fail
  refine (begin_any o X2).mono ?_
  rintro z X3 ⟨b3, hz3⟩
  have HB3 := Lib.hid (HB2.out.trans (b3.mono HB2.out.size))
  have HX23 := Lib.hid b3
  clear b3
  rcases hz3 with ⟨ho0, rfl⟩ | ⟨ho0, g1, hg1, rfl, bx1⟩
  ·have hob : ∀ wx, Calls Tryz.prog 9 #[.int .i64 o] wx fun e w' => e = .returned (.int .i64 1) ∧ w' = wx := fun wx => by
    have := begin5_any o wx
    rw [if_neg ho0] at this
    exact this
   clear hr0 ho0 bx0
   go_wp2_with fail
   refine (hrb _).mono ?_
   rintro z X4 ⟨rfl, rfl⟩
   go_wp2_with fail
   refine (hob _).mono ?_
   rintro z X5 ⟨rfl, rfl⟩
   go_wp2
   go_ret
   exact ⟨rfl, HB3.out⟩
  ·have hob : ∀ wx, Calls Tryz.prog 9 #[.int .i64 o] wx fun e w' => e = .returned (.int .i64 0) ∧ w' = wx := fun wx => by
    have := begin5_any o wx
    rw [if_pos ho0] at this
    exact this
   obtain ⟨r', rfl⟩ : ∃ r' : Nat, r = (r' : Int) := ⟨r.toNat, by omega⟩
   obtain ⟨o', rfl⟩ : ∃ o' : Nat, o = (o' : Int) := ⟨o.toNat, by omega⟩
   have HBx := Lib.hid (And.intro (bx0.later HX23.out) bx1)
   have HRo : Hid (1 ≤ r' ∧ r' ≤ 16 ∧ 1 ≤ o' ∧ o' ≤ 16) := by unfold Hid; omega
   have HG : Hid (X1.heap.size ≤ g0 ∧ g0 < X2.heap.size ∧ X2.heap.size ≤ g1 ∧ g1 < X3.heap.size) := ⟨hg0, (Array.getElem?_eq_some_iff.1 bx0).1, hg1, (Array.getElem?_eq_some_iff.1 bx1).1⟩
   clear hr0 ho0 bx0 bx1 hg0 hg1
   go_wp2_with fail
   refine (hrb _).mono ?_
   rintro z X4 ⟨rfl, rfl⟩
   go_wp2_with fail
   refine (hob _).mono ?_
   rintro z X5 ⟨rfl, rfl⟩
   clear hrb hob
   have hv : ∃ V, V = (((X5.alloc (.cells #[.pointer (some ⟨g0, 0, none⟩), .int .i64 (r' : Int), .slice none 0 0] 32)).alloc (.cells #[.pointer (some ⟨g1, 0, none⟩), .int .i64 (o' : Int), .slice none 0 0] 32)).alloc (.cells #[.pointer (some ⟨X5.heap.size, 0, none⟩), .pointer (some ⟨X5.heap.size + 1, 0, none⟩)] 30)).alloc (.cells #[.slice none 0 0, .slice none 0 0, .int .i64 0] 38) := ⟨_, rfl⟩
   obtain ⟨V, hV⟩ := hv
   have HV0 : Hid (Below X5.heap.size X5 V ∧ V.heap.size = X5.heap.size + 4 ∧ V.heap[X5.heap.size]? = some (.cells #[.pointer (some ⟨g0, 0, none⟩), .int .i64 (r' : Int), .slice none 0 0] 32 (0, 0)) ∧ V.heap[X5.heap.size + 1]? = some (.cells #[.pointer (some ⟨g1, 0, none⟩), .int .i64 (o' : Int), .slice none 0 0] 32 (0, 0)) ∧ V.heap[X5.heap.size + 2]? = some (.cells #[.pointer (some ⟨X5.heap.size, 0, none⟩), .pointer (some ⟨X5.heap.size + 1, 0, none⟩)] 30 (0, 0)) ∧ V.heap[X5.heap.size + 3]? = some (.cells #[.slice none 0 0, .slice none 0 0, .int .i64 0] 38 (0, 0))) := four_new hV
   have HVe := Lib.hid hV
   have HTr : Hid (Trio V W.heap.size (X5.heap.size + 2) X5.heap.size g0 r' Bs.zero [] (fun k => k = g0) (fun k => k = X5.heap.size) (X5.heap.size + 1) g1 o' Bs.zero [] (fun k => k = g1) (fun k => k = X5.heap.size + 1) (X5.heap.size + 3) (fun k => k = X5.heap.size + 3)) := by
    obtain ⟨v0, v1, v2, v3, v4, v5⟩ := HV0.out
    obtain ⟨q1, q2, q3, q4⟩ := HG.out
    have w1 := HB1.out.size
    have w2 := HX12.out.size
    have w3 := HX23.out.size
    refine ⟨half_new v2 (HBx.out.1.later v0) (by omega) (by omega) (by omega), half_new v3 (HBx.out.2.later v0) (by omega) (by omega) (by omega), fu_new v5, ?_, ?_, ?_, ?_⟩
    ·rintro k (e | e) (e2 | e2) <;> omega
    ·rintro k (e | e) e2 <;> omega
    ·rintro k (e | e) e2 <;> omega
    ·rintro k ((e | e) | (e | e) | e) <;> omega
   clear hV HBx HG
   by_cases h80 : 80 < N0
   ·have h80i : (80 : Int) < (N0 : Int) := by omega
    have h80c : (80 : Int) ≤ (cap : Int) := by have := HN0.out; omega
    obtain ⟨bz, oz, haz⟩ : ∃ bz oz, a = some ⟨bz, oz, none⟩ := by
     rcases HR.out.at_ with q | ⟨bz, oz, q, -⟩
     ·have := HN0.out; rw [q] at this; simp at this; omega
     ·exact ⟨bz, oz, q⟩
    subst haz
    obtain ⟨l9, hl9⟩ : ∃ l9, l9 = l.take 80 := ⟨_, rfl⟩
    have HR9 := Lib.hid (show RdL5 W (some ⟨bz, oz, none⟩) cap l9 by rw [hl9]; exact HR.out.takeN 80)
    have HN9 : Hid (80 = l9.length) := by
     unfold Hid
     rw [hl9, List.length_take, ← HN0.out]
     omega
    have hc9 := HR9.out.cap
    clear hl9
    go_wp2
    obtain ⟨N0, hN0⟩ : ∃ n : Nat, n = 80 := ⟨_, rfl⟩
    rw [← hN0] at HN9 ⊢
    obtain ⟨l, hl⟩ : ∃ l, l = l9 := ⟨_, rfl⟩
    rw [← hl] at HR9 HN9 hc9
    obtain ⟨a, ha⟩ : ∃ a, a = some (⟨bz, oz, none⟩ : Addr) := ⟨_, rfl⟩
    rw [← ha] at HR9 ⊢
    have HR := HR9
    have HN0 := HN9
    have hcap := hc9
    have h80 : ¬ 80 < N0 := by omega
    clear hN0 hl ha HR9 HN9 hc9 h80i h80c
    rw [← HVe.out]
    have H0 : Hid (∃ s0 l0 Pb Pl s1 l1 Qb Ql FO, Trio V W.heap.size (X5.heap.size + 2) X5.heap.size g0 r' s0 l0 Pb Pl (X5.heap.size + 1) g1 o' s1 l1 Qb Ql (X5.heap.size + 3) FO ∧ l0.length ≤ 0 ∧ l1.length ≤ 0 ∧ V.heap[X5.heap.size + 2]? = some (.cells #[.pointer (some ⟨X5.heap.size, 0, none⟩), .pointer (some ⟨X5.heap.size + 1, 0, none⟩)] 30 (0, 0)) ∧ Below W.heap.size W V ∧ X5.heap.size + 4 ≤ V.heap.size) := ⟨_, _, _, _, _, _, _, _, _, HTr.out, by simp, by simp, HV0.out.2.2.2.2.1, HB3.out.trans (HV0.out.1.mono HB3.out.size), by rw [HV0.out.2.1]; exact Nat.le_refl _⟩
    have hW5 : W.heap.size ≤ X5.heap.size := HB3.out.size
    clear HTr HV0 HVe
    generalize X5.heap.size = hz at *
    go_loopw [15, 16, 17, 18, 19, 20, 21] (fun i _ _ _ _ _ _ wr => ∃ k : Nat, k ≤ N0 ∧ i = .int .i64 (k : Int) ∧ Hid (∃ s0 l0 Pb Pl s1 l1 Qb Ql FO, Trio wr W.heap.size (hz + 2) hz g0 r' s0 l0 Pb Pl (hz + 1) g1 o' s1 l1 Qb Ql (hz + 3) FO ∧ l0.length ≤ k ∧ l1.length ≤ k ∧ wr.heap[hz + 2]? = some (.cells #[.pointer (some ⟨hz, 0, none⟩), .pointer (some ⟨hz + 1, 0, none⟩)] 30 (0, 0)) ∧ Below W.heap.size W wr ∧ hz + 4 ≤ wr.heap.size)) (fun i _ _ _ _ _ _ _ => N0 - (intOf i).toNat)
    case atStart => exact ⟨0, by omega, rfl, H0⟩
    case round =>
     clear H0
     obtain ⟨k, hk, rfl, HI⟩ := hrel
     obtain ⟨s0, l0, Pb, Pl, s1, l1, Qb, Ql, FO, tr, hl0, hl1, hgh, hbel, hsz4⟩ := HI.out
     have k0 : (0 : Int) ≤ (k : Int) := by omega
     have e0 : wr.cell? ⟨hz + 2, 0, none⟩ = some (.pointer (some ⟨hz, 0, none⟩)) := by simp [World.cell?, hgh]
     have e1 : wr.cell? ⟨hz + 2, 1, none⟩ = some (.pointer (some ⟨hz + 1, 0, none⟩)) := by simp [World.cell?, hgh]
     have HTr := Lib.hid tr
     have HSt := Lib.hid (And.intro hl0 (And.intro hl1 (And.intro hgh hbel)))
     have hrb := HBo.out.later hbel
     clear tr hl0 hl1 hgh hbel HI
     by_cases hlt : k < N0
     ·have hlt2 : (k : Int) < (N0 : Int) := by omega
      obtain ⟨x, hx⟩ : ∃ x, l[k]? = some x := ⟨_, List.getElem?_eq_getElem (by rw [← HN0.out]; exact hlt)⟩
      have hrd := HR.out.later HSt.out.2.2.2
      have hok := hrd.ok x (List.mem_of_getElem? hx)
      obtain ⟨b, off, rfl, d0, d1, d2, d3, d4, d5, d6⟩ := hrd.cel hx
      have HX := Lib.hid hx
      clear hrd hx
      by_cases hk2 : k < n2
      ·have hk2i : (k : Int) < (n2 : Int) := by omega
       obtain ⟨y, hy⟩ : ∃ y, bs[k]? = some y := ⟨_, List.getElem?_eq_getElem (by rw [hrb.len]; exact hk2)⟩
       obtain ⟨b2, off2, rfl, hyc⟩ : ∃ b2 off2, a2 = some ⟨b2, off2, none⟩ ∧ wr.cell? ⟨b2, off2 + k, none⟩ = some (.bool y) := by
        rcases hrb.at_ with h1 | ⟨b2, off2, h1, h2⟩
        ·omega
        ·exact ⟨b2, off2, h1, h2 k y hy⟩
       clear hrb hy
       cases y with
       | true =>
        go_upto_region 19 with fail
        refine bb19_region hok hlt ⟨d0, d1, d2, d3, d4, d5, d6⟩ (Lib.hid ?_)
        rintro ⟨vr1, fm1, vq1, ts1, sq1, kd1, vv1, rw1, ql1, va1⟩ ⟨vr2, fm2, vq2, ts2, sq2, kd2, vv2, rw2, ql2, va2⟩ b1 b2 Z hp
        obtain ⟨p1, m1, c1, e1x⟩ := hp.l1.1.form
        obtain ⟨pq1, mq1, cq1, e2x⟩ := hp.l1.2.1.form
        obtain ⟨pv1, mv1, cv1, e3x⟩ := hp.l1.2.2.form
        simp only at e1x e2x e3x
        subst e1x e2x e3x
        obtain ⟨p2, m2, c2, e1x⟩ := hp.l2.1.form
        obtain ⟨pq2, mq2, cq2, e2x⟩ := hp.l2.2.1.form
        obtain ⟨pv2, mv2, cv2, e3x⟩ := hp.l2.2.2.form
        simp only at e1x e2x e3x
        subst e1x e2x e3x
        have HP := Lib.hid hp
        have HTZ := Lib.hid (HTr.out.swap.later hp.bel)
        have hbelZ := HSt.out.2.2.2.trans (hp.bel.mono HSt.out.2.2.2.size)
        have HBZ := Lib.hid hbelZ
        obtain ⟨ve, vp, vl, a0, c0, hb, p1x, p2x⟩ := HTZ.out.a.ex
        obtain ⟨nl, hnl⟩ : ∃ nl, nl = l1.length := ⟨_, rfl⟩
        have hbx := hb.box
        rw [← hnl] at hbx
        have HHc : Hid (∀ wx, Below Z.heap.size Z wx → wx.cell? ⟨hz + 1, 0, none⟩ = some (.pointer (some ⟨g1, 0, none⟩)) ∧ wx.cell? ⟨hz + 1, 1, none⟩ = some (.int .i64 (o' : Int)) ∧ wx.cell? ⟨hz + 1, 2, none⟩ = some (.slice a0 nl c0)) := fun wx b => by
         have := (b.block (hz + 1) (Array.getElem?_eq_some_iff.1 hbx).1).trans hbx
         simp [World.cell?, this]
        have hf1 : EntD.Fine (EntD.mk (.slice p1 m1 c1) fm1 (.slice pq1 mq1 cq1) ts1 sq1 kd1 (.slice pv1 mv1 cv1) rw1 ql1 va1) := fine_same hp.s1 (EntD.cut_fine hok)
        have hf2 : EntD.Fine (EntD.mk (.slice p2 m2 c2) fm2 (.slice pq2 mq2 cq2) ts2 sq2 kd2 (.slice pv2 mv2 cv2) rw2 ql2 va2) := fine_same hp.s2 (EntD.cut_fine hok)
        have HOk := Lib.hid (And.intro (hp.l1.ok hf1) (hp.l2.ok hf2))
        have HFi := Lib.hid (And.intro hf1 hf2)
        have hlen : l1.length ≤ 100 := hb.len
        have HAd : Hid (∀ wx, Below Z.heap.size Z wx → Calls Tryz.prog 11 #[.int .i64 (o' : Int), .slice a0 nl c0, .agg #[.slice p2 m2 c2, .int .i64 fm2, .slice pq2 mq2 cq2, .int .i64 ts2, .int .i64 sq2, .int .i64 kd2, .slice pv2 mv2 cv2]] wx fun x w' => RaP wx o' a0 c0 l1 s1 (EntD.mk (.slice p2 m2 c2) fm2 (.slice pq2 mq2 cq2) ts2 sq2 kd2 (.slice pv2 mv2 cv2) rw2 ql2 va2) x w') := fun wx b => by
         have h := refAdd5_any (hb.rd.later b) (HOk.out.2.later b) (by have := HRo.out; omega) (by have := HRo.out; omega) hb.st (by omega)
         rw [← hnl] at h
         exact h
        have HHf := Lib.hid (And.intro hb (And.intro p1x p2x))
        have HNl := Lib.hid hnl
        have HC2 : Hid (∀ wx, Below Z.heap.size Z wx → EBox wx b2 (EntD.mk (.slice p2 m2 c2) fm2 (.slice pq2 mq2 cq2) ts2 sq2 kd2 (.slice pv2 mv2 cv2) rw2 ql2 va2)) := fun wx b => hp.e2.later b
        have HC1 : Hid (∀ wx, Below Z.heap.size Z wx → EBox wx b1 (EntD.mk (.slice p1 m1 c1) fm1 (.slice pq1 mq1 cq1) ts1 sq1 kd1 (.slice pv1 mv1 cv1) rw1 ql1 va1)) := fun wx b => hp.e1.later b
        clear hp hb p1x p2x hbx hnl hf1 hf2 d0 d1 d2 d3 d4 d5 d6 hok hbelZ
        go_upto_region 20 with fail
        have BD : Below Z.heap.size Z Z.drew := (Below.refl _ _).drew
        refine wp_region_noPanic ?_
        refine wp_region_held_drew (S := fun wx => Below Z.heap.size Z wx) (by kernel_rfl) BD (fun hHeld => ?_)
        refine wpAnyH_take (i := 0) (oi := { dst := some 119, op := _, type := _, pos := _, after := _, guard := _ }) (v := .pointer (some ⟨hz + 1, 0, none⟩)) rfl (by kernel_rfl) (by kernel_rfl) (by kernel_rfl) (fun _ _ _ h => h) (Or.inl ⟨by kernel_rfl, fun wy hy => by (go_simp; first | done | omega)⟩) (by assumption) ?_
        try simp only [Act.put, List.setIfInBounds_toArray, List.set_cons_zero, List.set_cons_succ]
        refine wpAnyH_take (i := 1) (oi := { dst := some 120, op := _, type := _, pos := _, after := _, guard := _ }) (v := .pointer (some ⟨hz + 1, 0, none⟩)) rfl (by kernel_rfl) (by kernel_rfl) (by kernel_rfl) (fun _ _ _ h => h) (Or.inl ⟨by kernel_rfl, fun wy hy => by (go_simp; first | done | omega)⟩) (by assumption) ?_
        try simp only [Act.put, List.setIfInBounds_toArray, List.set_cons_zero, List.set_cons_succ]
        refine wpAnyH_take (i := 2) (oi := { dst := some 121, op := _, type := _, pos := _, after := _, guard := _ }) (v := .pointer (some ⟨hz + 1, 1, none⟩)) rfl (by kernel_rfl) (by kernel_rfl) (by kernel_rfl) (fun _ _ _ h => h) (Or.inl ⟨by kernel_rfl, fun wy hy => by (go_simp; first | done | omega)⟩) (by assumption) ?_
        try simp only [Act.put, List.setIfInBounds_toArray, List.set_cons_zero, List.set_cons_succ]
        refine wpAnyH_take (i := 3) (oi := { dst := some 122, op := _, type := _, pos := _, after := _, guard := _ }) (v := .int .i64 (o' : Int)) rfl (by kernel_rfl) (by kernel_rfl) (by kernel_rfl) (fun _ _ _ h => h) (Or.inl ⟨by kernel_rfl, fun wy hy => by (obtain ⟨x0, x1, x2⟩ := HHc.out _ hy; go_simp; first | done | omega)⟩) (by assumption) ?_
        try simp only [Act.put, List.setIfInBounds_toArray, List.set_cons_zero, List.set_cons_succ]
        refine wpAnyH_take (i := 4) (oi := { dst := some 123, op := _, type := _, pos := _, after := _, guard := _ }) (v := .pointer (some ⟨hz + 1, 0, none⟩)) rfl (by kernel_rfl) (by kernel_rfl) (by kernel_rfl) (fun _ _ _ h => h) (Or.inl ⟨by kernel_rfl, fun wy hy => by (go_simp; first | done | omega)⟩) (by assumption) ?_
        try simp only [Act.put, List.setIfInBounds_toArray, List.set_cons_zero, List.set_cons_succ]
        refine wpAnyH_take (i := 5) (oi := { dst := some 124, op := _, type := _, pos := _, after := _, guard := _ }) (v := .pointer (some ⟨hz + 1, 0, none⟩)) rfl (by kernel_rfl) (by kernel_rfl) (by kernel_rfl) (fun _ _ _ h => h) (Or.inl ⟨by kernel_rfl, fun wy hy => by (go_simp; first | done | omega)⟩) (by assumption) ?_
        try simp only [Act.put, List.setIfInBounds_toArray, List.set_cons_zero, List.set_cons_succ]
        refine wpAnyH_take (i := 6) (oi := { dst := some 125, op := _, type := _, pos := _, after := _, guard := _ }) (v := .pointer (some ⟨hz + 1, 2, none⟩)) rfl (by kernel_rfl) (by kernel_rfl) (by kernel_rfl) (fun _ _ _ h => h) (Or.inl ⟨by kernel_rfl, fun wy hy => by (go_simp; first | done | omega)⟩) (by assumption) ?_
        try simp only [Act.put, List.setIfInBounds_toArray, List.set_cons_zero, List.set_cons_succ]
        refine wpAnyH_take (i := 7) (oi := { dst := some 126, op := _, type := _, pos := _, after := _, guard := _ }) (v := .slice a0 nl c0) rfl (by kernel_rfl) (by kernel_rfl) (by kernel_rfl) (fun _ _ _ h => h) (Or.inl ⟨by kernel_rfl, fun wy hy => by (obtain ⟨x0, x1, x2⟩ := HHc.out _ hy; go_simp; first | done | omega)⟩) (by assumption) ?_
        try simp only [Act.put, List.setIfInBounds_toArray, List.set_cons_zero, List.set_cons_succ]
        refine wpAnyH_take (i := 8) (oi := { dst := some 127, op := _, type := _, pos := _, after := _, guard := _ }) (v := .agg #[.slice p2 m2 c2, .int .i64 fm2, .slice pq2 mq2 cq2, .int .i64 ts2, .int .i64 sq2, .int .i64 kd2, .slice pv2 mv2 cv2]) rfl (by kernel_rfl) (by kernel_rfl) (by kernel_rfl) (fun _ _ _ h => h) (Or.inl ⟨by kernel_rfl, fun wy hy => by (obtain ⟨x0, x1, x2, x3, x4, x5, x6⟩ := (HC2.out _ hy).cells7; go_simp; done)⟩) (by assumption) ?_
        try simp only [Act.put, List.setIfInBounds_toArray, List.set_cons_zero, List.set_cons_succ]
        refine wpAnyH_ready (rs := [9]) (by kernel_rfl) (by simp) ?_
        refine AllReadyH.cons (o := { dst := some 128, op := _, type := _, pos := _, after := _, guard := _ }) rfl (fun KK hK => ?_) AllReadyH.nil
        go_simp
        go_at_call 11
        refine (HAd.out _ BD).mono ?_
        rintro e9 w1 ⟨bw1, a9, n9, c9, rfl, hbad, hgood⟩
        have bZ1 : Below Z.heap.size Z w1 := BD.trans (bw1.mono BD.size)
        obtain ⟨ec, hec⟩ : ∃ ec, ec = (addE o' s1 (EntD.mk (.slice p2 m2 c2) fm2 (.slice pq2 mq2 cq2) ts2 sq2 kd2 (.slice pv2 mv2 cv2) rw2 ql2 va2)).1 := ⟨_, rfl⟩
        rw [← hec] at hbad hgood ⊢
        have HRa := Lib.hid (And.intro bw1 (And.intro hbad (And.intro hgood hec)))
        clear bw1 hbad hgood hec HAd
        go_wp2_with fail
        refine hK.out _ _ bZ1 (fun hHeld => ?_)
        clear hK
        try simp only [Act.put, List.setIfInBounds_toArray, List.set_cons_zero, List.set_cons_succ]
        refine wpAnyH_take (i := 10) (oi := { dst := some 118, op := _, type := _, pos := _, after := _, guard := _ }) (v := .tuple #[.slice a9 n9 c9, .int .i64 (ec : Int)]) rfl (by kernel_rfl) (by kernel_rfl) (by kernel_rfl) (fun _ _ _ h => h) (Or.inl ⟨by kernel_rfl, fun wy hy => by (go_simp; first | done | omega)⟩) (by assumption) ?_
        try simp only [Act.put, List.setIfInBounds_toArray, List.set_cons_zero, List.set_cons_succ]
        refine wpAnyH_take (i := 11) (oi := { dst := some 129, op := _, type := _, pos := _, after := _, guard := _ }) (v := .slice a9 n9 c9) rfl (by kernel_rfl) (by kernel_rfl) (by kernel_rfl) (fun _ _ _ h => h) (Or.inl ⟨by kernel_rfl, fun wy hy => by (go_simp; first | done | omega)⟩) (by assumption) ?_
        try simp only [Act.put, List.setIfInBounds_toArray, List.set_cons_zero, List.set_cons_succ]
        refine wpAnyH_take (i := 13) (oi := { dst := some 19, op := _, type := _, pos := _, after := _, guard := _ }) (v := .slice a9 n9 c9) rfl (by kernel_rfl) (by kernel_rfl) (by kernel_rfl) (fun _ _ _ h => h) (Or.inl ⟨by kernel_rfl, fun wy hy => by (go_simp; first | done | omega)⟩) (by assumption) ?_
        try simp only [Act.put, List.setIfInBounds_toArray, List.set_cons_zero, List.set_cons_succ]
        refine wpAnyH_take (i := 12) (oi := { dst := some 130, op := _, type := _, pos := _, after := _, guard := _ }) (v := .int .i64 (ec : Int)) rfl (by kernel_rfl) (by kernel_rfl) (by kernel_rfl) (fun _ _ _ h => h) (Or.inl ⟨by kernel_rfl, fun wy hy => by (go_simp; first | done | omega)⟩) (by assumption) ?_
        try simp only [Act.put, List.setIfInBounds_toArray, List.set_cons_zero, List.set_cons_succ]
        refine wpAnyH_take (i := 14) (oi := { dst := some 20, op := _, type := _, pos := _, after := _, guard := _ }) (v := .int .i64 (ec : Int)) rfl (by kernel_rfl) (by kernel_rfl) (by kernel_rfl) (fun _ _ _ h => h) (Or.inl ⟨by kernel_rfl, fun wy hy => by (go_simp; first | done | omega)⟩) (by assumption) ?_
        try simp only [Act.put, List.setIfInBounds_toArray, List.set_cons_zero, List.set_cons_succ]
        refine wpAnyH_done (by kernel_rfl) (NoPanic.normal ?_) _
        clear hHeld BD
        go_simp
        have BD1 : Below w1.heap.size w1 w1.drew := (Below.refl _ _).drew
        have bZd : Below Z.heap.size Z w1.drew := bZ1.trans (BD1.mono bZ1.size)
        have HAn := Lib.hid (addN_any (e := (EntD.mk (.slice p1 m1 c1) fm1 (.slice pq1 mq1 cq1) ts1 sq1 kd1 (.slice pv1 mv1 cv1) rw1 ql1 va1)) (HHf.out.1.bd.later bZd) (by have := HRo.out; omega) (Nat.le_trans HBZ.out.size bZd.size) (fun wx fx => (HOk.out.1.later bZd).fbV fx (fun k hk z => by
         have q1 := (HP.out.l1.rng (HP.out.l1.adr hk)).1
         have q2 := HTr.out.swap.a.lt k (.inl (HHf.out.2.1 k (.inl z)))
         omega)))
        simp only [EntD.cells] at HAn
        go_upto_region 21 with fail
        refine wp_region_noPanic ?_
        refine wp_region_held_drew (S := fun wx => wx.cell? ⟨hz + 1, 0, none⟩ = some (.pointer (some ⟨g1, 0, none⟩)) ∧ EBox wx b1 (EntD.mk (.slice p1 m1 c1) fm1 (.slice pq1 mq1 cq1) ts1 sq1 kd1 (.slice pv1 mv1 cv1) rw1 ql1 va1)) (by kernel_rfl) ⟨(HHc.out _ bZd).1, HC1.out _ bZd⟩ (fun hHeld => ?_)
        refine wpAnyH_take (i := 0) (oi := { dst := some 131, op := _, type := _, pos := _, after := _, guard := _ }) (v := .pointer (some ⟨hz + 1, 0, none⟩)) rfl (by kernel_rfl) (by kernel_rfl) (by kernel_rfl) (fun _ _ _ h => h) (Or.inl ⟨by kernel_rfl, fun wy hy => by (go_simp; first | done | omega)⟩) (by assumption) ?_
        try simp only [Act.put, List.setIfInBounds_toArray, List.set_cons_zero, List.set_cons_succ]
        refine wpAnyH_take (i := 1) (oi := { dst := some 132, op := _, type := _, pos := _, after := _, guard := _ }) (v := .pointer (some ⟨hz + 1, 0, none⟩)) rfl (by kernel_rfl) (by kernel_rfl) (by kernel_rfl) (fun _ _ _ h => h) (Or.inl ⟨by kernel_rfl, fun wy hy => by (go_simp; first | done | omega)⟩) (by assumption) ?_
        try simp only [Act.put, List.setIfInBounds_toArray, List.set_cons_zero, List.set_cons_succ]
        refine wpAnyH_take (i := 2) (oi := { dst := some 133, op := _, type := _, pos := _, after := _, guard := _ }) (v := .pointer (some ⟨hz + 1, 0, none⟩)) rfl (by kernel_rfl) (by kernel_rfl) (by kernel_rfl) (fun _ _ _ h => h) (Or.inl ⟨by kernel_rfl, fun wy hy => by (go_simp; first | done | omega)⟩) (by assumption) ?_
        try simp only [Act.put, List.setIfInBounds_toArray, List.set_cons_zero, List.set_cons_succ]
        refine wpAnyH_take (i := 3) (oi := { dst := some 134, op := _, type := _, pos := _, after := _, guard := _ }) (v := .pointer (some ⟨g1, 0, none⟩)) rfl (by kernel_rfl) (by kernel_rfl) (by kernel_rfl) (fun _ _ _ h => h) (Or.inl ⟨by kernel_rfl, fun wy hy => by (obtain ⟨x0, -⟩ := hy; go_simp; first | done | omega)⟩) (by assumption) ?_
        try simp only [Act.put, List.setIfInBounds_toArray, List.set_cons_zero, List.set_cons_succ]
        refine wpAnyH_take (i := 4) (oi := { dst := some 135, op := _, type := _, pos := _, after := _, guard := _ }) (v := .agg #[.slice p1 m1 c1, .int .i64 fm1, .slice pq1 mq1 cq1, .int .i64 ts1, .int .i64 sq1, .int .i64 kd1, .slice pv1 mv1 cv1]) rfl (by kernel_rfl) (by kernel_rfl) (by kernel_rfl) (fun _ _ _ h => h) (Or.inl ⟨by kernel_rfl, fun wy hy => by (obtain ⟨x0, x1, x2, x3, x4, x5, x6⟩ := hy.2.cells7; go_simp; done)⟩) (by assumption) ?_
        try simp only [Act.put, List.setIfInBounds_toArray, List.set_cons_zero, List.set_cons_succ]
        refine wpAnyH_ready (rs := [5]) (by kernel_rfl) (by simp) ?_
        refine AllReadyH.cons (o := { dst := some 136, op := _, type := _, pos := _, after := _, guard := _ }) rfl (fun KK hK => ?_) AllReadyH.nil
        go_simp
        go_at_call 12
        refine HAn.out.mono ?_
        rintro e9 w2 han
        obtain ⟨rbw, rbad, rgood, rec_⟩ := HRa.out
        have hRnd := Trio.round HTr.out.swap HP.out HFi.out.1 HFi.out.2 HHf.out.1 HHf.out.2.1 HHf.out.2.2 bZd (by rw [← rec_]; exact rbad) (by rw [← rec_]; exact fun q => ⟨(rgood q).1, (rgood q).2.1.later BD1, (rgood q).2.2⟩) han (by have q1 := HSt.out.2.1; omega) (Nat.le_trans hW5 (by omega)) (by omega)
        rw [← rec_] at hRnd
        obtain ⟨rfl, hRnd⟩ := hRnd
        have HRn := Lib.hid hRnd
        have HAN := Lib.hid han
        clear hRnd han rbw rbad rgood rec_ HAn
        go_wp2_with fail
        have hx2 := HRn.out.2.2.2.2.1
        refine hK.out _ _ ⟨by simp [World.cell?, hx2], HRn.out.1⟩ (fun hHeld => ?_)
        clear hK hx2
        try simp only [Act.put, List.setIfInBounds_toArray, List.set_cons_zero, List.set_cons_succ]
        refine wpAnyH_take (i := 6) (oi := { dst := some 21, op := _, type := _, pos := _, after := _, guard := _ }) (v := .int .i64 (ec : Int)) rfl (by kernel_rfl) (by kernel_rfl) (by kernel_rfl) (fun _ _ _ h => h) (Or.inl ⟨by kernel_rfl, fun wy hy => by (go_simp; first | done | omega)⟩) (by assumption) ?_
        try simp only [Act.put, List.setIfInBounds_toArray, List.set_cons_zero, List.set_cons_succ]
        refine wpAnyH_done (by kernel_rfl) (NoPanic.normal ?_) _
        have HZd := Lib.hid (And.intro bZd BD1)
        clear hHeld BD1 bZd bZ1
        obtain ⟨x0, x1, x2, x3, x4, x5, x6⟩ := HRn.out.1.cells7
        obtain ⟨y0, y1, y2, y3, y4, y5, y6⟩ := HRn.out.2.1.cells7
        simp only at x0 x1 x2 x3 x4 x5 x6 y0 y1 y2 y3 y4 y5 y6
        have HSn := Lib.hid (stands5_any HRn.out.2.2.1 HRn.out.2.2.2.1 ⟨HP.out.s1.1.trans HP.out.s2.1.symm, HP.out.s1.2.1.trans HP.out.s2.2.1.symm, HP.out.s1.2.2.1.trans HP.out.s2.2.2.1.symm, HP.out.s1.2.2.2.1.trans HP.out.s2.2.2.2.1.symm, HP.out.s1.2.2.2.2.1.trans HP.out.s2.2.2.2.2.1.symm, HP.out.s1.2.2.2.2.2.1.trans HP.out.s2.2.2.2.2.2.1.symm, HP.out.s1.2.2.2.2.2.2.trans HP.out.s2.2.2.2.2.2.2.symm⟩ HFi.out.1)
        simp only [EntD.cells] at HSn
        go_simp
        go_wp2_with fail
        refine HSn.out.mono ?_
        rintro e9 w2b ⟨rfl, bs2⟩
        obtain ⟨rbw, rbad, rgood, rec_⟩ := HRa.out
        have hR3 := Trio.round HTr.out.swap HP.out HFi.out.1 HFi.out.2 HHf.out.1 HHf.out.2.1 HHf.out.2.2 HZd.out.1 (by rw [← rec_]; exact rbad) (by rw [← rec_]; exact fun q => ⟨(rgood q).1, (rgood q).2.1.later HZd.out.2, (rgood q).2.2⟩) (HAN.out.later bs2 (by have q1 := HBZ.out.size; have q2 := HZd.out.1.size; have q3 := HAN.out.2.2.2.size; omega)) (by have q1 := HSt.out.2.1; omega) (Nat.le_trans hW5 (by omega)) (by omega)
        rw [← rec_] at hR3
        obtain ⟨-, -, -, -, -, bx3, Pb2, Pl2, tr3, eb3, e33, hd1, hg3, hbl3⟩ := hR3
        rw [← HNl.out] at bx3
        have c2h : w2b.cell? ⟨hz + 1, 2, none⟩ = some (.slice a0 nl c0) := by simp [World.cell?, bx3]
        have c2f : w2b.frozen? ⟨hz + 1, 2, none⟩ = false := by simp [World.frozen?, bx3]
        obtain ⟨w3, hw3⟩ : ∃ w, w = w2b.setCell ⟨hz + 1, 2, none⟩ (.slice a9 n9 c9) := ⟨_, rfl⟩
        rw [← hw3] at tr3 eb3 e33 hg3 hbl3
        have HW3 := Lib.hid hw3
        have HT3 := Lib.hid (And.intro tr3 (And.intro hd1 (And.intro hg3 hbl3)))
        have HFe := Lib.hid (fentry_any tr3.fu e33 (fun k hk => (hd1 k hk).2.2.1))
        simp only [EntD.cells] at HFe
        obtain ⟨v0, v1, v2, v3, v4, v5, v6⟩ := eb3.cells7
        simp only at v0 v1 v2 v3 v4 v5 v6
        rw [hw3] at v0 v1 v2 v3 v4 v5 v6
        have HEc := Lib.hid rec_
        clear x0 x1 x2 x3 x4 x5 x6 y0 y1 y2 y3 y4 y5 y6 HSn rbw rbad rgood rec_ bx3 tr3 eb3 e33 hd1 hg3 hbl3 hw3 HRn HAN bs2
        go_wp2_with fail
        rw [← HW3.out]
        refine HFe.out.mono ?_
        rintro e9 w4 ⟨⟨v9, rfl⟩, fu4, fb4⟩
        obtain ⟨tr3, hd1, hg3, hbl3⟩ := HT3.out
        have hs3 : wr.heap.size ≤ w3.heap.size := hbl3.size
        have tr4 := tr3.full (X := EntD.blk (EntD.mk (.slice p1 m1 c1) fm1 (.slice pq1 mq1 cq1) ts1 sq1 kd1 (.slice pv1 mv1 cv1) rw1 ql1 va1)) fu4 fb4 (fun k hk => ⟨(hd1 k hk).1, (hd1 k hk).2.1⟩) (fun k q => q.elim .inl (fun z => .inr (z.elim .inl (fun y => .inr y.1)))) (fun k hk => (hd1 k hk).2.2.2) (by omega) (by omega)
        have hg4 : w4.heap[hz + 2]? = wr.heap[hz + 2]? := (fb4.block (hz + 2) (by omega) (fun z => z.elim (fun q => (tr3.lo _ (.inr (.inr q))).2 rfl) (fun q => (hd1 _ q).2.2.2.2 rfl))).trans hg3
        have hb4 : Below W.heap.size W w4 := (HSt.out.2.2.2.trans hbl3).trans ⟨fb4.os, fb4.tape, fb4.output, fb4.size, fun k hk => fb4.block k (by omega) (fun z => z.elim (fun q => by have := (tr3.lo k (.inr (.inr q))).1; omega) (fun q => by have := (hd1 k q).2.2.2.1; omega))⟩
        have hs4 := fb4.size
        have HA4 := Lib.hid (tr4.asks (by have := HRo.out; omega) (by have := HRo.out; omega) (HT.out.later hb4) (by omega) (by omega))
        have H4 := Lib.hid (And.intro tr4 (And.intro hg4 (And.intro hb4 (by omega : hz + 4 ≤ w4.heap.size))))
        clear tr3 hd1 hg3 hbl3 hs3 tr4 hg4 hb4 hs4 fu4 fb4 HFe HT3 HW3 v0 v1 v2 v3 v4 v5 v6 c2h c2f
        go_wp2_with fail
        refine HA4.out.mono ?_
        rintro e9 w5 ⟨rfl, ⟨FO5, tr5⟩, fb5⟩
        obtain ⟨tr4, hg4, hb4, hz4⟩ := H4.out
        have hg5 : w5.heap[hz + 2]? = wr.heap[hz + 2]? := (fb5.block (hz + 2) (by omega) (fun q => (tr4.lo _ (.inr (.inr q))).2 rfl)).trans hg4
        have hb5 : Below W.heap.size W w5 := hb4.trans ⟨fb5.os, fb5.tape, fb5.output, fb5.size, fun k hk => fb5.block k (by omega) (fun q => by have := (tr4.lo k (.inr (.inr q))).1; omega)⟩
        have hs5 := fb5.size
        have HA5 := Lib.hid (tr5.swap.asks (by have := HRo.out; omega) (by have := HRo.out; omega) (HT.out.later hb5) (by omega) (by omega))
        have g50 : w5.cell? ⟨hz + 2, 0, none⟩ = some (.pointer (some ⟨hz, 0, none⟩)) := by
         have := hg5.trans HSt.out.2.2.1
         simp [World.cell?, this]
        have H5 := Lib.hid (And.intro tr5 (And.intro hg5 (And.intro hb5 (by omega : hz + 4 ≤ w5.heap.size))))
        clear tr4 hg4 hb4 hz4 hg5 hb5 hs5 tr5 fb5 HA4 H4
        go_wp2_with fail
        refine HA5.out.mono ?_
        rintro e9 w6 ⟨rfl, ⟨FO6, tr6⟩, fb6⟩
        obtain ⟨tr5, hg5, hb5, hz5⟩ := H5.out
        have hg6 : w6.heap[hz + 2]? = wr.heap[hz + 2]? := (fb6.block (hz + 2) (by omega) (fun q => (tr5.lo _ (.inr (.inr q))).2 rfl)).trans hg5
        have hb6 : Below W.heap.size W w6 := hb5.trans ⟨fb6.os, fb6.tape, fb6.output, fb6.size, fun k hk => fb6.block k (by omega) (fun q => by have := (tr5.lo k (.inr (.inr q))).1; omega)⟩
        have hs6 := fb6.size
        have HWh := Lib.hid (whole_any tr6.fu)
        have H6 := Lib.hid (And.intro tr6 (And.intro hg6 (And.intro hb6 (by omega : hz + 4 ≤ w6.heap.size))))
        clear tr5 hg5 hb5 hz5 hg6 hb6 hs6 tr6 fb6 HA5 H5 g50
        go_wp2_with fail
        refine HWh.out.mono ?_
        rintro e9 w7 ⟨rfl, b7⟩
        have H7 : Hid (∃ s0 l0 Pb Pl s1 l1 Qb Ql FO, Trio w7 W.heap.size (hz + 2) hz g0 r' s0 l0 Pb Pl (hz + 1) g1 o' s1 l1 Qb Ql (hz + 3) FO ∧ l0.length ≤ k + 1 ∧ l1.length ≤ k + 1 ∧ w7.heap[hz + 2]? = some (.cells #[.pointer (some ⟨hz, 0, none⟩), .pointer (some ⟨hz + 1, 0, none⟩)] 30 (0, 0)) ∧ Below W.heap.size W w7 ∧ hz + 4 ≤ w7.heap.size) := by
         obtain ⟨tr6, hg6, hb6, hz6⟩ := H6.out
         have q1 := HSt.out.1
         have q2 := HSt.out.2.1
         refine ⟨_, _, _, _, _, _, _, _, _, (tr6.later b7), ?_, ?_, (b7.block _ (by omega)).trans (hg6.trans HSt.out.2.2.1), hb6.trans (b7.mono hb6.size), Nat.le_trans hz6 b7.size⟩
         ·first | omega | (split <;> first | omega | (simp; omega))
         ·first | omega | (split <;> first | omega | (simp; omega))
        clear b7 HWh H6
        go_wp2
        go_roundw
        case rel => exact ⟨k + 1, by omega, by go_num, H7⟩
        case measure => simp [intOf]; omega
       | false =>
        go_upto_region 19 with fail
        refine bb19_region hok hlt ⟨d0, d1, d2, d3, d4, d5, d6⟩ (Lib.hid ?_)
        rintro ⟨vr1, fm1, vq1, ts1, sq1, kd1, vv1, rw1, ql1, va1⟩ ⟨vr2, fm2, vq2, ts2, sq2, kd2, vv2, rw2, ql2, va2⟩ b1 b2 Z hp
        obtain ⟨p1, m1, c1, e1x⟩ := hp.l1.1.form
        obtain ⟨pq1, mq1, cq1, e2x⟩ := hp.l1.2.1.form
        obtain ⟨pv1, mv1, cv1, e3x⟩ := hp.l1.2.2.form
        simp only at e1x e2x e3x
        subst e1x e2x e3x
        obtain ⟨p2, m2, c2, e1x⟩ := hp.l2.1.form
        obtain ⟨pq2, mq2, cq2, e2x⟩ := hp.l2.2.1.form
        obtain ⟨pv2, mv2, cv2, e3x⟩ := hp.l2.2.2.form
        simp only at e1x e2x e3x
        subst e1x e2x e3x
        have HP := Lib.hid hp
        have HTZ := Lib.hid (HTr.out.later hp.bel)
        have hbelZ := HSt.out.2.2.2.trans (hp.bel.mono HSt.out.2.2.2.size)
        have HBZ := Lib.hid hbelZ
        obtain ⟨ve, vp, vl, a0, c0, hb, p1x, p2x⟩ := HTZ.out.a.ex
        obtain ⟨nl, hnl⟩ : ∃ nl, nl = l0.length := ⟨_, rfl⟩
        have hbx := hb.box
        rw [← hnl] at hbx
        have HHc : Hid (∀ wx, Below Z.heap.size Z wx → wx.cell? ⟨hz, 0, none⟩ = some (.pointer (some ⟨g0, 0, none⟩)) ∧ wx.cell? ⟨hz, 1, none⟩ = some (.int .i64 (r' : Int)) ∧ wx.cell? ⟨hz, 2, none⟩ = some (.slice a0 nl c0)) := fun wx b => by
         have := (b.block (hz) (Array.getElem?_eq_some_iff.1 hbx).1).trans hbx
         simp [World.cell?, this]
        have hf1 : EntD.Fine (EntD.mk (.slice p1 m1 c1) fm1 (.slice pq1 mq1 cq1) ts1 sq1 kd1 (.slice pv1 mv1 cv1) rw1 ql1 va1) := fine_same hp.s1 (EntD.cut_fine hok)
        have hf2 : EntD.Fine (EntD.mk (.slice p2 m2 c2) fm2 (.slice pq2 mq2 cq2) ts2 sq2 kd2 (.slice pv2 mv2 cv2) rw2 ql2 va2) := fine_same hp.s2 (EntD.cut_fine hok)
        have HOk := Lib.hid (And.intro (hp.l1.ok hf1) (hp.l2.ok hf2))
        have HFi := Lib.hid (And.intro hf1 hf2)
        have hlen : l0.length ≤ 100 := hb.len
        have HAd : Hid (∀ wx, Below Z.heap.size Z wx → Calls Tryz.prog 11 #[.int .i64 (r' : Int), .slice a0 nl c0, .agg #[.slice p2 m2 c2, .int .i64 fm2, .slice pq2 mq2 cq2, .int .i64 ts2, .int .i64 sq2, .int .i64 kd2, .slice pv2 mv2 cv2]] wx fun x w' => RaP wx r' a0 c0 l0 s0 (EntD.mk (.slice p2 m2 c2) fm2 (.slice pq2 mq2 cq2) ts2 sq2 kd2 (.slice pv2 mv2 cv2) rw2 ql2 va2) x w') := fun wx b => by
         have h := refAdd5_any (hb.rd.later b) (HOk.out.2.later b) (by have := HRo.out; omega) (by have := HRo.out; omega) hb.st (by omega)
         rw [← hnl] at h
         exact h
        have HHf := Lib.hid (And.intro hb (And.intro p1x p2x))
        have HNl := Lib.hid hnl
        have HC2 : Hid (∀ wx, Below Z.heap.size Z wx → EBox wx b2 (EntD.mk (.slice p2 m2 c2) fm2 (.slice pq2 mq2 cq2) ts2 sq2 kd2 (.slice pv2 mv2 cv2) rw2 ql2 va2)) := fun wx b => hp.e2.later b
        have HC1 : Hid (∀ wx, Below Z.heap.size Z wx → EBox wx b1 (EntD.mk (.slice p1 m1 c1) fm1 (.slice pq1 mq1 cq1) ts1 sq1 kd1 (.slice pv1 mv1 cv1) rw1 ql1 va1)) := fun wx b => hp.e1.later b
        clear hp hb p1x p2x hbx hnl hf1 hf2 d0 d1 d2 d3 d4 d5 d6 hok hbelZ
        go_upto_region 20 with fail
        have BD : Below Z.heap.size Z Z.drew := (Below.refl _ _).drew
        refine wp_region_noPanic ?_
        refine wp_region_held_drew (S := fun wx => Below Z.heap.size Z wx) (by kernel_rfl) BD (fun hHeld => ?_)
        refine wpAnyH_take (i := 0) (oi := { dst := some 119, op := _, type := _, pos := _, after := _, guard := _ }) (v := .pointer (some ⟨hz, 0, none⟩)) rfl (by kernel_rfl) (by kernel_rfl) (by kernel_rfl) (fun _ _ _ h => h) (Or.inl ⟨by kernel_rfl, fun wy hy => by (go_simp; first | done | omega)⟩) (by assumption) ?_
        try simp only [Act.put, List.setIfInBounds_toArray, List.set_cons_zero, List.set_cons_succ]
        refine wpAnyH_take (i := 1) (oi := { dst := some 120, op := _, type := _, pos := _, after := _, guard := _ }) (v := .pointer (some ⟨hz, 0, none⟩)) rfl (by kernel_rfl) (by kernel_rfl) (by kernel_rfl) (fun _ _ _ h => h) (Or.inl ⟨by kernel_rfl, fun wy hy => by (go_simp; first | done | omega)⟩) (by assumption) ?_
        try simp only [Act.put, List.setIfInBounds_toArray, List.set_cons_zero, List.set_cons_succ]
        refine wpAnyH_take (i := 2) (oi := { dst := some 121, op := _, type := _, pos := _, after := _, guard := _ }) (v := .pointer (some ⟨hz, 1, none⟩)) rfl (by kernel_rfl) (by kernel_rfl) (by kernel_rfl) (fun _ _ _ h => h) (Or.inl ⟨by kernel_rfl, fun wy hy => by (go_simp; first | done | omega)⟩) (by assumption) ?_
        try simp only [Act.put, List.setIfInBounds_toArray, List.set_cons_zero, List.set_cons_succ]
        refine wpAnyH_take (i := 3) (oi := { dst := some 122, op := _, type := _, pos := _, after := _, guard := _ }) (v := .int .i64 (r' : Int)) rfl (by kernel_rfl) (by kernel_rfl) (by kernel_rfl) (fun _ _ _ h => h) (Or.inl ⟨by kernel_rfl, fun wy hy => by (obtain ⟨x0, x1, x2⟩ := HHc.out _ hy; go_simp; first | done | omega)⟩) (by assumption) ?_
        try simp only [Act.put, List.setIfInBounds_toArray, List.set_cons_zero, List.set_cons_succ]
        refine wpAnyH_take (i := 4) (oi := { dst := some 123, op := _, type := _, pos := _, after := _, guard := _ }) (v := .pointer (some ⟨hz, 0, none⟩)) rfl (by kernel_rfl) (by kernel_rfl) (by kernel_rfl) (fun _ _ _ h => h) (Or.inl ⟨by kernel_rfl, fun wy hy => by (go_simp; first | done | omega)⟩) (by assumption) ?_
        try simp only [Act.put, List.setIfInBounds_toArray, List.set_cons_zero, List.set_cons_succ]
        refine wpAnyH_take (i := 5) (oi := { dst := some 124, op := _, type := _, pos := _, after := _, guard := _ }) (v := .pointer (some ⟨hz, 0, none⟩)) rfl (by kernel_rfl) (by kernel_rfl) (by kernel_rfl) (fun _ _ _ h => h) (Or.inl ⟨by kernel_rfl, fun wy hy => by (go_simp; first | done | omega)⟩) (by assumption) ?_
        try simp only [Act.put, List.setIfInBounds_toArray, List.set_cons_zero, List.set_cons_succ]
        refine wpAnyH_take (i := 6) (oi := { dst := some 125, op := _, type := _, pos := _, after := _, guard := _ }) (v := .pointer (some ⟨hz, 2, none⟩)) rfl (by kernel_rfl) (by kernel_rfl) (by kernel_rfl) (fun _ _ _ h => h) (Or.inl ⟨by kernel_rfl, fun wy hy => by (go_simp; first | done | omega)⟩) (by assumption) ?_
        try simp only [Act.put, List.setIfInBounds_toArray, List.set_cons_zero, List.set_cons_succ]
        refine wpAnyH_take (i := 7) (oi := { dst := some 126, op := _, type := _, pos := _, after := _, guard := _ }) (v := .slice a0 nl c0) rfl (by kernel_rfl) (by kernel_rfl) (by kernel_rfl) (fun _ _ _ h => h) (Or.inl ⟨by kernel_rfl, fun wy hy => by (obtain ⟨x0, x1, x2⟩ := HHc.out _ hy; go_simp; first | done | omega)⟩) (by assumption) ?_
        try simp only [Act.put, List.setIfInBounds_toArray, List.set_cons_zero, List.set_cons_succ]
        refine wpAnyH_take (i := 8) (oi := { dst := some 127, op := _, type := _, pos := _, after := _, guard := _ }) (v := .agg #[.slice p2 m2 c2, .int .i64 fm2, .slice pq2 mq2 cq2, .int .i64 ts2, .int .i64 sq2, .int .i64 kd2, .slice pv2 mv2 cv2]) rfl (by kernel_rfl) (by kernel_rfl) (by kernel_rfl) (fun _ _ _ h => h) (Or.inl ⟨by kernel_rfl, fun wy hy => by (obtain ⟨x0, x1, x2, x3, x4, x5, x6⟩ := (HC2.out _ hy).cells7; go_simp; done)⟩) (by assumption) ?_
        try simp only [Act.put, List.setIfInBounds_toArray, List.set_cons_zero, List.set_cons_succ]
        refine wpAnyH_ready (rs := [9]) (by kernel_rfl) (by simp) ?_
        refine AllReadyH.cons (o := { dst := some 128, op := _, type := _, pos := _, after := _, guard := _ }) rfl (fun KK hK => ?_) AllReadyH.nil
        go_simp
        go_at_call 11
        refine (HAd.out _ BD).mono ?_
        rintro e9 w1 ⟨bw1, a9, n9, c9, rfl, hbad, hgood⟩
        have bZ1 : Below Z.heap.size Z w1 := BD.trans (bw1.mono BD.size)
        obtain ⟨ec, hec⟩ : ∃ ec, ec = (addE r' s0 (EntD.mk (.slice p2 m2 c2) fm2 (.slice pq2 mq2 cq2) ts2 sq2 kd2 (.slice pv2 mv2 cv2) rw2 ql2 va2)).1 := ⟨_, rfl⟩
        rw [← hec] at hbad hgood ⊢
        have HRa := Lib.hid (And.intro bw1 (And.intro hbad (And.intro hgood hec)))
        clear bw1 hbad hgood hec HAd
        go_wp2_with fail
        refine hK.out _ _ bZ1 (fun hHeld => ?_)
        clear hK
        try simp only [Act.put, List.setIfInBounds_toArray, List.set_cons_zero, List.set_cons_succ]
        refine wpAnyH_take (i := 10) (oi := { dst := some 118, op := _, type := _, pos := _, after := _, guard := _ }) (v := .tuple #[.slice a9 n9 c9, .int .i64 (ec : Int)]) rfl (by kernel_rfl) (by kernel_rfl) (by kernel_rfl) (fun _ _ _ h => h) (Or.inl ⟨by kernel_rfl, fun wy hy => by (go_simp; first | done | omega)⟩) (by assumption) ?_
        try simp only [Act.put, List.setIfInBounds_toArray, List.set_cons_zero, List.set_cons_succ]
        refine wpAnyH_take (i := 11) (oi := { dst := some 129, op := _, type := _, pos := _, after := _, guard := _ }) (v := .slice a9 n9 c9) rfl (by kernel_rfl) (by kernel_rfl) (by kernel_rfl) (fun _ _ _ h => h) (Or.inl ⟨by kernel_rfl, fun wy hy => by (go_simp; first | done | omega)⟩) (by assumption) ?_
        try simp only [Act.put, List.setIfInBounds_toArray, List.set_cons_zero, List.set_cons_succ]
        refine wpAnyH_take (i := 13) (oi := { dst := some 19, op := _, type := _, pos := _, after := _, guard := _ }) (v := .slice a9 n9 c9) rfl (by kernel_rfl) (by kernel_rfl) (by kernel_rfl) (fun _ _ _ h => h) (Or.inl ⟨by kernel_rfl, fun wy hy => by (go_simp; first | done | omega)⟩) (by assumption) ?_
        try simp only [Act.put, List.setIfInBounds_toArray, List.set_cons_zero, List.set_cons_succ]
        refine wpAnyH_take (i := 12) (oi := { dst := some 130, op := _, type := _, pos := _, after := _, guard := _ }) (v := .int .i64 (ec : Int)) rfl (by kernel_rfl) (by kernel_rfl) (by kernel_rfl) (fun _ _ _ h => h) (Or.inl ⟨by kernel_rfl, fun wy hy => by (go_simp; first | done | omega)⟩) (by assumption) ?_
        try simp only [Act.put, List.setIfInBounds_toArray, List.set_cons_zero, List.set_cons_succ]
        refine wpAnyH_take (i := 14) (oi := { dst := some 20, op := _, type := _, pos := _, after := _, guard := _ }) (v := .int .i64 (ec : Int)) rfl (by kernel_rfl) (by kernel_rfl) (by kernel_rfl) (fun _ _ _ h => h) (Or.inl ⟨by kernel_rfl, fun wy hy => by (go_simp; first | done | omega)⟩) (by assumption) ?_
        try simp only [Act.put, List.setIfInBounds_toArray, List.set_cons_zero, List.set_cons_succ]
        refine wpAnyH_done (by kernel_rfl) (NoPanic.normal ?_) _
        clear hHeld BD
        go_simp
        have BD1 : Below w1.heap.size w1 w1.drew := (Below.refl _ _).drew
        have bZd : Below Z.heap.size Z w1.drew := bZ1.trans (BD1.mono bZ1.size)
        have HAn := Lib.hid (addN_any (e := (EntD.mk (.slice p1 m1 c1) fm1 (.slice pq1 mq1 cq1) ts1 sq1 kd1 (.slice pv1 mv1 cv1) rw1 ql1 va1)) (HHf.out.1.bd.later bZd) (by have := HRo.out; omega) (Nat.le_trans HBZ.out.size bZd.size) (fun wx fx => (HOk.out.1.later bZd).fbV fx (fun k hk z => by
         have q1 := (HP.out.l1.rng (HP.out.l1.adr hk)).1
         have q2 := HTr.out.a.lt k (.inl (HHf.out.2.1 k (.inl z)))
         omega)))
        simp only [EntD.cells] at HAn
        go_upto_region 21 with fail
        refine wp_region_noPanic ?_
        refine wp_region_held_drew (S := fun wx => wx.cell? ⟨hz, 0, none⟩ = some (.pointer (some ⟨g0, 0, none⟩)) ∧ EBox wx b1 (EntD.mk (.slice p1 m1 c1) fm1 (.slice pq1 mq1 cq1) ts1 sq1 kd1 (.slice pv1 mv1 cv1) rw1 ql1 va1)) (by kernel_rfl) ⟨(HHc.out _ bZd).1, HC1.out _ bZd⟩ (fun hHeld => ?_)
        refine wpAnyH_take (i := 0) (oi := { dst := some 131, op := _, type := _, pos := _, after := _, guard := _ }) (v := .pointer (some ⟨hz, 0, none⟩)) rfl (by kernel_rfl) (by kernel_rfl) (by kernel_rfl) (fun _ _ _ h => h) (Or.inl ⟨by kernel_rfl, fun wy hy => by (go_simp; first | done | omega)⟩) (by assumption) ?_
        try simp only [Act.put, List.setIfInBounds_toArray, List.set_cons_zero, List.set_cons_succ]
        refine wpAnyH_take (i := 1) (oi := { dst := some 132, op := _, type := _, pos := _, after := _, guard := _ }) (v := .pointer (some ⟨hz, 0, none⟩)) rfl (by kernel_rfl) (by kernel_rfl) (by kernel_rfl) (fun _ _ _ h => h) (Or.inl ⟨by kernel_rfl, fun wy hy => by (go_simp; first | done | omega)⟩) (by assumption) ?_
        try simp only [Act.put, List.setIfInBounds_toArray, List.set_cons_zero, List.set_cons_succ]
        refine wpAnyH_take (i := 2) (oi := { dst := some 133, op := _, type := _, pos := _, after := _, guard := _ }) (v := .pointer (some ⟨hz, 0, none⟩)) rfl (by kernel_rfl) (by kernel_rfl) (by kernel_rfl) (fun _ _ _ h => h) (Or.inl ⟨by kernel_rfl, fun wy hy => by (go_simp; first | done | omega)⟩) (by assumption) ?_
        try simp only [Act.put, List.setIfInBounds_toArray, List.set_cons_zero, List.set_cons_succ]
        refine wpAnyH_take (i := 3) (oi := { dst := some 134, op := _, type := _, pos := _, after := _, guard := _ }) (v := .pointer (some ⟨g0, 0, none⟩)) rfl (by kernel_rfl) (by kernel_rfl) (by kernel_rfl) (fun _ _ _ h => h) (Or.inl ⟨by kernel_rfl, fun wy hy => by (obtain ⟨x0, -⟩ := hy; go_simp; first | done | omega)⟩) (by assumption) ?_
        try simp only [Act.put, List.setIfInBounds_toArray, List.set_cons_zero, List.set_cons_succ]
        refine wpAnyH_take (i := 4) (oi := { dst := some 135, op := _, type := _, pos := _, after := _, guard := _ }) (v := .agg #[.slice p1 m1 c1, .int .i64 fm1, .slice pq1 mq1 cq1, .int .i64 ts1, .int .i64 sq1, .int .i64 kd1, .slice pv1 mv1 cv1]) rfl (by kernel_rfl) (by kernel_rfl) (by kernel_rfl) (fun _ _ _ h => h) (Or.inl ⟨by kernel_rfl, fun wy hy => by (obtain ⟨x0, x1, x2, x3, x4, x5, x6⟩ := hy.2.cells7; go_simp; done)⟩) (by assumption) ?_
        try simp only [Act.put, List.setIfInBounds_toArray, List.set_cons_zero, List.set_cons_succ]
        refine wpAnyH_ready (rs := [5]) (by kernel_rfl) (by simp) ?_
        refine AllReadyH.cons (o := { dst := some 136, op := _, type := _, pos := _, after := _, guard := _ }) rfl (fun KK hK => ?_) AllReadyH.nil
        go_simp
        go_at_call 12
        refine HAn.out.mono ?_
        rintro e9 w2 han
        obtain ⟨rbw, rbad, rgood, rec_⟩ := HRa.out
        have hRnd := Trio.round HTr.out HP.out HFi.out.1 HFi.out.2 HHf.out.1 HHf.out.2.1 HHf.out.2.2 bZd (by rw [← rec_]; exact rbad) (by rw [← rec_]; exact fun q => ⟨(rgood q).1, (rgood q).2.1.later BD1, (rgood q).2.2⟩) han (by have q1 := HSt.out.1; omega) (Nat.le_trans hW5 (by omega)) (by omega)
        rw [← rec_] at hRnd
        obtain ⟨rfl, hRnd⟩ := hRnd
        have HRn := Lib.hid hRnd
        have HAN := Lib.hid han
        clear hRnd han rbw rbad rgood rec_ HAn
        go_wp2_with fail
        have hx2 := HRn.out.2.2.2.2.1
        refine hK.out _ _ ⟨by simp [World.cell?, hx2], HRn.out.1⟩ (fun hHeld => ?_)
        clear hK hx2
        try simp only [Act.put, List.setIfInBounds_toArray, List.set_cons_zero, List.set_cons_succ]
        refine wpAnyH_take (i := 6) (oi := { dst := some 21, op := _, type := _, pos := _, after := _, guard := _ }) (v := .int .i64 (ec : Int)) rfl (by kernel_rfl) (by kernel_rfl) (by kernel_rfl) (fun _ _ _ h => h) (Or.inl ⟨by kernel_rfl, fun wy hy => by (go_simp; first | done | omega)⟩) (by assumption) ?_
        try simp only [Act.put, List.setIfInBounds_toArray, List.set_cons_zero, List.set_cons_succ]
        refine wpAnyH_done (by kernel_rfl) (NoPanic.normal ?_) _
        have HZd := Lib.hid (And.intro bZd BD1)
        clear hHeld BD1 bZd bZ1
        obtain ⟨x0, x1, x2, x3, x4, x5, x6⟩ := HRn.out.1.cells7
        obtain ⟨y0, y1, y2, y3, y4, y5, y6⟩ := HRn.out.2.1.cells7
        simp only at x0 x1 x2 x3 x4 x5 x6 y0 y1 y2 y3 y4 y5 y6
        have HSn := Lib.hid (stands5_any HRn.out.2.2.1 HRn.out.2.2.2.1 ⟨HP.out.s1.1.trans HP.out.s2.1.symm, HP.out.s1.2.1.trans HP.out.s2.2.1.symm, HP.out.s1.2.2.1.trans HP.out.s2.2.2.1.symm, HP.out.s1.2.2.2.1.trans HP.out.s2.2.2.2.1.symm, HP.out.s1.2.2.2.2.1.trans HP.out.s2.2.2.2.2.1.symm, HP.out.s1.2.2.2.2.2.1.trans HP.out.s2.2.2.2.2.2.1.symm, HP.out.s1.2.2.2.2.2.2.trans HP.out.s2.2.2.2.2.2.2.symm⟩ HFi.out.1)
        simp only [EntD.cells] at HSn
        go_simp
        go_wp2_with fail
        refine HSn.out.mono ?_
        rintro e9 w2b ⟨rfl, bs2⟩
        obtain ⟨rbw, rbad, rgood, rec_⟩ := HRa.out
        have hR3 := Trio.round HTr.out HP.out HFi.out.1 HFi.out.2 HHf.out.1 HHf.out.2.1 HHf.out.2.2 HZd.out.1 (by rw [← rec_]; exact rbad) (by rw [← rec_]; exact fun q => ⟨(rgood q).1, (rgood q).2.1.later HZd.out.2, (rgood q).2.2⟩) (HAN.out.later bs2 (by have q1 := HBZ.out.size; have q2 := HZd.out.1.size; have q3 := HAN.out.2.2.2.size; omega)) (by have q1 := HSt.out.1; omega) (Nat.le_trans hW5 (by omega)) (by omega)
        rw [← rec_] at hR3
        obtain ⟨-, -, -, -, -, bx3, Pb2, Pl2, tr3, eb3, e33, hd1, hg3, hbl3⟩ := hR3
        rw [← HNl.out] at bx3
        have c2h : w2b.cell? ⟨hz, 2, none⟩ = some (.slice a0 nl c0) := by simp [World.cell?, bx3]
        have c2f : w2b.frozen? ⟨hz, 2, none⟩ = false := by simp [World.frozen?, bx3]
        obtain ⟨w3, hw3⟩ : ∃ w, w = w2b.setCell ⟨hz, 2, none⟩ (.slice a9 n9 c9) := ⟨_, rfl⟩
        rw [← hw3] at tr3 eb3 e33 hg3 hbl3
        have HW3 := Lib.hid hw3
        have HT3 := Lib.hid (And.intro tr3 (And.intro hd1 (And.intro hg3 hbl3)))
        have HFe := Lib.hid (fentry_any tr3.fu e33 (fun k hk => (hd1 k hk).2.2.1))
        simp only [EntD.cells] at HFe
        obtain ⟨v0, v1, v2, v3, v4, v5, v6⟩ := eb3.cells7
        simp only at v0 v1 v2 v3 v4 v5 v6
        rw [hw3] at v0 v1 v2 v3 v4 v5 v6
        have HEc := Lib.hid rec_
        clear x0 x1 x2 x3 x4 x5 x6 y0 y1 y2 y3 y4 y5 y6 HSn rbw rbad rgood rec_ bx3 tr3 eb3 e33 hd1 hg3 hbl3 hw3 HRn HAN bs2
        go_wp2_with fail
        rw [← HW3.out]
        refine HFe.out.mono ?_
        rintro e9 w4 ⟨⟨v9, rfl⟩, fu4, fb4⟩
        obtain ⟨tr3, hd1, hg3, hbl3⟩ := HT3.out
        have hs3 : wr.heap.size ≤ w3.heap.size := hbl3.size
        have tr4 := tr3.full (X := EntD.blk (EntD.mk (.slice p1 m1 c1) fm1 (.slice pq1 mq1 cq1) ts1 sq1 kd1 (.slice pv1 mv1 cv1) rw1 ql1 va1)) fu4 fb4 (fun k hk => ⟨(hd1 k hk).1, (hd1 k hk).2.1⟩) (fun k q => q.elim .inl (fun z => .inr (z.elim .inl (fun y => .inr y.1)))) (fun k hk => (hd1 k hk).2.2.2) (by omega) (by omega)
        have hg4 : w4.heap[hz + 2]? = wr.heap[hz + 2]? := (fb4.block (hz + 2) (by omega) (fun z => z.elim (fun q => (tr3.lo _ (.inr (.inr q))).2 rfl) (fun q => (hd1 _ q).2.2.2.2 rfl))).trans hg3
        have hb4 : Below W.heap.size W w4 := (HSt.out.2.2.2.trans hbl3).trans ⟨fb4.os, fb4.tape, fb4.output, fb4.size, fun k hk => fb4.block k (by omega) (fun z => z.elim (fun q => by have := (tr3.lo k (.inr (.inr q))).1; omega) (fun q => by have := (hd1 k q).2.2.2.1; omega))⟩
        have hs4 := fb4.size
        have HA4 := Lib.hid (tr4.asks (by have := HRo.out; omega) (by have := HRo.out; omega) (HT.out.later hb4) (by omega) (by omega))
        have H4 := Lib.hid (And.intro tr4 (And.intro hg4 (And.intro hb4 (by omega : hz + 4 ≤ w4.heap.size))))
        clear tr3 hd1 hg3 hbl3 hs3 tr4 hg4 hb4 hs4 fu4 fb4 HFe HT3 HW3 v0 v1 v2 v3 v4 v5 v6 c2h c2f
        go_wp2_with fail
        refine HA4.out.mono ?_
        rintro e9 w5 ⟨rfl, ⟨FO5, tr5⟩, fb5⟩
        obtain ⟨tr4, hg4, hb4, hz4⟩ := H4.out
        have hg5 : w5.heap[hz + 2]? = wr.heap[hz + 2]? := (fb5.block (hz + 2) (by omega) (fun q => (tr4.lo _ (.inr (.inr q))).2 rfl)).trans hg4
        have hb5 : Below W.heap.size W w5 := hb4.trans ⟨fb5.os, fb5.tape, fb5.output, fb5.size, fun k hk => fb5.block k (by omega) (fun q => by have := (tr4.lo k (.inr (.inr q))).1; omega)⟩
        have hs5 := fb5.size
        have HA5 := Lib.hid (tr5.asks (by have := HRo.out; omega) (by have := HRo.out; omega) (HT.out.later hb5) (by omega) (by omega))
        have g50 : w5.cell? ⟨hz + 2, 0, none⟩ = some (.pointer (some ⟨hz, 0, none⟩)) := by
         have := hg5.trans HSt.out.2.2.1
         simp [World.cell?, this]
        have H5 := Lib.hid (And.intro tr5 (And.intro hg5 (And.intro hb5 (by omega : hz + 4 ≤ w5.heap.size))))
        clear tr4 hg4 hb4 hz4 hg5 hb5 hs5 tr5 fb5 HA4 H4
        go_wp2_with fail
        refine HA5.out.mono ?_
        rintro e9 w6 ⟨rfl, ⟨FO6, tr6⟩, fb6⟩
        obtain ⟨tr5, hg5, hb5, hz5⟩ := H5.out
        have hg6 : w6.heap[hz + 2]? = wr.heap[hz + 2]? := (fb6.block (hz + 2) (by omega) (fun q => (tr5.lo _ (.inr (.inr q))).2 rfl)).trans hg5
        have hb6 : Below W.heap.size W w6 := hb5.trans ⟨fb6.os, fb6.tape, fb6.output, fb6.size, fun k hk => fb6.block k (by omega) (fun q => by have := (tr5.lo k (.inr (.inr q))).1; omega)⟩
        have hs6 := fb6.size
        have HWh := Lib.hid (whole_any tr6.fu)
        have H6 := Lib.hid (And.intro tr6 (And.intro hg6 (And.intro hb6 (by omega : hz + 4 ≤ w6.heap.size))))
        clear tr5 hg5 hb5 hz5 hg6 hb6 hs6 tr6 fb6 HA5 H5 g50
        go_wp2_with fail
        refine HWh.out.mono ?_
        rintro e9 w7 ⟨rfl, b7⟩
        have H7 : Hid (∃ s0 l0 Pb Pl s1 l1 Qb Ql FO, Trio w7 W.heap.size (hz + 2) hz g0 r' s0 l0 Pb Pl (hz + 1) g1 o' s1 l1 Qb Ql (hz + 3) FO ∧ l0.length ≤ k + 1 ∧ l1.length ≤ k + 1 ∧ w7.heap[hz + 2]? = some (.cells #[.pointer (some ⟨hz, 0, none⟩), .pointer (some ⟨hz + 1, 0, none⟩)] 30 (0, 0)) ∧ Below W.heap.size W w7 ∧ hz + 4 ≤ w7.heap.size) := by
         obtain ⟨tr6, hg6, hb6, hz6⟩ := H6.out
         have q1 := HSt.out.1
         have q2 := HSt.out.2.1
         refine ⟨_, _, _, _, _, _, _, _, _, (tr6.later b7), ?_, ?_, (b7.block _ (by omega)).trans (hg6.trans HSt.out.2.2.1), hb6.trans (b7.mono hb6.size), Nat.le_trans hz6 b7.size⟩
         ·first | omega | (split <;> first | omega | (simp; omega))
         ·first | omega | (split <;> first | omega | (simp; omega))
        clear b7 HWh H6
        go_wp2
        go_roundw
        case rel => exact ⟨k + 1, by omega, by go_num, H7⟩
        case measure => simp [intOf]; omega
      ·have hk2i : ¬ (k : Int) < (n2 : Int) := by omega
       clear hrb
       go_upto_region 19 with fail
       refine bb19_region hok hlt ⟨d0, d1, d2, d3, d4, d5, d6⟩ (Lib.hid ?_)
       rintro ⟨vr1, fm1, vq1, ts1, sq1, kd1, vv1, rw1, ql1, va1⟩ ⟨vr2, fm2, vq2, ts2, sq2, kd2, vv2, rw2, ql2, va2⟩ b1 b2 Z hp
       obtain ⟨p1, m1, c1, e1x⟩ := hp.l1.1.form
       obtain ⟨pq1, mq1, cq1, e2x⟩ := hp.l1.2.1.form
       obtain ⟨pv1, mv1, cv1, e3x⟩ := hp.l1.2.2.form
       simp only at e1x e2x e3x
       subst e1x e2x e3x
       obtain ⟨p2, m2, c2, e1x⟩ := hp.l2.1.form
       obtain ⟨pq2, mq2, cq2, e2x⟩ := hp.l2.2.1.form
       obtain ⟨pv2, mv2, cv2, e3x⟩ := hp.l2.2.2.form
       simp only at e1x e2x e3x
       subst e1x e2x e3x
       have HP := Lib.hid hp
       have HTZ := Lib.hid (HTr.out.later hp.bel)
       have hbelZ := HSt.out.2.2.2.trans (hp.bel.mono HSt.out.2.2.2.size)
       have HBZ := Lib.hid hbelZ
       obtain ⟨ve, vp, vl, a0, c0, hb, p1x, p2x⟩ := HTZ.out.a.ex
       obtain ⟨nl, hnl⟩ : ∃ nl, nl = l0.length := ⟨_, rfl⟩
       have hbx := hb.box
       rw [← hnl] at hbx
       have HHc : Hid (∀ wx, Below Z.heap.size Z wx → wx.cell? ⟨hz, 0, none⟩ = some (.pointer (some ⟨g0, 0, none⟩)) ∧ wx.cell? ⟨hz, 1, none⟩ = some (.int .i64 (r' : Int)) ∧ wx.cell? ⟨hz, 2, none⟩ = some (.slice a0 nl c0)) := fun wx b => by
        have := (b.block (hz) (Array.getElem?_eq_some_iff.1 hbx).1).trans hbx
        simp [World.cell?, this]
       have hf1 : EntD.Fine (EntD.mk (.slice p1 m1 c1) fm1 (.slice pq1 mq1 cq1) ts1 sq1 kd1 (.slice pv1 mv1 cv1) rw1 ql1 va1) := fine_same hp.s1 (EntD.cut_fine hok)
       have hf2 : EntD.Fine (EntD.mk (.slice p2 m2 c2) fm2 (.slice pq2 mq2 cq2) ts2 sq2 kd2 (.slice pv2 mv2 cv2) rw2 ql2 va2) := fine_same hp.s2 (EntD.cut_fine hok)
       have HOk := Lib.hid (And.intro (hp.l1.ok hf1) (hp.l2.ok hf2))
       have HFi := Lib.hid (And.intro hf1 hf2)
       have hlen : l0.length ≤ 100 := hb.len
       have HAd : Hid (∀ wx, Below Z.heap.size Z wx → Calls Tryz.prog 11 #[.int .i64 (r' : Int), .slice a0 nl c0, .agg #[.slice p2 m2 c2, .int .i64 fm2, .slice pq2 mq2 cq2, .int .i64 ts2, .int .i64 sq2, .int .i64 kd2, .slice pv2 mv2 cv2]] wx fun x w' => RaP wx r' a0 c0 l0 s0 (EntD.mk (.slice p2 m2 c2) fm2 (.slice pq2 mq2 cq2) ts2 sq2 kd2 (.slice pv2 mv2 cv2) rw2 ql2 va2) x w') := fun wx b => by
        have h := refAdd5_any (hb.rd.later b) (HOk.out.2.later b) (by have := HRo.out; omega) (by have := HRo.out; omega) hb.st (by omega)
        rw [← hnl] at h
        exact h
       have HHf := Lib.hid (And.intro hb (And.intro p1x p2x))
       have HNl := Lib.hid hnl
       have HC2 : Hid (∀ wx, Below Z.heap.size Z wx → EBox wx b2 (EntD.mk (.slice p2 m2 c2) fm2 (.slice pq2 mq2 cq2) ts2 sq2 kd2 (.slice pv2 mv2 cv2) rw2 ql2 va2)) := fun wx b => hp.e2.later b
       have HC1 : Hid (∀ wx, Below Z.heap.size Z wx → EBox wx b1 (EntD.mk (.slice p1 m1 c1) fm1 (.slice pq1 mq1 cq1) ts1 sq1 kd1 (.slice pv1 mv1 cv1) rw1 ql1 va1)) := fun wx b => hp.e1.later b
       clear hp hb p1x p2x hbx hnl hf1 hf2 d0 d1 d2 d3 d4 d5 d6 hok hbelZ
       go_upto_region 20 with fail
       have BD : Below Z.heap.size Z Z.drew := (Below.refl _ _).drew
       refine wp_region_noPanic ?_
       refine wp_region_held_drew (S := fun wx => Below Z.heap.size Z wx) (by kernel_rfl) BD (fun hHeld => ?_)
       refine wpAnyH_take (i := 0) (oi := { dst := some 119, op := _, type := _, pos := _, after := _, guard := _ }) (v := .pointer (some ⟨hz, 0, none⟩)) rfl (by kernel_rfl) (by kernel_rfl) (by kernel_rfl) (fun _ _ _ h => h) (Or.inl ⟨by kernel_rfl, fun wy hy => by (go_simp; first | done | omega)⟩) (by assumption) ?_
       try simp only [Act.put, List.setIfInBounds_toArray, List.set_cons_zero, List.set_cons_succ]
       refine wpAnyH_take (i := 1) (oi := { dst := some 120, op := _, type := _, pos := _, after := _, guard := _ }) (v := .pointer (some ⟨hz, 0, none⟩)) rfl (by kernel_rfl) (by kernel_rfl) (by kernel_rfl) (fun _ _ _ h => h) (Or.inl ⟨by kernel_rfl, fun wy hy => by (go_simp; first | done | omega)⟩) (by assumption) ?_
       try simp only [Act.put, List.setIfInBounds_toArray, List.set_cons_zero, List.set_cons_succ]
       refine wpAnyH_take (i := 2) (oi := { dst := some 121, op := _, type := _, pos := _, after := _, guard := _ }) (v := .pointer (some ⟨hz, 1, none⟩)) rfl (by kernel_rfl) (by kernel_rfl) (by kernel_rfl) (fun _ _ _ h => h) (Or.inl ⟨by kernel_rfl, fun wy hy => by (go_simp; first | done | omega)⟩) (by assumption) ?_
       try simp only [Act.put, List.setIfInBounds_toArray, List.set_cons_zero, List.set_cons_succ]
       refine wpAnyH_take (i := 3) (oi := { dst := some 122, op := _, type := _, pos := _, after := _, guard := _ }) (v := .int .i64 (r' : Int)) rfl (by kernel_rfl) (by kernel_rfl) (by kernel_rfl) (fun _ _ _ h => h) (Or.inl ⟨by kernel_rfl, fun wy hy => by (obtain ⟨x0, x1, x2⟩ := HHc.out _ hy; go_simp; first | done | omega)⟩) (by assumption) ?_
       try simp only [Act.put, List.setIfInBounds_toArray, List.set_cons_zero, List.set_cons_succ]
       refine wpAnyH_take (i := 4) (oi := { dst := some 123, op := _, type := _, pos := _, after := _, guard := _ }) (v := .pointer (some ⟨hz, 0, none⟩)) rfl (by kernel_rfl) (by kernel_rfl) (by kernel_rfl) (fun _ _ _ h => h) (Or.inl ⟨by kernel_rfl, fun wy hy => by (go_simp; first | done | omega)⟩) (by assumption) ?_
       try simp only [Act.put, List.setIfInBounds_toArray, List.set_cons_zero, List.set_cons_succ]
       refine wpAnyH_take (i := 5) (oi := { dst := some 124, op := _, type := _, pos := _, after := _, guard := _ }) (v := .pointer (some ⟨hz, 0, none⟩)) rfl (by kernel_rfl) (by kernel_rfl) (by kernel_rfl) (fun _ _ _ h => h) (Or.inl ⟨by kernel_rfl, fun wy hy => by (go_simp; first | done | omega)⟩) (by assumption) ?_
       try simp only [Act.put, List.setIfInBounds_toArray, List.set_cons_zero, List.set_cons_succ]
       refine wpAnyH_take (i := 6) (oi := { dst := some 125, op := _, type := _, pos := _, after := _, guard := _ }) (v := .pointer (some ⟨hz, 2, none⟩)) rfl (by kernel_rfl) (by kernel_rfl) (by kernel_rfl) (fun _ _ _ h => h) (Or.inl ⟨by kernel_rfl, fun wy hy => by (go_simp; first | done | omega)⟩) (by assumption) ?_
       try simp only [Act.put, List.setIfInBounds_toArray, List.set_cons_zero, List.set_cons_succ]
       refine wpAnyH_take (i := 7) (oi := { dst := some 126, op := _, type := _, pos := _, after := _, guard := _ }) (v := .slice a0 nl c0) rfl (by kernel_rfl) (by kernel_rfl) (by kernel_rfl) (fun _ _ _ h => h) (Or.inl ⟨by kernel_rfl, fun wy hy => by (obtain ⟨x0, x1, x2⟩ := HHc.out _ hy; go_simp; first | done | omega)⟩) (by assumption) ?_
       try simp only [Act.put, List.setIfInBounds_toArray, List.set_cons_zero, List.set_cons_succ]
       refine wpAnyH_take (i := 8) (oi := { dst := some 127, op := _, type := _, pos := _, after := _, guard := _ }) (v := .agg #[.slice p2 m2 c2, .int .i64 fm2, .slice pq2 mq2 cq2, .int .i64 ts2, .int .i64 sq2, .int .i64 kd2, .slice pv2 mv2 cv2]) rfl (by kernel_rfl) (by kernel_rfl) (by kernel_rfl) (fun _ _ _ h => h) (Or.inl ⟨by kernel_rfl, fun wy hy => by (obtain ⟨x0, x1, x2, x3, x4, x5, x6⟩ := (HC2.out _ hy).cells7; go_simp; done)⟩) (by assumption) ?_
       try simp only [Act.put, List.setIfInBounds_toArray, List.set_cons_zero, List.set_cons_succ]
       refine wpAnyH_ready (rs := [9]) (by kernel_rfl) (by simp) ?_
       refine AllReadyH.cons (o := { dst := some 128, op := _, type := _, pos := _, after := _, guard := _ }) rfl (fun KK hK => ?_) AllReadyH.nil
       go_simp
       go_at_call 11
       refine (HAd.out _ BD).mono ?_
       rintro e9 w1 ⟨bw1, a9, n9, c9, rfl, hbad, hgood⟩
       have bZ1 : Below Z.heap.size Z w1 := BD.trans (bw1.mono BD.size)
       obtain ⟨ec, hec⟩ : ∃ ec, ec = (addE r' s0 (EntD.mk (.slice p2 m2 c2) fm2 (.slice pq2 mq2 cq2) ts2 sq2 kd2 (.slice pv2 mv2 cv2) rw2 ql2 va2)).1 := ⟨_, rfl⟩
       rw [← hec] at hbad hgood ⊢
       have HRa := Lib.hid (And.intro bw1 (And.intro hbad (And.intro hgood hec)))
       clear bw1 hbad hgood hec HAd
       go_wp2_with fail
       refine hK.out _ _ bZ1 (fun hHeld => ?_)
       clear hK
       try simp only [Act.put, List.setIfInBounds_toArray, List.set_cons_zero, List.set_cons_succ]
       refine wpAnyH_take (i := 10) (oi := { dst := some 118, op := _, type := _, pos := _, after := _, guard := _ }) (v := .tuple #[.slice a9 n9 c9, .int .i64 (ec : Int)]) rfl (by kernel_rfl) (by kernel_rfl) (by kernel_rfl) (fun _ _ _ h => h) (Or.inl ⟨by kernel_rfl, fun wy hy => by (go_simp; first | done | omega)⟩) (by assumption) ?_
       try simp only [Act.put, List.setIfInBounds_toArray, List.set_cons_zero, List.set_cons_succ]
       refine wpAnyH_take (i := 11) (oi := { dst := some 129, op := _, type := _, pos := _, after := _, guard := _ }) (v := .slice a9 n9 c9) rfl (by kernel_rfl) (by kernel_rfl) (by kernel_rfl) (fun _ _ _ h => h) (Or.inl ⟨by kernel_rfl, fun wy hy => by (go_simp; first | done | omega)⟩) (by assumption) ?_
       try simp only [Act.put, List.setIfInBounds_toArray, List.set_cons_zero, List.set_cons_succ]
       refine wpAnyH_take (i := 13) (oi := { dst := some 19, op := _, type := _, pos := _, after := _, guard := _ }) (v := .slice a9 n9 c9) rfl (by kernel_rfl) (by kernel_rfl) (by kernel_rfl) (fun _ _ _ h => h) (Or.inl ⟨by kernel_rfl, fun wy hy => by (go_simp; first | done | omega)⟩) (by assumption) ?_
       try simp only [Act.put, List.setIfInBounds_toArray, List.set_cons_zero, List.set_cons_succ]
       refine wpAnyH_take (i := 12) (oi := { dst := some 130, op := _, type := _, pos := _, after := _, guard := _ }) (v := .int .i64 (ec : Int)) rfl (by kernel_rfl) (by kernel_rfl) (by kernel_rfl) (fun _ _ _ h => h) (Or.inl ⟨by kernel_rfl, fun wy hy => by (go_simp; first | done | omega)⟩) (by assumption) ?_
       try simp only [Act.put, List.setIfInBounds_toArray, List.set_cons_zero, List.set_cons_succ]
       refine wpAnyH_take (i := 14) (oi := { dst := some 20, op := _, type := _, pos := _, after := _, guard := _ }) (v := .int .i64 (ec : Int)) rfl (by kernel_rfl) (by kernel_rfl) (by kernel_rfl) (fun _ _ _ h => h) (Or.inl ⟨by kernel_rfl, fun wy hy => by (go_simp; first | done | omega)⟩) (by assumption) ?_
       try simp only [Act.put, List.setIfInBounds_toArray, List.set_cons_zero, List.set_cons_succ]
       refine wpAnyH_done (by kernel_rfl) (NoPanic.normal ?_) _
       clear hHeld BD
       go_simp
       have BD1 : Below w1.heap.size w1 w1.drew := (Below.refl _ _).drew
       have bZd : Below Z.heap.size Z w1.drew := bZ1.trans (BD1.mono bZ1.size)
       have HAn := Lib.hid (addN_any (e := (EntD.mk (.slice p1 m1 c1) fm1 (.slice pq1 mq1 cq1) ts1 sq1 kd1 (.slice pv1 mv1 cv1) rw1 ql1 va1)) (HHf.out.1.bd.later bZd) (by have := HRo.out; omega) (Nat.le_trans HBZ.out.size bZd.size) (fun wx fx => (HOk.out.1.later bZd).fbV fx (fun k hk z => by
        have q1 := (HP.out.l1.rng (HP.out.l1.adr hk)).1
        have q2 := HTr.out.a.lt k (.inl (HHf.out.2.1 k (.inl z)))
        omega)))
       simp only [EntD.cells] at HAn
       go_upto_region 21 with fail
       refine wp_region_noPanic ?_
       refine wp_region_held_drew (S := fun wx => wx.cell? ⟨hz, 0, none⟩ = some (.pointer (some ⟨g0, 0, none⟩)) ∧ EBox wx b1 (EntD.mk (.slice p1 m1 c1) fm1 (.slice pq1 mq1 cq1) ts1 sq1 kd1 (.slice pv1 mv1 cv1) rw1 ql1 va1)) (by kernel_rfl) ⟨(HHc.out _ bZd).1, HC1.out _ bZd⟩ (fun hHeld => ?_)
       refine wpAnyH_take (i := 0) (oi := { dst := some 131, op := _, type := _, pos := _, after := _, guard := _ }) (v := .pointer (some ⟨hz, 0, none⟩)) rfl (by kernel_rfl) (by kernel_rfl) (by kernel_rfl) (fun _ _ _ h => h) (Or.inl ⟨by kernel_rfl, fun wy hy => by (go_simp; first | done | omega)⟩) (by assumption) ?_
       try simp only [Act.put, List.setIfInBounds_toArray, List.set_cons_zero, List.set_cons_succ]
       refine wpAnyH_take (i := 1) (oi := { dst := some 132, op := _, type := _, pos := _, after := _, guard := _ }) (v := .pointer (some ⟨hz, 0, none⟩)) rfl (by kernel_rfl) (by kernel_rfl) (by kernel_rfl) (fun _ _ _ h => h) (Or.inl ⟨by kernel_rfl, fun wy hy => by (go_simp; first | done | omega)⟩) (by assumption) ?_
       try simp only [Act.put, List.setIfInBounds_toArray, List.set_cons_zero, List.set_cons_succ]
       refine wpAnyH_take (i := 2) (oi := { dst := some 133, op := _, type := _, pos := _, after := _, guard := _ }) (v := .pointer (some ⟨hz, 0, none⟩)) rfl (by kernel_rfl) (by kernel_rfl) (by kernel_rfl) (fun _ _ _ h => h) (Or.inl ⟨by kernel_rfl, fun wy hy => by (go_simp; first | done | omega)⟩) (by assumption) ?_
       try simp only [Act.put, List.setIfInBounds_toArray, List.set_cons_zero, List.set_cons_succ]
       refine wpAnyH_take (i := 3) (oi := { dst := some 134, op := _, type := _, pos := _, after := _, guard := _ }) (v := .pointer (some ⟨g0, 0, none⟩)) rfl (by kernel_rfl) (by kernel_rfl) (by kernel_rfl) (fun _ _ _ h => h) (Or.inl ⟨by kernel_rfl, fun wy hy => by (obtain ⟨x0, -⟩ := hy; go_simp; first | done | omega)⟩) (by assumption) ?_
       try simp only [Act.put, List.setIfInBounds_toArray, List.set_cons_zero, List.set_cons_succ]
       refine wpAnyH_take (i := 4) (oi := { dst := some 135, op := _, type := _, pos := _, after := _, guard := _ }) (v := .agg #[.slice p1 m1 c1, .int .i64 fm1, .slice pq1 mq1 cq1, .int .i64 ts1, .int .i64 sq1, .int .i64 kd1, .slice pv1 mv1 cv1]) rfl (by kernel_rfl) (by kernel_rfl) (by kernel_rfl) (fun _ _ _ h => h) (Or.inl ⟨by kernel_rfl, fun wy hy => by (obtain ⟨x0, x1, x2, x3, x4, x5, x6⟩ := hy.2.cells7; go_simp; done)⟩) (by assumption) ?_
       try simp only [Act.put, List.setIfInBounds_toArray, List.set_cons_zero, List.set_cons_succ]
       refine wpAnyH_ready (rs := [5]) (by kernel_rfl) (by simp) ?_
       refine AllReadyH.cons (o := { dst := some 136, op := _, type := _, pos := _, after := _, guard := _ }) rfl (fun KK hK => ?_) AllReadyH.nil
       go_simp
       go_at_call 12
       refine HAn.out.mono ?_
       rintro e9 w2 han
       obtain ⟨rbw, rbad, rgood, rec_⟩ := HRa.out
       have hRnd := Trio.round HTr.out HP.out HFi.out.1 HFi.out.2 HHf.out.1 HHf.out.2.1 HHf.out.2.2 bZd (by rw [← rec_]; exact rbad) (by rw [← rec_]; exact fun q => ⟨(rgood q).1, (rgood q).2.1.later BD1, (rgood q).2.2⟩) han (by have q1 := HSt.out.1; omega) (Nat.le_trans hW5 (by omega)) (by omega)
       rw [← rec_] at hRnd
       obtain ⟨rfl, hRnd⟩ := hRnd
       have HRn := Lib.hid hRnd
       have HAN := Lib.hid han
       clear hRnd han rbw rbad rgood rec_ HAn
       go_wp2_with fail
       have hx2 := HRn.out.2.2.2.2.1
       refine hK.out _ _ ⟨by simp [World.cell?, hx2], HRn.out.1⟩ (fun hHeld => ?_)
       clear hK hx2
       try simp only [Act.put, List.setIfInBounds_toArray, List.set_cons_zero, List.set_cons_succ]
       refine wpAnyH_take (i := 6) (oi := { dst := some 21, op := _, type := _, pos := _, after := _, guard := _ }) (v := .int .i64 (ec : Int)) rfl (by kernel_rfl) (by kernel_rfl) (by kernel_rfl) (fun _ _ _ h => h) (Or.inl ⟨by kernel_rfl, fun wy hy => by (go_simp; first | done | omega)⟩) (by assumption) ?_
       try simp only [Act.put, List.setIfInBounds_toArray, List.set_cons_zero, List.set_cons_succ]
       refine wpAnyH_done (by kernel_rfl) (NoPanic.normal ?_) _
       have HZd := Lib.hid (And.intro bZd BD1)
       clear hHeld BD1 bZd bZ1
       obtain ⟨x0, x1, x2, x3, x4, x5, x6⟩ := HRn.out.1.cells7
       obtain ⟨y0, y1, y2, y3, y4, y5, y6⟩ := HRn.out.2.1.cells7
       simp only at x0 x1 x2 x3 x4 x5 x6 y0 y1 y2 y3 y4 y5 y6
       have HSn := Lib.hid (stands5_any HRn.out.2.2.1 HRn.out.2.2.2.1 ⟨HP.out.s1.1.trans HP.out.s2.1.symm, HP.out.s1.2.1.trans HP.out.s2.2.1.symm, HP.out.s1.2.2.1.trans HP.out.s2.2.2.1.symm, HP.out.s1.2.2.2.1.trans HP.out.s2.2.2.2.1.symm, HP.out.s1.2.2.2.2.1.trans HP.out.s2.2.2.2.2.1.symm, HP.out.s1.2.2.2.2.2.1.trans HP.out.s2.2.2.2.2.2.1.symm, HP.out.s1.2.2.2.2.2.2.trans HP.out.s2.2.2.2.2.2.2.symm⟩ HFi.out.1)
       simp only [EntD.cells] at HSn
       go_simp
       go_wp2_with fail
       refine HSn.out.mono ?_
       rintro e9 w2b ⟨rfl, bs2⟩
       obtain ⟨rbw, rbad, rgood, rec_⟩ := HRa.out
       have hR3 := Trio.round HTr.out HP.out HFi.out.1 HFi.out.2 HHf.out.1 HHf.out.2.1 HHf.out.2.2 HZd.out.1 (by rw [← rec_]; exact rbad) (by rw [← rec_]; exact fun q => ⟨(rgood q).1, (rgood q).2.1.later HZd.out.2, (rgood q).2.2⟩) (HAN.out.later bs2 (by have q1 := HBZ.out.size; have q2 := HZd.out.1.size; have q3 := HAN.out.2.2.2.size; omega)) (by have q1 := HSt.out.1; omega) (Nat.le_trans hW5 (by omega)) (by omega)
       rw [← rec_] at hR3
       obtain ⟨-, -, -, -, -, bx3, Pb2, Pl2, tr3, eb3, e33, hd1, hg3, hbl3⟩ := hR3
       rw [← HNl.out] at bx3
       have c2h : w2b.cell? ⟨hz, 2, none⟩ = some (.slice a0 nl c0) := by simp [World.cell?, bx3]
       have c2f : w2b.frozen? ⟨hz, 2, none⟩ = false := by simp [World.frozen?, bx3]
       obtain ⟨w3, hw3⟩ : ∃ w, w = w2b.setCell ⟨hz, 2, none⟩ (.slice a9 n9 c9) := ⟨_, rfl⟩
       rw [← hw3] at tr3 eb3 e33 hg3 hbl3
       have HW3 := Lib.hid hw3
       have HT3 := Lib.hid (And.intro tr3 (And.intro hd1 (And.intro hg3 hbl3)))
       have HFe := Lib.hid (fentry_any tr3.fu e33 (fun k hk => (hd1 k hk).2.2.1))
       simp only [EntD.cells] at HFe
       obtain ⟨v0, v1, v2, v3, v4, v5, v6⟩ := eb3.cells7
       simp only at v0 v1 v2 v3 v4 v5 v6
       rw [hw3] at v0 v1 v2 v3 v4 v5 v6
       have HEc := Lib.hid rec_
       clear x0 x1 x2 x3 x4 x5 x6 y0 y1 y2 y3 y4 y5 y6 HSn rbw rbad rgood rec_ bx3 tr3 eb3 e33 hd1 hg3 hbl3 hw3 HRn HAN bs2
       go_wp2_with fail
       rw [← HW3.out]
       refine HFe.out.mono ?_
       rintro e9 w4 ⟨⟨v9, rfl⟩, fu4, fb4⟩
       obtain ⟨tr3, hd1, hg3, hbl3⟩ := HT3.out
       have hs3 : wr.heap.size ≤ w3.heap.size := hbl3.size
       have tr4 := tr3.full (X := EntD.blk (EntD.mk (.slice p1 m1 c1) fm1 (.slice pq1 mq1 cq1) ts1 sq1 kd1 (.slice pv1 mv1 cv1) rw1 ql1 va1)) fu4 fb4 (fun k hk => ⟨(hd1 k hk).1, (hd1 k hk).2.1⟩) (fun k q => q.elim .inl (fun z => .inr (z.elim .inl (fun y => .inr y.1)))) (fun k hk => (hd1 k hk).2.2.2) (by omega) (by omega)
       have hg4 : w4.heap[hz + 2]? = wr.heap[hz + 2]? := (fb4.block (hz + 2) (by omega) (fun z => z.elim (fun q => (tr3.lo _ (.inr (.inr q))).2 rfl) (fun q => (hd1 _ q).2.2.2.2 rfl))).trans hg3
       have hb4 : Below W.heap.size W w4 := (HSt.out.2.2.2.trans hbl3).trans ⟨fb4.os, fb4.tape, fb4.output, fb4.size, fun k hk => fb4.block k (by omega) (fun z => z.elim (fun q => by have := (tr3.lo k (.inr (.inr q))).1; omega) (fun q => by have := (hd1 k q).2.2.2.1; omega))⟩
       have hs4 := fb4.size
       have HA4 := Lib.hid (tr4.asks (by have := HRo.out; omega) (by have := HRo.out; omega) (HT.out.later hb4) (by omega) (by omega))
       have H4 := Lib.hid (And.intro tr4 (And.intro hg4 (And.intro hb4 (by omega : hz + 4 ≤ w4.heap.size))))
       clear tr3 hd1 hg3 hbl3 hs3 tr4 hg4 hb4 hs4 fu4 fb4 HFe HT3 HW3 v0 v1 v2 v3 v4 v5 v6 c2h c2f
       go_wp2_with fail
       refine HA4.out.mono ?_
       rintro e9 w5 ⟨rfl, ⟨FO5, tr5⟩, fb5⟩
       obtain ⟨tr4, hg4, hb4, hz4⟩ := H4.out
       have hg5 : w5.heap[hz + 2]? = wr.heap[hz + 2]? := (fb5.block (hz + 2) (by omega) (fun q => (tr4.lo _ (.inr (.inr q))).2 rfl)).trans hg4
       have hb5 : Below W.heap.size W w5 := hb4.trans ⟨fb5.os, fb5.tape, fb5.output, fb5.size, fun k hk => fb5.block k (by omega) (fun q => by have := (tr4.lo k (.inr (.inr q))).1; omega)⟩
       have hs5 := fb5.size
       have HA5 := Lib.hid (tr5.asks (by have := HRo.out; omega) (by have := HRo.out; omega) (HT.out.later hb5) (by omega) (by omega))
       have g50 : w5.cell? ⟨hz + 2, 0, none⟩ = some (.pointer (some ⟨hz, 0, none⟩)) := by
        have := hg5.trans HSt.out.2.2.1
        simp [World.cell?, this]
       have H5 := Lib.hid (And.intro tr5 (And.intro hg5 (And.intro hb5 (by omega : hz + 4 ≤ w5.heap.size))))
       clear tr4 hg4 hb4 hz4 hg5 hb5 hs5 tr5 fb5 HA4 H4
       go_wp2_with fail
       refine HA5.out.mono ?_
       rintro e9 w6 ⟨rfl, ⟨FO6, tr6⟩, fb6⟩
       obtain ⟨tr5, hg5, hb5, hz5⟩ := H5.out
       have hg6 : w6.heap[hz + 2]? = wr.heap[hz + 2]? := (fb6.block (hz + 2) (by omega) (fun q => (tr5.lo _ (.inr (.inr q))).2 rfl)).trans hg5
       have hb6 : Below W.heap.size W w6 := hb5.trans ⟨fb6.os, fb6.tape, fb6.output, fb6.size, fun k hk => fb6.block k (by omega) (fun q => by have := (tr5.lo k (.inr (.inr q))).1; omega)⟩
       have hs6 := fb6.size
       have HWh := Lib.hid (whole_any tr6.fu)
       have H6 := Lib.hid (And.intro tr6 (And.intro hg6 (And.intro hb6 (by omega : hz + 4 ≤ w6.heap.size))))
       clear tr5 hg5 hb5 hz5 hg6 hb6 hs6 tr6 fb6 HA5 H5 g50
       go_wp2_with fail
       refine HWh.out.mono ?_
       rintro e9 w7 ⟨rfl, b7⟩
       have H7 : Hid (∃ s0 l0 Pb Pl s1 l1 Qb Ql FO, Trio w7 W.heap.size (hz + 2) hz g0 r' s0 l0 Pb Pl (hz + 1) g1 o' s1 l1 Qb Ql (hz + 3) FO ∧ l0.length ≤ k + 1 ∧ l1.length ≤ k + 1 ∧ w7.heap[hz + 2]? = some (.cells #[.pointer (some ⟨hz, 0, none⟩), .pointer (some ⟨hz + 1, 0, none⟩)] 30 (0, 0)) ∧ Below W.heap.size W w7 ∧ hz + 4 ≤ w7.heap.size) := by
        obtain ⟨tr6, hg6, hb6, hz6⟩ := H6.out
        have q1 := HSt.out.1
        have q2 := HSt.out.2.1
        refine ⟨_, _, _, _, _, _, _, _, _, (tr6.later b7), ?_, ?_, (b7.block _ (by omega)).trans (hg6.trans HSt.out.2.2.1), hb6.trans (b7.mono hb6.size), Nat.le_trans hz6 b7.size⟩
        ·first | omega | (split <;> first | omega | (simp; omega))
        ·first | omega | (split <;> first | omega | (simp; omega))
       clear b7 HWh H6
       go_wp2
       go_roundw
       case rel => exact ⟨k + 1, by omega, by go_num, H7⟩
       case measure => simp [intOf]; omega
     ·have hge : ¬ (k : Int) < (N0 : Int) := by omega
      obtain rfl : k = N0 := by omega
      have hrdA := HR.out.later HSt.out.2.2.2
      have HEn1 := Lib.hid (entries5_any hrdA (by rw [← HN0.out]; omega))
      rw [← HN0.out] at HEn1
      have HRr := Lib.hid hrdA
      clear hrb hrdA e0 e1
      go_wp2_with fail
      refine HEn1.out.mono ?_
      rintro e9 Y1 ⟨b1y, ga, ca, Da, rfl, hDa, hca, rowA, ldA⟩
      have enA : EnL Y1 wr.heap.size ga k ca Da l := ⟨hDa, hca, rowA, ldA⟩
      have HEn2 := Lib.hid (entries5_any (HRr.out.later b1y) (by rw [← HN0.out]; omega))
      rw [← HN0.out] at HEn2
      have HY1 := Lib.hid (And.intro b1y enA)
      clear b1y hDa hca rowA ldA enA HEn1
      go_wp2_with fail
      refine HEn2.out.mono ?_
      rintro e9 Y2 ⟨b2y, gb, cb, Db, rfl, hDb, hcb, rowB, ldB⟩
      have enB : EnL Y2 Y1.heap.size gb k cb Db l := ⟨hDb, hcb, rowB, ldB⟩
      have enA2 := HY1.out.2.later b2y
      have bY2 : Below wr.heap.size wr Y2 := HY1.out.1.trans (b2y.mono HY1.out.1.size)
      have HBu := Lib.hid (build_any (r' : Int) (enA2.rdl HR.out).2 (HT.out.later (HSt.out.2.2.2.trans (bY2.mono HSt.out.2.2.2.size))))
      rw [enA2.len] at HBu
      have HY2 := Lib.hid (And.intro bY2 (And.intro enA2 enB))
      clear b2y hDb hcb rowB ldB enB enA2 bY2 HEn2 HY1
      go_wp2_with fail
      refine HBu.out.mono ?_
      rintro e9 Y3 hbu
      obtain ⟨bY2, enA2, enB⟩ := HY2.out
      obtain ⟨v3, E3x, rfl, b3y, -⟩ := id hbu
      obtain ⟨av3, mv3, cv3, rfl⟩ : ∃ a m c, v3 = .slice a m c := by
       obtain ⟨v, E, e1, -, k1, k2, k3, k4⟩ := hbu
       simp only [Ending.returned.injEq, Value.tuple.injEq, Array.mk.injEq, List.cons.injEq] at e1
       obtain ⟨rfl, -⟩ := e1
       have hr : (1 : Int) ≤ (r' : Int) ∧ (r' : Int) ≤ 16 := by have := HRo.out; omega
       by_cases h0 : (bldS (r' : Int).toNat Bs.zero Da).1 = 0
       ·by_cases hz2 : Da = []
        ·exact ⟨_, _, _, (k3 hr h0 hz2).2⟩
        ·obtain ⟨-, a, m, c, e2, -⟩ := k4 hr h0 hz2
         exact ⟨_, _, _, e2⟩
       ·exact ⟨_, _, _, (k2 hr h0).2⟩
      have HRb := Lib.hid (refBuild5_any (r := r') ((enB.rdl HR.out).2.later b3y) (by have := HRo.out; omega) (by have := HRo.out; omega) (by rw [enB.len]; omega))
      rw [enB.len] at HRb
      have HBp := Lib.hid hbu
      clear hbu b3y bY2 enA2 enB HBu
      go_wp2_with fail
      refine HRb.out.mono ?_
      rintro e9 Y4 hrb4
      obtain ⟨bY2, enA2, enB⟩ := HY2.out
      obtain ⟨a1', m1', c1', a2', m2', c2', E', bs4, ex1, ex2, rd1, rd2, b34, b23⟩ := both_build HBp.out hrb4 (by have := HRo.out; omega) (by have := HRo.out; omega) (enA2.rdl HR.out).2 (by rw [enA2.len, enB.len]) (fun i D E h1 h2 => by
       obtain ⟨-, -, z1, hz1, s1x⟩ := enA2.fine HR.out h1
       obtain ⟨-, -, z2, hz2, s2x⟩ := enB.fine HR.out h2
       rw [hz1] at hz2
       cases hz2
       have s2y := s2x.symm
       exact ⟨s1x.1.trans s2y.1, s1x.2.1.trans s2y.2.1, s1x.2.2.1.trans s2y.2.2.1, s1x.2.2.2.1.trans s2y.2.2.2.1, s1x.2.2.2.2.1.trans s2y.2.2.2.2.1, s1x.2.2.2.2.2.1.trans s2y.2.2.2.2.2.1, s1x.2.2.2.2.2.2.trans s2y.2.2.2.2.2.2⟩)
      subst ex2
      simp only [Ending.returned.injEq, Value.tuple.injEq, Array.mk.injEq, List.cons.injEq, Value.slice.injEq, Value.int.injEq, true_and, and_true] at ex1
      obtain ⟨⟨rfl, rfl, rfl⟩, ex3⟩ := ex1
      obtain rfl : E3x = E' := by omega
      have HSm := Lib.hid (same5_true rd1 rd2)
      have b24 : Below Y2.heap.size Y2 Y4 := b23.trans (b34.mono b23.size)
      have H4 := Lib.hid (And.intro (bY2.trans (b24.mono bY2.size)) (And.intro (enA2.later b24) (enB.later b24)))
      clear hrb4 ex3 rd1 rd2 b34 b23 b24 bY2 enA2 enB HRb HBp HY2
      go_wp2_with fail
      refine HSm.out.mono ?_
      rintro e9 Y5 ⟨rfl, b5⟩
      obtain ⟨bY4, enA4, enB4⟩ := H4.out
      have HLs := Lib.hid (listStands5_any (enA4.later b5) (enB4.later b5) HR.out (by omega))
      have HB5 := Lib.hid (bY4.trans (b5.mono bY4.size))
      clear b5 bY4 enA4 enB4 HSm H4
      go_wp2_with fail
      refine HLs.out.mono ?_
      rintro e9 Y6 ⟨rfl, b6⟩
      have bwY : Below wr.heap.size wr Y6 := HB5.out.trans (b6.mono HB5.out.size)
      have hbW : Below W.heap.size W Y6 := HSt.out.2.2.2.trans (bwY.mono HSt.out.2.2.2.size)
      have g61 : Y6.cell? ⟨hz + 2, 1, none⟩ = some (.pointer (some ⟨hz + 1, 0, none⟩)) := by
       have := (bwY.block (hz + 2) (by omega)).trans HSt.out.2.2.1
       simp [World.cell?, this]
      have hs6 := bwY.size
      have t6 := (HTr.out.later bwY).swap
      have HA6 := Lib.hid (t6.asks (by have := HRo.out; omega) (by have := HRo.out; omega) (HT.out.later hbW) (by omega) (by omega))
      have HLo := Lib.hid (And.intro t6.lo hbW)
      clear b6 bwY hbW t6 HLs HB5 hs6
      go_wp2_with fail
      refine HA6.out.mono ?_
      rintro e9 Y7 ⟨rfl, -, fb7⟩
      have HEnd : Hid (Below W.heap.size W Y7) := HLo.out.2.trans ⟨fb7.os, fb7.tape, fb7.output, fb7.size, fun q hq => fb7.block q (Nat.lt_of_lt_of_le hq HLo.out.2.size) (fun z => by have := (HLo.out.1 q (.inr (.inr z))).1; omega)⟩
      clear fb7 HA6 g61 HLo
      go_wp2
      go_ret
      exact ⟨rfl, HEnd.out⟩
   ·have h80i : ¬ (80 : Int) < (N0 : Int) := by omega
    go_wp2
    rw [← HVe.out]
    have H0 : Hid (∃ s0 l0 Pb Pl s1 l1 Qb Ql FO, Trio V W.heap.size (X5.heap.size + 2) X5.heap.size g0 r' s0 l0 Pb Pl (X5.heap.size + 1) g1 o' s1 l1 Qb Ql (X5.heap.size + 3) FO ∧ l0.length ≤ 0 ∧ l1.length ≤ 0 ∧ V.heap[X5.heap.size + 2]? = some (.cells #[.pointer (some ⟨X5.heap.size, 0, none⟩), .pointer (some ⟨X5.heap.size + 1, 0, none⟩)] 30 (0, 0)) ∧ Below W.heap.size W V ∧ X5.heap.size + 4 ≤ V.heap.size) := ⟨_, _, _, _, _, _, _, _, _, HTr.out, by simp, by simp, HV0.out.2.2.2.2.1, HB3.out.trans (HV0.out.1.mono HB3.out.size), by rw [HV0.out.2.1]; exact Nat.le_refl _⟩
    have hW5 : W.heap.size ≤ X5.heap.size := HB3.out.size
    clear HTr HV0 HVe
    generalize X5.heap.size = hz at *
    go_loopw [15, 16, 17, 18, 19, 20, 21] (fun i _ _ _ _ _ _ wr => ∃ k : Nat, k ≤ N0 ∧ i = .int .i64 (k : Int) ∧ Hid (∃ s0 l0 Pb Pl s1 l1 Qb Ql FO, Trio wr W.heap.size (hz + 2) hz g0 r' s0 l0 Pb Pl (hz + 1) g1 o' s1 l1 Qb Ql (hz + 3) FO ∧ l0.length ≤ k ∧ l1.length ≤ k ∧ wr.heap[hz + 2]? = some (.cells #[.pointer (some ⟨hz, 0, none⟩), .pointer (some ⟨hz + 1, 0, none⟩)] 30 (0, 0)) ∧ Below W.heap.size W wr ∧ hz + 4 ≤ wr.heap.size)) (fun i _ _ _ _ _ _ _ => N0 - (intOf i).toNat)
    case atStart => exact ⟨0, by omega, rfl, H0⟩
    case round =>
     clear H0
     obtain ⟨k, hk, rfl, HI⟩ := hrel
     obtain ⟨s0, l0, Pb, Pl, s1, l1, Qb, Ql, FO, tr, hl0, hl1, hgh, hbel, hsz4⟩ := HI.out
     have k0 : (0 : Int) ≤ (k : Int) := by omega
     have e0 : wr.cell? ⟨hz + 2, 0, none⟩ = some (.pointer (some ⟨hz, 0, none⟩)) := by simp [World.cell?, hgh]
     have e1 : wr.cell? ⟨hz + 2, 1, none⟩ = some (.pointer (some ⟨hz + 1, 0, none⟩)) := by simp [World.cell?, hgh]
     have HTr := Lib.hid tr
     have HSt := Lib.hid (And.intro hl0 (And.intro hl1 (And.intro hgh hbel)))
     have hrb := HBo.out.later hbel
     clear tr hl0 hl1 hgh hbel HI
     by_cases hlt : k < N0
     ·have hlt2 : (k : Int) < (N0 : Int) := by omega
      obtain ⟨x, hx⟩ : ∃ x, l[k]? = some x := ⟨_, List.getElem?_eq_getElem (by rw [← HN0.out]; exact hlt)⟩
      have hrd := HR.out.later HSt.out.2.2.2
      have hok := hrd.ok x (List.mem_of_getElem? hx)
      obtain ⟨b, off, rfl, d0, d1, d2, d3, d4, d5, d6⟩ := hrd.cel hx
      have HX := Lib.hid hx
      clear hrd hx
      by_cases hk2 : k < n2
      ·have hk2i : (k : Int) < (n2 : Int) := by omega
       obtain ⟨y, hy⟩ : ∃ y, bs[k]? = some y := ⟨_, List.getElem?_eq_getElem (by rw [hrb.len]; exact hk2)⟩
       obtain ⟨b2, off2, rfl, hyc⟩ : ∃ b2 off2, a2 = some ⟨b2, off2, none⟩ ∧ wr.cell? ⟨b2, off2 + k, none⟩ = some (.bool y) := by
        rcases hrb.at_ with h1 | ⟨b2, off2, h1, h2⟩
        ·omega
        ·exact ⟨b2, off2, h1, h2 k y hy⟩
       clear hrb hy
       cases y with
       | true =>
        go_upto_region 19 with fail
        refine bb19_region hok hlt ⟨d0, d1, d2, d3, d4, d5, d6⟩ (Lib.hid ?_)
        rintro ⟨vr1, fm1, vq1, ts1, sq1, kd1, vv1, rw1, ql1, va1⟩ ⟨vr2, fm2, vq2, ts2, sq2, kd2, vv2, rw2, ql2, va2⟩ b1 b2 Z hp
        obtain ⟨p1, m1, c1, e1x⟩ := hp.l1.1.form
        obtain ⟨pq1, mq1, cq1, e2x⟩ := hp.l1.2.1.form
        obtain ⟨pv1, mv1, cv1, e3x⟩ := hp.l1.2.2.form
        simp only at e1x e2x e3x
        subst e1x e2x e3x
        obtain ⟨p2, m2, c2, e1x⟩ := hp.l2.1.form
        obtain ⟨pq2, mq2, cq2, e2x⟩ := hp.l2.2.1.form
        obtain ⟨pv2, mv2, cv2, e3x⟩ := hp.l2.2.2.form
        simp only at e1x e2x e3x
        subst e1x e2x e3x
        have HP := Lib.hid hp
        have HTZ := Lib.hid (HTr.out.swap.later hp.bel)
        have hbelZ := HSt.out.2.2.2.trans (hp.bel.mono HSt.out.2.2.2.size)
        have HBZ := Lib.hid hbelZ
        obtain ⟨ve, vp, vl, a0, c0, hb, p1x, p2x⟩ := HTZ.out.a.ex
        obtain ⟨nl, hnl⟩ : ∃ nl, nl = l1.length := ⟨_, rfl⟩
        have hbx := hb.box
        rw [← hnl] at hbx
        have HHc : Hid (∀ wx, Below Z.heap.size Z wx → wx.cell? ⟨hz + 1, 0, none⟩ = some (.pointer (some ⟨g1, 0, none⟩)) ∧ wx.cell? ⟨hz + 1, 1, none⟩ = some (.int .i64 (o' : Int)) ∧ wx.cell? ⟨hz + 1, 2, none⟩ = some (.slice a0 nl c0)) := fun wx b => by
         have := (b.block (hz + 1) (Array.getElem?_eq_some_iff.1 hbx).1).trans hbx
         simp [World.cell?, this]
        have hf1 : EntD.Fine (EntD.mk (.slice p1 m1 c1) fm1 (.slice pq1 mq1 cq1) ts1 sq1 kd1 (.slice pv1 mv1 cv1) rw1 ql1 va1) := fine_same hp.s1 (EntD.cut_fine hok)
        have hf2 : EntD.Fine (EntD.mk (.slice p2 m2 c2) fm2 (.slice pq2 mq2 cq2) ts2 sq2 kd2 (.slice pv2 mv2 cv2) rw2 ql2 va2) := fine_same hp.s2 (EntD.cut_fine hok)
        have HOk := Lib.hid (And.intro (hp.l1.ok hf1) (hp.l2.ok hf2))
        have HFi := Lib.hid (And.intro hf1 hf2)
        have hlen : l1.length ≤ 100 := hb.len
        have HAd : Hid (∀ wx, Below Z.heap.size Z wx → Calls Tryz.prog 11 #[.int .i64 (o' : Int), .slice a0 nl c0, .agg #[.slice p2 m2 c2, .int .i64 fm2, .slice pq2 mq2 cq2, .int .i64 ts2, .int .i64 sq2, .int .i64 kd2, .slice pv2 mv2 cv2]] wx fun x w' => RaP wx o' a0 c0 l1 s1 (EntD.mk (.slice p2 m2 c2) fm2 (.slice pq2 mq2 cq2) ts2 sq2 kd2 (.slice pv2 mv2 cv2) rw2 ql2 va2) x w') := fun wx b => by
         have h := refAdd5_any (hb.rd.later b) (HOk.out.2.later b) (by have := HRo.out; omega) (by have := HRo.out; omega) hb.st (by omega)
         rw [← hnl] at h
         exact h
        have HHf := Lib.hid (And.intro hb (And.intro p1x p2x))
        have HNl := Lib.hid hnl
        have HC2 : Hid (∀ wx, Below Z.heap.size Z wx → EBox wx b2 (EntD.mk (.slice p2 m2 c2) fm2 (.slice pq2 mq2 cq2) ts2 sq2 kd2 (.slice pv2 mv2 cv2) rw2 ql2 va2)) := fun wx b => hp.e2.later b
        have HC1 : Hid (∀ wx, Below Z.heap.size Z wx → EBox wx b1 (EntD.mk (.slice p1 m1 c1) fm1 (.slice pq1 mq1 cq1) ts1 sq1 kd1 (.slice pv1 mv1 cv1) rw1 ql1 va1)) := fun wx b => hp.e1.later b
        clear hp hb p1x p2x hbx hnl hf1 hf2 d0 d1 d2 d3 d4 d5 d6 hok hbelZ
        go_upto_region 20 with fail
        have BD : Below Z.heap.size Z Z.drew := (Below.refl _ _).drew
        refine wp_region_noPanic ?_
        refine wp_region_held_drew (S := fun wx => Below Z.heap.size Z wx) (by kernel_rfl) BD (fun hHeld => ?_)
        refine wpAnyH_take (i := 0) (oi := { dst := some 119, op := _, type := _, pos := _, after := _, guard := _ }) (v := .pointer (some ⟨hz + 1, 0, none⟩)) rfl (by kernel_rfl) (by kernel_rfl) (by kernel_rfl) (fun _ _ _ h => h) (Or.inl ⟨by kernel_rfl, fun wy hy => by (go_simp; first | done | omega)⟩) (by assumption) ?_
        try simp only [Act.put, List.setIfInBounds_toArray, List.set_cons_zero, List.set_cons_succ]
        refine wpAnyH_take (i := 1) (oi := { dst := some 120, op := _, type := _, pos := _, after := _, guard := _ }) (v := .pointer (some ⟨hz + 1, 0, none⟩)) rfl (by kernel_rfl) (by kernel_rfl) (by kernel_rfl) (fun _ _ _ h => h) (Or.inl ⟨by kernel_rfl, fun wy hy => by (go_simp; first | done | omega)⟩) (by assumption) ?_
        try simp only [Act.put, List.setIfInBounds_toArray, List.set_cons_zero, List.set_cons_succ]
        refine wpAnyH_take (i := 2) (oi := { dst := some 121, op := _, type := _, pos := _, after := _, guard := _ }) (v := .pointer (some ⟨hz + 1, 1, none⟩)) rfl (by kernel_rfl) (by kernel_rfl) (by kernel_rfl) (fun _ _ _ h => h) (Or.inl ⟨by kernel_rfl, fun wy hy => by (go_simp; first | done | omega)⟩) (by assumption) ?_
        try simp only [Act.put, List.setIfInBounds_toArray, List.set_cons_zero, List.set_cons_succ]
        refine wpAnyH_take (i := 3) (oi := { dst := some 122, op := _, type := _, pos := _, after := _, guard := _ }) (v := .int .i64 (o' : Int)) rfl (by kernel_rfl) (by kernel_rfl) (by kernel_rfl) (fun _ _ _ h => h) (Or.inl ⟨by kernel_rfl, fun wy hy => by (obtain ⟨x0, x1, x2⟩ := HHc.out _ hy; go_simp; first | done | omega)⟩) (by assumption) ?_
        try simp only [Act.put, List.setIfInBounds_toArray, List.set_cons_zero, List.set_cons_succ]
        refine wpAnyH_take (i := 4) (oi := { dst := some 123, op := _, type := _, pos := _, after := _, guard := _ }) (v := .pointer (some ⟨hz + 1, 0, none⟩)) rfl (by kernel_rfl) (by kernel_rfl) (by kernel_rfl) (fun _ _ _ h => h) (Or.inl ⟨by kernel_rfl, fun wy hy => by (go_simp; first | done | omega)⟩) (by assumption) ?_
        try simp only [Act.put, List.setIfInBounds_toArray, List.set_cons_zero, List.set_cons_succ]
        refine wpAnyH_take (i := 5) (oi := { dst := some 124, op := _, type := _, pos := _, after := _, guard := _ }) (v := .pointer (some ⟨hz + 1, 0, none⟩)) rfl (by kernel_rfl) (by kernel_rfl) (by kernel_rfl) (fun _ _ _ h => h) (Or.inl ⟨by kernel_rfl, fun wy hy => by (go_simp; first | done | omega)⟩) (by assumption) ?_
        try simp only [Act.put, List.setIfInBounds_toArray, List.set_cons_zero, List.set_cons_succ]
        refine wpAnyH_take (i := 6) (oi := { dst := some 125, op := _, type := _, pos := _, after := _, guard := _ }) (v := .pointer (some ⟨hz + 1, 2, none⟩)) rfl (by kernel_rfl) (by kernel_rfl) (by kernel_rfl) (fun _ _ _ h => h) (Or.inl ⟨by kernel_rfl, fun wy hy => by (go_simp; first | done | omega)⟩) (by assumption) ?_
        try simp only [Act.put, List.setIfInBounds_toArray, List.set_cons_zero, List.set_cons_succ]
        refine wpAnyH_take (i := 7) (oi := { dst := some 126, op := _, type := _, pos := _, after := _, guard := _ }) (v := .slice a0 nl c0) rfl (by kernel_rfl) (by kernel_rfl) (by kernel_rfl) (fun _ _ _ h => h) (Or.inl ⟨by kernel_rfl, fun wy hy => by (obtain ⟨x0, x1, x2⟩ := HHc.out _ hy; go_simp; first | done | omega)⟩) (by assumption) ?_
        try simp only [Act.put, List.setIfInBounds_toArray, List.set_cons_zero, List.set_cons_succ]
        refine wpAnyH_take (i := 8) (oi := { dst := some 127, op := _, type := _, pos := _, after := _, guard := _ }) (v := .agg #[.slice p2 m2 c2, .int .i64 fm2, .slice pq2 mq2 cq2, .int .i64 ts2, .int .i64 sq2, .int .i64 kd2, .slice pv2 mv2 cv2]) rfl (by kernel_rfl) (by kernel_rfl) (by kernel_rfl) (fun _ _ _ h => h) (Or.inl ⟨by kernel_rfl, fun wy hy => by (obtain ⟨x0, x1, x2, x3, x4, x5, x6⟩ := (HC2.out _ hy).cells7; go_simp; done)⟩) (by assumption) ?_
        try simp only [Act.put, List.setIfInBounds_toArray, List.set_cons_zero, List.set_cons_succ]
        refine wpAnyH_ready (rs := [9]) (by kernel_rfl) (by simp) ?_
        refine AllReadyH.cons (o := { dst := some 128, op := _, type := _, pos := _, after := _, guard := _ }) rfl (fun KK hK => ?_) AllReadyH.nil
        go_simp
        go_at_call 11
        refine (HAd.out _ BD).mono ?_
        rintro e9 w1 ⟨bw1, a9, n9, c9, rfl, hbad, hgood⟩
        have bZ1 : Below Z.heap.size Z w1 := BD.trans (bw1.mono BD.size)
        obtain ⟨ec, hec⟩ : ∃ ec, ec = (addE o' s1 (EntD.mk (.slice p2 m2 c2) fm2 (.slice pq2 mq2 cq2) ts2 sq2 kd2 (.slice pv2 mv2 cv2) rw2 ql2 va2)).1 := ⟨_, rfl⟩
        rw [← hec] at hbad hgood ⊢
        have HRa := Lib.hid (And.intro bw1 (And.intro hbad (And.intro hgood hec)))
        clear bw1 hbad hgood hec HAd
        go_wp2_with fail
        refine hK.out _ _ bZ1 (fun hHeld => ?_)
        clear hK
        try simp only [Act.put, List.setIfInBounds_toArray, List.set_cons_zero, List.set_cons_succ]
        refine wpAnyH_take (i := 10) (oi := { dst := some 118, op := _, type := _, pos := _, after := _, guard := _ }) (v := .tuple #[.slice a9 n9 c9, .int .i64 (ec : Int)]) rfl (by kernel_rfl) (by kernel_rfl) (by kernel_rfl) (fun _ _ _ h => h) (Or.inl ⟨by kernel_rfl, fun wy hy => by (go_simp; first | done | omega)⟩) (by assumption) ?_
        try simp only [Act.put, List.setIfInBounds_toArray, List.set_cons_zero, List.set_cons_succ]
        refine wpAnyH_take (i := 11) (oi := { dst := some 129, op := _, type := _, pos := _, after := _, guard := _ }) (v := .slice a9 n9 c9) rfl (by kernel_rfl) (by kernel_rfl) (by kernel_rfl) (fun _ _ _ h => h) (Or.inl ⟨by kernel_rfl, fun wy hy => by (go_simp; first | done | omega)⟩) (by assumption) ?_
        try simp only [Act.put, List.setIfInBounds_toArray, List.set_cons_zero, List.set_cons_succ]
        refine wpAnyH_take (i := 13) (oi := { dst := some 19, op := _, type := _, pos := _, after := _, guard := _ }) (v := .slice a9 n9 c9) rfl (by kernel_rfl) (by kernel_rfl) (by kernel_rfl) (fun _ _ _ h => h) (Or.inl ⟨by kernel_rfl, fun wy hy => by (go_simp; first | done | omega)⟩) (by assumption) ?_
        try simp only [Act.put, List.setIfInBounds_toArray, List.set_cons_zero, List.set_cons_succ]
        refine wpAnyH_take (i := 12) (oi := { dst := some 130, op := _, type := _, pos := _, after := _, guard := _ }) (v := .int .i64 (ec : Int)) rfl (by kernel_rfl) (by kernel_rfl) (by kernel_rfl) (fun _ _ _ h => h) (Or.inl ⟨by kernel_rfl, fun wy hy => by (go_simp; first | done | omega)⟩) (by assumption) ?_
        try simp only [Act.put, List.setIfInBounds_toArray, List.set_cons_zero, List.set_cons_succ]
        refine wpAnyH_take (i := 14) (oi := { dst := some 20, op := _, type := _, pos := _, after := _, guard := _ }) (v := .int .i64 (ec : Int)) rfl (by kernel_rfl) (by kernel_rfl) (by kernel_rfl) (fun _ _ _ h => h) (Or.inl ⟨by kernel_rfl, fun wy hy => by (go_simp; first | done | omega)⟩) (by assumption) ?_
        try simp only [Act.put, List.setIfInBounds_toArray, List.set_cons_zero, List.set_cons_succ]
        refine wpAnyH_done (by kernel_rfl) (NoPanic.normal ?_) _
        clear hHeld BD
        go_simp
        have BD1 : Below w1.heap.size w1 w1.drew := (Below.refl _ _).drew
        have bZd : Below Z.heap.size Z w1.drew := bZ1.trans (BD1.mono bZ1.size)
        have HAn := Lib.hid (addN_any (e := (EntD.mk (.slice p1 m1 c1) fm1 (.slice pq1 mq1 cq1) ts1 sq1 kd1 (.slice pv1 mv1 cv1) rw1 ql1 va1)) (HHf.out.1.bd.later bZd) (by have := HRo.out; omega) (Nat.le_trans HBZ.out.size bZd.size) (fun wx fx => (HOk.out.1.later bZd).fbV fx (fun k hk z => by
         have q1 := (HP.out.l1.rng (HP.out.l1.adr hk)).1
         have q2 := HTr.out.swap.a.lt k (.inl (HHf.out.2.1 k (.inl z)))
         omega)))
        simp only [EntD.cells] at HAn
        go_upto_region 21 with fail
        refine wp_region_noPanic ?_
        refine wp_region_held_drew (S := fun wx => wx.cell? ⟨hz + 1, 0, none⟩ = some (.pointer (some ⟨g1, 0, none⟩)) ∧ EBox wx b1 (EntD.mk (.slice p1 m1 c1) fm1 (.slice pq1 mq1 cq1) ts1 sq1 kd1 (.slice pv1 mv1 cv1) rw1 ql1 va1)) (by kernel_rfl) ⟨(HHc.out _ bZd).1, HC1.out _ bZd⟩ (fun hHeld => ?_)
        refine wpAnyH_take (i := 0) (oi := { dst := some 131, op := _, type := _, pos := _, after := _, guard := _ }) (v := .pointer (some ⟨hz + 1, 0, none⟩)) rfl (by kernel_rfl) (by kernel_rfl) (by kernel_rfl) (fun _ _ _ h => h) (Or.inl ⟨by kernel_rfl, fun wy hy => by (go_simp; first | done | omega)⟩) (by assumption) ?_
        try simp only [Act.put, List.setIfInBounds_toArray, List.set_cons_zero, List.set_cons_succ]
        refine wpAnyH_take (i := 1) (oi := { dst := some 132, op := _, type := _, pos := _, after := _, guard := _ }) (v := .pointer (some ⟨hz + 1, 0, none⟩)) rfl (by kernel_rfl) (by kernel_rfl) (by kernel_rfl) (fun _ _ _ h => h) (Or.inl ⟨by kernel_rfl, fun wy hy => by (go_simp; first | done | omega)⟩) (by assumption) ?_
        try simp only [Act.put, List.setIfInBounds_toArray, List.set_cons_zero, List.set_cons_succ]
        refine wpAnyH_take (i := 2) (oi := { dst := some 133, op := _, type := _, pos := _, after := _, guard := _ }) (v := .pointer (some ⟨hz + 1, 0, none⟩)) rfl (by kernel_rfl) (by kernel_rfl) (by kernel_rfl) (fun _ _ _ h => h) (Or.inl ⟨by kernel_rfl, fun wy hy => by (go_simp; first | done | omega)⟩) (by assumption) ?_
        try simp only [Act.put, List.setIfInBounds_toArray, List.set_cons_zero, List.set_cons_succ]
        refine wpAnyH_take (i := 3) (oi := { dst := some 134, op := _, type := _, pos := _, after := _, guard := _ }) (v := .pointer (some ⟨g1, 0, none⟩)) rfl (by kernel_rfl) (by kernel_rfl) (by kernel_rfl) (fun _ _ _ h => h) (Or.inl ⟨by kernel_rfl, fun wy hy => by (obtain ⟨x0, -⟩ := hy; go_simp; first | done | omega)⟩) (by assumption) ?_
        try simp only [Act.put, List.setIfInBounds_toArray, List.set_cons_zero, List.set_cons_succ]
        refine wpAnyH_take (i := 4) (oi := { dst := some 135, op := _, type := _, pos := _, after := _, guard := _ }) (v := .agg #[.slice p1 m1 c1, .int .i64 fm1, .slice pq1 mq1 cq1, .int .i64 ts1, .int .i64 sq1, .int .i64 kd1, .slice pv1 mv1 cv1]) rfl (by kernel_rfl) (by kernel_rfl) (by kernel_rfl) (fun _ _ _ h => h) (Or.inl ⟨by kernel_rfl, fun wy hy => by (obtain ⟨x0, x1, x2, x3, x4, x5, x6⟩ := hy.2.cells7; go_simp; done)⟩) (by assumption) ?_
        try simp only [Act.put, List.setIfInBounds_toArray, List.set_cons_zero, List.set_cons_succ]
        refine wpAnyH_ready (rs := [5]) (by kernel_rfl) (by simp) ?_
        refine AllReadyH.cons (o := { dst := some 136, op := _, type := _, pos := _, after := _, guard := _ }) rfl (fun KK hK => ?_) AllReadyH.nil
        go_simp
        go_at_call 12
        refine HAn.out.mono ?_
        rintro e9 w2 han
        obtain ⟨rbw, rbad, rgood, rec_⟩ := HRa.out
        have hRnd := Trio.round HTr.out.swap HP.out HFi.out.1 HFi.out.2 HHf.out.1 HHf.out.2.1 HHf.out.2.2 bZd (by rw [← rec_]; exact rbad) (by rw [← rec_]; exact fun q => ⟨(rgood q).1, (rgood q).2.1.later BD1, (rgood q).2.2⟩) han (by have q1 := HSt.out.2.1; omega) (Nat.le_trans hW5 (by omega)) (by omega)
        rw [← rec_] at hRnd
        obtain ⟨rfl, hRnd⟩ := hRnd
        have HRn := Lib.hid hRnd
        have HAN := Lib.hid han
        clear hRnd han rbw rbad rgood rec_ HAn
        go_wp2_with fail
        have hx2 := HRn.out.2.2.2.2.1
        refine hK.out _ _ ⟨by simp [World.cell?, hx2], HRn.out.1⟩ (fun hHeld => ?_)
        clear hK hx2
        try simp only [Act.put, List.setIfInBounds_toArray, List.set_cons_zero, List.set_cons_succ]
        refine wpAnyH_take (i := 6) (oi := { dst := some 21, op := _, type := _, pos := _, after := _, guard := _ }) (v := .int .i64 (ec : Int)) rfl (by kernel_rfl) (by kernel_rfl) (by kernel_rfl) (fun _ _ _ h => h) (Or.inl ⟨by kernel_rfl, fun wy hy => by (go_simp; first | done | omega)⟩) (by assumption) ?_
        try simp only [Act.put, List.setIfInBounds_toArray, List.set_cons_zero, List.set_cons_succ]
        refine wpAnyH_done (by kernel_rfl) (NoPanic.normal ?_) _
        have HZd := Lib.hid (And.intro bZd BD1)
        clear hHeld BD1 bZd bZ1
        obtain ⟨x0, x1, x2, x3, x4, x5, x6⟩ := HRn.out.1.cells7
        obtain ⟨y0, y1, y2, y3, y4, y5, y6⟩ := HRn.out.2.1.cells7
        simp only at x0 x1 x2 x3 x4 x5 x6 y0 y1 y2 y3 y4 y5 y6
        have HSn := Lib.hid (stands5_any HRn.out.2.2.1 HRn.out.2.2.2.1 ⟨HP.out.s1.1.trans HP.out.s2.1.symm, HP.out.s1.2.1.trans HP.out.s2.2.1.symm, HP.out.s1.2.2.1.trans HP.out.s2.2.2.1.symm, HP.out.s1.2.2.2.1.trans HP.out.s2.2.2.2.1.symm, HP.out.s1.2.2.2.2.1.trans HP.out.s2.2.2.2.2.1.symm, HP.out.s1.2.2.2.2.2.1.trans HP.out.s2.2.2.2.2.2.1.symm, HP.out.s1.2.2.2.2.2.2.trans HP.out.s2.2.2.2.2.2.2.symm⟩ HFi.out.1)
        simp only [EntD.cells] at HSn
        go_simp
        go_wp2_with fail
        refine HSn.out.mono ?_
        rintro e9 w2b ⟨rfl, bs2⟩
        obtain ⟨rbw, rbad, rgood, rec_⟩ := HRa.out
        have hR3 := Trio.round HTr.out.swap HP.out HFi.out.1 HFi.out.2 HHf.out.1 HHf.out.2.1 HHf.out.2.2 HZd.out.1 (by rw [← rec_]; exact rbad) (by rw [← rec_]; exact fun q => ⟨(rgood q).1, (rgood q).2.1.later HZd.out.2, (rgood q).2.2⟩) (HAN.out.later bs2 (by have q1 := HBZ.out.size; have q2 := HZd.out.1.size; have q3 := HAN.out.2.2.2.size; omega)) (by have q1 := HSt.out.2.1; omega) (Nat.le_trans hW5 (by omega)) (by omega)
        rw [← rec_] at hR3
        obtain ⟨-, -, -, -, -, bx3, Pb2, Pl2, tr3, eb3, e33, hd1, hg3, hbl3⟩ := hR3
        rw [← HNl.out] at bx3
        have c2h : w2b.cell? ⟨hz + 1, 2, none⟩ = some (.slice a0 nl c0) := by simp [World.cell?, bx3]
        have c2f : w2b.frozen? ⟨hz + 1, 2, none⟩ = false := by simp [World.frozen?, bx3]
        obtain ⟨w3, hw3⟩ : ∃ w, w = w2b.setCell ⟨hz + 1, 2, none⟩ (.slice a9 n9 c9) := ⟨_, rfl⟩
        rw [← hw3] at tr3 eb3 e33 hg3 hbl3
        have HW3 := Lib.hid hw3
        have HT3 := Lib.hid (And.intro tr3 (And.intro hd1 (And.intro hg3 hbl3)))
        have HFe := Lib.hid (fentry_any tr3.fu e33 (fun k hk => (hd1 k hk).2.2.1))
        simp only [EntD.cells] at HFe
        obtain ⟨v0, v1, v2, v3, v4, v5, v6⟩ := eb3.cells7
        simp only at v0 v1 v2 v3 v4 v5 v6
        rw [hw3] at v0 v1 v2 v3 v4 v5 v6
        have HEc := Lib.hid rec_
        clear x0 x1 x2 x3 x4 x5 x6 y0 y1 y2 y3 y4 y5 y6 HSn rbw rbad rgood rec_ bx3 tr3 eb3 e33 hd1 hg3 hbl3 hw3 HRn HAN bs2
        go_wp2_with fail
        rw [← HW3.out]
        refine HFe.out.mono ?_
        rintro e9 w4 ⟨⟨v9, rfl⟩, fu4, fb4⟩
        obtain ⟨tr3, hd1, hg3, hbl3⟩ := HT3.out
        have hs3 : wr.heap.size ≤ w3.heap.size := hbl3.size
        have tr4 := tr3.full (X := EntD.blk (EntD.mk (.slice p1 m1 c1) fm1 (.slice pq1 mq1 cq1) ts1 sq1 kd1 (.slice pv1 mv1 cv1) rw1 ql1 va1)) fu4 fb4 (fun k hk => ⟨(hd1 k hk).1, (hd1 k hk).2.1⟩) (fun k q => q.elim .inl (fun z => .inr (z.elim .inl (fun y => .inr y.1)))) (fun k hk => (hd1 k hk).2.2.2) (by omega) (by omega)
        have hg4 : w4.heap[hz + 2]? = wr.heap[hz + 2]? := (fb4.block (hz + 2) (by omega) (fun z => z.elim (fun q => (tr3.lo _ (.inr (.inr q))).2 rfl) (fun q => (hd1 _ q).2.2.2.2 rfl))).trans hg3
        have hb4 : Below W.heap.size W w4 := (HSt.out.2.2.2.trans hbl3).trans ⟨fb4.os, fb4.tape, fb4.output, fb4.size, fun k hk => fb4.block k (by omega) (fun z => z.elim (fun q => by have := (tr3.lo k (.inr (.inr q))).1; omega) (fun q => by have := (hd1 k q).2.2.2.1; omega))⟩
        have hs4 := fb4.size
        have HA4 := Lib.hid (tr4.asks (by have := HRo.out; omega) (by have := HRo.out; omega) (HT.out.later hb4) (by omega) (by omega))
        have H4 := Lib.hid (And.intro tr4 (And.intro hg4 (And.intro hb4 (by omega : hz + 4 ≤ w4.heap.size))))
        clear tr3 hd1 hg3 hbl3 hs3 tr4 hg4 hb4 hs4 fu4 fb4 HFe HT3 HW3 v0 v1 v2 v3 v4 v5 v6 c2h c2f
        go_wp2_with fail
        refine HA4.out.mono ?_
        rintro e9 w5 ⟨rfl, ⟨FO5, tr5⟩, fb5⟩
        obtain ⟨tr4, hg4, hb4, hz4⟩ := H4.out
        have hg5 : w5.heap[hz + 2]? = wr.heap[hz + 2]? := (fb5.block (hz + 2) (by omega) (fun q => (tr4.lo _ (.inr (.inr q))).2 rfl)).trans hg4
        have hb5 : Below W.heap.size W w5 := hb4.trans ⟨fb5.os, fb5.tape, fb5.output, fb5.size, fun k hk => fb5.block k (by omega) (fun q => by have := (tr4.lo k (.inr (.inr q))).1; omega)⟩
        have hs5 := fb5.size
        have HA5 := Lib.hid (tr5.swap.asks (by have := HRo.out; omega) (by have := HRo.out; omega) (HT.out.later hb5) (by omega) (by omega))
        have g50 : w5.cell? ⟨hz + 2, 0, none⟩ = some (.pointer (some ⟨hz, 0, none⟩)) := by
         have := hg5.trans HSt.out.2.2.1
         simp [World.cell?, this]
        have H5 := Lib.hid (And.intro tr5 (And.intro hg5 (And.intro hb5 (by omega : hz + 4 ≤ w5.heap.size))))
        clear tr4 hg4 hb4 hz4 hg5 hb5 hs5 tr5 fb5 HA4 H4
        go_wp2_with fail
        refine HA5.out.mono ?_
        rintro e9 w6 ⟨rfl, ⟨FO6, tr6⟩, fb6⟩
        obtain ⟨tr5, hg5, hb5, hz5⟩ := H5.out
        have hg6 : w6.heap[hz + 2]? = wr.heap[hz + 2]? := (fb6.block (hz + 2) (by omega) (fun q => (tr5.lo _ (.inr (.inr q))).2 rfl)).trans hg5
        have hb6 : Below W.heap.size W w6 := hb5.trans ⟨fb6.os, fb6.tape, fb6.output, fb6.size, fun k hk => fb6.block k (by omega) (fun q => by have := (tr5.lo k (.inr (.inr q))).1; omega)⟩
        have hs6 := fb6.size
        have HWh := Lib.hid (whole_any tr6.fu)
        have H6 := Lib.hid (And.intro tr6 (And.intro hg6 (And.intro hb6 (by omega : hz + 4 ≤ w6.heap.size))))
        clear tr5 hg5 hb5 hz5 hg6 hb6 hs6 tr6 fb6 HA5 H5 g50
        go_wp2_with fail
        refine HWh.out.mono ?_
        rintro e9 w7 ⟨rfl, b7⟩
        have H7 : Hid (∃ s0 l0 Pb Pl s1 l1 Qb Ql FO, Trio w7 W.heap.size (hz + 2) hz g0 r' s0 l0 Pb Pl (hz + 1) g1 o' s1 l1 Qb Ql (hz + 3) FO ∧ l0.length ≤ k + 1 ∧ l1.length ≤ k + 1 ∧ w7.heap[hz + 2]? = some (.cells #[.pointer (some ⟨hz, 0, none⟩), .pointer (some ⟨hz + 1, 0, none⟩)] 30 (0, 0)) ∧ Below W.heap.size W w7 ∧ hz + 4 ≤ w7.heap.size) := by
         obtain ⟨tr6, hg6, hb6, hz6⟩ := H6.out
         have q1 := HSt.out.1
         have q2 := HSt.out.2.1
         refine ⟨_, _, _, _, _, _, _, _, _, (tr6.later b7), ?_, ?_, (b7.block _ (by omega)).trans (hg6.trans HSt.out.2.2.1), hb6.trans (b7.mono hb6.size), Nat.le_trans hz6 b7.size⟩
         ·first | omega | (split <;> first | omega | (simp; omega))
         ·first | omega | (split <;> first | omega | (simp; omega))
        clear b7 HWh H6
        go_wp2
        go_roundw
        case rel => exact ⟨k + 1, by omega, by go_num, H7⟩
        case measure => simp [intOf]; omega
       | false =>
        go_upto_region 19 with fail
        refine bb19_region hok hlt ⟨d0, d1, d2, d3, d4, d5, d6⟩ (Lib.hid ?_)
        rintro ⟨vr1, fm1, vq1, ts1, sq1, kd1, vv1, rw1, ql1, va1⟩ ⟨vr2, fm2, vq2, ts2, sq2, kd2, vv2, rw2, ql2, va2⟩ b1 b2 Z hp
        obtain ⟨p1, m1, c1, e1x⟩ := hp.l1.1.form
        obtain ⟨pq1, mq1, cq1, e2x⟩ := hp.l1.2.1.form
        obtain ⟨pv1, mv1, cv1, e3x⟩ := hp.l1.2.2.form
        simp only at e1x e2x e3x
        subst e1x e2x e3x
        obtain ⟨p2, m2, c2, e1x⟩ := hp.l2.1.form
        obtain ⟨pq2, mq2, cq2, e2x⟩ := hp.l2.2.1.form
        obtain ⟨pv2, mv2, cv2, e3x⟩ := hp.l2.2.2.form
        simp only at e1x e2x e3x
        subst e1x e2x e3x
        have HP := Lib.hid hp
        have HTZ := Lib.hid (HTr.out.later hp.bel)
        have hbelZ := HSt.out.2.2.2.trans (hp.bel.mono HSt.out.2.2.2.size)
        have HBZ := Lib.hid hbelZ
        obtain ⟨ve, vp, vl, a0, c0, hb, p1x, p2x⟩ := HTZ.out.a.ex
        obtain ⟨nl, hnl⟩ : ∃ nl, nl = l0.length := ⟨_, rfl⟩
        have hbx := hb.box
        rw [← hnl] at hbx
        have HHc : Hid (∀ wx, Below Z.heap.size Z wx → wx.cell? ⟨hz, 0, none⟩ = some (.pointer (some ⟨g0, 0, none⟩)) ∧ wx.cell? ⟨hz, 1, none⟩ = some (.int .i64 (r' : Int)) ∧ wx.cell? ⟨hz, 2, none⟩ = some (.slice a0 nl c0)) := fun wx b => by
         have := (b.block (hz) (Array.getElem?_eq_some_iff.1 hbx).1).trans hbx
         simp [World.cell?, this]
        have hf1 : EntD.Fine (EntD.mk (.slice p1 m1 c1) fm1 (.slice pq1 mq1 cq1) ts1 sq1 kd1 (.slice pv1 mv1 cv1) rw1 ql1 va1) := fine_same hp.s1 (EntD.cut_fine hok)
        have hf2 : EntD.Fine (EntD.mk (.slice p2 m2 c2) fm2 (.slice pq2 mq2 cq2) ts2 sq2 kd2 (.slice pv2 mv2 cv2) rw2 ql2 va2) := fine_same hp.s2 (EntD.cut_fine hok)
        have HOk := Lib.hid (And.intro (hp.l1.ok hf1) (hp.l2.ok hf2))
        have HFi := Lib.hid (And.intro hf1 hf2)
        have hlen : l0.length ≤ 100 := hb.len
        have HAd : Hid (∀ wx, Below Z.heap.size Z wx → Calls Tryz.prog 11 #[.int .i64 (r' : Int), .slice a0 nl c0, .agg #[.slice p2 m2 c2, .int .i64 fm2, .slice pq2 mq2 cq2, .int .i64 ts2, .int .i64 sq2, .int .i64 kd2, .slice pv2 mv2 cv2]] wx fun x w' => RaP wx r' a0 c0 l0 s0 (EntD.mk (.slice p2 m2 c2) fm2 (.slice pq2 mq2 cq2) ts2 sq2 kd2 (.slice pv2 mv2 cv2) rw2 ql2 va2) x w') := fun wx b => by
         have h := refAdd5_any (hb.rd.later b) (HOk.out.2.later b) (by have := HRo.out; omega) (by have := HRo.out; omega) hb.st (by omega)
         rw [← hnl] at h
         exact h
        have HHf := Lib.hid (And.intro hb (And.intro p1x p2x))
        have HNl := Lib.hid hnl
        have HC2 : Hid (∀ wx, Below Z.heap.size Z wx → EBox wx b2 (EntD.mk (.slice p2 m2 c2) fm2 (.slice pq2 mq2 cq2) ts2 sq2 kd2 (.slice pv2 mv2 cv2) rw2 ql2 va2)) := fun wx b => hp.e2.later b
        have HC1 : Hid (∀ wx, Below Z.heap.size Z wx → EBox wx b1 (EntD.mk (.slice p1 m1 c1) fm1 (.slice pq1 mq1 cq1) ts1 sq1 kd1 (.slice pv1 mv1 cv1) rw1 ql1 va1)) := fun wx b => hp.e1.later b
        clear hp hb p1x p2x hbx hnl hf1 hf2 d0 d1 d2 d3 d4 d5 d6 hok hbelZ
        go_upto_region 20 with fail
        have BD : Below Z.heap.size Z Z.drew := (Below.refl _ _).drew
        refine wp_region_noPanic ?_
        refine wp_region_held_drew (S := fun wx => Below Z.heap.size Z wx) (by kernel_rfl) BD (fun hHeld => ?_)
        refine wpAnyH_take (i := 0) (oi := { dst := some 119, op := _, type := _, pos := _, after := _, guard := _ }) (v := .pointer (some ⟨hz, 0, none⟩)) rfl (by kernel_rfl) (by kernel_rfl) (by kernel_rfl) (fun _ _ _ h => h) (Or.inl ⟨by kernel_rfl, fun wy hy => by (go_simp; first | done | omega)⟩) (by assumption) ?_
        try simp only [Act.put, List.setIfInBounds_toArray, List.set_cons_zero, List.set_cons_succ]
        refine wpAnyH_take (i := 1) (oi := { dst := some 120, op := _, type := _, pos := _, after := _, guard := _ }) (v := .pointer (some ⟨hz, 0, none⟩)) rfl (by kernel_rfl) (by kernel_rfl) (by kernel_rfl) (fun _ _ _ h => h) (Or.inl ⟨by kernel_rfl, fun wy hy => by (go_simp; first | done | omega)⟩) (by assumption) ?_
        try simp only [Act.put, List.setIfInBounds_toArray, List.set_cons_zero, List.set_cons_succ]
        refine wpAnyH_take (i := 2) (oi := { dst := some 121, op := _, type := _, pos := _, after := _, guard := _ }) (v := .pointer (some ⟨hz, 1, none⟩)) rfl (by kernel_rfl) (by kernel_rfl) (by kernel_rfl) (fun _ _ _ h => h) (Or.inl ⟨by kernel_rfl, fun wy hy => by (go_simp; first | done | omega)⟩) (by assumption) ?_
        try simp only [Act.put, List.setIfInBounds_toArray, List.set_cons_zero, List.set_cons_succ]
        refine wpAnyH_take (i := 3) (oi := { dst := some 122, op := _, type := _, pos := _, after := _, guard := _ }) (v := .int .i64 (r' : Int)) rfl (by kernel_rfl) (by kernel_rfl) (by kernel_rfl) (fun _ _ _ h => h) (Or.inl ⟨by kernel_rfl, fun wy hy => by (obtain ⟨x0, x1, x2⟩ := HHc.out _ hy; go_simp; first | done | omega)⟩) (by assumption) ?_
        try simp only [Act.put, List.setIfInBounds_toArray, List.set_cons_zero, List.set_cons_succ]
        refine wpAnyH_take (i := 4) (oi := { dst := some 123, op := _, type := _, pos := _, after := _, guard := _ }) (v := .pointer (some ⟨hz, 0, none⟩)) rfl (by kernel_rfl) (by kernel_rfl) (by kernel_rfl) (fun _ _ _ h => h) (Or.inl ⟨by kernel_rfl, fun wy hy => by (go_simp; first | done | omega)⟩) (by assumption) ?_
        try simp only [Act.put, List.setIfInBounds_toArray, List.set_cons_zero, List.set_cons_succ]
        refine wpAnyH_take (i := 5) (oi := { dst := some 124, op := _, type := _, pos := _, after := _, guard := _ }) (v := .pointer (some ⟨hz, 0, none⟩)) rfl (by kernel_rfl) (by kernel_rfl) (by kernel_rfl) (fun _ _ _ h => h) (Or.inl ⟨by kernel_rfl, fun wy hy => by (go_simp; first | done | omega)⟩) (by assumption) ?_
        try simp only [Act.put, List.setIfInBounds_toArray, List.set_cons_zero, List.set_cons_succ]
        refine wpAnyH_take (i := 6) (oi := { dst := some 125, op := _, type := _, pos := _, after := _, guard := _ }) (v := .pointer (some ⟨hz, 2, none⟩)) rfl (by kernel_rfl) (by kernel_rfl) (by kernel_rfl) (fun _ _ _ h => h) (Or.inl ⟨by kernel_rfl, fun wy hy => by (go_simp; first | done | omega)⟩) (by assumption) ?_
        try simp only [Act.put, List.setIfInBounds_toArray, List.set_cons_zero, List.set_cons_succ]
        refine wpAnyH_take (i := 7) (oi := { dst := some 126, op := _, type := _, pos := _, after := _, guard := _ }) (v := .slice a0 nl c0) rfl (by kernel_rfl) (by kernel_rfl) (by kernel_rfl) (fun _ _ _ h => h) (Or.inl ⟨by kernel_rfl, fun wy hy => by (obtain ⟨x0, x1, x2⟩ := HHc.out _ hy; go_simp; first | done | omega)⟩) (by assumption) ?_
        try simp only [Act.put, List.setIfInBounds_toArray, List.set_cons_zero, List.set_cons_succ]
        refine wpAnyH_take (i := 8) (oi := { dst := some 127, op := _, type := _, pos := _, after := _, guard := _ }) (v := .agg #[.slice p2 m2 c2, .int .i64 fm2, .slice pq2 mq2 cq2, .int .i64 ts2, .int .i64 sq2, .int .i64 kd2, .slice pv2 mv2 cv2]) rfl (by kernel_rfl) (by kernel_rfl) (by kernel_rfl) (fun _ _ _ h => h) (Or.inl ⟨by kernel_rfl, fun wy hy => by (obtain ⟨x0, x1, x2, x3, x4, x5, x6⟩ := (HC2.out _ hy).cells7; go_simp; done)⟩) (by assumption) ?_
        try simp only [Act.put, List.setIfInBounds_toArray, List.set_cons_zero, List.set_cons_succ]
        refine wpAnyH_ready (rs := [9]) (by kernel_rfl) (by simp) ?_
        refine AllReadyH.cons (o := { dst := some 128, op := _, type := _, pos := _, after := _, guard := _ }) rfl (fun KK hK => ?_) AllReadyH.nil
        go_simp
        go_at_call 11
        refine (HAd.out _ BD).mono ?_
        rintro e9 w1 ⟨bw1, a9, n9, c9, rfl, hbad, hgood⟩
        have bZ1 : Below Z.heap.size Z w1 := BD.trans (bw1.mono BD.size)
        obtain ⟨ec, hec⟩ : ∃ ec, ec = (addE r' s0 (EntD.mk (.slice p2 m2 c2) fm2 (.slice pq2 mq2 cq2) ts2 sq2 kd2 (.slice pv2 mv2 cv2) rw2 ql2 va2)).1 := ⟨_, rfl⟩
        rw [← hec] at hbad hgood ⊢
        have HRa := Lib.hid (And.intro bw1 (And.intro hbad (And.intro hgood hec)))
        clear bw1 hbad hgood hec HAd
        go_wp2_with fail
        refine hK.out _ _ bZ1 (fun hHeld => ?_)
        clear hK
        try simp only [Act.put, List.setIfInBounds_toArray, List.set_cons_zero, List.set_cons_succ]
        refine wpAnyH_take (i := 10) (oi := { dst := some 118, op := _, type := _, pos := _, after := _, guard := _ }) (v := .tuple #[.slice a9 n9 c9, .int .i64 (ec : Int)]) rfl (by kernel_rfl) (by kernel_rfl) (by kernel_rfl) (fun _ _ _ h => h) (Or.inl ⟨by kernel_rfl, fun wy hy => by (go_simp; first | done | omega)⟩) (by assumption) ?_
        try simp only [Act.put, List.setIfInBounds_toArray, List.set_cons_zero, List.set_cons_succ]
        refine wpAnyH_take (i := 11) (oi := { dst := some 129, op := _, type := _, pos := _, after := _, guard := _ }) (v := .slice a9 n9 c9) rfl (by kernel_rfl) (by kernel_rfl) (by kernel_rfl) (fun _ _ _ h => h) (Or.inl ⟨by kernel_rfl, fun wy hy => by (go_simp; first | done | omega)⟩) (by assumption) ?_
        try simp only [Act.put, List.setIfInBounds_toArray, List.set_cons_zero, List.set_cons_succ]
        refine wpAnyH_take (i := 13) (oi := { dst := some 19, op := _, type := _, pos := _, after := _, guard := _ }) (v := .slice a9 n9 c9) rfl (by kernel_rfl) (by kernel_rfl) (by kernel_rfl) (fun _ _ _ h => h) (Or.inl ⟨by kernel_rfl, fun wy hy => by (go_simp; first | done | omega)⟩) (by assumption) ?_
        try simp only [Act.put, List.setIfInBounds_toArray, List.set_cons_zero, List.set_cons_succ]
        refine wpAnyH_take (i := 12) (oi := { dst := some 130, op := _, type := _, pos := _, after := _, guard := _ }) (v := .int .i64 (ec : Int)) rfl (by kernel_rfl) (by kernel_rfl) (by kernel_rfl) (fun _ _ _ h => h) (Or.inl ⟨by kernel_rfl, fun wy hy => by (go_simp; first | done | omega)⟩) (by assumption) ?_
        try simp only [Act.put, List.setIfInBounds_toArray, List.set_cons_zero, List.set_cons_succ]
        refine wpAnyH_take (i := 14) (oi := { dst := some 20, op := _, type := _, pos := _, after := _, guard := _ }) (v := .int .i64 (ec : Int)) rfl (by kernel_rfl) (by kernel_rfl) (by kernel_rfl) (fun _ _ _ h => h) (Or.inl ⟨by kernel_rfl, fun wy hy => by (go_simp; first | done | omega)⟩) (by assumption) ?_
        try simp only [Act.put, List.setIfInBounds_toArray, List.set_cons_zero, List.set_cons_succ]
        refine wpAnyH_done (by kernel_rfl) (NoPanic.normal ?_) _
        clear hHeld BD
        go_simp
        have BD1 : Below w1.heap.size w1 w1.drew := (Below.refl _ _).drew
        have bZd : Below Z.heap.size Z w1.drew := bZ1.trans (BD1.mono bZ1.size)
        have HAn := Lib.hid (addN_any (e := (EntD.mk (.slice p1 m1 c1) fm1 (.slice pq1 mq1 cq1) ts1 sq1 kd1 (.slice pv1 mv1 cv1) rw1 ql1 va1)) (HHf.out.1.bd.later bZd) (by have := HRo.out; omega) (Nat.le_trans HBZ.out.size bZd.size) (fun wx fx => (HOk.out.1.later bZd).fbV fx (fun k hk z => by
         have q1 := (HP.out.l1.rng (HP.out.l1.adr hk)).1
         have q2 := HTr.out.a.lt k (.inl (HHf.out.2.1 k (.inl z)))
         omega)))
        simp only [EntD.cells] at HAn
        go_upto_region 21 with fail
        refine wp_region_noPanic ?_
        refine wp_region_held_drew (S := fun wx => wx.cell? ⟨hz, 0, none⟩ = some (.pointer (some ⟨g0, 0, none⟩)) ∧ EBox wx b1 (EntD.mk (.slice p1 m1 c1) fm1 (.slice pq1 mq1 cq1) ts1 sq1 kd1 (.slice pv1 mv1 cv1) rw1 ql1 va1)) (by kernel_rfl) ⟨(HHc.out _ bZd).1, HC1.out _ bZd⟩ (fun hHeld => ?_)
        refine wpAnyH_take (i := 0) (oi := { dst := some 131, op := _, type := _, pos := _, after := _, guard := _ }) (v := .pointer (some ⟨hz, 0, none⟩)) rfl (by kernel_rfl) (by kernel_rfl) (by kernel_rfl) (fun _ _ _ h => h) (Or.inl ⟨by kernel_rfl, fun wy hy => by (go_simp; first | done | omega)⟩) (by assumption) ?_
        try simp only [Act.put, List.setIfInBounds_toArray, List.set_cons_zero, List.set_cons_succ]
        refine wpAnyH_take (i := 1) (oi := { dst := some 132, op := _, type := _, pos := _, after := _, guard := _ }) (v := .pointer (some ⟨hz, 0, none⟩)) rfl (by kernel_rfl) (by kernel_rfl) (by kernel_rfl) (fun _ _ _ h => h) (Or.inl ⟨by kernel_rfl, fun wy hy => by (go_simp; first | done | omega)⟩) (by assumption) ?_
        try simp only [Act.put, List.setIfInBounds_toArray, List.set_cons_zero, List.set_cons_succ]
        refine wpAnyH_take (i := 2) (oi := { dst := some 133, op := _, type := _, pos := _, after := _, guard := _ }) (v := .pointer (some ⟨hz, 0, none⟩)) rfl (by kernel_rfl) (by kernel_rfl) (by kernel_rfl) (fun _ _ _ h => h) (Or.inl ⟨by kernel_rfl, fun wy hy => by (go_simp; first | done | omega)⟩) (by assumption) ?_
        try simp only [Act.put, List.setIfInBounds_toArray, List.set_cons_zero, List.set_cons_succ]
        refine wpAnyH_take (i := 3) (oi := { dst := some 134, op := _, type := _, pos := _, after := _, guard := _ }) (v := .pointer (some ⟨g0, 0, none⟩)) rfl (by kernel_rfl) (by kernel_rfl) (by kernel_rfl) (fun _ _ _ h => h) (Or.inl ⟨by kernel_rfl, fun wy hy => by (obtain ⟨x0, -⟩ := hy; go_simp; first | done | omega)⟩) (by assumption) ?_
        try simp only [Act.put, List.setIfInBounds_toArray, List.set_cons_zero, List.set_cons_succ]
        refine wpAnyH_take (i := 4) (oi := { dst := some 135, op := _, type := _, pos := _, after := _, guard := _ }) (v := .agg #[.slice p1 m1 c1, .int .i64 fm1, .slice pq1 mq1 cq1, .int .i64 ts1, .int .i64 sq1, .int .i64 kd1, .slice pv1 mv1 cv1]) rfl (by kernel_rfl) (by kernel_rfl) (by kernel_rfl) (fun _ _ _ h => h) (Or.inl ⟨by kernel_rfl, fun wy hy => by (obtain ⟨x0, x1, x2, x3, x4, x5, x6⟩ := hy.2.cells7; go_simp; done)⟩) (by assumption) ?_
        try simp only [Act.put, List.setIfInBounds_toArray, List.set_cons_zero, List.set_cons_succ]
        refine wpAnyH_ready (rs := [5]) (by kernel_rfl) (by simp) ?_
        refine AllReadyH.cons (o := { dst := some 136, op := _, type := _, pos := _, after := _, guard := _ }) rfl (fun KK hK => ?_) AllReadyH.nil
        go_simp
        go_at_call 12
        refine HAn.out.mono ?_
        rintro e9 w2 han
        obtain ⟨rbw, rbad, rgood, rec_⟩ := HRa.out
        have hRnd := Trio.round HTr.out HP.out HFi.out.1 HFi.out.2 HHf.out.1 HHf.out.2.1 HHf.out.2.2 bZd (by rw [← rec_]; exact rbad) (by rw [← rec_]; exact fun q => ⟨(rgood q).1, (rgood q).2.1.later BD1, (rgood q).2.2⟩) han (by have q1 := HSt.out.1; omega) (Nat.le_trans hW5 (by omega)) (by omega)
        rw [← rec_] at hRnd
        obtain ⟨rfl, hRnd⟩ := hRnd
        have HRn := Lib.hid hRnd
        have HAN := Lib.hid han
        clear hRnd han rbw rbad rgood rec_ HAn
        go_wp2_with fail
        have hx2 := HRn.out.2.2.2.2.1
        refine hK.out _ _ ⟨by simp [World.cell?, hx2], HRn.out.1⟩ (fun hHeld => ?_)
        clear hK hx2
        try simp only [Act.put, List.setIfInBounds_toArray, List.set_cons_zero, List.set_cons_succ]
        refine wpAnyH_take (i := 6) (oi := { dst := some 21, op := _, type := _, pos := _, after := _, guard := _ }) (v := .int .i64 (ec : Int)) rfl (by kernel_rfl) (by kernel_rfl) (by kernel_rfl) (fun _ _ _ h => h) (Or.inl ⟨by kernel_rfl, fun wy hy => by (go_simp; first | done | omega)⟩) (by assumption) ?_
        try simp only [Act.put, List.setIfInBounds_toArray, List.set_cons_zero, List.set_cons_succ]
        refine wpAnyH_done (by kernel_rfl) (NoPanic.normal ?_) _
        have HZd := Lib.hid (And.intro bZd BD1)
        clear hHeld BD1 bZd bZ1
        obtain ⟨x0, x1, x2, x3, x4, x5, x6⟩ := HRn.out.1.cells7
        obtain ⟨y0, y1, y2, y3, y4, y5, y6⟩ := HRn.out.2.1.cells7
        simp only at x0 x1 x2 x3 x4 x5 x6 y0 y1 y2 y3 y4 y5 y6
        have HSn := Lib.hid (stands5_any HRn.out.2.2.1 HRn.out.2.2.2.1 ⟨HP.out.s1.1.trans HP.out.s2.1.symm, HP.out.s1.2.1.trans HP.out.s2.2.1.symm, HP.out.s1.2.2.1.trans HP.out.s2.2.2.1.symm, HP.out.s1.2.2.2.1.trans HP.out.s2.2.2.2.1.symm, HP.out.s1.2.2.2.2.1.trans HP.out.s2.2.2.2.2.1.symm, HP.out.s1.2.2.2.2.2.1.trans HP.out.s2.2.2.2.2.2.1.symm, HP.out.s1.2.2.2.2.2.2.trans HP.out.s2.2.2.2.2.2.2.symm⟩ HFi.out.1)
        simp only [EntD.cells] at HSn
        go_simp
        go_wp2_with fail
        refine HSn.out.mono ?_
        rintro e9 w2b ⟨rfl, bs2⟩
        obtain ⟨rbw, rbad, rgood, rec_⟩ := HRa.out
        have hR3 := Trio.round HTr.out HP.out HFi.out.1 HFi.out.2 HHf.out.1 HHf.out.2.1 HHf.out.2.2 HZd.out.1 (by rw [← rec_]; exact rbad) (by rw [← rec_]; exact fun q => ⟨(rgood q).1, (rgood q).2.1.later HZd.out.2, (rgood q).2.2⟩) (HAN.out.later bs2 (by have q1 := HBZ.out.size; have q2 := HZd.out.1.size; have q3 := HAN.out.2.2.2.size; omega)) (by have q1 := HSt.out.1; omega) (Nat.le_trans hW5 (by omega)) (by omega)
        rw [← rec_] at hR3
        obtain ⟨-, -, -, -, -, bx3, Pb2, Pl2, tr3, eb3, e33, hd1, hg3, hbl3⟩ := hR3
        rw [← HNl.out] at bx3
        have c2h : w2b.cell? ⟨hz, 2, none⟩ = some (.slice a0 nl c0) := by simp [World.cell?, bx3]
        have c2f : w2b.frozen? ⟨hz, 2, none⟩ = false := by simp [World.frozen?, bx3]
        obtain ⟨w3, hw3⟩ : ∃ w, w = w2b.setCell ⟨hz, 2, none⟩ (.slice a9 n9 c9) := ⟨_, rfl⟩
        rw [← hw3] at tr3 eb3 e33 hg3 hbl3
        have HW3 := Lib.hid hw3
        have HT3 := Lib.hid (And.intro tr3 (And.intro hd1 (And.intro hg3 hbl3)))
        have HFe := Lib.hid (fentry_any tr3.fu e33 (fun k hk => (hd1 k hk).2.2.1))
        simp only [EntD.cells] at HFe
        obtain ⟨v0, v1, v2, v3, v4, v5, v6⟩ := eb3.cells7
        simp only at v0 v1 v2 v3 v4 v5 v6
        rw [hw3] at v0 v1 v2 v3 v4 v5 v6
        have HEc := Lib.hid rec_
        clear x0 x1 x2 x3 x4 x5 x6 y0 y1 y2 y3 y4 y5 y6 HSn rbw rbad rgood rec_ bx3 tr3 eb3 e33 hd1 hg3 hbl3 hw3 HRn HAN bs2
        go_wp2_with fail
        rw [← HW3.out]
        refine HFe.out.mono ?_
        rintro e9 w4 ⟨⟨v9, rfl⟩, fu4, fb4⟩
        obtain ⟨tr3, hd1, hg3, hbl3⟩ := HT3.out
        have hs3 : wr.heap.size ≤ w3.heap.size := hbl3.size
        have tr4 := tr3.full (X := EntD.blk (EntD.mk (.slice p1 m1 c1) fm1 (.slice pq1 mq1 cq1) ts1 sq1 kd1 (.slice pv1 mv1 cv1) rw1 ql1 va1)) fu4 fb4 (fun k hk => ⟨(hd1 k hk).1, (hd1 k hk).2.1⟩) (fun k q => q.elim .inl (fun z => .inr (z.elim .inl (fun y => .inr y.1)))) (fun k hk => (hd1 k hk).2.2.2) (by omega) (by omega)
        have hg4 : w4.heap[hz + 2]? = wr.heap[hz + 2]? := (fb4.block (hz + 2) (by omega) (fun z => z.elim (fun q => (tr3.lo _ (.inr (.inr q))).2 rfl) (fun q => (hd1 _ q).2.2.2.2 rfl))).trans hg3
        have hb4 : Below W.heap.size W w4 := (HSt.out.2.2.2.trans hbl3).trans ⟨fb4.os, fb4.tape, fb4.output, fb4.size, fun k hk => fb4.block k (by omega) (fun z => z.elim (fun q => by have := (tr3.lo k (.inr (.inr q))).1; omega) (fun q => by have := (hd1 k q).2.2.2.1; omega))⟩
        have hs4 := fb4.size
        have HA4 := Lib.hid (tr4.asks (by have := HRo.out; omega) (by have := HRo.out; omega) (HT.out.later hb4) (by omega) (by omega))
        have H4 := Lib.hid (And.intro tr4 (And.intro hg4 (And.intro hb4 (by omega : hz + 4 ≤ w4.heap.size))))
        clear tr3 hd1 hg3 hbl3 hs3 tr4 hg4 hb4 hs4 fu4 fb4 HFe HT3 HW3 v0 v1 v2 v3 v4 v5 v6 c2h c2f
        go_wp2_with fail
        refine HA4.out.mono ?_
        rintro e9 w5 ⟨rfl, ⟨FO5, tr5⟩, fb5⟩
        obtain ⟨tr4, hg4, hb4, hz4⟩ := H4.out
        have hg5 : w5.heap[hz + 2]? = wr.heap[hz + 2]? := (fb5.block (hz + 2) (by omega) (fun q => (tr4.lo _ (.inr (.inr q))).2 rfl)).trans hg4
        have hb5 : Below W.heap.size W w5 := hb4.trans ⟨fb5.os, fb5.tape, fb5.output, fb5.size, fun k hk => fb5.block k (by omega) (fun q => by have := (tr4.lo k (.inr (.inr q))).1; omega)⟩
        have hs5 := fb5.size
        have HA5 := Lib.hid (tr5.asks (by have := HRo.out; omega) (by have := HRo.out; omega) (HT.out.later hb5) (by omega) (by omega))
        have g50 : w5.cell? ⟨hz + 2, 0, none⟩ = some (.pointer (some ⟨hz, 0, none⟩)) := by
         have := hg5.trans HSt.out.2.2.1
         simp [World.cell?, this]
        have H5 := Lib.hid (And.intro tr5 (And.intro hg5 (And.intro hb5 (by omega : hz + 4 ≤ w5.heap.size))))
        clear tr4 hg4 hb4 hz4 hg5 hb5 hs5 tr5 fb5 HA4 H4
        go_wp2_with fail
        refine HA5.out.mono ?_
        rintro e9 w6 ⟨rfl, ⟨FO6, tr6⟩, fb6⟩
        obtain ⟨tr5, hg5, hb5, hz5⟩ := H5.out
        have hg6 : w6.heap[hz + 2]? = wr.heap[hz + 2]? := (fb6.block (hz + 2) (by omega) (fun q => (tr5.lo _ (.inr (.inr q))).2 rfl)).trans hg5
        have hb6 : Below W.heap.size W w6 := hb5.trans ⟨fb6.os, fb6.tape, fb6.output, fb6.size, fun k hk => fb6.block k (by omega) (fun q => by have := (tr5.lo k (.inr (.inr q))).1; omega)⟩
        have hs6 := fb6.size
        have HWh := Lib.hid (whole_any tr6.fu)
        have H6 := Lib.hid (And.intro tr6 (And.intro hg6 (And.intro hb6 (by omega : hz + 4 ≤ w6.heap.size))))
        clear tr5 hg5 hb5 hz5 hg6 hb6 hs6 tr6 fb6 HA5 H5 g50
        go_wp2_with fail
        refine HWh.out.mono ?_
        rintro e9 w7 ⟨rfl, b7⟩
        have H7 : Hid (∃ s0 l0 Pb Pl s1 l1 Qb Ql FO, Trio w7 W.heap.size (hz + 2) hz g0 r' s0 l0 Pb Pl (hz + 1) g1 o' s1 l1 Qb Ql (hz + 3) FO ∧ l0.length ≤ k + 1 ∧ l1.length ≤ k + 1 ∧ w7.heap[hz + 2]? = some (.cells #[.pointer (some ⟨hz, 0, none⟩), .pointer (some ⟨hz + 1, 0, none⟩)] 30 (0, 0)) ∧ Below W.heap.size W w7 ∧ hz + 4 ≤ w7.heap.size) := by
         obtain ⟨tr6, hg6, hb6, hz6⟩ := H6.out
         have q1 := HSt.out.1
         have q2 := HSt.out.2.1
         refine ⟨_, _, _, _, _, _, _, _, _, (tr6.later b7), ?_, ?_, (b7.block _ (by omega)).trans (hg6.trans HSt.out.2.2.1), hb6.trans (b7.mono hb6.size), Nat.le_trans hz6 b7.size⟩
         ·first | omega | (split <;> first | omega | (simp; omega))
         ·first | omega | (split <;> first | omega | (simp; omega))
        clear b7 HWh H6
        go_wp2
        go_roundw
        case rel => exact ⟨k + 1, by omega, by go_num, H7⟩
        case measure => simp [intOf]; omega
      ·have hk2i : ¬ (k : Int) < (n2 : Int) := by omega
       clear hrb
       go_upto_region 19 with fail
       refine bb19_region hok hlt ⟨d0, d1, d2, d3, d4, d5, d6⟩ (Lib.hid ?_)
       rintro ⟨vr1, fm1, vq1, ts1, sq1, kd1, vv1, rw1, ql1, va1⟩ ⟨vr2, fm2, vq2, ts2, sq2, kd2, vv2, rw2, ql2, va2⟩ b1 b2 Z hp
       obtain ⟨p1, m1, c1, e1x⟩ := hp.l1.1.form
       obtain ⟨pq1, mq1, cq1, e2x⟩ := hp.l1.2.1.form
       obtain ⟨pv1, mv1, cv1, e3x⟩ := hp.l1.2.2.form
       simp only at e1x e2x e3x
       subst e1x e2x e3x
       obtain ⟨p2, m2, c2, e1x⟩ := hp.l2.1.form
       obtain ⟨pq2, mq2, cq2, e2x⟩ := hp.l2.2.1.form
       obtain ⟨pv2, mv2, cv2, e3x⟩ := hp.l2.2.2.form
       simp only at e1x e2x e3x
       subst e1x e2x e3x
       have HP := Lib.hid hp
       have HTZ := Lib.hid (HTr.out.later hp.bel)
       have hbelZ := HSt.out.2.2.2.trans (hp.bel.mono HSt.out.2.2.2.size)
       have HBZ := Lib.hid hbelZ
       obtain ⟨ve, vp, vl, a0, c0, hb, p1x, p2x⟩ := HTZ.out.a.ex
       obtain ⟨nl, hnl⟩ : ∃ nl, nl = l0.length := ⟨_, rfl⟩
       have hbx := hb.box
       rw [← hnl] at hbx
       have HHc : Hid (∀ wx, Below Z.heap.size Z wx → wx.cell? ⟨hz, 0, none⟩ = some (.pointer (some ⟨g0, 0, none⟩)) ∧ wx.cell? ⟨hz, 1, none⟩ = some (.int .i64 (r' : Int)) ∧ wx.cell? ⟨hz, 2, none⟩ = some (.slice a0 nl c0)) := fun wx b => by
        have := (b.block (hz) (Array.getElem?_eq_some_iff.1 hbx).1).trans hbx
        simp [World.cell?, this]
       have hf1 : EntD.Fine (EntD.mk (.slice p1 m1 c1) fm1 (.slice pq1 mq1 cq1) ts1 sq1 kd1 (.slice pv1 mv1 cv1) rw1 ql1 va1) := fine_same hp.s1 (EntD.cut_fine hok)
       have hf2 : EntD.Fine (EntD.mk (.slice p2 m2 c2) fm2 (.slice pq2 mq2 cq2) ts2 sq2 kd2 (.slice pv2 mv2 cv2) rw2 ql2 va2) := fine_same hp.s2 (EntD.cut_fine hok)
       have HOk := Lib.hid (And.intro (hp.l1.ok hf1) (hp.l2.ok hf2))
       have HFi := Lib.hid (And.intro hf1 hf2)
       have hlen : l0.length ≤ 100 := hb.len
       have HAd : Hid (∀ wx, Below Z.heap.size Z wx → Calls Tryz.prog 11 #[.int .i64 (r' : Int), .slice a0 nl c0, .agg #[.slice p2 m2 c2, .int .i64 fm2, .slice pq2 mq2 cq2, .int .i64 ts2, .int .i64 sq2, .int .i64 kd2, .slice pv2 mv2 cv2]] wx fun x w' => RaP wx r' a0 c0 l0 s0 (EntD.mk (.slice p2 m2 c2) fm2 (.slice pq2 mq2 cq2) ts2 sq2 kd2 (.slice pv2 mv2 cv2) rw2 ql2 va2) x w') := fun wx b => by
        have h := refAdd5_any (hb.rd.later b) (HOk.out.2.later b) (by have := HRo.out; omega) (by have := HRo.out; omega) hb.st (by omega)
        rw [← hnl] at h
        exact h
       have HHf := Lib.hid (And.intro hb (And.intro p1x p2x))
       have HNl := Lib.hid hnl
       have HC2 : Hid (∀ wx, Below Z.heap.size Z wx → EBox wx b2 (EntD.mk (.slice p2 m2 c2) fm2 (.slice pq2 mq2 cq2) ts2 sq2 kd2 (.slice pv2 mv2 cv2) rw2 ql2 va2)) := fun wx b => hp.e2.later b
       have HC1 : Hid (∀ wx, Below Z.heap.size Z wx → EBox wx b1 (EntD.mk (.slice p1 m1 c1) fm1 (.slice pq1 mq1 cq1) ts1 sq1 kd1 (.slice pv1 mv1 cv1) rw1 ql1 va1)) := fun wx b => hp.e1.later b
       clear hp hb p1x p2x hbx hnl hf1 hf2 d0 d1 d2 d3 d4 d5 d6 hok hbelZ
       go_upto_region 20 with fail
       have BD : Below Z.heap.size Z Z.drew := (Below.refl _ _).drew
       refine wp_region_noPanic ?_
       refine wp_region_held_drew (S := fun wx => Below Z.heap.size Z wx) (by kernel_rfl) BD (fun hHeld => ?_)
       refine wpAnyH_take (i := 0) (oi := { dst := some 119, op := _, type := _, pos := _, after := _, guard := _ }) (v := .pointer (some ⟨hz, 0, none⟩)) rfl (by kernel_rfl) (by kernel_rfl) (by kernel_rfl) (fun _ _ _ h => h) (Or.inl ⟨by kernel_rfl, fun wy hy => by (go_simp; first | done | omega)⟩) (by assumption) ?_
       try simp only [Act.put, List.setIfInBounds_toArray, List.set_cons_zero, List.set_cons_succ]
       refine wpAnyH_take (i := 1) (oi := { dst := some 120, op := _, type := _, pos := _, after := _, guard := _ }) (v := .pointer (some ⟨hz, 0, none⟩)) rfl (by kernel_rfl) (by kernel_rfl) (by kernel_rfl) (fun _ _ _ h => h) (Or.inl ⟨by kernel_rfl, fun wy hy => by (go_simp; first | done | omega)⟩) (by assumption) ?_
       try simp only [Act.put, List.setIfInBounds_toArray, List.set_cons_zero, List.set_cons_succ]
       refine wpAnyH_take (i := 2) (oi := { dst := some 121, op := _, type := _, pos := _, after := _, guard := _ }) (v := .pointer (some ⟨hz, 1, none⟩)) rfl (by kernel_rfl) (by kernel_rfl) (by kernel_rfl) (fun _ _ _ h => h) (Or.inl ⟨by kernel_rfl, fun wy hy => by (go_simp; first | done | omega)⟩) (by assumption) ?_
       try simp only [Act.put, List.setIfInBounds_toArray, List.set_cons_zero, List.set_cons_succ]
       refine wpAnyH_take (i := 3) (oi := { dst := some 122, op := _, type := _, pos := _, after := _, guard := _ }) (v := .int .i64 (r' : Int)) rfl (by kernel_rfl) (by kernel_rfl) (by kernel_rfl) (fun _ _ _ h => h) (Or.inl ⟨by kernel_rfl, fun wy hy => by (obtain ⟨x0, x1, x2⟩ := HHc.out _ hy; go_simp; first | done | omega)⟩) (by assumption) ?_
       try simp only [Act.put, List.setIfInBounds_toArray, List.set_cons_zero, List.set_cons_succ]
       refine wpAnyH_take (i := 4) (oi := { dst := some 123, op := _, type := _, pos := _, after := _, guard := _ }) (v := .pointer (some ⟨hz, 0, none⟩)) rfl (by kernel_rfl) (by kernel_rfl) (by kernel_rfl) (fun _ _ _ h => h) (Or.inl ⟨by kernel_rfl, fun wy hy => by (go_simp; first | done | omega)⟩) (by assumption) ?_
       try simp only [Act.put, List.setIfInBounds_toArray, List.set_cons_zero, List.set_cons_succ]
       refine wpAnyH_take (i := 5) (oi := { dst := some 124, op := _, type := _, pos := _, after := _, guard := _ }) (v := .pointer (some ⟨hz, 0, none⟩)) rfl (by kernel_rfl) (by kernel_rfl) (by kernel_rfl) (fun _ _ _ h => h) (Or.inl ⟨by kernel_rfl, fun wy hy => by (go_simp; first | done | omega)⟩) (by assumption) ?_
       try simp only [Act.put, List.setIfInBounds_toArray, List.set_cons_zero, List.set_cons_succ]
       refine wpAnyH_take (i := 6) (oi := { dst := some 125, op := _, type := _, pos := _, after := _, guard := _ }) (v := .pointer (some ⟨hz, 2, none⟩)) rfl (by kernel_rfl) (by kernel_rfl) (by kernel_rfl) (fun _ _ _ h => h) (Or.inl ⟨by kernel_rfl, fun wy hy => by (go_simp; first | done | omega)⟩) (by assumption) ?_
       try simp only [Act.put, List.setIfInBounds_toArray, List.set_cons_zero, List.set_cons_succ]
       refine wpAnyH_take (i := 7) (oi := { dst := some 126, op := _, type := _, pos := _, after := _, guard := _ }) (v := .slice a0 nl c0) rfl (by kernel_rfl) (by kernel_rfl) (by kernel_rfl) (fun _ _ _ h => h) (Or.inl ⟨by kernel_rfl, fun wy hy => by (obtain ⟨x0, x1, x2⟩ := HHc.out _ hy; go_simp; first | done | omega)⟩) (by assumption) ?_
       try simp only [Act.put, List.setIfInBounds_toArray, List.set_cons_zero, List.set_cons_succ]
       refine wpAnyH_take (i := 8) (oi := { dst := some 127, op := _, type := _, pos := _, after := _, guard := _ }) (v := .agg #[.slice p2 m2 c2, .int .i64 fm2, .slice pq2 mq2 cq2, .int .i64 ts2, .int .i64 sq2, .int .i64 kd2, .slice pv2 mv2 cv2]) rfl (by kernel_rfl) (by kernel_rfl) (by kernel_rfl) (fun _ _ _ h => h) (Or.inl ⟨by kernel_rfl, fun wy hy => by (obtain ⟨x0, x1, x2, x3, x4, x5, x6⟩ := (HC2.out _ hy).cells7; go_simp; done)⟩) (by assumption) ?_
       try simp only [Act.put, List.setIfInBounds_toArray, List.set_cons_zero, List.set_cons_succ]
       refine wpAnyH_ready (rs := [9]) (by kernel_rfl) (by simp) ?_
       refine AllReadyH.cons (o := { dst := some 128, op := _, type := _, pos := _, after := _, guard := _ }) rfl (fun KK hK => ?_) AllReadyH.nil
       go_simp
       go_at_call 11
       refine (HAd.out _ BD).mono ?_
       rintro e9 w1 ⟨bw1, a9, n9, c9, rfl, hbad, hgood⟩
       have bZ1 : Below Z.heap.size Z w1 := BD.trans (bw1.mono BD.size)
       obtain ⟨ec, hec⟩ : ∃ ec, ec = (addE r' s0 (EntD.mk (.slice p2 m2 c2) fm2 (.slice pq2 mq2 cq2) ts2 sq2 kd2 (.slice pv2 mv2 cv2) rw2 ql2 va2)).1 := ⟨_, rfl⟩
       rw [← hec] at hbad hgood ⊢
       have HRa := Lib.hid (And.intro bw1 (And.intro hbad (And.intro hgood hec)))
       clear bw1 hbad hgood hec HAd
       go_wp2_with fail
       refine hK.out _ _ bZ1 (fun hHeld => ?_)
       clear hK
       try simp only [Act.put, List.setIfInBounds_toArray, List.set_cons_zero, List.set_cons_succ]
       refine wpAnyH_take (i := 10) (oi := { dst := some 118, op := _, type := _, pos := _, after := _, guard := _ }) (v := .tuple #[.slice a9 n9 c9, .int .i64 (ec : Int)]) rfl (by kernel_rfl) (by kernel_rfl) (by kernel_rfl) (fun _ _ _ h => h) (Or.inl ⟨by kernel_rfl, fun wy hy => by (go_simp; first | done | omega)⟩) (by assumption) ?_
       try simp only [Act.put, List.setIfInBounds_toArray, List.set_cons_zero, List.set_cons_succ]
       refine wpAnyH_take (i := 11) (oi := { dst := some 129, op := _, type := _, pos := _, after := _, guard := _ }) (v := .slice a9 n9 c9) rfl (by kernel_rfl) (by kernel_rfl) (by kernel_rfl) (fun _ _ _ h => h) (Or.inl ⟨by kernel_rfl, fun wy hy => by (go_simp; first | done | omega)⟩) (by assumption) ?_
       try simp only [Act.put, List.setIfInBounds_toArray, List.set_cons_zero, List.set_cons_succ]
       refine wpAnyH_take (i := 13) (oi := { dst := some 19, op := _, type := _, pos := _, after := _, guard := _ }) (v := .slice a9 n9 c9) rfl (by kernel_rfl) (by kernel_rfl) (by kernel_rfl) (fun _ _ _ h => h) (Or.inl ⟨by kernel_rfl, fun wy hy => by (go_simp; first | done | omega)⟩) (by assumption) ?_
       try simp only [Act.put, List.setIfInBounds_toArray, List.set_cons_zero, List.set_cons_succ]
       refine wpAnyH_take (i := 12) (oi := { dst := some 130, op := _, type := _, pos := _, after := _, guard := _ }) (v := .int .i64 (ec : Int)) rfl (by kernel_rfl) (by kernel_rfl) (by kernel_rfl) (fun _ _ _ h => h) (Or.inl ⟨by kernel_rfl, fun wy hy => by (go_simp; first | done | omega)⟩) (by assumption) ?_
       try simp only [Act.put, List.setIfInBounds_toArray, List.set_cons_zero, List.set_cons_succ]
       refine wpAnyH_take (i := 14) (oi := { dst := some 20, op := _, type := _, pos := _, after := _, guard := _ }) (v := .int .i64 (ec : Int)) rfl (by kernel_rfl) (by kernel_rfl) (by kernel_rfl) (fun _ _ _ h => h) (Or.inl ⟨by kernel_rfl, fun wy hy => by (go_simp; first | done | omega)⟩) (by assumption) ?_
       try simp only [Act.put, List.setIfInBounds_toArray, List.set_cons_zero, List.set_cons_succ]
       refine wpAnyH_done (by kernel_rfl) (NoPanic.normal ?_) _
       clear hHeld BD
       go_simp
       have BD1 : Below w1.heap.size w1 w1.drew := (Below.refl _ _).drew
       have bZd : Below Z.heap.size Z w1.drew := bZ1.trans (BD1.mono bZ1.size)
       have HAn := Lib.hid (addN_any (e := (EntD.mk (.slice p1 m1 c1) fm1 (.slice pq1 mq1 cq1) ts1 sq1 kd1 (.slice pv1 mv1 cv1) rw1 ql1 va1)) (HHf.out.1.bd.later bZd) (by have := HRo.out; omega) (Nat.le_trans HBZ.out.size bZd.size) (fun wx fx => (HOk.out.1.later bZd).fbV fx (fun k hk z => by
        have q1 := (HP.out.l1.rng (HP.out.l1.adr hk)).1
        have q2 := HTr.out.a.lt k (.inl (HHf.out.2.1 k (.inl z)))
        omega)))
       simp only [EntD.cells] at HAn
       go_upto_region 21 with fail
       refine wp_region_noPanic ?_
       refine wp_region_held_drew (S := fun wx => wx.cell? ⟨hz, 0, none⟩ = some (.pointer (some ⟨g0, 0, none⟩)) ∧ EBox wx b1 (EntD.mk (.slice p1 m1 c1) fm1 (.slice pq1 mq1 cq1) ts1 sq1 kd1 (.slice pv1 mv1 cv1) rw1 ql1 va1)) (by kernel_rfl) ⟨(HHc.out _ bZd).1, HC1.out _ bZd⟩ (fun hHeld => ?_)
       refine wpAnyH_take (i := 0) (oi := { dst := some 131, op := _, type := _, pos := _, after := _, guard := _ }) (v := .pointer (some ⟨hz, 0, none⟩)) rfl (by kernel_rfl) (by kernel_rfl) (by kernel_rfl) (fun _ _ _ h => h) (Or.inl ⟨by kernel_rfl, fun wy hy => by (go_simp; first | done | omega)⟩) (by assumption) ?_
       try simp only [Act.put, List.setIfInBounds_toArray, List.set_cons_zero, List.set_cons_succ]
       refine wpAnyH_take (i := 1) (oi := { dst := some 132, op := _, type := _, pos := _, after := _, guard := _ }) (v := .pointer (some ⟨hz, 0, none⟩)) rfl (by kernel_rfl) (by kernel_rfl) (by kernel_rfl) (fun _ _ _ h => h) (Or.inl ⟨by kernel_rfl, fun wy hy => by (go_simp; first | done | omega)⟩) (by assumption) ?_
       try simp only [Act.put, List.setIfInBounds_toArray, List.set_cons_zero, List.set_cons_succ]
       refine wpAnyH_take (i := 2) (oi := { dst := some 133, op := _, type := _, pos := _, after := _, guard := _ }) (v := .pointer (some ⟨hz, 0, none⟩)) rfl (by kernel_rfl) (by kernel_rfl) (by kernel_rfl) (fun _ _ _ h => h) (Or.inl ⟨by kernel_rfl, fun wy hy => by (go_simp; first | done | omega)⟩) (by assumption) ?_
       try simp only [Act.put, List.setIfInBounds_toArray, List.set_cons_zero, List.set_cons_succ]
       refine wpAnyH_take (i := 3) (oi := { dst := some 134, op := _, type := _, pos := _, after := _, guard := _ }) (v := .pointer (some ⟨g0, 0, none⟩)) rfl (by kernel_rfl) (by kernel_rfl) (by kernel_rfl) (fun _ _ _ h => h) (Or.inl ⟨by kernel_rfl, fun wy hy => by (obtain ⟨x0, -⟩ := hy; go_simp; first | done | omega)⟩) (by assumption) ?_
       try simp only [Act.put, List.setIfInBounds_toArray, List.set_cons_zero, List.set_cons_succ]
       refine wpAnyH_take (i := 4) (oi := { dst := some 135, op := _, type := _, pos := _, after := _, guard := _ }) (v := .agg #[.slice p1 m1 c1, .int .i64 fm1, .slice pq1 mq1 cq1, .int .i64 ts1, .int .i64 sq1, .int .i64 kd1, .slice pv1 mv1 cv1]) rfl (by kernel_rfl) (by kernel_rfl) (by kernel_rfl) (fun _ _ _ h => h) (Or.inl ⟨by kernel_rfl, fun wy hy => by (obtain ⟨x0, x1, x2, x3, x4, x5, x6⟩ := hy.2.cells7; go_simp; done)⟩) (by assumption) ?_
       try simp only [Act.put, List.setIfInBounds_toArray, List.set_cons_zero, List.set_cons_succ]
       refine wpAnyH_ready (rs := [5]) (by kernel_rfl) (by simp) ?_
       refine AllReadyH.cons (o := { dst := some 136, op := _, type := _, pos := _, after := _, guard := _ }) rfl (fun KK hK => ?_) AllReadyH.nil
       go_simp
       go_at_call 12
       refine HAn.out.mono ?_
       rintro e9 w2 han
       obtain ⟨rbw, rbad, rgood, rec_⟩ := HRa.out
       have hRnd := Trio.round HTr.out HP.out HFi.out.1 HFi.out.2 HHf.out.1 HHf.out.2.1 HHf.out.2.2 bZd (by rw [← rec_]; exact rbad) (by rw [← rec_]; exact fun q => ⟨(rgood q).1, (rgood q).2.1.later BD1, (rgood q).2.2⟩) han (by have q1 := HSt.out.1; omega) (Nat.le_trans hW5 (by omega)) (by omega)
       rw [← rec_] at hRnd
       obtain ⟨rfl, hRnd⟩ := hRnd
       have HRn := Lib.hid hRnd
       have HAN := Lib.hid han
       clear hRnd han rbw rbad rgood rec_ HAn
       go_wp2_with fail
       have hx2 := HRn.out.2.2.2.2.1
       refine hK.out _ _ ⟨by simp [World.cell?, hx2], HRn.out.1⟩ (fun hHeld => ?_)
       clear hK hx2
       try simp only [Act.put, List.setIfInBounds_toArray, List.set_cons_zero, List.set_cons_succ]
       refine wpAnyH_take (i := 6) (oi := { dst := some 21, op := _, type := _, pos := _, after := _, guard := _ }) (v := .int .i64 (ec : Int)) rfl (by kernel_rfl) (by kernel_rfl) (by kernel_rfl) (fun _ _ _ h => h) (Or.inl ⟨by kernel_rfl, fun wy hy => by (go_simp; first | done | omega)⟩) (by assumption) ?_
       try simp only [Act.put, List.setIfInBounds_toArray, List.set_cons_zero, List.set_cons_succ]
       refine wpAnyH_done (by kernel_rfl) (NoPanic.normal ?_) _
       have HZd := Lib.hid (And.intro bZd BD1)
       clear hHeld BD1 bZd bZ1
       obtain ⟨x0, x1, x2, x3, x4, x5, x6⟩ := HRn.out.1.cells7
       obtain ⟨y0, y1, y2, y3, y4, y5, y6⟩ := HRn.out.2.1.cells7
       simp only at x0 x1 x2 x3 x4 x5 x6 y0 y1 y2 y3 y4 y5 y6
       have HSn := Lib.hid (stands5_any HRn.out.2.2.1 HRn.out.2.2.2.1 ⟨HP.out.s1.1.trans HP.out.s2.1.symm, HP.out.s1.2.1.trans HP.out.s2.2.1.symm, HP.out.s1.2.2.1.trans HP.out.s2.2.2.1.symm, HP.out.s1.2.2.2.1.trans HP.out.s2.2.2.2.1.symm, HP.out.s1.2.2.2.2.1.trans HP.out.s2.2.2.2.2.1.symm, HP.out.s1.2.2.2.2.2.1.trans HP.out.s2.2.2.2.2.2.1.symm, HP.out.s1.2.2.2.2.2.2.trans HP.out.s2.2.2.2.2.2.2.symm⟩ HFi.out.1)
       simp only [EntD.cells] at HSn
       go_simp
       go_wp2_with fail
       refine HSn.out.mono ?_
       rintro e9 w2b ⟨rfl, bs2⟩
       obtain ⟨rbw, rbad, rgood, rec_⟩ := HRa.out
       have hR3 := Trio.round HTr.out HP.out HFi.out.1 HFi.out.2 HHf.out.1 HHf.out.2.1 HHf.out.2.2 HZd.out.1 (by rw [← rec_]; exact rbad) (by rw [← rec_]; exact fun q => ⟨(rgood q).1, (rgood q).2.1.later HZd.out.2, (rgood q).2.2⟩) (HAN.out.later bs2 (by have q1 := HBZ.out.size; have q2 := HZd.out.1.size; have q3 := HAN.out.2.2.2.size; omega)) (by have q1 := HSt.out.1; omega) (Nat.le_trans hW5 (by omega)) (by omega)
       rw [← rec_] at hR3
       obtain ⟨-, -, -, -, -, bx3, Pb2, Pl2, tr3, eb3, e33, hd1, hg3, hbl3⟩ := hR3
       rw [← HNl.out] at bx3
       have c2h : w2b.cell? ⟨hz, 2, none⟩ = some (.slice a0 nl c0) := by simp [World.cell?, bx3]
       have c2f : w2b.frozen? ⟨hz, 2, none⟩ = false := by simp [World.frozen?, bx3]
       obtain ⟨w3, hw3⟩ : ∃ w, w = w2b.setCell ⟨hz, 2, none⟩ (.slice a9 n9 c9) := ⟨_, rfl⟩
       rw [← hw3] at tr3 eb3 e33 hg3 hbl3
       have HW3 := Lib.hid hw3
       have HT3 := Lib.hid (And.intro tr3 (And.intro hd1 (And.intro hg3 hbl3)))
       have HFe := Lib.hid (fentry_any tr3.fu e33 (fun k hk => (hd1 k hk).2.2.1))
       simp only [EntD.cells] at HFe
       obtain ⟨v0, v1, v2, v3, v4, v5, v6⟩ := eb3.cells7
       simp only at v0 v1 v2 v3 v4 v5 v6
       rw [hw3] at v0 v1 v2 v3 v4 v5 v6
       have HEc := Lib.hid rec_
       clear x0 x1 x2 x3 x4 x5 x6 y0 y1 y2 y3 y4 y5 y6 HSn rbw rbad rgood rec_ bx3 tr3 eb3 e33 hd1 hg3 hbl3 hw3 HRn HAN bs2
       go_wp2_with fail
       rw [← HW3.out]
       refine HFe.out.mono ?_
       rintro e9 w4 ⟨⟨v9, rfl⟩, fu4, fb4⟩
       obtain ⟨tr3, hd1, hg3, hbl3⟩ := HT3.out
       have hs3 : wr.heap.size ≤ w3.heap.size := hbl3.size
       have tr4 := tr3.full (X := EntD.blk (EntD.mk (.slice p1 m1 c1) fm1 (.slice pq1 mq1 cq1) ts1 sq1 kd1 (.slice pv1 mv1 cv1) rw1 ql1 va1)) fu4 fb4 (fun k hk => ⟨(hd1 k hk).1, (hd1 k hk).2.1⟩) (fun k q => q.elim .inl (fun z => .inr (z.elim .inl (fun y => .inr y.1)))) (fun k hk => (hd1 k hk).2.2.2) (by omega) (by omega)
       have hg4 : w4.heap[hz + 2]? = wr.heap[hz + 2]? := (fb4.block (hz + 2) (by omega) (fun z => z.elim (fun q => (tr3.lo _ (.inr (.inr q))).2 rfl) (fun q => (hd1 _ q).2.2.2.2 rfl))).trans hg3
       have hb4 : Below W.heap.size W w4 := (HSt.out.2.2.2.trans hbl3).trans ⟨fb4.os, fb4.tape, fb4.output, fb4.size, fun k hk => fb4.block k (by omega) (fun z => z.elim (fun q => by have := (tr3.lo k (.inr (.inr q))).1; omega) (fun q => by have := (hd1 k q).2.2.2.1; omega))⟩
       have hs4 := fb4.size
       have HA4 := Lib.hid (tr4.asks (by have := HRo.out; omega) (by have := HRo.out; omega) (HT.out.later hb4) (by omega) (by omega))
       have H4 := Lib.hid (And.intro tr4 (And.intro hg4 (And.intro hb4 (by omega : hz + 4 ≤ w4.heap.size))))
       clear tr3 hd1 hg3 hbl3 hs3 tr4 hg4 hb4 hs4 fu4 fb4 HFe HT3 HW3 v0 v1 v2 v3 v4 v5 v6 c2h c2f
       go_wp2_with fail
       refine HA4.out.mono ?_
       rintro e9 w5 ⟨rfl, ⟨FO5, tr5⟩, fb5⟩
       obtain ⟨tr4, hg4, hb4, hz4⟩ := H4.out
       have hg5 : w5.heap[hz + 2]? = wr.heap[hz + 2]? := (fb5.block (hz + 2) (by omega) (fun q => (tr4.lo _ (.inr (.inr q))).2 rfl)).trans hg4
       have hb5 : Below W.heap.size W w5 := hb4.trans ⟨fb5.os, fb5.tape, fb5.output, fb5.size, fun k hk => fb5.block k (by omega) (fun q => by have := (tr4.lo k (.inr (.inr q))).1; omega)⟩
       have hs5 := fb5.size
       have HA5 := Lib.hid (tr5.asks (by have := HRo.out; omega) (by have := HRo.out; omega) (HT.out.later hb5) (by omega) (by omega))
       have g50 : w5.cell? ⟨hz + 2, 0, none⟩ = some (.pointer (some ⟨hz, 0, none⟩)) := by
        have := hg5.trans HSt.out.2.2.1
        simp [World.cell?, this]
       have H5 := Lib.hid (And.intro tr5 (And.intro hg5 (And.intro hb5 (by omega : hz + 4 ≤ w5.heap.size))))
       clear tr4 hg4 hb4 hz4 hg5 hb5 hs5 tr5 fb5 HA4 H4
       go_wp2_with fail
       refine HA5.out.mono ?_
       rintro e9 w6 ⟨rfl, ⟨FO6, tr6⟩, fb6⟩
       obtain ⟨tr5, hg5, hb5, hz5⟩ := H5.out
       have hg6 : w6.heap[hz + 2]? = wr.heap[hz + 2]? := (fb6.block (hz + 2) (by omega) (fun q => (tr5.lo _ (.inr (.inr q))).2 rfl)).trans hg5
       have hb6 : Below W.heap.size W w6 := hb5.trans ⟨fb6.os, fb6.tape, fb6.output, fb6.size, fun k hk => fb6.block k (by omega) (fun q => by have := (tr5.lo k (.inr (.inr q))).1; omega)⟩
       have hs6 := fb6.size
       have HWh := Lib.hid (whole_any tr6.fu)
       have H6 := Lib.hid (And.intro tr6 (And.intro hg6 (And.intro hb6 (by omega : hz + 4 ≤ w6.heap.size))))
       clear tr5 hg5 hb5 hz5 hg6 hb6 hs6 tr6 fb6 HA5 H5 g50
       go_wp2_with fail
       refine HWh.out.mono ?_
       rintro e9 w7 ⟨rfl, b7⟩
       have H7 : Hid (∃ s0 l0 Pb Pl s1 l1 Qb Ql FO, Trio w7 W.heap.size (hz + 2) hz g0 r' s0 l0 Pb Pl (hz + 1) g1 o' s1 l1 Qb Ql (hz + 3) FO ∧ l0.length ≤ k + 1 ∧ l1.length ≤ k + 1 ∧ w7.heap[hz + 2]? = some (.cells #[.pointer (some ⟨hz, 0, none⟩), .pointer (some ⟨hz + 1, 0, none⟩)] 30 (0, 0)) ∧ Below W.heap.size W w7 ∧ hz + 4 ≤ w7.heap.size) := by
        obtain ⟨tr6, hg6, hb6, hz6⟩ := H6.out
        have q1 := HSt.out.1
        have q2 := HSt.out.2.1
        refine ⟨_, _, _, _, _, _, _, _, _, (tr6.later b7), ?_, ?_, (b7.block _ (by omega)).trans (hg6.trans HSt.out.2.2.1), hb6.trans (b7.mono hb6.size), Nat.le_trans hz6 b7.size⟩
        ·first | omega | (split <;> first | omega | (simp; omega))
        ·first | omega | (split <;> first | omega | (simp; omega))
       clear b7 HWh H6
       go_wp2
       go_roundw
       case rel => exact ⟨k + 1, by omega, by go_num, H7⟩
       case measure => simp [intOf]; omega
     ·have hge : ¬ (k : Int) < (N0 : Int) := by omega
      obtain rfl : k = N0 := by omega
      have hrdA := HR.out.later HSt.out.2.2.2
      have HEn1 := Lib.hid (entries5_any hrdA (by rw [← HN0.out]; omega))
      rw [← HN0.out] at HEn1
      have HRr := Lib.hid hrdA
      clear hrb hrdA e0 e1
      go_wp2_with fail
      refine HEn1.out.mono ?_
      rintro e9 Y1 ⟨b1y, ga, ca, Da, rfl, hDa, hca, rowA, ldA⟩
      have enA : EnL Y1 wr.heap.size ga k ca Da l := ⟨hDa, hca, rowA, ldA⟩
      have HEn2 := Lib.hid (entries5_any (HRr.out.later b1y) (by rw [← HN0.out]; omega))
      rw [← HN0.out] at HEn2
      have HY1 := Lib.hid (And.intro b1y enA)
      clear b1y hDa hca rowA ldA enA HEn1
      go_wp2_with fail
      refine HEn2.out.mono ?_
      rintro e9 Y2 ⟨b2y, gb, cb, Db, rfl, hDb, hcb, rowB, ldB⟩
      have enB : EnL Y2 Y1.heap.size gb k cb Db l := ⟨hDb, hcb, rowB, ldB⟩
      have enA2 := HY1.out.2.later b2y
      have bY2 : Below wr.heap.size wr Y2 := HY1.out.1.trans (b2y.mono HY1.out.1.size)
      have HBu := Lib.hid (build_any (r' : Int) (enA2.rdl HR.out).2 (HT.out.later (HSt.out.2.2.2.trans (bY2.mono HSt.out.2.2.2.size))))
      rw [enA2.len] at HBu
      have HY2 := Lib.hid (And.intro bY2 (And.intro enA2 enB))
      clear b2y hDb hcb rowB ldB enB enA2 bY2 HEn2 HY1
      go_wp2_with fail
      refine HBu.out.mono ?_
      rintro e9 Y3 hbu
      obtain ⟨bY2, enA2, enB⟩ := HY2.out
      obtain ⟨v3, E3x, rfl, b3y, -⟩ := id hbu
      obtain ⟨av3, mv3, cv3, rfl⟩ : ∃ a m c, v3 = .slice a m c := by
       obtain ⟨v, E, e1, -, k1, k2, k3, k4⟩ := hbu
       simp only [Ending.returned.injEq, Value.tuple.injEq, Array.mk.injEq, List.cons.injEq] at e1
       obtain ⟨rfl, -⟩ := e1
       have hr : (1 : Int) ≤ (r' : Int) ∧ (r' : Int) ≤ 16 := by have := HRo.out; omega
       by_cases h0 : (bldS (r' : Int).toNat Bs.zero Da).1 = 0
       ·by_cases hz2 : Da = []
        ·exact ⟨_, _, _, (k3 hr h0 hz2).2⟩
        ·obtain ⟨-, a, m, c, e2, -⟩ := k4 hr h0 hz2
         exact ⟨_, _, _, e2⟩
       ·exact ⟨_, _, _, (k2 hr h0).2⟩
      have HRb := Lib.hid (refBuild5_any (r := r') ((enB.rdl HR.out).2.later b3y) (by have := HRo.out; omega) (by have := HRo.out; omega) (by rw [enB.len]; omega))
      rw [enB.len] at HRb
      have HBp := Lib.hid hbu
      clear hbu b3y bY2 enA2 enB HBu
      go_wp2_with fail
      refine HRb.out.mono ?_
      rintro e9 Y4 hrb4
      obtain ⟨bY2, enA2, enB⟩ := HY2.out
      obtain ⟨a1', m1', c1', a2', m2', c2', E', bs4, ex1, ex2, rd1, rd2, b34, b23⟩ := both_build HBp.out hrb4 (by have := HRo.out; omega) (by have := HRo.out; omega) (enA2.rdl HR.out).2 (by rw [enA2.len, enB.len]) (fun i D E h1 h2 => by
       obtain ⟨-, -, z1, hz1, s1x⟩ := enA2.fine HR.out h1
       obtain ⟨-, -, z2, hz2, s2x⟩ := enB.fine HR.out h2
       rw [hz1] at hz2
       cases hz2
       have s2y := s2x.symm
       exact ⟨s1x.1.trans s2y.1, s1x.2.1.trans s2y.2.1, s1x.2.2.1.trans s2y.2.2.1, s1x.2.2.2.1.trans s2y.2.2.2.1, s1x.2.2.2.2.1.trans s2y.2.2.2.2.1, s1x.2.2.2.2.2.1.trans s2y.2.2.2.2.2.1, s1x.2.2.2.2.2.2.trans s2y.2.2.2.2.2.2⟩)
      subst ex2
      simp only [Ending.returned.injEq, Value.tuple.injEq, Array.mk.injEq, List.cons.injEq, Value.slice.injEq, Value.int.injEq, true_and, and_true] at ex1
      obtain ⟨⟨rfl, rfl, rfl⟩, ex3⟩ := ex1
      obtain rfl : E3x = E' := by omega
      have HSm := Lib.hid (same5_true rd1 rd2)
      have b24 : Below Y2.heap.size Y2 Y4 := b23.trans (b34.mono b23.size)
      have H4 := Lib.hid (And.intro (bY2.trans (b24.mono bY2.size)) (And.intro (enA2.later b24) (enB.later b24)))
      clear hrb4 ex3 rd1 rd2 b34 b23 b24 bY2 enA2 enB HRb HBp HY2
      go_wp2_with fail
      refine HSm.out.mono ?_
      rintro e9 Y5 ⟨rfl, b5⟩
      obtain ⟨bY4, enA4, enB4⟩ := H4.out
      have HLs := Lib.hid (listStands5_any (enA4.later b5) (enB4.later b5) HR.out (by omega))
      have HB5 := Lib.hid (bY4.trans (b5.mono bY4.size))
      clear b5 bY4 enA4 enB4 HSm H4
      go_wp2_with fail
      refine HLs.out.mono ?_
      rintro e9 Y6 ⟨rfl, b6⟩
      have bwY : Below wr.heap.size wr Y6 := HB5.out.trans (b6.mono HB5.out.size)
      have hbW : Below W.heap.size W Y6 := HSt.out.2.2.2.trans (bwY.mono HSt.out.2.2.2.size)
      have g61 : Y6.cell? ⟨hz + 2, 1, none⟩ = some (.pointer (some ⟨hz + 1, 0, none⟩)) := by
       have := (bwY.block (hz + 2) (by omega)).trans HSt.out.2.2.1
       simp [World.cell?, this]
      have hs6 := bwY.size
      have t6 := (HTr.out.later bwY).swap
      have HA6 := Lib.hid (t6.asks (by have := HRo.out; omega) (by have := HRo.out; omega) (HT.out.later hbW) (by omega) (by omega))
      have HLo := Lib.hid (And.intro t6.lo hbW)
      clear b6 bwY hbW t6 HLs HB5 hs6
      go_wp2_with fail
      refine HA6.out.mono ?_
      rintro e9 Y7 ⟨rfl, -, fb7⟩
      have HEnd : Hid (Below W.heap.size W Y7) := HLo.out.2.trans ⟨fb7.os, fb7.tape, fb7.output, fb7.size, fun q hq => fb7.block q (Nat.lt_of_lt_of_le hq HLo.out.2.size) (fun z => by have := (HLo.out.1 q (.inr (.inr z))).1; omega)⟩
      clear fb7 HA6 g61 HLo
      go_wp2
      go_ret
      exact ⟨rfl, HEnd.out⟩
end Go.Proofs.YtchebhafabhabaaGreatDoor
