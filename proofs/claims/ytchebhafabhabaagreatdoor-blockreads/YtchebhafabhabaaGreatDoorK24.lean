import Derived.Test.YtchebhafabhabaaGreatDoorK23
namespace Go.Proofs.YtchebhafabhabaaGreatDoor
open Go.RowKit
set_option linter.unusedVariables false

theorem fu_done {w wr Y w6 : World} {g q c N mk nL cL cM c4 cx cy cR c6 : Nat} {a aL aM a4 ax ay aR a6 : Option Addr} {O FO : Nat → Prop} {vs : List Value} {ms : List Nat}
  (h : Fu w g O aL nL cL aM cM N vs ms) (hF : (∀ k, FO k → k < w.heap.size) ∧ FO g ∧ (∀ k, O k → FO k) ∧ (∀ k, (Value.slice aL nL cL).ownBlock = some k → FO k) ∧ (∀ k, (Value.slice aM nL cM).ownBlock = some k → FO k))
  (hNb : ∀ k, (Value.slice a q c).ownBlock = some k → ¬ FO k) (hgb : ∀ k, (Value.slice a q c).ownBlock = some k → k < w.heap.size) (hw : w.heap.size ≤ wr.heap.size)
  (oX : Own Y 0 (.slice ax (q + 1) cx) (q + 1) (List.replicate (q + 1) mk)) (oY : Own Y 0 (.slice ay (q + 2) cy) (q + 2) (List.replicate (q + 2) mk)) (oB : Own Y 0 (.slice a q c) q (List.replicate q mk)) (oG : Own Y 0 (.slice a4 (q + 1 + 100) c4) (q + 1 + 100) (List.replicate (q + 1 + 100) mk))
  (nX : Near wr (.slice a q c) (.slice ax (q + 1) cx)) (nY : Near wr (.slice a q c) (.slice ay (q + 2) cy)) (nG : ∀ k, (Value.slice a4 (q + 1 + 100) c4).ownBlock = some k → (Value.slice a q c).ownBlock = some k ∨ w.heap.size ≤ k)
  (r : Y.ownsRow 0 36 1 (.slice aR (nL + 4) cR) (nL + 4) (vs ++ [.slice a q c, .slice ax (q + 1) cx, .slice ay (q + 2) cy, .slice a4 (q + 1 + 100) c4])) (nR : Near wr (.slice aL nL cL) (.slice aR (nL + 4) cR))
  (bx : Y.heap[g]? = some (.cells #[.slice aR (nL + 4) cR, .slice aM nL cM, .int .i64 ((N : Int) + 4 * (q : Int) + 200)] 38 (0, 0)))
  (f : Fb w Y (fun k => k = g ∨ (Value.slice a q c).ownBlock = some k ∨ (Value.slice aL nL cL).ownBlock = some k)) (oM : Own Y 0 (.slice aM nL cM) nL ms)
  (o6 : Own w6 0 (.slice a6 (nL + 4) c6) (nL + 4) (ms ++ List.replicate 4 mk)) (gr : Y.grownBy w6 (Value.slice aM nL cM).ownBlock) (nr : (Value.slice a6 (nL + 4) c6).ownBlock = (Value.slice aM nL cM).ownBlock ∨ ∀ k, (Value.slice a6 (nL + 4) c6).ownBlock = some k → Y.heap.size ≤ k)
  (hYr : wr.heap.size ≤ Y.heap.size) (hN : N ≤ 1000000) (hq : q ≤ 200000) (hmk : mk < 256) :
  FuB (w6.setCell ⟨g, 1, none⟩ (.slice a6 (nL + 4) c6)) g (fun k => FO k ∨ (Value.slice a q c).ownBlock = some k ∨ (w.heap.size ≤ k ∧ k < (w6.setCell ⟨g, 1, none⟩ (.slice a6 (nL + 4) c6)).heap.size)) ∧ Fb w (w6.setCell ⟨g, 1, none⟩ (.slice a6 (nL + 4) c6)) (fun k => FO k ∨ (Value.slice a q c).ownBlock = some k) := by
 obtain ⟨f1, f2, f3, f4, f5⟩ := hF
 have hgY : g < Y.heap.size := (Array.getElem?_eq_some_iff.1 bx).1
 have hMg : (Value.slice aM nL cM).ownBlock ≠ some g := fun e => (h.nM g e).2.1 rfl
 have bx6 := (gr.block g hgY (fun e => hMg e.symm)).trans bx
 have hMb : ∀ k, (Value.slice aM nL cM).ownBlock = some k → (Value.slice a q c).ownBlock ≠ some k := fun k e e2 => hNb k e2 (f5 k e)
 have hMl : ∀ k, (Value.slice aM nL cM).ownBlock = some k → k < w.heap.size := fun k e => f1 k (f5 k e)
 -- the lists of marks lie beside the marks' own
 have far : ∀ {u : Value}, (∀ k, u.ownBlock = some k → (Value.slice a q c).ownBlock = some k ∨ w.heap.size ≤ k) → ∀ k, (Value.slice aM nL cM).ownBlock = some k → u.ownBlock ≠ some k := fun hu k e e2 => by
  rcases hu k e2 with h1 | h1
  ·exact hMb k e h1
  ·have := hMl k e; omega
 have nearW : ∀ {u : Value}, Near wr (.slice a q c) u → ∀ k, u.ownBlock = some k → (Value.slice a q c).ownBlock = some k ∨ w.heap.size ≤ k := fun hu k e => by
  rcases hu with h1 | h1
  ·exact .inl (h1 ▸ e)
  ·exact .inr (Nat.le_trans hw (h1 k e))
 have kX := nearW nX
 have kY := nearW nY
 have kB : ∀ k, (Value.slice a q c).ownBlock = some k → (Value.slice a q c).ownBlock = some k ∨ w.heap.size ≤ k := fun k e => .inl e
 have put : ∀ {u : Value} {m : Nat} {xs : List Nat}, Own Y 0 u m xs → (∀ k, u.ownBlock = some k → (Value.slice a q c).ownBlock = some k ∨ w.heap.size ≤ k) → Own (w6.setCell ⟨g, 1, none⟩ (.slice a6 (nL + 4) c6)) 0 u m xs := fun {u m xs} ho hu => by
  have o1 : Own w6 0 u m xs := ⟨ho.1, row_same ho.2 (fun k hk => gr.block k (ho.2.lt k hk).2 (fun e => far hu k e.symm hk))⟩
  exact o1.setF (own_boxF o1 bx6)
 have pX := put oX kX
 have pY := put oY kY
 have pB := put oB kB
 have pG := put oG nG
 have r6 : w6.ownsRow 0 36 1 (.slice aR (nL + 4) cR) (nL + 4) (vs ++ [.slice a q c, .slice ax (q + 1) cx, .slice ay (q + 2) cy, .slice a4 (q + 1 + 100) c4]) := row_same r (fun k hk => gr.block k (r.lt k hk).2 (fun e => row_neF r oM hk e.symm))
 have rW : (w6.setCell ⟨g, 1, none⟩ (.slice a6 (nL + 4) c6)).ownsRow 0 36 1 (.slice aR (nL + 4) cR) (nL + 4) (vs ++ [.slice a q c, .slice ax (q + 1) cx, .slice ay (q + 2) cy, .slice a4 (q + 1 + 100) c4]) := row_same r6 (fun k hk => Below.heap_setCell _ _ _ _ (row_boxF r6 bx6 k hk))
 have oW := o6.setF (j := 1) (x := .slice a6 (nL + 4) c6) (own_boxF o6 bx6)
 have bW := box_setF1 bx6 (.slice a6 (nL + 4) c6)
 have fW : Fb w (w6.setCell ⟨g, 1, none⟩ (.slice a6 (nL + 4) c6)) (fun k => k = g ∨ (Value.slice a q c).ownBlock = some k ∨ (Value.slice aL nL cL).ownBlock = some k ∨ (Value.slice aM nL cM).ownBlock = some k) := ((f.mono (fun _ _ e => by rcases e with e | e | e <;> simp [e])).grow gr (fun i e _ => .inr (.inr (.inr e)))).trans (Fb.set1F (.inl rfl) _ _)
 have sW : Y.heap.size ≤ (w6.setCell ⟨g, 1, none⟩ (.slice a6 (nL + 4) c6)).heap.size := by rw [World.size_setCell]; exact gr.size
 generalize w6.setCell ⟨g, 1, none⟩ (.slice a6 (nL + 4) c6) = Wf at *
 have hO : ∀ k, O k → Wf.heap[k]? = w.heap[k]? := fun k hk => fW.block k (h.lo k hk) (by
  rintro (e | e | e | e)
  ·exact h.ng (e ▸ hk)
  ·exact hNb k e (f3 k hk)
  ·exact (h.nL_ k e).1 hk
  ·exact (h.nM k e).1 hk)
 have hml : ms.length = nL := h.own.1.symm
 refine ⟨⟨fun k => O k ∨ (Value.slice a q c).ownBlock = some k ∨ (Value.slice ax (q + 1) cx).ownBlock = some k ∨ (Value.slice ay (q + 2) cy).ownBlock = some k ∨ (Value.slice a4 (q + 1 + 100) c4).ownBlock = some k, aR, nL + 4, cR, a6, c6, N + 4 * q + 200, _, _, ⟨?_, rW, oW, ?_, ?_, ?_, ?_, ?_, ?_, ?_, ?_⟩, ?_, .inl f2, ?_, ?_, ?_⟩, ?_⟩
 ·rw [bW]
  have e : ((N + 4 * q + 200 : Nat) : Int) = (N : Int) + 4 * (q : Int) + 200 := by omega
  rw [e]
 ·rw [List.length_append, h.len]; rfl
 ·intro x hx
  rcases List.mem_append.1 hx with hx | hx
  ·exact h.bys x hx
  ·rw [List.eq_of_mem_replicate hx]; exact hmk
 ·intro i v m h1 h2
  by_cases hi : i < nL
  ·rw [List.getElem?_append_left (by rw [h.len]; exact hi)] at h1
   rw [List.getElem?_append_left (by omega)] at h2
   exact (h.marks i v m h1 h2).keep hO (fun _ x => .inl x)
  ·rw [List.getElem?_append_right (by rw [h.len]; omega), h.len] at h1
   rw [List.getElem?_append_right (by omega), hml] at h2
   obtain ⟨j, hj⟩ : ∃ j, j = i - nL := ⟨_, rfl⟩
   rw [← hj] at h1 h2
   have hj4 : j < 4 := by have := (List.getElem?_eq_some_iff.1 h1).1; simpa using this
   have em : m = mk := by
    rw [List.getElem?_replicate] at h2
    simp [hj4] at h2
    exact h2.symm
   subst em
   match j, hj4 with
   | 0, _ => simp at h1; subst h1; exact MkL.of_own pB (by omega) (fun k e => .inr (.inl e))
   | 1, _ => simp at h1; subst h1; exact MkL.of_own pX (by omega) (fun k e => .inr (.inr (.inl e)))
   | 2, _ => simp at h1; subst h1; exact MkL.of_own pY (by omega) (fun k e => .inr (.inr (.inr (.inl e))))
   | 3, _ => simp at h1; subst h1; exact MkL.of_own pG (by omega) (fun k e => .inr (.inr (.inr (.inr e))))
 ·have := h.few; omega
 ·rintro k (e | e | e | e | e)
  ·exact Nat.lt_of_lt_of_le (h.lo k e) fW.size
  ·exact (pB.2.lt k e).2
  ·exact (pX.2.lt k e).2
  ·exact (pY.2.lt k e).2
  ·exact (pG.2.lt k e).2
 ·rintro (e | e | e | e | e)
  ·exact h.ng e
  ·exact own_boxF pB bW g e rfl
  ·exact own_boxF pX bW g e rfl
  ·exact own_boxF pY bW g e rfl
  ·exact own_boxF pG bW g e rfl
 ·intro k hk
  refine ⟨?_, row_boxF rW bW k hk⟩
  rintro (e | e | e | e | e)
  ·rcases nR with n1 | n1
   ·exact (h.nL_ k (n1 ▸ hk)).1 e
   ·have := n1 k hk; have := h.lo k e; omega
  ·exact row_neF rW pB hk e
  ·exact row_neF rW pX hk e
  ·exact row_neF rW pY hk e
  ·exact row_neF rW pG hk e
 ·intro k hk
  refine ⟨?_, own_boxF oW bW k hk, fun e => row_neF rW oW e hk⟩
  rcases nr with n1 | n1
  ·have e0 : (Value.slice aM nL cM).ownBlock = some k := n1 ▸ hk
   rintro (e | e | e | e | e)
   ·exact (h.nM k e0).1 e
   ·exact hMb k e0 e
   ·exact far kX k e0 e
   ·exact far kY k e0 e
   ·exact far nG k e0 e
  ·have hY := n1 k hk
   rintro (e | e | e | e | e)
   ·have := h.lo k e; omega
   ·have := (oB.2.lt k e).2; omega
   ·have := (oX.2.lt k e).2; omega
   ·have := (oY.2.lt k e).2; omega
   ·have := (oG.2.lt k e).2; omega
 ·rintro k (e | e | e)
  ·exact Nat.lt_of_lt_of_le (f1 k e) fW.size
  ·exact (pB.2.lt k e).2
  ·exact e.2
 ·rintro k (e | e | e | e | e)
  ·exact .inl (f3 k e)
  ·exact .inr (.inl e)
  ·rcases kX k e with e2 | e2
   ·exact .inr (.inl e2)
   ·exact .inr (.inr ⟨e2, (pX.2.lt k e).2⟩)
  ·rcases kY k e with e2 | e2
   ·exact .inr (.inl e2)
   ·exact .inr (.inr ⟨e2, (pY.2.lt k e).2⟩)
  ·rcases nG k e with e2 | e2
   ·exact .inr (.inl e2)
   ·exact .inr (.inr ⟨e2, (pG.2.lt k e).2⟩)
 ·intro k hk
  rcases nR with n1 | n1
  ·exact .inl (f4 k (n1 ▸ hk))
  ·exact .inr (.inr ⟨Nat.le_trans hw (n1 k hk), (rW.lt k hk).2⟩)
 ·intro k hk
  rcases nr with n1 | n1
  ·exact .inl (f5 k (n1 ▸ hk))
  ·exact .inr (.inr ⟨by have := n1 k hk; omega, (oW.2.lt k hk).2⟩)
 ·refine fW.mono (fun k _ e => ?_)
  rcases e with e | e | e | e
  ·exact .inl (e ▸ f2)
  ·exact .inr e
  ·exact .inl (f4 k e)
  ·exact .inl (f5 k e)
end Go.Proofs.YtchebhafabhabaaGreatDoor

namespace Go.Proofs.YtchebhafabhabaaGreatDoor
open Go.RowKit
set_option linter.unusedVariables false
set_option linter.unusedSimpArgs false

set_option maxRecDepth 100000 in
set_option maxHeartbeats 8000000 in
theorem take_any {w : World} {g n c B : Nat} {a : Option Addr} {FO : Nat → Prop} {xs : List Nat} (hf : FuB w g FO) (ho : Own w B (.slice a n c) n xs) (hb : ∀ k, (Value.slice a n c).ownBlock = some k → ¬ FO k) (hn : n ≤ 200000) :
  Calls Tryz.prog 28 #[.pointer (some ⟨g, 0, none⟩), .slice a n c] w fun e w' => (∃ v, e = .returned v) ∧ FuB w' g (fun k => FO k ∨ (Value.slice a n c).ownBlock = some k ∨ (w.heap.size ≤ k ∧ k < w'.heap.size)) ∧ Fb w w' (fun k => FO k ∨ (Value.slice a n c).ownBlock = some k) := by
 have HFu := Lib.hid hf
 have HNb := Lib.hid hb
 have hgb : ∀ k, (Value.slice a n c).ownBlock = some k → k < w.heap.size := fun k hk => (ho.2.lt k hk).2
 obtain ⟨O, aL, nL, cL, aM, cM, N, vs, ms, h, f1, f2, f3, f4, f5⟩ := hf
 have hbg : ∀ k, (Value.slice a n c).ownBlock = some k → k ≠ g := fun k hk e => hb k hk (e ▸ f2)
 have HO : Hid (Own (w.setCell ⟨g, 2, none⟩ (.int .i64 ((N : Int) + 4 * (n : Int) + 200))) 0 (.slice a n c) n xs) := ⟨ho.1, row_same (ho.mono (Nat.zero_le B)).2 (fun k hk => Below.heap_setCell _ _ _ _ (hbg k hk))⟩
 have HF := Lib.hid h
 have HFs := Lib.hid (And.intro f1 (And.intro f2 (And.intro f3 (And.intro f4 f5))))
 obtain ⟨c0, c1, c2⟩ := h.cells
 have z0 := h.fz 0
 have z1 := h.fz 1
 have z2 := h.fz 2
 have hN4 := h.few
 have HGb := Lib.hid hgb
 have HBg := Lib.hid hbg
 have hgw : g < w.heap.size := (Array.getElem?_eq_some_iff.1 h.box).1
 clear h f1 f2 f3 f4 f5 hb ho hgb hbg
 by_cases hN1 : 1000000 < N
 ·have hNi : (1000000 : Int) < (N : Int) := by omega
  go_enter Tryz.func28, Tryz.ntmps28
  go_wp2
  refine bodyPost_ret (results_none rfl _ _ _) rfl ?_
  refine ⟨⟨_, rfl⟩, HFu.out.more (fun i hi => .inl hi) (fun i hi => ?_), Fb.refl _ _⟩
  rcases hi with hi | hi | hi
  ·exact HFu.out.lt i hi
  ·exact HGb.out i hi
  ·omega
 ·have hNi : ¬ (1000000 : Int) < (N : Int) := by omega
  have HF1 : Hid (Fb w (w.setCell ⟨g, 2, none⟩ (.int .i64 ((N : Int) + 4 * (n : Int) + 200))) (fun k => k = g ∨ (Value.slice a n c).ownBlock = some k)) := ⟨rfl, rfl, rfl, by simp, fun k _ hk => Below.heap_setCell _ _ _ _ (fun e => hk (.inl e))⟩
  have HBx : Hid ((w.setCell ⟨g, 2, none⟩ (.int .i64 ((N : Int) + 4 * (n : Int) + 200))).heap[g]? = some (.cells #[.slice aL nL cL, .slice aM nL cM, .int .i64 ((N : Int) + 4 * (n : Int) + 200)] 38 (0, 0))) := by
   unfold Hid
   have := HF.out.box
   simp [World.setCell, Array.getElem?_modify, this]
  go_enter Tryz.func28, Tryz.ntmps28
  go_wp2
  have hmk : ((nL : Int) / 4 % 200 + 20) = ((mkF nL : Nat) : Int) := by unfold mkF; omega
  rw [hmk]
  have hmk5 := mkF_lt nL
  obtain ⟨mk, hmkE⟩ : ∃ mk, mk = mkF nL := ⟨_, rfl⟩
  rw [← hmkE] at hmk5 ⊢
  have HMk := Lib.hid hmkE
  obtain ⟨w1, hw1⟩ : ∃ w1, w1 = w.setCell ⟨g, 2, none⟩ (.int .i64 ((N : Int) + 4 * (n : Int) + 200)) := ⟨_, rfl⟩
  rw [← hw1] at HO HF1 HBx ⊢
  clear hw1 hmk hmkE c0 c1 c2 z0 z1 z2
  go_loopw [5] (fun i wr => ∃ q : Nat, q ≤ n ∧ i = .int .i64 (q : Int) ∧ Hid (Own wr 0 (.slice a n c) n (List.replicate q mk ++ xs.drop q) ∧ w1.grownBy wr (Value.slice a n c).ownBlock)) (fun i _ => n - (intOf i).toNat)
  case atStart => exact ⟨0, by omega, rfl, by simpa using HO.out, World.grownBy.refl _ _⟩
  case round =>
   obtain ⟨q, hq, rfl, HR⟩ := hrel
   by_cases h1 : q < n
   ·have h1' : (q : Int) < (n : Int) := by omega
    have hq0 : (0 : Int) ≤ (q : Int) := by omega
    have own := HR.out.1
    obtain ⟨gi, rfl⟩ : ∃ gi, a = some ⟨gi, 0, none⟩ := by
     rcases own.2.2 with ⟨k1, k0⟩ | ⟨gi, cap, cur, k1, _⟩
     ·omega
     ·simp only [Value.slice.injEq] at k1
      exact ⟨gi, k1.1⟩
    have hfz := own.2.frozenAt q
    have hcell : ∃ y : Nat, wr.cell? ⟨gi, q, none⟩ = some (.int .u8 (y : Int)) := by
     refine ⟨(List.replicate q mk ++ xs.drop q).getD q 0, ?_⟩
     rw [own.2.cellAt q (by omega)]
     exact bv_at _ _ (by have := own.1; omega)
    obtain ⟨y, hcell⟩ := hcell
    have hxl : q < xs.length := by have := own.1; simp at this; omega
    clear own
    go_wp2
    go_roundw
    case rel =>
     have st := HR.out.1.2.stored q (.int .u8 (mk : Int))
     refine ⟨q + 1, by omega, by go_num, ⟨by have := HR.out.1.1; simp at this ⊢; omega, ?_⟩, grown_trans HR.out.2 st.2 (.inl rfl)⟩
     have e : (bv (List.replicate q mk ++ xs.drop q)).set q (.int .u8 (mk : Int)) = bv (List.replicate (q + 1) mk ++ xs.drop (q + 1)) := by
      have e2 : (List.replicate q mk ++ xs.drop q).set q mk = List.replicate (q + 1) mk ++ xs.drop (q + 1) := fill_set hxl
      rw [← e2]
      simp [bv, List.map_set]
     rw [← e]
     exact st.1
    case measure => simp [intOf]; omega
   ·have h1' : ¬ (q : Int) < (n : Int) := by omega
    obtain rfl : q = n := by omega
    obtain ⟨w2, rfl⟩ : ∃ w2, w2 = wr := ⟨_, rfl⟩
    have hx0 : xs.drop q = [] := List.drop_eq_nil_of_le (by have := HR.out.1.1; simp at this; omega)
    have HO2 : Hid (Own w2 0 (.slice a q c) q (List.replicate q mk)) := by have := HR.out.1; rw [hx0, List.append_nil] at this; exact this
    have HG2 := Lib.hid HR.out.2
    have own2 := HO2.out
    clear HR HO hx0
    go_wp2_with (at_builtin; refine wpList_append_mark rfl _ _ rfl 0 a q c mk _ rfl own2 [_] 1 rfl (by simp [bv]) (by decide) (by omega) (Nat.zero_le _) ?_; intro a3 m3 c3 w3 hm3 own3 gr3 ol3 nr3 kp3; refine Hid.out ?_)
    refine Lib.hid ?_
    rw [List.replicate_append_replicate] at own3
    have H3 : Hid (Own w3 0 (.slice a3 m3 c3) m3 (List.replicate (q + 1) mk) ∧ Own w3 0 (.slice a q c) q (List.replicate q mk) ∧ Near w2 (.slice a q c) (.slice a3 m3 c3) ∧ w2.grownBy w3 (Value.slice a q c).ownBlock) := ⟨own3, ol3, nr3, gr3⟩
    clear own3 ol3 nr3 gr3 kp3 own2
    go_wp2
    go_loopw [6, 7] (fun s i wz => ∃ (j : Nat) (a' : Option Addr) (m' c' : Nat), j ≤ 100 ∧ i = .int .i64 (j : Int) ∧ s = .slice a' m' c' ∧ Hid (m' = q + 1 + j) ∧ Hid (Own wz 0 (.slice a' m' c') m' (List.replicate (q + 1 + j) mk) ∧ Own wz 0 (.slice a q c) q (List.replicate q mk) ∧ Near w2 (.slice a q c) (.slice a' m' c') ∧ w2.grownBy wz (Value.slice a q c).ownBlock)) (fun _ i _ => 100 - (intOf i).toNat)
    case atStart => exact ⟨0, a3, m3, c3, by omega, rfl, rfl, hm3.out, H3.out⟩
    case round =>
     obtain ⟨j, a4, m4, c4, hj, rfl, rfl, hm4, H4⟩ := hrel
     have hm4b : m4 ≤ 200101 := by have := hm4.out; omega
     by_cases h2 : j < 100
     ·have h2' : (j : Int) < 100 := by omega
      have own4 := H4.out.1
      go_wp2_with (at_builtin; refine wpList_append_mark rfl _ _ rfl 0 a4 m4 c4 mk _ rfl own4 [_] 1 rfl (by simp [bv]) (by decide) (by omega) (Nat.zero_le _) ?_; intro a5 m5 c5 w5 hm5 own5 gr5 ol5 nr5 kp5; refine Hid.out ?_)
      refine Lib.hid ?_
      rw [List.replicate_append_replicate] at own5
      have H5 : Hid (Own w5 0 (.slice a5 m5 c5) m5 (List.replicate (q + 1 + (j + 1)) mk) ∧ Own w5 0 (.slice a q c) q (List.replicate q mk) ∧ Near w2 (.slice a q c) (.slice a5 m5 c5) ∧ w2.grownBy w5 (Value.slice a q c).ownBlock) := ⟨own5, own_keepF own4 ol5 gr5 kp5 H4.out.2.1, Near.on H4.out.2.2.1 nr5 H4.out.2.2.2.size, grown_trans H4.out.2.2.2 gr5 H4.out.2.2.1⟩
      have hm5' : Hid (m5 = q + 1 + (j + 1)) := by unfold Hid; have := hm5.out; have := hm4.out; omega
      clear own5 gr5 ol5 nr5 kp5 own4 hm5
      go_wp2
      go_roundw
      case rel => exact ⟨j + 1, a5, m5, c5, by omega, by go_num, rfl, hm5', H5.out⟩
      case measure => simp [intOf]; omega
     ·have h2' : ¬ (j : Int) < 100 := by omega
      obtain rfl : j = 100 := by omega
      go_wp2_with fail
      have FX : Fb w wr (fun k => k = g ∨ (Value.slice a q c).ownBlock = some k) := (HF1.out.grow HG2.out (fun i e _ => .inr e)).grow H4.out.2.2.2 (fun i e _ => .inr e)
      have bxX : wr.heap[g]? = some (.cells #[.slice aL nL cL, .slice aM nL cM, .int .i64 ((N : Int) + 4 * (q : Int) + 200)] 38 (0, 0)) := by
       rw [H4.out.2.2.2.block g (Nat.lt_of_lt_of_le (Array.getElem?_eq_some_iff.1 HBx.out).1 HG2.out.size) (fun e => HBg.out g e.symm rfl), HG2.out.block g (Array.getElem?_eq_some_iff.1 HBx.out).1 (fun e => HBg.out g e.symm rfl)]
       exact HBx.out
      have rowX : wr.ownsRow 0 36 1 (.slice aL nL cL) nL vs := row_same HF.out.row (fun k hk => FX.block k (HF.out.row.lt k hk).2 (by
       rintro (e | e)
       ·exact (HF.out.nL_ k hk).2 e
       ·exact HNb.out k e (HFs.out.2.2.2.1 k hk)))
      obtain rfl : m4 = q + 1 + 100 := hm4.out
      have BD : Below wr.heap.size wr wr.drew := (Below.refl _ _).drew
      have HZ : Hid (Own wr.drew 0 (.slice a q c) q (List.replicate q mk) ∧ Own wr.drew 0 (.slice a4 (q + 1 + 100) c4) (q + 1 + 100) (List.replicate (q + 1 + 100) mk) ∧ (wr.drew).ownsRow 0 36 1 (.slice aL nL cL) nL vs ∧ (wr.drew).heap[g]? = some (.cells #[.slice aL nL cL, .slice aM nL cM, .int .i64 ((N : Int) + 4 * (q : Int) + 200)] 38 (0, 0)) ∧ Fb wr wr.drew (fun k => (Value.slice a q c).ownBlock = some k)) := ⟨H4.out.2.1.later BD, H4.out.1.later BD, row_same rowX (fun k hk => BD.block k (rowX.lt k hk).2), bxX, Fb.of_below BD⟩
      have HFX := Lib.hid (And.intro FX (And.intro bxX rowX))
      have hnL8 : nL ≤ 80000 := by omega
      clear FX bxX rowX BD
      refine wp_mono (Q := fun e a' w' => match e with | .normal => ∃ (ax : Option Addr) (cx : Nat) (ay : Option Addr) (cy : Nat) (aR : Option Addr) (cR : Nat) (t64 t69 t72 : Value), a' = ({ tmps := #[.pointer (some ⟨g, 0, none⟩), .slice a q c, undef, undef, .int .u8 (mk : Int), .int .i64 (q : Int), .slice a4 (q + 1 + 100) c4, .int .i64 100, .pointer (some ⟨g, 0, none⟩), .pointer (some ⟨g, 0, none⟩), .pointer (some ⟨g, 2, none⟩), .int .i64 (N : Int), .bool false, .pointer (some ⟨g, 0, none⟩), .pointer (some ⟨g, 0, none⟩), .pointer (some ⟨g, 0, none⟩), .pointer (some ⟨g, 2, none⟩), .int .i64 (N : Int), .slice a q c, .int .i64 (q : Int), .int .i64 (4 * (q : Int)), .int .i64 ((N : Int) + 4 * (q : Int)), .int .i64 ((N : Int) + 4 * (q : Int) + 200), .pointer (some ⟨g, 0, none⟩), .pointer (some ⟨g, 2, none⟩), .pointer (some ⟨g, 0, none⟩), .pointer (some ⟨g, 0, none⟩), .pointer (some ⟨g, 0, none⟩), .slice aL nL cL, .int .i64 (nL : Int), .int .i64 ((nL : Int) / 4), .int .i64 ((nL : Int) / 4 % 200), .int .i64 (mk : Int), .int .u8 (mk : Int), .int .i64 (q : Int), .slice a q c, .int .i64 (q : Int), .bool false, u38, u39, u40, u41, u42, u43, .slice a q c, .int .u8 (mk : Int), .slice (some ⟨w2.heap.size, 0, none⟩) 1 1, .slice a3 m3 c3, .int .i64 100, .bool false, u50, u51, u52, u53, u54, u55, .pointer (some ⟨g, 0, none⟩), .pointer (some ⟨g, 0, none⟩), .pointer (some ⟨g, 0, none⟩), .pointer (some ⟨g, 0, none⟩), .slice aL nL cL, .slice a q c, .slice a q c, .int .u8 (mk : Int), t64, .slice ax (q + 1) cx, .slice a q c, .int .u8 (mk : Int), .int .u8 (mk : Int), t69, .slice ay (q + 2) cy, .slice a4 (q + 1 + 100) c4, t72, .slice aR (nL + 4) cR, .pointer (some ⟨g, 0, none⟩), .pointer (some ⟨g, 0, none⟩), undef, undef, undef, undef, undef, undef, undef, undef, undef, undef, undef, undef, undef], defers := [] } : Act) ∧ Hid (Own w' 0 (.slice ax (q + 1) cx) (q + 1) (List.replicate (q + 1) mk) ∧ Own w' 0 (.slice ay (q + 2) cy) (q + 2) (List.replicate (q + 2) mk) ∧ Own w' 0 (.slice a q c) q (List.replicate q mk) ∧ Own w' 0 (.slice a4 (q + 1 + 100) c4) (q + 1 + 100) (List.replicate (q + 1 + 100) mk) ∧ Near wr (.slice a q c) (.slice ax (q + 1) cx) ∧ Near wr (.slice a q c) (.slice ay (q + 2) cy) ∧ w'.ownsRow 0 36 1 (.slice aR (nL + 4) cR) (nL + 4) (vs ++ [.slice a q c, .slice ax (q + 1) cx, .slice ay (q + 2) cy, .slice a4 (q + 1 + 100) c4]) ∧ Near wr (.slice aL nL cL) (.slice aR (nL + 4) cR) ∧ w'.heap[g]? = some (.cells #[.slice aR (nL + 4) cR, .slice aM nL cM, .int .i64 ((N : Int) + 4 * (q : Int) + 200)] 38 (0, 0)) ∧ Fb wr w' (fun k => k = g ∨ (Value.slice a q c).ownBlock = some k ∨ (Value.slice aL nL cL).ownBlock = some k)) | _ => False) ?_ ?_
      ·refine wp_region_noPanic ?_
       refine wp_region_anyE (S := fun wx => wx.cell? ⟨g, 0, none⟩ = some (.slice aL nL cL)) (E := fun j => decide (j < 20)) (by kernel_rfl) ?_
       have hHeld := box_cellF HZ.out.2.2.2.1
       obtain ⟨Z0, hZ0⟩ : ∃ z, z = wr.drew := ⟨_, rfl⟩
       rw [← hZ0] at HZ hHeld ⊢
       clear hZ0
       refine AnyE.take (i := 0) (.pointer (some ⟨g, 0, none⟩)) rfl (by kernel_rfl) (by kernel_rfl) (by kernel_rfl) (by kernel_rfl) (fun _ _ _ h => h) (.inl ⟨by kernel_rfl, fun wy hy => by (go_simp; done)⟩) hHeld ?_
       try simp only [Act.put, List.setIfInBounds_toArray, List.set_cons_zero, List.set_cons_succ]
       refine AnyE.take (i := 1) (.pointer (some ⟨g, 0, none⟩)) rfl (by kernel_rfl) (by kernel_rfl) (by kernel_rfl) (by kernel_rfl) (fun _ _ _ h => h) (.inl ⟨by kernel_rfl, fun wy hy => by (go_simp; done)⟩) hHeld ?_
       try simp only [Act.put, List.setIfInBounds_toArray, List.set_cons_zero, List.set_cons_succ]
       refine AnyE.take (i := 2) (.pointer (some ⟨g, 0, none⟩)) rfl (by kernel_rfl) (by kernel_rfl) (by kernel_rfl) (by kernel_rfl) (fun _ _ _ h => h) (.inl ⟨by kernel_rfl, fun wy hy => by (go_simp; done)⟩) hHeld ?_
       try simp only [Act.put, List.setIfInBounds_toArray, List.set_cons_zero, List.set_cons_succ]
       refine AnyE.take (i := 3) (.pointer (some ⟨g, 0, none⟩)) rfl (by kernel_rfl) (by kernel_rfl) (by kernel_rfl) (by kernel_rfl) (fun _ _ _ h => h) (.inl ⟨by kernel_rfl, fun wy hy => by (go_simp; done)⟩) hHeld ?_
       try simp only [Act.put, List.setIfInBounds_toArray, List.set_cons_zero, List.set_cons_succ]
       refine AnyE.take (i := 4) (.slice aL nL cL) rfl (by kernel_rfl) (by kernel_rfl) (by kernel_rfl) (by kernel_rfl) (fun _ _ _ h => h) (.inl ⟨by kernel_rfl, fun wy hy => by (go_simp; done)⟩) hHeld ?_
       try simp only [Act.put, List.setIfInBounds_toArray, List.set_cons_zero, List.set_cons_succ]
       refine AnyE.take (i := 5) (.slice a q c) rfl (by kernel_rfl) (by kernel_rfl) (by kernel_rfl) (by kernel_rfl) (fun _ _ _ h => h) (.inl ⟨by kernel_rfl, fun wy hy => by (go_simp; done)⟩) hHeld ?_
       try simp only [Act.put, List.setIfInBounds_toArray, List.set_cons_zero, List.set_cons_succ]
       refine AnyE.take (i := 6) (.slice a q c) rfl (by kernel_rfl) (by kernel_rfl) (by kernel_rfl) (by kernel_rfl) (fun _ _ _ h => h) (.inl ⟨by kernel_rfl, fun wy hy => by (go_simp; done)⟩) hHeld ?_
       try simp only [Act.put, List.setIfInBounds_toArray, List.set_cons_zero, List.set_cons_succ]
       refine AnyE.take (i := 7) (.int .u8 (mk : Int)) rfl (by kernel_rfl) (by kernel_rfl) (by kernel_rfl) (by kernel_rfl) (fun _ _ _ h => h) (.inl ⟨by kernel_rfl, fun wy hy => by (go_simp; done)⟩) hHeld ?_
       try simp only [Act.put, List.setIfInBounds_toArray, List.set_cons_zero, List.set_cons_succ]
       refine AnyE.take (i := 10) (.slice a q c) rfl (by kernel_rfl) (by kernel_rfl) (by kernel_rfl) (by kernel_rfl) (fun _ _ _ h => h) (.inl ⟨by kernel_rfl, fun wy hy => by (go_simp; done)⟩) hHeld ?_
       try simp only [Act.put, List.setIfInBounds_toArray, List.set_cons_zero, List.set_cons_succ]
       refine AnyE.take (i := 11) (.int .u8 (mk : Int)) rfl (by kernel_rfl) (by kernel_rfl) (by kernel_rfl) (by kernel_rfl) (fun _ _ _ h => h) (.inl ⟨by kernel_rfl, fun wy hy => by (go_simp; done)⟩) hHeld ?_
       try simp only [Act.put, List.setIfInBounds_toArray, List.set_cons_zero, List.set_cons_succ]
       refine AnyE.take (i := 12) (.int .u8 (mk : Int)) rfl (by kernel_rfl) (by kernel_rfl) (by kernel_rfl) (by kernel_rfl) (fun _ _ _ h => h) (.inl ⟨by kernel_rfl, fun wy hy => by (go_simp; done)⟩) hHeld ?_
       try simp only [Act.put, List.setIfInBounds_toArray, List.set_cons_zero, List.set_cons_succ]
       refine AnyE.take (i := 15) (.slice a4 (q + 1 + 100) c4) rfl (by kernel_rfl) (by kernel_rfl) (by kernel_rfl) (by kernel_rfl) (fun _ _ _ h => h) (.inl ⟨by kernel_rfl, fun wy hy => by (go_simp; done)⟩) hHeld ?_
       try simp only [Act.put, List.setIfInBounds_toArray, List.set_cons_zero, List.set_cons_succ]
       refine AnyE.twoF (i := 8) (j := 13) rfl rfl (by kernel_rfl) (by kernel_rfl) (by kernel_rfl) (fun KK hK => ?_) (fun KK hK => ?_)
       ·go_simp
        have bA := (Below.refl (Z0).heap.size (Z0)).alloc (Nat.le_refl _) (.cells #[.int .u8 (mk : Int)] 5)
        have kA : (Z0.alloc (.cells #[.int .u8 (mk : Int)] 5)).heap[(Z0).heap.size]? = some (.cells #[.int .u8 (mk : Int)] 5 (0, 0)) := heap_alloc_new _ _
        obtain ⟨Z1, hZ1⟩ : ∃ z, z = Z0.alloc (.cells #[.int .u8 (mk : Int)] 5) := ⟨_, rfl⟩
        rw [← hZ1] at bA kA ⊢
        have HZ : Hid (Own Z1 0 (.slice a q c) q (List.replicate q mk) ∧ Own Z1 0 (.slice a4 (q + 1 + 100) c4) (q + 1 + 100) (List.replicate (q + 1 + 100) mk) ∧ (Z1).ownsRow 0 36 1 (.slice aL nL cL) nL vs ∧ (Z1).heap[g]? = some (.cells #[.slice aL nL cL, .slice aM nL cM, .int .i64 ((N : Int) + 4 * (q : Int) + 200)] 38 (0, 0)) ∧ Fb wr Z1 (fun k => (Value.slice a q c).ownBlock = some k)) := ⟨HZ.out.1.later bA, HZ.out.2.1.later bA, row_same HZ.out.2.2.1 (fun k hk => bA.block k (HZ.out.2.2.1.lt k hk).2), (bA.block g (Array.getElem?_eq_some_iff.1 HZ.out.2.2.2.1).1).trans HZ.out.2.2.2.1, HZ.out.2.2.2.2.trans (Fb.of_below bA)⟩
        have kX := kA
        clear hZ1
        refine hK.out _ _ ⟨fun _ => box_cellF HZ.out.2.2.2.1, ?_⟩
        have hHeld := box_cellF HZ.out.2.2.2.1
        clear hK
        try simp only [Act.put, List.setIfInBounds_toArray, List.set_cons_zero, List.set_cons_succ]
        clear kA bA
        refine AnyE.twoF (i := 9) (j := 13) rfl rfl (by kernel_rfl) (by kernel_rfl) (by kernel_rfl) (fun KK hK => ?_) (fun KK hK => ?_)
        ·refine wp_append_mk (mk := mk) (blk := Z0.heap.size) rfl rfl HZ.out.1 (fun j hj => one_mkF kX hj) (by decide) (by omega) (Nat.zero_le _) ?_
         intro ax cx Z2 o1 gr1 o2 nr1 kp1
         rw [List.replicate_append_replicate] at o1
         have nrX : Near wr (.slice a q c) (.slice ax (q + 1) cx) := nr1.imp id (fun h g hg => Nat.le_trans HZ.out.2.2.2.2.size (h g hg))
         have HZ1 : Hid (Own Z2 0 (.slice a q c) q (List.replicate q mk) ∧ Own Z2 0 (.slice a4 (q + 1 + 100) c4) (q + 1 + 100) (List.replicate (q + 1 + 100) mk) ∧ (Z2).ownsRow 0 36 1 (.slice aL nL cL) nL vs ∧ (Z2).heap[g]? = some (.cells #[.slice aL nL cL, .slice aM nL cM, .int .i64 ((N : Int) + 4 * (q : Int) + 200)] 38 (0, 0)) ∧ Fb wr Z2 (fun k => (Value.slice a q c).ownBlock = some k)) := ⟨o2, own_keepF HZ.out.1 o2 gr1 kp1 HZ.out.2.1, row_same HZ.out.2.2.1 (fun k hk => gr1.block k (HZ.out.2.2.1.lt k hk).2 (fun e => row_neF HZ.out.2.2.1 HZ.out.1 hk e.symm)), (gr1.block g (Array.getElem?_eq_some_iff.1 HZ.out.2.2.2.1).1 (fun e => HBg.out g e.symm rfl)).trans HZ.out.2.2.2.1, HZ.out.2.2.2.2.grow gr1 (fun i e _ => e)⟩
         have oX0 := o1
         have HZ := HZ1
         clear HZ1 gr1 o2 nr1 kp1
         refine hK.out _ _ ⟨fun _ => box_cellF HZ.out.2.2.2.1, ?_⟩
         have hHeld := box_cellF HZ.out.2.2.2.1
         clear hK
         try simp only [Act.put, List.setIfInBounds_toArray, List.set_cons_zero, List.set_cons_succ]
         have nX := nrX
         clear nrX o1 kX
         refine AnyE.one (i := 13) rfl (by kernel_rfl) (by kernel_rfl) (fun KK hK => ?_)
         go_simp
         have bA := (Below.refl (Z2).heap.size (Z2)).alloc (Nat.le_refl _) (.cells #[.int .u8 (mk : Int), .int .u8 (mk : Int)] 5)
         have kA : (Z2.alloc (.cells #[.int .u8 (mk : Int), .int .u8 (mk : Int)] 5)).heap[(Z2).heap.size]? = some (.cells #[.int .u8 (mk : Int), .int .u8 (mk : Int)] 5 (0, 0)) := heap_alloc_new _ _
         obtain ⟨ZC, hZC⟩ : ∃ z, z = Z2.alloc (.cells #[.int .u8 (mk : Int), .int .u8 (mk : Int)] 5) := ⟨_, rfl⟩
         rw [← hZC] at bA kA ⊢
         have HZ : Hid (Own ZC 0 (.slice a q c) q (List.replicate q mk) ∧ Own ZC 0 (.slice a4 (q + 1 + 100) c4) (q + 1 + 100) (List.replicate (q + 1 + 100) mk) ∧ (ZC).ownsRow 0 36 1 (.slice aL nL cL) nL vs ∧ (ZC).heap[g]? = some (.cells #[.slice aL nL cL, .slice aM nL cM, .int .i64 ((N : Int) + 4 * (q : Int) + 200)] 38 (0, 0)) ∧ Fb wr ZC (fun k => (Value.slice a q c).ownBlock = some k)) := ⟨HZ.out.1.later bA, HZ.out.2.1.later bA, row_same HZ.out.2.2.1 (fun k hk => bA.block k (HZ.out.2.2.1.lt k hk).2), (bA.block g (Array.getElem?_eq_some_iff.1 HZ.out.2.2.2.1).1).trans HZ.out.2.2.2.1, HZ.out.2.2.2.2.trans (Fb.of_below bA)⟩
         have oX := oX0.later bA
         have kY := two_ofF kA
         clear hZC
         refine hK.out _ _ ⟨fun _ => box_cellF HZ.out.2.2.2.1, ?_⟩
         have hHeld := box_cellF HZ.out.2.2.2.1
         clear hK
         try simp only [Act.put, List.setIfInBounds_toArray, List.set_cons_zero, List.set_cons_succ]
         clear oX0 bA kA
         obtain ⟨k2, hk2⟩ : ∃ k2, k2 = Z2.heap.size := ⟨_, rfl⟩
         rw [← hk2] at kY ⊢
         clear hk2
         refine AnyE.one (i := 14) rfl (by kernel_rfl) (by kernel_rfl) (fun KK hK => ?_)
         refine wp_append_mk (mk := mk) (blk := k2) rfl rfl HZ.out.1 (fun j hj => two_mkF kY hj) (by decide) (by omega) (Nat.zero_le _) ?_
         intro ay cy ZD o1 gr1 o2 nr1 kp1
         rw [List.replicate_append_replicate] at o1
         have nY : Near wr (.slice a q c) (.slice ay (q + 2) cy) := nr1.imp id (fun h g hg => Nat.le_trans HZ.out.2.2.2.2.size (h g hg))
         have oX1 := own_keepF HZ.out.1 o2 gr1 kp1 oX
         have HZ1 : Hid (Own ZD 0 (.slice a q c) q (List.replicate q mk) ∧ Own ZD 0 (.slice a4 (q + 1 + 100) c4) (q + 1 + 100) (List.replicate (q + 1 + 100) mk) ∧ (ZD).ownsRow 0 36 1 (.slice aL nL cL) nL vs ∧ (ZD).heap[g]? = some (.cells #[.slice aL nL cL, .slice aM nL cM, .int .i64 ((N : Int) + 4 * (q : Int) + 200)] 38 (0, 0)) ∧ Fb wr ZD (fun k => (Value.slice a q c).ownBlock = some k)) := ⟨o2, own_keepF HZ.out.1 o2 gr1 kp1 HZ.out.2.1, row_same HZ.out.2.2.1 (fun k hk => gr1.block k (HZ.out.2.2.1.lt k hk).2 (fun e => row_neF HZ.out.2.2.1 HZ.out.1 hk e.symm)), (gr1.block g (Array.getElem?_eq_some_iff.1 HZ.out.2.2.2.1).1 (fun e => HBg.out g e.symm rfl)).trans HZ.out.2.2.2.1, HZ.out.2.2.2.2.grow gr1 (fun i e _ => e)⟩
         have oY1 := o1
         have HZ := HZ1
         clear HZ1 gr1 o2 nr1 kp1 o1 oX kY
         refine hK.out _ _ ⟨fun _ => box_cellF HZ.out.2.2.2.1, ?_⟩
         have hHeld := box_cellF HZ.out.2.2.2.1
         clear hK
         try simp only [Act.put, List.setIfInBounds_toArray, List.set_cons_zero, List.set_cons_succ]
         refine AnyE.one (i := 16) rfl (by kernel_rfl) (by kernel_rfl) (fun KK hK => ?_)
         go_simp
         have bA := (Below.refl (ZD).heap.size (ZD)).alloc (Nat.le_refl _) (.cells #[.slice a q c, .slice ax (q + 1) cx, .slice ay (q + 2) cy, .slice a4 (q + 1 + 100) c4] 36)
         have kA : (ZD.alloc (.cells #[.slice a q c, .slice ax (q + 1) cx, .slice ay (q + 2) cy, .slice a4 (q + 1 + 100) c4] 36)).heap[(ZD).heap.size]? = some (.cells #[.slice a q c, .slice ax (q + 1) cx, .slice ay (q + 2) cy, .slice a4 (q + 1 + 100) c4] 36 (0, 0)) := heap_alloc_new _ _
         obtain ⟨ZE, hZE⟩ : ∃ z, z = ZD.alloc (.cells #[.slice a q c, .slice ax (q + 1) cx, .slice ay (q + 2) cy, .slice a4 (q + 1 + 100) c4] 36) := ⟨_, rfl⟩
         rw [← hZE] at bA kA ⊢
         have HZ : Hid (Own ZE 0 (.slice a q c) q (List.replicate q mk) ∧ Own ZE 0 (.slice a4 (q + 1 + 100) c4) (q + 1 + 100) (List.replicate (q + 1 + 100) mk) ∧ (ZE).ownsRow 0 36 1 (.slice aL nL cL) nL vs ∧ (ZE).heap[g]? = some (.cells #[.slice aL nL cL, .slice aM nL cM, .int .i64 ((N : Int) + 4 * (q : Int) + 200)] 38 (0, 0)) ∧ Fb wr ZE (fun k => (Value.slice a q c).ownBlock = some k)) := ⟨HZ.out.1.later bA, HZ.out.2.1.later bA, row_same HZ.out.2.2.1 (fun k hk => bA.block k (HZ.out.2.2.1.lt k hk).2), (bA.block g (Array.getElem?_eq_some_iff.1 HZ.out.2.2.2.1).1).trans HZ.out.2.2.2.1, HZ.out.2.2.2.2.trans (Fb.of_below bA)⟩
         have oX2 := oX1.later bA
         have oY2 := oY1.later bA
         clear hZE
         refine hK.out _ _ ⟨fun _ => box_cellF HZ.out.2.2.2.1, ?_⟩
         have hHeld := box_cellF HZ.out.2.2.2.1
         clear hK
         try simp only [Act.put, List.setIfInBounds_toArray, List.set_cons_zero, List.set_cons_succ]
         clear oX1 oY1 bA
         refine AnyE.one (i := 17) rfl (by kernel_rfl) (by kernel_rfl) (fun KK hK => ?_)
         refine wp_append_rowF (us := [.slice a q c, .slice ax (q + 1) cx, .slice ay (q + 2) cy, .slice a4 (q + 1 + 100) c4]) (blk := ZD.heap.size) (k := 4) rfl rfl HZ.out.2.2.1 rfl (fun j u hj => four_cellF kA hj) (by simp [Value.oneCell']) (by omega) (Nat.zero_le _) ?_
         intro aR cR ZF r1 gr1 nr1
         have oX3 := oX2.kept_rowF HZ.out.2.2.1 gr1
         have oY3 := oY2.kept_rowF HZ.out.2.2.1 gr1
         have oB3 := HZ.out.1.kept_rowF HZ.out.2.2.1 gr1
         have oG3 := HZ.out.2.1.kept_rowF HZ.out.2.2.1 gr1
         have nR : Near wr (.slice aL nL cL) (.slice aR (nL + 4) cR) := nr1.imp id (fun h g hg => Nat.le_trans HZ.out.2.2.2.2.size (h g hg))
         have bx3 := (gr1.block g (Array.getElem?_eq_some_iff.1 HZ.out.2.2.2.1).1 (fun e => (HF.out.nL_ g e.symm).2 rfl)).trans HZ.out.2.2.2.1
         have f3 : Fb wr ZF (fun k => (Value.slice a q c).ownBlock = some k ∨ (Value.slice aL nL cL).ownBlock = some k) := (HZ.out.2.2.2.2.mono (fun _ _ h => .inl h)).grow gr1 (fun i e _ => .inr e)
         have HE := Lib.hid (And.intro oX3 (And.intro oY3 (And.intro oB3 (And.intro oG3 (And.intro nX (And.intro nY (And.intro r1 (And.intro nR (And.intro bx3 f3)))))))))
         clear oX3 oY3 oB3 oG3 nX nY r1 nR f3 gr1 nr1 oX2 oY2 kA HZ
         refine hK.out _ _ ⟨fun _ => box_cellF bx3, ?_⟩
         have hHeld := box_cellF bx3
         clear hK
         try simp only [Act.put, List.setIfInBounds_toArray, List.set_cons_zero, List.set_cons_succ]
         have zf := box_fzF bx3 0
         clear bx3
         refine AnyE.one (i := 18) rfl (by kernel_rfl) (by kernel_rfl) (fun KK hK => ?_)
         go_simp
         refine hK.out _ _ ⟨fun _ => hHeld, ?_⟩
         clear hK
         try simp only [Act.put, List.setIfInBounds_toArray, List.set_cons_zero, List.set_cons_succ]
         refine AnyE.one (i := 19) rfl (by kernel_rfl) (by kernel_rfl) (fun KK hK => ?_)
         go_simp
         refine hK.out _ _ ⟨fun _ => hHeld, ?_⟩
         clear hK
         try simp only [Act.put, List.setIfInBounds_toArray, List.set_cons_zero, List.set_cons_succ]
         refine AnyE.one (i := 20) rfl (by kernel_rfl) (by kernel_rfl) (fun KK hK => ?_)
         go_simp
         refine hK.out _ _ ⟨fun h => (by cases h), ?_⟩
         clear hK
         refine AnyE.done (by kernel_rfl) (NoPanic.normal ?_) _
         obtain ⟨oX3, oY3, oB3, oG3, nX, nY, r1, nR, bx3, f3⟩ := HE.out
         exact ⟨ax, cx, ay, cy, aR, cR, _, _, _, rfl, oX3.setF (own_boxF oX3 bx3), oY3.setF (own_boxF oY3 bx3), oB3.setF (own_boxF oB3 bx3), oG3.setF (own_boxF oG3 bx3), nX, nY, row_same r1 (fun k hk => Below.heap_setCell _ _ _ _ (row_boxF r1 bx3 k hk)), nR, box_setF0 bx3 _, (f3.mono (fun _ _ h => .inr h)).trans (Fb.set1F (.inl rfl) _ _)⟩
        ·go_simp
         have bA := (Below.refl (Z1).heap.size (Z1)).alloc (Nat.le_refl _) (.cells #[.int .u8 (mk : Int), .int .u8 (mk : Int)] 5)
         have kA : (Z1.alloc (.cells #[.int .u8 (mk : Int), .int .u8 (mk : Int)] 5)).heap[(Z1).heap.size]? = some (.cells #[.int .u8 (mk : Int), .int .u8 (mk : Int)] 5 (0, 0)) := heap_alloc_new _ _
         obtain ⟨Z2, hZ2⟩ : ∃ z, z = Z1.alloc (.cells #[.int .u8 (mk : Int), .int .u8 (mk : Int)] 5) := ⟨_, rfl⟩
         rw [← hZ2] at bA kA ⊢
         have HZ : Hid (Own Z2 0 (.slice a q c) q (List.replicate q mk) ∧ Own Z2 0 (.slice a4 (q + 1 + 100) c4) (q + 1 + 100) (List.replicate (q + 1 + 100) mk) ∧ (Z2).ownsRow 0 36 1 (.slice aL nL cL) nL vs ∧ (Z2).heap[g]? = some (.cells #[.slice aL nL cL, .slice aM nL cM, .int .i64 ((N : Int) + 4 * (q : Int) + 200)] 38 (0, 0)) ∧ Fb wr Z2 (fun k => (Value.slice a q c).ownBlock = some k)) := ⟨HZ.out.1.later bA, HZ.out.2.1.later bA, row_same HZ.out.2.2.1 (fun k hk => bA.block k (HZ.out.2.2.1.lt k hk).2), (bA.block g (Array.getElem?_eq_some_iff.1 HZ.out.2.2.2.1).1).trans HZ.out.2.2.2.1, HZ.out.2.2.2.2.trans (Fb.of_below bA)⟩
         have kY0 := two_ofF kA
         have kX2 := keepF bA kX
         clear hZ2
         refine hK.out _ _ ⟨fun _ => box_cellF HZ.out.2.2.2.1, ?_⟩
         have hHeld := box_cellF HZ.out.2.2.2.1
         clear hK
         try simp only [Act.put, List.setIfInBounds_toArray, List.set_cons_zero, List.set_cons_succ]
         clear kA bA kX
         obtain ⟨k2, hk2⟩ : ∃ k2, k2 = Z1.heap.size := ⟨_, rfl⟩
         rw [← hk2] at kY0 ⊢
         clear hk2
         refine AnyE.one (i := 9) rfl (by kernel_rfl) (by kernel_rfl) (fun KK hK => ?_)
         refine wp_append_mk (mk := mk) (blk := Z0.heap.size) rfl rfl HZ.out.1 (fun j hj => one_mkF kX2 hj) (by decide) (by omega) (Nat.zero_le _) ?_
         intro ax cx ZC o1 gr1 o2 nr1 kp1
         rw [List.replicate_append_replicate] at o1
         have nrX : Near wr (.slice a q c) (.slice ax (q + 1) cx) := nr1.imp id (fun h g hg => Nat.le_trans HZ.out.2.2.2.2.size (h g hg))
         have HZ1 : Hid (Own ZC 0 (.slice a q c) q (List.replicate q mk) ∧ Own ZC 0 (.slice a4 (q + 1 + 100) c4) (q + 1 + 100) (List.replicate (q + 1 + 100) mk) ∧ (ZC).ownsRow 0 36 1 (.slice aL nL cL) nL vs ∧ (ZC).heap[g]? = some (.cells #[.slice aL nL cL, .slice aM nL cM, .int .i64 ((N : Int) + 4 * (q : Int) + 200)] 38 (0, 0)) ∧ Fb wr ZC (fun k => (Value.slice a q c).ownBlock = some k)) := ⟨o2, own_keepF HZ.out.1 o2 gr1 kp1 HZ.out.2.1, row_same HZ.out.2.2.1 (fun k hk => gr1.block k (HZ.out.2.2.1.lt k hk).2 (fun e => row_neF HZ.out.2.2.1 HZ.out.1 hk e.symm)), (gr1.block g (Array.getElem?_eq_some_iff.1 HZ.out.2.2.2.1).1 (fun e => HBg.out g e.symm rfl)).trans HZ.out.2.2.2.1, HZ.out.2.2.2.2.grow gr1 (fun i e _ => e)⟩
         have oX := o1
         have kY := kp_two kp1 kY0
         have HZ := HZ1
         clear HZ1 gr1 o2 nr1 kp1
         refine hK.out _ _ ⟨fun _ => box_cellF HZ.out.2.2.2.1, ?_⟩
         have hHeld := box_cellF HZ.out.2.2.2.1
         clear hK
         try simp only [Act.put, List.setIfInBounds_toArray, List.set_cons_zero, List.set_cons_succ]
         have nX := nrX
         clear nrX o1 kX2 kY0
         refine AnyE.one (i := 14) rfl (by kernel_rfl) (by kernel_rfl) (fun KK hK => ?_)
         refine wp_append_mk (mk := mk) (blk := k2) rfl rfl HZ.out.1 (fun j hj => two_mkF kY hj) (by decide) (by omega) (Nat.zero_le _) ?_
         intro ay cy ZD o1 gr1 o2 nr1 kp1
         rw [List.replicate_append_replicate] at o1
         have nY : Near wr (.slice a q c) (.slice ay (q + 2) cy) := nr1.imp id (fun h g hg => Nat.le_trans HZ.out.2.2.2.2.size (h g hg))
         have oX1 := own_keepF HZ.out.1 o2 gr1 kp1 oX
         have HZ1 : Hid (Own ZD 0 (.slice a q c) q (List.replicate q mk) ∧ Own ZD 0 (.slice a4 (q + 1 + 100) c4) (q + 1 + 100) (List.replicate (q + 1 + 100) mk) ∧ (ZD).ownsRow 0 36 1 (.slice aL nL cL) nL vs ∧ (ZD).heap[g]? = some (.cells #[.slice aL nL cL, .slice aM nL cM, .int .i64 ((N : Int) + 4 * (q : Int) + 200)] 38 (0, 0)) ∧ Fb wr ZD (fun k => (Value.slice a q c).ownBlock = some k)) := ⟨o2, own_keepF HZ.out.1 o2 gr1 kp1 HZ.out.2.1, row_same HZ.out.2.2.1 (fun k hk => gr1.block k (HZ.out.2.2.1.lt k hk).2 (fun e => row_neF HZ.out.2.2.1 HZ.out.1 hk e.symm)), (gr1.block g (Array.getElem?_eq_some_iff.1 HZ.out.2.2.2.1).1 (fun e => HBg.out g e.symm rfl)).trans HZ.out.2.2.2.1, HZ.out.2.2.2.2.grow gr1 (fun i e _ => e)⟩
         have oY1 := o1
         have HZ := HZ1
         clear HZ1 gr1 o2 nr1 kp1 o1 oX kY
         refine hK.out _ _ ⟨fun _ => box_cellF HZ.out.2.2.2.1, ?_⟩
         have hHeld := box_cellF HZ.out.2.2.2.1
         clear hK
         try simp only [Act.put, List.setIfInBounds_toArray, List.set_cons_zero, List.set_cons_succ]
         refine AnyE.one (i := 16) rfl (by kernel_rfl) (by kernel_rfl) (fun KK hK => ?_)
         go_simp
         have bA := (Below.refl (ZD).heap.size (ZD)).alloc (Nat.le_refl _) (.cells #[.slice a q c, .slice ax (q + 1) cx, .slice ay (q + 2) cy, .slice a4 (q + 1 + 100) c4] 36)
         have kA : (ZD.alloc (.cells #[.slice a q c, .slice ax (q + 1) cx, .slice ay (q + 2) cy, .slice a4 (q + 1 + 100) c4] 36)).heap[(ZD).heap.size]? = some (.cells #[.slice a q c, .slice ax (q + 1) cx, .slice ay (q + 2) cy, .slice a4 (q + 1 + 100) c4] 36 (0, 0)) := heap_alloc_new _ _
         obtain ⟨ZE, hZE⟩ : ∃ z, z = ZD.alloc (.cells #[.slice a q c, .slice ax (q + 1) cx, .slice ay (q + 2) cy, .slice a4 (q + 1 + 100) c4] 36) := ⟨_, rfl⟩
         rw [← hZE] at bA kA ⊢
         have HZ : Hid (Own ZE 0 (.slice a q c) q (List.replicate q mk) ∧ Own ZE 0 (.slice a4 (q + 1 + 100) c4) (q + 1 + 100) (List.replicate (q + 1 + 100) mk) ∧ (ZE).ownsRow 0 36 1 (.slice aL nL cL) nL vs ∧ (ZE).heap[g]? = some (.cells #[.slice aL nL cL, .slice aM nL cM, .int .i64 ((N : Int) + 4 * (q : Int) + 200)] 38 (0, 0)) ∧ Fb wr ZE (fun k => (Value.slice a q c).ownBlock = some k)) := ⟨HZ.out.1.later bA, HZ.out.2.1.later bA, row_same HZ.out.2.2.1 (fun k hk => bA.block k (HZ.out.2.2.1.lt k hk).2), (bA.block g (Array.getElem?_eq_some_iff.1 HZ.out.2.2.2.1).1).trans HZ.out.2.2.2.1, HZ.out.2.2.2.2.trans (Fb.of_below bA)⟩
         have oX2 := oX1.later bA
         have oY2 := oY1.later bA
         clear hZE
         refine hK.out _ _ ⟨fun _ => box_cellF HZ.out.2.2.2.1, ?_⟩
         have hHeld := box_cellF HZ.out.2.2.2.1
         clear hK
         try simp only [Act.put, List.setIfInBounds_toArray, List.set_cons_zero, List.set_cons_succ]
         clear oX1 oY1 bA
         refine AnyE.one (i := 17) rfl (by kernel_rfl) (by kernel_rfl) (fun KK hK => ?_)
         refine wp_append_rowF (us := [.slice a q c, .slice ax (q + 1) cx, .slice ay (q + 2) cy, .slice a4 (q + 1 + 100) c4]) (blk := ZD.heap.size) (k := 4) rfl rfl HZ.out.2.2.1 rfl (fun j u hj => four_cellF kA hj) (by simp [Value.oneCell']) (by omega) (Nat.zero_le _) ?_
         intro aR cR ZF r1 gr1 nr1
         have oX3 := oX2.kept_rowF HZ.out.2.2.1 gr1
         have oY3 := oY2.kept_rowF HZ.out.2.2.1 gr1
         have oB3 := HZ.out.1.kept_rowF HZ.out.2.2.1 gr1
         have oG3 := HZ.out.2.1.kept_rowF HZ.out.2.2.1 gr1
         have nR : Near wr (.slice aL nL cL) (.slice aR (nL + 4) cR) := nr1.imp id (fun h g hg => Nat.le_trans HZ.out.2.2.2.2.size (h g hg))
         have bx3 := (gr1.block g (Array.getElem?_eq_some_iff.1 HZ.out.2.2.2.1).1 (fun e => (HF.out.nL_ g e.symm).2 rfl)).trans HZ.out.2.2.2.1
         have f3 : Fb wr ZF (fun k => (Value.slice a q c).ownBlock = some k ∨ (Value.slice aL nL cL).ownBlock = some k) := (HZ.out.2.2.2.2.mono (fun _ _ h => .inl h)).grow gr1 (fun i e _ => .inr e)
         have HE := Lib.hid (And.intro oX3 (And.intro oY3 (And.intro oB3 (And.intro oG3 (And.intro nX (And.intro nY (And.intro r1 (And.intro nR (And.intro bx3 f3)))))))))
         clear oX3 oY3 oB3 oG3 nX nY r1 nR f3 gr1 nr1 oX2 oY2 kA HZ
         refine hK.out _ _ ⟨fun _ => box_cellF bx3, ?_⟩
         have hHeld := box_cellF bx3
         clear hK
         try simp only [Act.put, List.setIfInBounds_toArray, List.set_cons_zero, List.set_cons_succ]
         have zf := box_fzF bx3 0
         clear bx3
         refine AnyE.one (i := 18) rfl (by kernel_rfl) (by kernel_rfl) (fun KK hK => ?_)
         go_simp
         refine hK.out _ _ ⟨fun _ => hHeld, ?_⟩
         clear hK
         try simp only [Act.put, List.setIfInBounds_toArray, List.set_cons_zero, List.set_cons_succ]
         refine AnyE.one (i := 19) rfl (by kernel_rfl) (by kernel_rfl) (fun KK hK => ?_)
         go_simp
         refine hK.out _ _ ⟨fun _ => hHeld, ?_⟩
         clear hK
         try simp only [Act.put, List.setIfInBounds_toArray, List.set_cons_zero, List.set_cons_succ]
         refine AnyE.one (i := 20) rfl (by kernel_rfl) (by kernel_rfl) (fun KK hK => ?_)
         go_simp
         refine hK.out _ _ ⟨fun h => (by cases h), ?_⟩
         clear hK
         refine AnyE.done (by kernel_rfl) (NoPanic.normal ?_) _
         obtain ⟨oX3, oY3, oB3, oG3, nX, nY, r1, nR, bx3, f3⟩ := HE.out
         exact ⟨ax, cx, ay, cy, aR, cR, _, _, _, rfl, oX3.setF (own_boxF oX3 bx3), oY3.setF (own_boxF oY3 bx3), oB3.setF (own_boxF oB3 bx3), oG3.setF (own_boxF oG3 bx3), nX, nY, row_same r1 (fun k hk => Below.heap_setCell _ _ _ _ (row_boxF r1 bx3 k hk)), nR, box_setF0 bx3 _, (f3.mono (fun _ _ h => .inr h)).trans (Fb.set1F (.inl rfl) _ _)⟩
       ·go_simp
        have bA := (Below.refl (Z0).heap.size (Z0)).alloc (Nat.le_refl _) (.cells #[.int .u8 (mk : Int), .int .u8 (mk : Int)] 5)
        have kA : (Z0.alloc (.cells #[.int .u8 (mk : Int), .int .u8 (mk : Int)] 5)).heap[(Z0).heap.size]? = some (.cells #[.int .u8 (mk : Int), .int .u8 (mk : Int)] 5 (0, 0)) := heap_alloc_new _ _
        obtain ⟨Z1, hZ1⟩ : ∃ z, z = Z0.alloc (.cells #[.int .u8 (mk : Int), .int .u8 (mk : Int)] 5) := ⟨_, rfl⟩
        rw [← hZ1] at bA kA ⊢
        have HZ : Hid (Own Z1 0 (.slice a q c) q (List.replicate q mk) ∧ Own Z1 0 (.slice a4 (q + 1 + 100) c4) (q + 1 + 100) (List.replicate (q + 1 + 100) mk) ∧ (Z1).ownsRow 0 36 1 (.slice aL nL cL) nL vs ∧ (Z1).heap[g]? = some (.cells #[.slice aL nL cL, .slice aM nL cM, .int .i64 ((N : Int) + 4 * (q : Int) + 200)] 38 (0, 0)) ∧ Fb wr Z1 (fun k => (Value.slice a q c).ownBlock = some k)) := ⟨HZ.out.1.later bA, HZ.out.2.1.later bA, row_same HZ.out.2.2.1 (fun k hk => bA.block k (HZ.out.2.2.1.lt k hk).2), (bA.block g (Array.getElem?_eq_some_iff.1 HZ.out.2.2.2.1).1).trans HZ.out.2.2.2.1, HZ.out.2.2.2.2.trans (Fb.of_below bA)⟩
        have kY0 := two_ofF kA
        clear hZ1
        refine hK.out _ _ ⟨fun _ => box_cellF HZ.out.2.2.2.1, ?_⟩
        have hHeld := box_cellF HZ.out.2.2.2.1
        clear hK
        try simp only [Act.put, List.setIfInBounds_toArray, List.set_cons_zero, List.set_cons_succ]
        clear kA bA
        obtain ⟨k2, hk2⟩ : ∃ k2, k2 = Z0.heap.size := ⟨_, rfl⟩
        rw [← hk2] at kY0 ⊢
        clear hk2
        refine AnyE.one (i := 8) rfl (by kernel_rfl) (by kernel_rfl) (fun KK hK => ?_)
        go_simp
        have bA := (Below.refl (Z1).heap.size (Z1)).alloc (Nat.le_refl _) (.cells #[.int .u8 (mk : Int)] 5)
        have kA : (Z1.alloc (.cells #[.int .u8 (mk : Int)] 5)).heap[(Z1).heap.size]? = some (.cells #[.int .u8 (mk : Int)] 5 (0, 0)) := heap_alloc_new _ _
        obtain ⟨Z2, hZ2⟩ : ∃ z, z = Z1.alloc (.cells #[.int .u8 (mk : Int)] 5) := ⟨_, rfl⟩
        rw [← hZ2] at bA kA ⊢
        have HZ : Hid (Own Z2 0 (.slice a q c) q (List.replicate q mk) ∧ Own Z2 0 (.slice a4 (q + 1 + 100) c4) (q + 1 + 100) (List.replicate (q + 1 + 100) mk) ∧ (Z2).ownsRow 0 36 1 (.slice aL nL cL) nL vs ∧ (Z2).heap[g]? = some (.cells #[.slice aL nL cL, .slice aM nL cM, .int .i64 ((N : Int) + 4 * (q : Int) + 200)] 38 (0, 0)) ∧ Fb wr Z2 (fun k => (Value.slice a q c).ownBlock = some k)) := ⟨HZ.out.1.later bA, HZ.out.2.1.later bA, row_same HZ.out.2.2.1 (fun k hk => bA.block k (HZ.out.2.2.1.lt k hk).2), (bA.block g (Array.getElem?_eq_some_iff.1 HZ.out.2.2.2.1).1).trans HZ.out.2.2.2.1, HZ.out.2.2.2.2.trans (Fb.of_below bA)⟩
        have kX := kA
        have kY1 := keep2F bA kY0
        clear hZ2
        refine hK.out _ _ ⟨fun _ => box_cellF HZ.out.2.2.2.1, ?_⟩
        have hHeld := box_cellF HZ.out.2.2.2.1
        clear hK
        try simp only [Act.put, List.setIfInBounds_toArray, List.set_cons_zero, List.set_cons_succ]
        clear kA bA kY0
        refine AnyE.one (i := 9) rfl (by kernel_rfl) (by kernel_rfl) (fun KK hK => ?_)
        refine wp_append_mk (mk := mk) (blk := Z1.heap.size) rfl rfl HZ.out.1 (fun j hj => one_mkF kX hj) (by decide) (by omega) (Nat.zero_le _) ?_
        intro ax cx ZC o1 gr1 o2 nr1 kp1
        rw [List.replicate_append_replicate] at o1
        have nrX : Near wr (.slice a q c) (.slice ax (q + 1) cx) := nr1.imp id (fun h g hg => Nat.le_trans HZ.out.2.2.2.2.size (h g hg))
        have HZ1 : Hid (Own ZC 0 (.slice a q c) q (List.replicate q mk) ∧ Own ZC 0 (.slice a4 (q + 1 + 100) c4) (q + 1 + 100) (List.replicate (q + 1 + 100) mk) ∧ (ZC).ownsRow 0 36 1 (.slice aL nL cL) nL vs ∧ (ZC).heap[g]? = some (.cells #[.slice aL nL cL, .slice aM nL cM, .int .i64 ((N : Int) + 4 * (q : Int) + 200)] 38 (0, 0)) ∧ Fb wr ZC (fun k => (Value.slice a q c).ownBlock = some k)) := ⟨o2, own_keepF HZ.out.1 o2 gr1 kp1 HZ.out.2.1, row_same HZ.out.2.2.1 (fun k hk => gr1.block k (HZ.out.2.2.1.lt k hk).2 (fun e => row_neF HZ.out.2.2.1 HZ.out.1 hk e.symm)), (gr1.block g (Array.getElem?_eq_some_iff.1 HZ.out.2.2.2.1).1 (fun e => HBg.out g e.symm rfl)).trans HZ.out.2.2.2.1, HZ.out.2.2.2.2.grow gr1 (fun i e _ => e)⟩
        have oX := o1
        have kY := kp_two kp1 kY1
        have HZ := HZ1
        clear HZ1 gr1 o2 nr1 kp1
        refine hK.out _ _ ⟨fun _ => box_cellF HZ.out.2.2.2.1, ?_⟩
        have hHeld := box_cellF HZ.out.2.2.2.1
        clear hK
        try simp only [Act.put, List.setIfInBounds_toArray, List.set_cons_zero, List.set_cons_succ]
        have nX := nrX
        clear nrX o1 kX kY1
        refine AnyE.one (i := 14) rfl (by kernel_rfl) (by kernel_rfl) (fun KK hK => ?_)
        refine wp_append_mk (mk := mk) (blk := k2) rfl rfl HZ.out.1 (fun j hj => two_mkF kY hj) (by decide) (by omega) (Nat.zero_le _) ?_
        intro ay cy ZD o1 gr1 o2 nr1 kp1
        rw [List.replicate_append_replicate] at o1
        have nY : Near wr (.slice a q c) (.slice ay (q + 2) cy) := nr1.imp id (fun h g hg => Nat.le_trans HZ.out.2.2.2.2.size (h g hg))
        have oX1 := own_keepF HZ.out.1 o2 gr1 kp1 oX
        have HZ1 : Hid (Own ZD 0 (.slice a q c) q (List.replicate q mk) ∧ Own ZD 0 (.slice a4 (q + 1 + 100) c4) (q + 1 + 100) (List.replicate (q + 1 + 100) mk) ∧ (ZD).ownsRow 0 36 1 (.slice aL nL cL) nL vs ∧ (ZD).heap[g]? = some (.cells #[.slice aL nL cL, .slice aM nL cM, .int .i64 ((N : Int) + 4 * (q : Int) + 200)] 38 (0, 0)) ∧ Fb wr ZD (fun k => (Value.slice a q c).ownBlock = some k)) := ⟨o2, own_keepF HZ.out.1 o2 gr1 kp1 HZ.out.2.1, row_same HZ.out.2.2.1 (fun k hk => gr1.block k (HZ.out.2.2.1.lt k hk).2 (fun e => row_neF HZ.out.2.2.1 HZ.out.1 hk e.symm)), (gr1.block g (Array.getElem?_eq_some_iff.1 HZ.out.2.2.2.1).1 (fun e => HBg.out g e.symm rfl)).trans HZ.out.2.2.2.1, HZ.out.2.2.2.2.grow gr1 (fun i e _ => e)⟩
        have oY1 := o1
        have HZ := HZ1
        clear HZ1 gr1 o2 nr1 kp1 o1 oX kY
        refine hK.out _ _ ⟨fun _ => box_cellF HZ.out.2.2.2.1, ?_⟩
        have hHeld := box_cellF HZ.out.2.2.2.1
        clear hK
        try simp only [Act.put, List.setIfInBounds_toArray, List.set_cons_zero, List.set_cons_succ]
        refine AnyE.one (i := 16) rfl (by kernel_rfl) (by kernel_rfl) (fun KK hK => ?_)
        go_simp
        have bA := (Below.refl (ZD).heap.size (ZD)).alloc (Nat.le_refl _) (.cells #[.slice a q c, .slice ax (q + 1) cx, .slice ay (q + 2) cy, .slice a4 (q + 1 + 100) c4] 36)
        have kA : (ZD.alloc (.cells #[.slice a q c, .slice ax (q + 1) cx, .slice ay (q + 2) cy, .slice a4 (q + 1 + 100) c4] 36)).heap[(ZD).heap.size]? = some (.cells #[.slice a q c, .slice ax (q + 1) cx, .slice ay (q + 2) cy, .slice a4 (q + 1 + 100) c4] 36 (0, 0)) := heap_alloc_new _ _
        obtain ⟨ZE, hZE⟩ : ∃ z, z = ZD.alloc (.cells #[.slice a q c, .slice ax (q + 1) cx, .slice ay (q + 2) cy, .slice a4 (q + 1 + 100) c4] 36) := ⟨_, rfl⟩
        rw [← hZE] at bA kA ⊢
        have HZ : Hid (Own ZE 0 (.slice a q c) q (List.replicate q mk) ∧ Own ZE 0 (.slice a4 (q + 1 + 100) c4) (q + 1 + 100) (List.replicate (q + 1 + 100) mk) ∧ (ZE).ownsRow 0 36 1 (.slice aL nL cL) nL vs ∧ (ZE).heap[g]? = some (.cells #[.slice aL nL cL, .slice aM nL cM, .int .i64 ((N : Int) + 4 * (q : Int) + 200)] 38 (0, 0)) ∧ Fb wr ZE (fun k => (Value.slice a q c).ownBlock = some k)) := ⟨HZ.out.1.later bA, HZ.out.2.1.later bA, row_same HZ.out.2.2.1 (fun k hk => bA.block k (HZ.out.2.2.1.lt k hk).2), (bA.block g (Array.getElem?_eq_some_iff.1 HZ.out.2.2.2.1).1).trans HZ.out.2.2.2.1, HZ.out.2.2.2.2.trans (Fb.of_below bA)⟩
        have oX2 := oX1.later bA
        have oY2 := oY1.later bA
        clear hZE
        refine hK.out _ _ ⟨fun _ => box_cellF HZ.out.2.2.2.1, ?_⟩
        have hHeld := box_cellF HZ.out.2.2.2.1
        clear hK
        try simp only [Act.put, List.setIfInBounds_toArray, List.set_cons_zero, List.set_cons_succ]
        clear oX1 oY1 bA
        refine AnyE.one (i := 17) rfl (by kernel_rfl) (by kernel_rfl) (fun KK hK => ?_)
        refine wp_append_rowF (us := [.slice a q c, .slice ax (q + 1) cx, .slice ay (q + 2) cy, .slice a4 (q + 1 + 100) c4]) (blk := ZD.heap.size) (k := 4) rfl rfl HZ.out.2.2.1 rfl (fun j u hj => four_cellF kA hj) (by simp [Value.oneCell']) (by omega) (Nat.zero_le _) ?_
        intro aR cR ZF r1 gr1 nr1
        have oX3 := oX2.kept_rowF HZ.out.2.2.1 gr1
        have oY3 := oY2.kept_rowF HZ.out.2.2.1 gr1
        have oB3 := HZ.out.1.kept_rowF HZ.out.2.2.1 gr1
        have oG3 := HZ.out.2.1.kept_rowF HZ.out.2.2.1 gr1
        have nR : Near wr (.slice aL nL cL) (.slice aR (nL + 4) cR) := nr1.imp id (fun h g hg => Nat.le_trans HZ.out.2.2.2.2.size (h g hg))
        have bx3 := (gr1.block g (Array.getElem?_eq_some_iff.1 HZ.out.2.2.2.1).1 (fun e => (HF.out.nL_ g e.symm).2 rfl)).trans HZ.out.2.2.2.1
        have f3 : Fb wr ZF (fun k => (Value.slice a q c).ownBlock = some k ∨ (Value.slice aL nL cL).ownBlock = some k) := (HZ.out.2.2.2.2.mono (fun _ _ h => .inl h)).grow gr1 (fun i e _ => .inr e)
        have HE := Lib.hid (And.intro oX3 (And.intro oY3 (And.intro oB3 (And.intro oG3 (And.intro nX (And.intro nY (And.intro r1 (And.intro nR (And.intro bx3 f3)))))))))
        clear oX3 oY3 oB3 oG3 nX nY r1 nR f3 gr1 nr1 oX2 oY2 kA HZ
        refine hK.out _ _ ⟨fun _ => box_cellF bx3, ?_⟩
        have hHeld := box_cellF bx3
        clear hK
        try simp only [Act.put, List.setIfInBounds_toArray, List.set_cons_zero, List.set_cons_succ]
        have zf := box_fzF bx3 0
        clear bx3
        refine AnyE.one (i := 18) rfl (by kernel_rfl) (by kernel_rfl) (fun KK hK => ?_)
        go_simp
        refine hK.out _ _ ⟨fun _ => hHeld, ?_⟩
        clear hK
        try simp only [Act.put, List.setIfInBounds_toArray, List.set_cons_zero, List.set_cons_succ]
        refine AnyE.one (i := 19) rfl (by kernel_rfl) (by kernel_rfl) (fun KK hK => ?_)
        go_simp
        refine hK.out _ _ ⟨fun _ => hHeld, ?_⟩
        clear hK
        try simp only [Act.put, List.setIfInBounds_toArray, List.set_cons_zero, List.set_cons_succ]
        refine AnyE.one (i := 20) rfl (by kernel_rfl) (by kernel_rfl) (fun KK hK => ?_)
        go_simp
        refine hK.out _ _ ⟨fun h => (by cases h), ?_⟩
        clear hK
        refine AnyE.done (by kernel_rfl) (NoPanic.normal ?_) _
        obtain ⟨oX3, oY3, oB3, oG3, nX, nY, r1, nR, bx3, f3⟩ := HE.out
        exact ⟨ax, cx, ay, cy, aR, cR, _, _, _, rfl, oX3.setF (own_boxF oX3 bx3), oY3.setF (own_boxF oY3 bx3), oB3.setF (own_boxF oB3 bx3), oG3.setF (own_boxF oG3 bx3), nX, nY, row_same r1 (fun k hk => Below.heap_setCell _ _ _ _ (row_boxF r1 bx3 k hk)), nR, box_setF0 bx3 _, (f3.mono (fun _ _ h => .inr h)).trans (Fb.set1F (.inl rfl) _ _)⟩
      ·rintro e a' Y hq
       cases e with
       | normal =>
        obtain ⟨ax, cx, ay, cy, aR, cR, t64, t69, t72, rfl, HE⟩ := hq
        obtain ⟨oX, oY, oB, oG, nX, nY, r, nR, bx, f⟩ := HE.out
        have fY : Fb w Y (fun k => k = g ∨ (Value.slice a q c).ownBlock = some k ∨ (Value.slice aL nL cL).ownBlock = some k) := (HFX.out.1.mono (fun _ _ e => by rcases e with e | e <;> simp [e])).trans f
        have oM : Own Y 0 (.slice aM nL cM) nL ms := ⟨HF.out.own.1, row_same HF.out.own.2 (fun k hk => fY.block k (HF.out.own.2.lt k hk).2 (by
         rintro (e | e | e)
         ·exact (HF.out.nM k hk).2.1 e
         ·exact HNb.out k e (HFs.out.2.2.2.2 k hk)
         ·exact (HF.out.nM k hk).2.2 e))⟩
        have HD := Lib.hid (fun (a6 : Option Addr) (c6 : Nat) (w6 : World) o6 gr nr => fu_done (w6 := w6) (a6 := a6) (c6 := c6) HF.out HFs.out HNb.out HGb.out HFX.out.1.size oX oY oB oG nX nY (fun k e => (H4.out.2.2.1.elim (fun h => .inl (h ▸ e)) (fun h => .inr (Nat.le_trans (HF1.out.grow HG2.out (fun i e _ => .inr e)).size (h k e))))) r nR bx fY oM o6 gr nr f.size (by omega) hn hmk5)
        have b1 := box_cellF1 bx
        have b6 : Hid (∀ w6 : World, Y.grownBy w6 (Value.slice aM nL cM).ownBlock → w6.cell? ⟨g, 1, none⟩ = some (.slice aM nL cM) ∧ w6.frozen? ⟨g, 1, none⟩ = false) := fun w6 gr => by
         have bx6 := (gr.block g (Array.getElem?_eq_some_iff.1 bx).1 (fun e => (HF.out.nM g e.symm).2.1 rfl)).trans bx
         exact ⟨box_cellF1 bx6, box_fzF bx6 1⟩
        clear HE oX oY oB oG nX nY r nR bx f fY HZ H4 HFX
        go_wp2_with (at_builtin; refine wpList_append_mark rfl _ _ rfl 0 aM nL cM mk _ rfl oM [_, _, _, _] 4 rfl (by simp [bv]) (by decide) (by omega) (Nat.zero_le _) ?_; intro a6 m6 c6 w6 hm6 own6 gr6 ol6 nr6 kp6; refine Hid.out ?_)
        refine Lib.hid ?_
        obtain ⟨c1, z1⟩ := b6.out w6 gr6
        obtain rfl : m6 = nL + 4 := hm6.out
        have HEnd := Lib.hid (HD.out a6 c6 w6 own6 gr6 nr6)
        clear own6 gr6 ol6 nr6 kp6 HD b6 oM b1
        go_wp2
        refine bodyPost_end (results_none rfl _ _ _) rfl ?_
        exact ⟨⟨_, rfl⟩, HEnd.out⟩
       | panic c => exact hq.elim
       | ret => exact hq.elim
       | exit id => exact hq.elim
       | goto t => exact hq.elim
       | outgrown => exact hq.elim
end Go.Proofs.YtchebhafabhabaaGreatDoor
