import Derived.Test.YtpabbnddeklpdaaGreatK12
namespace Go.Proofs.YtpabbnddeklpdaaGreat
open Go.RowKit Go.Shelf
set_option linter.unusedVariables false
attribute [local go_sem] Oper.semAt_some

theorem EOk.turn {G : Nat → Prop} {B : Nat} {w w' : World} {e : EntD} (h : EOk G w e) (t : Turn B w w') : EOk G w' e := h.keptC t.toC

set_option maxRecDepth 100000 in
theorem ofrom_any (w : World) (p : Option Addr) (x : EntD) : Calls Tryz.prog 27 #[ordV p, .agg x.cells] w fun e w' => e = .returned (.func (.func 44) #[] #[.pointer (some ⟨w.heap.size, 0, none⟩), .pointer (some ⟨w.heap.size + 1, 0, none⟩)]) ∧ w' = (w.alloc (.cells #[.pointer p, .func (.func 22) #[] #[]] 61)).alloc (.cells x.cells 38) := by
 unfold ordV EntD.cells
 go_enter Tryz.func27, Tryz.ntmps27
 go_wp2
 go_ret
 exact ⟨rfl, rfl⟩

set_option maxRecDepth 100000 in
set_option maxHeartbeats 4000000 in
theorem ofrom1_in {l Bo Bf n B : Nat} {G : Nat → Prop} {p : Option Addr} {T : BT} {x : EntD} {J Jx : List EntD → World → Prop} (hAb : AbT B J)
  (hY : ∀ m pre y W, J pre W → Nx G (fromS x T) pre y W → YieldAt Fence.wide m Tryz.prog l #[.agg y.cells] W fun e W' => (e = .returned (.bool true) ∧ J (pre ++ [y]) W' ∧ KpC G W W') ∨ (e = .returned (.bool false) ∧ Jx (pre ++ [y]) W'))
  (W : World) (hBs : B ≤ W.heap.size) (hB : OBox W Bo p) (hF : EBox W Bf x) (hx : EntD.Ok W x) (hT : IsT G W p T) (h0 : J [] W) :
  CallsIn Fence.wide n Tryz.prog 44 #[.func (.yield l) #[] #[], .pointer (some ⟨Bo, 0, none⟩), .pointer (some ⟨Bf, 0, none⟩)] W fun e W' => (∃ v, e = .returned v) ∧ ((∃ xs, xs = fromS x T ∧ J xs W') ∨ (∃ pre, pre <+: fromS x T ∧ Jx pre W')) := by
 have D0 : Below W.heap.size W W.drew := (Below.refl _ _).drew
 have HG : Hid (∀ wx, Below W.heap.size W wx → Calls Tryz.prog 45 #[.agg #[.pointer p, .func (.func 22) #[] #[]], .pointer p, .agg #[x.vr, .int .i64 x.fam, x.vq, .int .i64 x.ts, .int .i64 x.seq, .int .i64 x.kind, x.vv], .func (.yield l) #[] #[]] wx fun z W1 => ∃ t : Bool, z = .returned (.bool t) ∧ Hid (((∃ xs, xs = fromS x T ∧ J xs W1) ∨ (∃ pre, pre <+: fromS x T ∧ Jx pre W1)))) := fun wx bb => by
  refine (callsIn_wide (n := 3)).1 ((giveFrom_in hAb hY T 3 p [] wx (by simp) (hT.kept (KpG.of bb)) (hx.later bb) (Nat.le_trans hBs bb.size) (hAb _ _ _ hBs h0 (Turn.of bb hBs))).mono ?_)
  rintro z W1 (⟨rfl, hj, k1⟩ | ⟨rfl, q, hq, h⟩)
  ·exact ⟨true, rfl, .inl ⟨_, rfl, hj⟩⟩
  ·exact ⟨false, rfl, .inr ⟨q, hq, h⟩⟩
 have c0 := hB.c0
 have c1 := hB.c1
 obtain ⟨d0, d1, d2, d3, d4, d5, d6⟩ := (⟨hF.vr, hF.fam, hF.vq, hF.ts, hF.seq, hF.kind, hF.vv⟩ : _ ∧ _ ∧ _ ∧ _ ∧ _ ∧ _ ∧ _)
 clear hY hAb hT hx h0 hF hB hBs
 have hmx : Tryz.prog.follows .mixedOrders = true := by kernel_rfl
 refine callsIn_of_wp Tryz.func44 rfl trivial ?_ rfl
 simp only [Tryz.ntmps44, List.size_toArray, List.length_cons, List.length_nil, Nat.reduceAdd, Nat.reduceSub, Array.replicate_succ, Array.replicate_zero, List.push_toArray, List.append_toArray, List.nil_append, List.cons_append]
 refine wpIn_wide.2 ?_
 go_wp2_with (go_at_call 45; refine Calls.mono (HG.out _ (by first | exact D0 | exact Below.refl _ _)) ?_; rintro z W1 ⟨t, rfl, hh⟩)
 all_goals
  go_end0
  exact ⟨⟨_, rfl⟩, hh.out⟩

end Go.Proofs.YtpabbnddeklpdaaGreat


namespace Go.Proofs.YtpabbnddeklpdaaGreat
open Go.RowKit Go.Shelf
set_option linter.unusedVariables false
attribute [local go_sem] Oper.semAt_some

theorem dropWhile_all {α : Type} {p : α → Bool} : ∀ {l : List α}, (∀ y ∈ l, p y = true) → l.dropWhile p = []
 | [], _ => rfl
 | y :: l, h => by rw [List.dropWhile_cons, if_pos (h y (by simp))]; exact dropWhile_all (fun z hz => h z (by simp [hz]))
theorem fromS_drop (x : EntD) : ∀ T : BT, Srt T.ord → fromS x T = T.ord.dropWhile (fun y => decide (compareS y x < 0))
 | .leaf, _ => rfl
 | .node l e r, h => by
  simp only [BT.ord] at h ⊢
  have h1 : Srt l.ord := (List.pairwise_append.1 h).1
  have h2 := (List.pairwise_append.1 h).2.1
  have h3 : Srt r.ord := (List.pairwise_cons.1 h2).2
  rw [List.dropWhile_append, fromS]
  split
  ·rename_i hc
   have e1 : l.ord.dropWhile (fun y => decide (compareS y x < 0)) = [] := by
    refine dropWhile_all fun y hy => ?_
    have := (List.pairwise_append.1 h).2.2 y hy e (by simp)
    simpa using cmp_lt_trans this hc
   rw [e1, fromS_drop x r h3]
   simp [hc]
  ·rename_i hc
   rw [fromS_drop x l h1]
   split
   ·rename_i hn
    have : l.ord.dropWhile (fun y => decide (compareS y x < 0)) = [] := by simpa using hn
    rw [this]
    simp [hc]
   ·rfl
theorem compareS_noval (z e : EntD) (v : Value) (l : List Nat) : compareS z { e with vv := v, val := l } = compareS z e := rfl

end Go.Proofs.YtpabbnddeklpdaaGreat


namespace Go.Proofs.YtpabbnddeklpdaaGreat
open Go.RowKit Go.Shelf
set_option linter.unusedVariables false

theorem add_tc {G : Nat → Prop} {w : World} {t : Nat} {L : List EntD} {k : Int} {e : EntD} (hb : Tb G w t L k false) (he : EntD.Ok w e) (hG : ∀ i, w.heap.size ≤ i → G i) (hsz : L.length < 1000000000) :
  Calls Tryz.prog 19 #[.pointer (some ⟨t, 0, none⟩), .agg e.cells] w fun z w' => ∃ c : Nat, z = .returned (.int .i64 (c : Int)) ∧ Apart t w w' ∧
   ((checkS e ≠ 0 ∧ c = checkS e ∧ Tb G w' t L k false) ∨ (checkS e = 0 ∧ (∃ y ∈ L, compareS e y = 0) ∧ c = 80 ∧ Tb G w' t L k false) ∨ (c = 0 ∧ checkS e = 0 ∧ (¬ ∃ y ∈ L, compareS e y = 0) ∧ ∃ A B x, L = A ++ B ∧ EntD.Same x e ∧ Tb G w' t (A ++ x :: B) (k + ((packL e).length : Nat)) false)) := by
 by_cases hc : checkS e = 0
 ·refine (add_tb hb he hG hsz).mono ?_
  rintro z w' ⟨c, hz, hap, ⟨h0, h1, h2⟩ | ⟨h0, h1, h2, h3, h4⟩⟩
  ·obtain ⟨k1, k2⟩ := h2 hc rfl
   exact ⟨c, hz, hap, .inr (.inl ⟨hc, k1, k2, h1⟩)⟩
  ·exact ⟨c, hz, hap, .inr (.inr ⟨h0, h1, h3, h4⟩)⟩
 ·refine (add_bad he hc).mono ?_
  rintro z w' ⟨rfl, hw⟩
  exact ⟨checkS e, rfl, Apart.of hw, .inl ⟨hc, rfl, hb.later hw⟩⟩

def RdL (w : World) (v : Value) (xs : List EntD) : Prop := ∃ a cap, v = .slice a xs.length cap ∧ xs.length ≤ cap ∧ cap ≤ maxLen ∧ xs.length ≤ 1000000 ∧ ((a = none ∧ cap = 0) ∨ ∃ b off, a = some ⟨b, off, none⟩) ∧ ∀ i x, xs[i]? = some x → EntD.Ok w x ∧ ∃ b off, a = some ⟨b, off, none⟩ ∧ Cs w b (off + i * 7) x
theorem RdL.later {w w' : World} {v : Value} {xs : List EntD} (h : RdL w v xs) (hb : Below w.heap.size w w') : RdL w' v xs := by
 obtain ⟨a, cap, h1, h2, h3, h4, h0, h5⟩ := h
 refine ⟨a, cap, h1, h2, h3, h4, h0, fun i x hx => ?_⟩
 obtain ⟨k1, b, off, k2, k3⟩ := h5 i x hx
 exact ⟨k1.later hb, b, off, k2, k3.later hb⟩
theorem RdL.nil (w : World) : RdL w (.slice none 0 0) [] := ⟨none, 0, rfl, Nat.le_refl _, Nat.zero_le _, Nat.zero_le _, .inl ⟨rfl, rfl⟩, fun i x h => by simp at h⟩
theorem RdL.slice {w : World} {v : Value} {xs : List EntD} (h : RdL w v xs) : ∃ a cap, v = .slice a xs.length cap := by
 obtain ⟨a, cap, h1, _⟩ := h
 exact ⟨a, cap, h1⟩
theorem RdL.of {w : World} {B : Nat} {v : Value} {xs : List EntD} (h : w.ownsRow B 38 7 v xs.length (evals xs)) (ho : ∀ x ∈ xs, EntD.Ok w x) (hl : xs.length ≤ 1000000) : RdL w v xs := by
 rcases h.2 with ⟨rfl, hn⟩ | ⟨g, cap, cur, rfl, h4, h5, h6, h7, h8⟩
 ·obtain rfl : xs = [] := List.length_eq_zero_iff.1 hn
  exact RdL.nil w
 ·refine ⟨_, cap, rfl, h6, h7, hl, .inr ⟨_, _, rfl⟩, fun i x hx => ⟨ho x (List.mem_of_getElem? hx), ?_⟩⟩
  obtain ⟨g', cap', e1, _, e3⟩ := row_cells h hx
  cases e1
  exact ⟨g, 0, rfl, by simpa using e3⟩
theorem Sm.at {xs ys : List EntD} (h : Sm xs ys) {i : Nat} (hi : i < xs.length) : ∃ x y, xs[i]? = some x ∧ ys[i]? = some y ∧ EntD.Same x y := by
 have hj : i < ys.length := by rw [← h.len]; exact hi
 exact ⟨xs[i], ys[i], by simp [hi], by simp [hj], h.get i _ _ (by simp [hi]) (by simp [hj])⟩

end Go.Proofs.YtpabbnddeklpdaaGreat

namespace Go.Proofs.YtpabbnddeklpdaaGreat
open Go.RowKit Go.Shelf
set_option linter.unusedVariables false

set_option maxRecDepth 100000 in
set_option maxHeartbeats 1000000 in
theorem copied8_any {v : Value} {bs : List Nat} {w : World} (hr : Rd w v bs) (hl : bs.length ≤ 140737488355328) :
  Calls Tryz.prog 71 #[v] w fun e w' => ∃ a m c, e = .returned (.slice a m c) ∧ Own w' w.heap.size (.slice a m c) m bs ∧ Below w.heap.size w w' := by
 obtain ⟨a, n, cap, rfl⟩ := rd_slice hr
 obtain ⟨hn, hle, hm, hl48⟩ := rd_lens hr
 rw [← hn] at hl
 clear hn
 go_enter Tryz.func71, Tryz.ntmps71
 go_wp2_with (at_builtin; refine wpList_append_at rfl _ _ rfl w.heap.size none 0 0 [] rfl ⟨rfl, World.ownsRow_nil _ _ _ _⟩ a n cap bs rfl hr (by omega) (Nat.le_refl _) ?_; intro a5 m5 c5 w5 own5 hb5)
 go_ret
 exact ⟨a5, m5, c5, rfl, by simpa using own5, hb5⟩

theorem RdL.drop {w : World} {b off n cap : Nat} {xs : List EntD} (h : RdL w (.slice (some ⟨b, off, none⟩) n cap) xs) {t : Nat} (ht : t ≤ n) : RdL w (.slice (some ⟨b, off + t * 7, none⟩) (n - t) (cap - t)) (xs.drop t) := by
 obtain ⟨a, c, h1, h2, h3, h4, h0, h5⟩ := h
 cases h1
 refine ⟨_, _, by rw [List.length_drop], by rw [List.length_drop]; omega, by omega, by rw [List.length_drop]; omega, .inr ⟨_, _, rfl⟩, fun i x hx => ?_⟩
 rw [List.getElem?_drop] at hx
 obtain ⟨k1, b', off', k2, k3⟩ := h5 _ _ hx
 cases k2
 exact ⟨k1, b, _, rfl, by rw [show off + t * 7 + i * 7 = off + (t + i) * 7 from by omega]; exact k3⟩
theorem drop_while {α : Type} {p : α → Bool} : ∀ {l : List α} {t : Nat} {x : α}, (∀ y ∈ l.take t, p y = true) → l[t]? = some x → p x = false → l.dropWhile p = l.drop t
 | [], t, x, _, h, _ => by simp at h
 | y :: l, 0, x, _, h, hx => by simp at h; subst h; rw [List.dropWhile_cons, if_neg (by simp [hx])]; rfl
 | y :: l, t + 1, x, h1, h, hx => by
  rw [List.dropWhile_cons, if_pos (h1 y (by simp))]
  exact drop_while (fun z hz => h1 z (by simp [hz])) (by simpa using h) hx
theorem mem_take_succ {α : Type} {l : List α} {t : Nat} {x y : α} (hx : l[t]? = some x) (h : y ∈ l.take (t + 1)) : y ∈ l.take t ∨ y = x := by
 rw [List.take_add_one, hx] at h
 simpa using h

def RBx (w : World) (b : Nat) (v : Value) (f : Bool) : Prop := w.heap[b]? = some (.cells #[v, .bool f] 29 (0, 0))
theorem RBx.later {w w' : World} {b : Nat} {v : Value} {f : Bool} (h : RBx w b v f) (hb : Below w.heap.size w w') : RBx w' b v f := (hb.block b (Array.getElem?_eq_some_iff.1 h).1).trans h
theorem RBx.c0 {w : World} {b : Nat} {v : Value} {f : Bool} (h : RBx w b v f) : w.cell? ⟨b, 0, none⟩ = some v := by unfold RBx at h; simp [World.cell?, h]
theorem RBx.c1 {w : World} {b : Nat} {v : Value} {f : Bool} (h : RBx w b v f) : w.cell? ⟨b, 1, none⟩ = some (.bool f) := by unfold RBx at h; simp [World.cell?, h]
theorem RBx.new (w : World) (v : Value) (f : Bool) : RBx (w.alloc (.cells #[v, .bool f] 29)) w.heap.size v f := World.alloc_heap_new w _

end Go.Proofs.YtpabbnddeklpdaaGreat


namespace Go.Proofs.YtpabbnddeklpdaaGreat
open Go.RowKit Go.Shelf
set_option linter.unusedVariables false

set_option maxRecDepth 100000 in
set_option maxHeartbeats 4000000 in
theorem refBytes8_any {w : World} {lv : Value} {L : List EntD} {f : Bool} (hl : RdL w lv L) (hg : ∀ x ∈ L, checkS x = 0) :
  Calls Tryz.prog 14 #[.agg #[lv, .bool f]] w fun z w' => z = .returned (.int .i64 ((pk L : Nat) : Int)) ∧ Below w.heap.size w w' := by
 have A1 := (Below.refl w.heap.size w).alloc (Nat.le_refl _) (.cells #[lv, .bool f] 29)
 have bt := RBx.new w lv f
 have HP : Hid (∀ t x, L[t]? = some x → pk (L.take (t + 1)) = pk (L.take t) + (packL x).length ∧ (packL x).length ≤ 20000 ∧ checkS x = 0) := fun t x hx => by
  have hc := hg x (List.mem_of_getElem? hx)
  obtain ⟨_, _, _, _, _, _, _, a4⟩ := hl
  exact ⟨pk_take hx, packL_len (a4 t x hx).1 hc, hc⟩
 obtain ⟨a, ca, rfl, a1, a2, a3, -, a4⟩ := hl
 obtain ⟨n, hn⟩ : ∃ n, n = L.length := ⟨_, rfl⟩
 rw [← hn] at a1 a3 A1 bt ⊢
 have HN : Hid (L.length = n) := hn.symm
 have HA4 := Lib.hid a4
 obtain ⟨V, hV⟩ : ∃ V, V = (w.alloc (.cells #[.slice a n ca, .bool f] 29)) := ⟨_, rfl⟩
 rw [← hV] at A1 bt
 have HV : Hid (V = _) := hV
 have HA2 := Lib.hid A1
 have KB : Hid (∀ wx, Below V.heap.size V wx → wx.cell? ⟨w.heap.size, 0, none⟩ = some (.slice a n ca)) := fun wx b => (bt.later b).c0
 clear hn a4 hV A1 bt hg
 go_enter Tryz.func14, Tryz.ntmps14
 go_wp2
 rw [← HV.out]
 go_loopw [3, 4] (fun s i wr => ∃ t k : Nat, t ≤ n ∧ i = .int .i64 (t : Int) ∧ s = .int .i64 (k : Int) ∧ k ≤ 20000 * t ∧ Hid (k = pk (L.take t)) ∧ Below V.heap.size V wr) (fun s i _ => n - (intOf i).toNat)
 case atStart => exact ⟨0, 0, by omega, rfl, rfl, by omega, rfl, Below.refl _ _⟩
 case round =>
  obtain ⟨t, k, htn, rfl, rfl, hk, HK, hbk⟩ := hrel
  have HBK := Lib.hid hbk
  have c0 := KB.out _ hbk
  by_cases h1 : t < n
  ·have h1' : (t : Int) < (n : Int) := by omega
   have ht0 : (0 : Int) ≤ (t : Int) := by omega
   obtain ⟨x, hx⟩ : ∃ x, L[t]? = some x := ⟨L[t]'(by rw [HN.out]; exact h1), by simp⟩
   obtain ⟨ox, ba, oa, rfl, cx⟩ := HA4.out t x hx
   obtain ⟨p1, p2, p3⟩ := HP.out t x hx
   have HC : Hid (∀ Z, Below wr.heap.size wr Z → Calls Tryz.prog 36 #[.agg #[x.vr, .int .i64 x.fam, x.vq, .int .i64 x.ts, .int .i64 x.seq, .int .i64 x.kind, x.vv]] Z fun r w' => ∃ a m c, r = .returned (.tuple #[.slice a m c, .int .i64 0]) ∧ Own w' Z.heap.size (.slice a m c) m (packL x) ∧ Below Z.heap.size Z w') := fun Z hZ => by
    have k := (HBK.out.trans (hZ.mono HBK.out.size))
    have k2 := HA2.out.trans (k.mono HA2.out.size)
    exact refPack_ok (ox.later k2) p3
   have HPk : Hid (pk (L.take (t + 1)) = pk (L.take t) + (packL x).length) := p1
   have HPl : Hid ((packL x).length ≤ 20000) := p2
   have cxl := cx.later (HA2.out.trans (HBK.out.mono HA2.out.size))
   obtain ⟨d0, d1, d2, d3, d4, d5, d6⟩ := cxl
   clear hx ox cx hbk p1 p2 p3
   go_wp2_with (go_at_call 36; refine Calls.mono (HC.out _ (by first | exact Below.refl _ _ | exact (Below.refl _ _).drew)) ?_; rintro z w1 ⟨ap, mp, cp, rfl, ownp, hb1⟩; have hmp := HPl.out; have hme : mp = (packL x).length := ownp.1; rw [← hme] at hmp; have HME := Lib.hid hme; clear hme ownp)
   go_roundw
   case rel => exact ⟨t + 1, k + mp, by omega, by go_num, by go_num, by omega, by unfold Hid; rw [HPk.out, ← HK.out, HME.out], HBK.out.trans (hb1.mono HBK.out.size)⟩
   case measure => simp [intOf]; omega
  ·have h1' : (n : Int) ≤ (t : Int) := by omega
   have HZ : Hid (k = pk L) := by
    have := HK.out
    rwa [List.take_of_length_le (by rw [HN.out]; omega)] at this
   clear HK
   go_wp2
   go_ret
   exact ⟨by rw [HZ.out]; rfl, HA2.out.trans (HBK.out.mono HA2.out.size)⟩

theorem RdL.take {w : World} {a : Option Addr} {n cap : Nat} {xs : List EntD} (h : RdL w (.slice a n cap) xs) {t : Nat} (ht : t ≤ n) : RdL w (.slice a t cap) (xs.take t) := by
 obtain ⟨a', c, h1, h2, h3, h4, h0, h5⟩ := h
 cases h1
 refine ⟨_, _, by rw [List.length_take, Nat.min_eq_left ht], by rw [List.length_take]; omega, h3, by rw [List.length_take]; omega, h0, fun i x hx => ?_⟩
 rw [List.getElem?_take] at hx
 split at hx
 ·exact h5 i x hx
 ·cases hx
theorem evals_app (a b : List EntD) : evals (a ++ b) = evals a ++ evals b := by simp [evals]
theorem evals_len : ∀ (xs : List EntD), (evals xs).length = xs.length * 7
 | [] => rfl
 | x :: xs => by
  have h := evals_len xs
  have e : evals (x :: xs) = x.cells.toList ++ evals xs := by simp [evals]
  have e2 : x.cells.toList.length = 7 := rfl
  rw [e, List.length_append, h, e2, List.length_cons]
  omega
theorem evals_get7 : ∀ {xs : List EntD} {j : Nat} {u : Value}, (evals xs)[j]? = some u → ∃ x, xs[j / 7]? = some x ∧ x.cells.toList[j % 7]? = some u
 | [], j, u, h => by simp [evals] at h
 | x :: xs, j, u, h => by
  have e : evals (x :: xs) = x.cells.toList ++ evals xs := by simp [evals]
  rw [e] at h
  by_cases hj : j < 7
  ·rw [List.getElem?_append_left (show j < x.cells.toList.length from hj)] at h
   rw [Nat.div_eq_of_lt hj, Nat.mod_eq_of_lt hj]
   exact ⟨x, by simp, h⟩
  ·rw [List.getElem?_append_right (show x.cells.toList.length ≤ j from by show 7 ≤ j; omega)] at h
   have h' : (evals xs)[j - 7]? = some u := h
   obtain ⟨y, h1, h2⟩ := evals_get7 h'
   have e1 : j / 7 = (j - 7) / 7 + 1 := by omega
   have e2 : j % 7 = (j - 7) % 7 := by omega
   rw [e1, e2]
   exact ⟨y, by simpa using h1, h2⟩
theorem Cs.get {w : World} {b o : Nat} {x : EntD} (h : Cs w b o x) {j : Nat} {u : Value} (hu : x.cells.toList[j]? = some u) : w.cell? ⟨b, o + j, none⟩ = some u := by
 obtain ⟨h0, h1, h2, h3, h4, h5, h6⟩ := h
 have hj : j < 7 := by
  have := (List.getElem?_eq_some_iff.1 hu).1
  simpa [EntD.cells] using this
 obtain rfl | rfl | rfl | rfl | rfl | rfl | rfl : j = 0 ∨ j = 1 ∨ j = 2 ∨ j = 3 ∨ j = 4 ∨ j = 5 ∨ j = 6 := by omega
 all_goals
  simp [EntD.cells] at hu
  subst hu
  assumption
theorem cells_one {w : World} {x : EntD} (h : EntD.Ok w x) : ∀ u ∈ x.cells.toList, u.oneCell' = true := by
 obtain ⟨ar, nr, cr, e1⟩ := rd_slice h.1
 obtain ⟨aq, nq, cq, e2⟩ := rd_slice h.2.1
 obtain ⟨av, nv, cv, e3⟩ := rd_slice h.2.2
 unfold EntD.cells
 rw [e1, e2, e3]
 simp [Value.oneCell']

set_option maxRecDepth 100000 in
theorem wpList_append_ents {w : World} {ops : Array Oper} {rest : List Oper} {o : Oper} {a : Act} {Q : Exit → Act → World → Prop} (hgd : o.guard = none) (s x : Operand)
  (ho : o.op = .call { callee := .builtin .append, args := #[s, x], argTypes := #[27, 27] })
  (B : Nat) (v : Value) (xs : List EntD) (hs : a.eval s = v) (hown : w.ownsRow B 38 7 v xs.length (evals xs))
  (u : Value) (ys : List EntD) (hx : a.eval x = u) (hu : RdL w u ys) (hn : xs.length + ys.length ≤ 1000000) (hB : B ≤ w.heap.size)
  (h : ∀ a' n' c' w', n' = (xs ++ ys).length → w'.ownsRow B 38 7 (.slice a' n' c') (xs ++ ys).length (evals (xs ++ ys)) → Below B w w' → KU w w' → wpList Tryz.prog ops Q rest (a.put o.dst (.slice a' n' c')) w') : wpList Tryz.prog ops Q (o :: rest) a w := by
 obtain ⟨i0, hi, hz0, hz1, hz2⟩ := info_parts info_ent
 obtain ⟨ad, cap, rfl, h1, h2, h3, h0, h5⟩ := hu
 cases ad with
 | none =>
  obtain rfl : ys = [] := by
   cases ys with
   | nil => rfl
   | cons y ys => obtain ⟨_, b, off, k, _⟩ := h5 0 y (by simp); cases k
  obtain rfl : cap = 0 := by
   rcases h0 with h | ⟨_, _, h⟩
   ·exact h.2
   ·cases h
  obtain ⟨a', c', rfl⟩ := row_slice (by decide) hown
  refine wpList_append_own_none hgd s x 27 ho B 38 i0 7 und_ents hi _ _ _ hs hown (by simpa using hx) ?_
  exact h _ _ _ _ (by simp) (by simpa using hown) (Below.refl _ _) (fun _ _ _ h => h)
 | some ad =>
  refine wpList_append_own _ hgd s x 27 ho B 38 i0 _ 7 104 und_ents hi hz0 hz1 hz2 rfl (by decide) _ _ _ hs hown ad ys.length cap (evals ys) hx (evals_len ys) (fun j u hj => ?_) (fun u hu => ?_) (by unfold maxLen; omega) (by omega) hB ?_
  ·obtain ⟨y, e1, e2⟩ := evals_get7 hj
   obtain ⟨_, b, off, k, cs⟩ := h5 _ _ e1
   cases k
   have e : (⟨b, off, none⟩ : Addr).add j = ⟨b, off + j, none⟩ := by unfold Addr.add; split <;> simp_all
   rw [e]
   have := cs.get e2
   rwa [show off + j / 7 * 7 + j % 7 = off + j from by omega] at this
  ·obtain ⟨j, hj⟩ := List.getElem?_of_mem hu
   obtain ⟨y, e1, e2⟩ := evals_get7 hj
   exact cells_one (h5 _ _ e1).1 u (List.mem_of_getElem? e2)
  ·intro v' w' k1 k2 k3
   rw [← evals_app, ← List.length_append] at k1
   obtain ⟨a', c', rfl⟩ := row_slice (by decide) k1
   refine h _ _ _ _ rfl k1 ((Below.refl B w).grown k2 hB (fun k hk => (own_at hown hk).1)) (KU.grown k2 (fun r hr => ?_))
   obtain ⟨_, cur, hc⟩ := own_at hown hr
   exact ⟨cur, _, _, hc, by decide⟩
end Go.Proofs.YtpabbnddeklpdaaGreat


namespace Go.Proofs.YtpabbnddeklpdaaGreat
open Go.RowKit
set_option linter.unusedVariables false

theorem same8_true {va vb : Value} {xs : List Nat} {w : World} (ha : Rd w va xs) (hb : Rd w vb xs) :
  Calls Tryz.prog 35 #[va, vb] w fun e w' => e = .returned (.bool true) ∧ Below w.heap.size w w' := by
 refine (same8_any ha hb).mono ?_
 rintro e w' ⟨rfl, h⟩
 exact ⟨by simp, h⟩
set_option maxRecDepth 100000 in
set_option maxHeartbeats 2000000 in
theorem laid8_cut {a : Option Addr} {n cap : Nat} {bs : List Nat} {w : World} (hr : Rd w (.slice a n cap) bs) (hcut : 5000 < n) :
  Calls Tryz.prog 23 #[.slice a n cap] w fun e w' => ∃ u, e = .returned u ∧ Laid w' w.heap.size u (bs.take 5000) ∧ Below w.heap.size w w' := by
 obtain ⟨hn, hle, hm, hl48⟩ := rd_lens hr
 have hcut' : (5000 : Int) < (n : Int) := by omega
 rcases rd_some hr with ⟨_, h1, _⟩ | ⟨b, off, rfl⟩
 ·omega
 have r1 := hr.upto 5000 (by omega)
 have i1 : (5000 : Int) ≤ (cap : Int) := by omega
 have i2 : (0 : Int) ≤ (5000 : Int) := by omega
 have HK : Hid ((bs.take 5000).length = 5000) := by unfold Hid; rw [List.length_take]; omega
 clear hn hr
 go_enter Tryz.func23, Tryz.ntmps23
 go_wp2_with (at_builtin; refine wpList_append_at rfl _ _ rfl w.heap.size none 0 0 [] rfl ⟨rfl, World.ownsRow_nil _ _ _ _⟩ (some ⟨b, off, none⟩) 5000 cap (bs.take 5000) rfl r1 (by omega) (Nat.le_refl _) ?_; intro a1 m1 k1 w1 own1 hb1; rw [List.nil_append] at own1; refine Hid.out ?_)
 refine Lib.hid ?_
 have hm1 : Hid (m1 = 5000) := by unfold Hid; rw [own1.1]; exact HK.out
 have hm1b : m1 ≤ 20000 := by have := hm1.out; omega
 go_wp2_with (at_builtin; refine wpList_append_new rfl _ _ rfl w.heap.size a1 m1 k1 _ rfl own1 [_, _, _, _, _] 5 rfl marks5 rfl rfl (by omega) hb1.size ?_; intro a6 m6 k6 w6 own6 hb6; refine Hid.out ?_)
 refine Lib.hid ?_
 have B6 := hb1.trans hb6
 have hm6 : Hid (m6 = 5000 + 5) := by unfold Hid; rw [own6.1, List.length_append, ← own1.1, hm1.out]; rfl
 clear own1 hb1 hb6
 go_wp2
 go_loopw [3, 4] (fun s i wr => ∃ t a m c, t ≤ 70 ∧ i = .int .i64 ((t : Nat) : Int) ∧ s = .slice a m c ∧ Own wr w.heap.size (.slice a m c) m ((bs.take 5000 ++ marks5) ++ List.replicate t 206) ∧ Below w.heap.size w wr) (fun _ i _ => 70 - (intOf i).toNat)
 case atStart => exact ⟨0, a6, m6, k6, by omega, rfl, rfl, by simpa using own6, B6⟩
 case round =>
  obtain ⟨t, a7, m7, k7, ht, rfl, rfl, own7, B7⟩ := hrel
  have hm7 : Hid (m7 = 5000 + 5 + t) := by unfold Hid; rw [own7.1, List.length_append, List.length_append, HK.out, List.length_replicate]; rfl
  have hm7b : m7 ≤ 20100 := by have := hm7.out; omega
  by_cases hlt : t < 70
  ·have hlt' : (t : Int) < 70 := by omega
   go_wp2_with (at_builtin; refine wpList_append_new rfl _ _ rfl w.heap.size a7 m7 k7 _ rfl own7 [_] 1 rfl [206] rfl rfl (by omega) B7.size ?_; intro a8 m8 k8 w8 own8 hb8)
   go_roundw
   case rel => exact ⟨t + 1, a8, m8, k8, by omega, by go_num, rfl, by rw [List.append_assoc, ← List.replicate_succ'] at own8; exact own8, B7.trans hb8⟩
   case measure => simp [intOf]; omega
  ·have hge : (70 : Int) ≤ (t : Int) := by omega
   obtain rfl : t = 70 := by omega
   obtain ⟨g, he, hc1, hc2⟩ : ∃ g, a7 = some ⟨g, 0, none⟩ ∧ m7 ≤ k7 ∧ k7 ≤ maxLen := by
    rcases own7.2.2 with ⟨h1, h2⟩ | ⟨g, cp, cur, h1, h2, h3, h4, h5, h6⟩
    ·have := hm7.out; omega
    ·simp only [Value.slice.injEq] at h1
     exact ⟨g, h1.1, by omega, by omega⟩
   subst he
   have j1 : (5000 : Int) ≤ (k7 : Int) := by have := hm7.out; omega
   have j2 : (0 : Int) ≤ (5000 : Int) := by omega
   go_wp2
   go_ret
   refine ⟨_, rfl, ?_, B7⟩
   have e7 : m7 = (bs.take 5000).length + 75 := by rw [hm7.out, HK.out]
   subst e7
   refine ⟨g, k7, by rw [HK.out]; simp, by omega, hc2, own7⟩

set_option maxRecDepth 100000 in
set_option maxHeartbeats 2000000 in
theorem laid8_whole {a : Option Addr} {n cap : Nat} {bs : List Nat} {w : World} (hr : Rd w (.slice a n cap) bs) (hcut : n ≤ 5000) :
  Calls Tryz.prog 23 #[.slice a n cap] w fun e w' => ∃ u, e = .returned u ∧ Laid w' w.heap.size u bs ∧ Below w.heap.size w w' := by
 obtain ⟨hn, hle, hm, hl48⟩ := rd_lens hr
 have hcut' : (n : Int) ≤ (5000 : Int) := by omega
 have HK : Hid (bs.length = n) := hn.symm
 clear hn
 go_enter Tryz.func23, Tryz.ntmps23
 go_wp2_with (at_builtin; refine wpList_append_at rfl _ _ rfl w.heap.size none 0 0 [] rfl ⟨rfl, World.ownsRow_nil _ _ _ _⟩ a n cap bs rfl hr (by omega) (Nat.le_refl _) ?_; intro a1 m1 k1 w1 own1 hb1; rw [List.nil_append] at own1; refine Hid.out ?_)
 refine Lib.hid ?_
 have hm1 : Hid (m1 = n) := by unfold Hid; rw [own1.1]; exact HK.out
 have hm1b : m1 ≤ 20000 := by have := hm1.out; omega
 go_wp2_with (at_builtin; refine wpList_append_new rfl _ _ rfl w.heap.size a1 m1 k1 _ rfl own1 [_, _, _, _, _] 5 rfl marks5 rfl rfl (by omega) hb1.size ?_; intro a6 m6 k6 w6 own6 hb6; refine Hid.out ?_)
 refine Lib.hid ?_
 have B6 := hb1.trans hb6
 have hm6 : Hid (m6 = n + 5) := by unfold Hid; rw [own6.1, List.length_append, ← own1.1, hm1.out]; rfl
 clear own1 hb1 hb6
 go_wp2
 go_loopw [3, 4] (fun s i wr => ∃ t a m c, t ≤ 70 ∧ i = .int .i64 ((t : Nat) : Int) ∧ s = .slice a m c ∧ Own wr w.heap.size (.slice a m c) m ((bs ++ marks5) ++ List.replicate t 206) ∧ Below w.heap.size w wr) (fun _ i _ => 70 - (intOf i).toNat)
 case atStart => exact ⟨0, a6, m6, k6, by omega, rfl, rfl, by simpa using own6, B6⟩
 case round =>
  obtain ⟨t, a7, m7, k7, ht, rfl, rfl, own7, B7⟩ := hrel
  have hm7 : Hid (m7 = n + 5 + t) := by unfold Hid; rw [own7.1, List.length_append, List.length_append, HK.out, List.length_replicate]; rfl
  have hm7b : m7 ≤ 20100 := by have := hm7.out; omega
  by_cases hlt : t < 70
  ·have hlt' : (t : Int) < 70 := by omega
   go_wp2_with (at_builtin; refine wpList_append_new rfl _ _ rfl w.heap.size a7 m7 k7 _ rfl own7 [_] 1 rfl [206] rfl rfl (by omega) B7.size ?_; intro a8 m8 k8 w8 own8 hb8)
   go_roundw
   case rel => exact ⟨t + 1, a8, m8, k8, by omega, by go_num, rfl, by rw [List.append_assoc, ← List.replicate_succ'] at own8; exact own8, B7.trans hb8⟩
   case measure => simp [intOf]; omega
  ·have hge : (70 : Int) ≤ (t : Int) := by omega
   obtain rfl : t = 70 := by omega
   obtain ⟨g, he, hc1, hc2⟩ : ∃ g, a7 = some ⟨g, 0, none⟩ ∧ m7 ≤ k7 ∧ k7 ≤ maxLen := by
    rcases own7.2.2 with ⟨h1, h2⟩ | ⟨g, cp, cur, h1, h2, h3, h4, h5, h6⟩
    ·have := hm7.out; omega
    ·simp only [Value.slice.injEq] at h1
     exact ⟨g, h1.1, by omega, by omega⟩
   subst he
   have j1 : (n : Int) ≤ (k7 : Int) := by have := hm7.out; omega
   have j2 : (0 : Int) ≤ (n : Int) := by omega
   go_wp2
   go_ret
   refine ⟨_, rfl, ?_, B7⟩
   have e7 : m7 = (bs).length + 75 := by rw [hm7.out, HK.out]
   subst e7
   refine ⟨g, k7, by rw [HK.out]; simp, by omega, hc2, own7⟩

theorem laid8_any {v : Value} {bs : List Nat} {w : World} (hr : Rd w v bs) :
  Calls Tryz.prog 23 #[v] w fun e w' => ∃ u, e = .returned u ∧ Laid w' w.heap.size u (bs.take 5000) ∧ Below w.heap.size w w' := by
 obtain ⟨a, n, cap, rfl⟩ := rd_slice hr
 by_cases h : 5000 < n
 ·exact laid8_cut hr h
 ·have e : bs.take 5000 = bs := List.take_of_length_le (by rw [← (rd_lens hr).1]; omega)
  rw [e]
  exact laid8_whole hr (by omega)

set_option maxRecDepth 100000 in
set_option maxHeartbeats 1000000 in
theorem intact8_any {u v : Value} {B : Nat} {bs : List Nat} {w : World} (hl : Laid w B u bs) (hv : Rd w v bs) (h20 : bs.length ≤ 20000) :
  Calls Tryz.prog 70 #[u, v] w fun e w' => e = .returned (.bool true) ∧ Below w.heap.size w w' := by
 have ru := hl.rd hv.1 (by omega)
 obtain ⟨g, c, rfl, h2, h3, h4⟩ := hl
 have rall := Laid.all h4 hv.1 (by omega)
 obtain ⟨a, n, cap, rfl⟩ := rd_slice hv
 have hn : n = bs.length := (rd_lens hv).1
 have HM : Hid (∀ w', Below w.heap.size w w' → Rd w' (.slice (some ⟨g, n, none⟩) 5 (c - n)) marks5) := fun w' hb => by
  have r1 := ((rall.later hb).upto (bs.length + 5) (by omega)).past bs.length (by omega) (off' := n) (n' := 5) (cap' := c - n) (by omega) (by omega) (by omega)
  have e : (((bs ++ marks5) ++ List.replicate 70 206).take (bs.length + 5)).drop bs.length = marks5 := by
   have e1 : (((bs ++ marks5) ++ List.replicate 70 206).take (bs.length + 5)) = bs ++ marks5 := by
    rw [List.take_append_of_le_length (by simp [marks5]), List.take_of_length_le (by simp [marks5])]
   rw [e1, List.drop_left]
  rw [e] at r1
  exact r1
 have HN : Hid (n = bs.length) := hn
 have q1 : ((n : Int) + 5 ≤ (c : Int)) := by omega
 have q2 : (0 : Int) ≤ (n : Int) := by omega
 have q3 : (n : Int) ≤ 20000 := by omega
 rw [← hn] at ru ⊢
 clear h4 rall hn
 go_enter Tryz.func70, Tryz.ntmps70
 go_wp2_with fail
 refine (same8_true ru hv).mono ?_
 rintro e w1 ⟨rfl, hb1⟩
 have hb2 := hb1.trans (((Below.refl w1.heap.size w1).alloc (Nat.le_refl _) (.cells (bv marks5).toArray 5)).mono hb1.size)
 have rm : Rd (w1.alloc (.cells (bv marks5).toArray 5)) (.slice (some ⟨w1.heap.size, 0, none⟩) 5 5) marks5 := by
  have o : Own (w1.alloc (.cells (bv marks5).toArray 5)) w1.heap.size (.slice (some ⟨w1.heap.size, 0, none⟩) 5 5) 5 marks5 := ⟨rfl, rfl, .inr ⟨w1.heap.size, 5, (bv marks5).toArray, rfl, Nat.le_refl _, heap_new w1 _, Nat.le_refl _, by decide, rfl, rfl⟩⟩
  exact o.rd marks5_bys (by decide)
 have rm2 := HM.out _ hb2
 have HRM : Hid (_ ∧ _ ∧ _) := ⟨rm, rm2, hb2⟩
 clear rm rm2 hb2 HM
 simp only [bv, marks5, List.map_cons, List.map_nil] at HRM
 go_wp2_with fail
 refine (same8_true HRM.out.2.1 HRM.out.1).mono ?_
 rintro e w3 ⟨rfl, hb3⟩
 go_wp2
 go_ret
 exact ⟨rfl, HRM.out.2.2.trans (hb3.mono HRM.out.2.2.size)⟩
def ApE (D : EntD) : Prop := (∀ g, D.vr.ownBlock = some g → D.vq.ownBlock ≠ some g) ∧ (∀ g, D.vr.ownBlock = some g → D.vv.ownBlock ≠ some g) ∧ (∀ g, D.vq.ownBlock = some g → D.vv.ownBlock ≠ some g)
theorem Laid.own_lt {w : World} {B : Nat} {u : Value} {bs : List Nat} (h : Laid w B u bs) : ∀ g, u.ownBlock = some g → B ≤ g ∧ g < w.heap.size := by
 obtain ⟨g2, c, rfl, h2, h3, h4⟩ := h
 intro g hg
 exact h4.2.lt g hg
def Within (D : EntD) (lo hi : Nat) : Prop := ∀ g, D.vr.ownBlock = some g ∨ D.vq.ownBlock = some g ∨ D.vv.ownBlock = some g → lo ≤ g ∧ g < hi
set_option maxRecDepth 100000 in
set_option maxHeartbeats 4000000 in
theorem entry8_any {e : EntD} {w : World} (hok : EntD.Ok w e) :
  Calls Tryz.prog 6 #[.agg e.cells] w fun r w' => ∃ D : EntD, r = .returned (.agg D.cells) ∧ EntD.Same D e.cut ∧ LaidE w' w.heap.size D ∧ Below w.heap.size w w' ∧ ApE D := by
 have A0 := (Below.refl w.heap.size w).alloc (Nat.le_refl _) (.cells e.cells 38)
 have A1 := A0.alloc A0.size (.cells zeroD.cells 38)
 have bx1 : Hid (EBox ((w.alloc (.cells e.cells 38)).alloc (.cells zeroD.cells 38)) w.heap.size e) := (EBox.new w e).later ((Below.refl _ _).alloc (Nat.le_refl _) _)
 have bg0 := EBox.new (w.alloc (.cells e.cells 38)) zeroD
 rw [World.size_alloc] at bg0
 have bg1 := Lib.hid bg0
 have HK : Hid (EntD.Ok w e) := hok
 clear hok bg0 A0
 obtain ⟨vr, fam, vq, ts, seq, kind, vv, row, qual, val⟩ := e
 simp only [EntD.cells, zeroD] at *
 go_enter Tryz.func6, Tryz.ntmps6
 go_wp2_with fail
 refine (laid8_any (HK.out.1.later A1)).mono ?_
 rintro q w1 ⟨u1, rfl, l1, hb1⟩
 obtain ⟨a1, n1, k1, rfl⟩ := l1.form
 have hs1 : w.heap.size + 2 ≤ w1.heap.size := by have := hb1.size; simpa using this
 have B1 := (A1.trans (hb1.mono A1.size)).setCell (p := ⟨w.heap.size, 0, none⟩) (Nat.le_refl _) (.slice a1 n1 k1)
 have bx2 := bx1.out.later hb1
 have c0 := bx2.vr
 have f0 := bx2.fz 0
 have bx3 := bx2.set0 (.slice a1 n1 k1) (row.take 5000)
 have x2 := bx3.vq
 simp only at x2 c0
 have L1 : Hid (Laid (w1.setCell ⟨w.heap.size, 0, none⟩ (.slice a1 n1 k1)) (w.heap.size + 2) (.slice a1 n1 k1) (row.take 5000)) := (by have := l1; simp at this; exact this : Laid w1 (w.heap.size + 2) (.slice a1 n1 k1) (row.take 5000)).put (by omega)
 have HX3 := Lib.hid bx3
 have GA : Hid (∀ g, (Value.slice a1 n1 k1).ownBlock = some g → g < w1.heap.size) := fun g hg => (l1.own_lt g hg).2
 have bg2 := Lib.hid ((bg1.out.later hb1).apart (apart_set w1 w.heap.size 0 (.slice a1 n1 k1)) (by omega))
 clear l1 hb1 A1 bx1 bx2 bx3 bg1
 go_wp2_with fail
 refine (laid8_any (HK.out.2.1.later B1)).mono ?_
 rintro q w2 ⟨u2, rfl, l2, hb2⟩
 obtain ⟨a2, n2, k2, rfl⟩ := l2.form
 have hs2 : w.heap.size + 2 ≤ w2.heap.size := Nat.le_trans (by simpa using hs1) hb2.size
 have hsz2 : Hid (w1.heap.size ≤ w2.heap.size) := by unfold Hid; have := hb2.size; simpa using this
 have B2 := (B1.trans (hb2.mono B1.size)).setCell (p := ⟨w.heap.size, 2, none⟩) (Nat.le_refl _) (.slice a2 n2 k2)
 have bx4 := HX3.out.later hb2
 have c2 := bx4.vq
 have f2 := bx4.fz 2
 have bx5 := bx4.set2 (.slice a2 n2 k2) (qual.take 5000)
 have x6 := bx5.vv
 simp only at x6 c2
 have L2 : Hid (Laid (w2.setCell ⟨w.heap.size, 2, none⟩ (.slice a2 n2 k2)) (w.heap.size + 2) (.slice a1 n1 k1) (row.take 5000) ∧ Laid (w2.setCell ⟨w.heap.size, 2, none⟩ (.slice a2 n2 k2)) (w.heap.size + 2) (.slice a2 n2 k2) (qual.take 5000)) := ⟨(L1.out.later hb2).put (by omega), (l2.mono (by simpa using hs1)).put (by omega)⟩
 have HX5 := Lib.hid bx5
 have GB : Hid (∀ g, (Value.slice a2 n2 k2).ownBlock = some g → w1.heap.size ≤ g ∧ g < w2.heap.size) := fun g hg => by have := l2.own_lt g hg; simpa using this
 have bg3 := Lib.hid ((bg2.out.later hb2).apart (apart_set w2 w.heap.size 2 (.slice a2 n2 k2)) (by omega))
 clear l2 hb2 bx4 bx5 HX3 L1 c0 f0 x2 B1 bg2
 go_wp2_with fail
 refine (laid8_any (HK.out.2.2.later B2)).mono ?_
 rintro q w3 ⟨u3, rfl, l3, hb3⟩
 obtain ⟨a3, n3, k3, rfl⟩ := l3.form
 have B3 := (B2.trans (hb3.mono B2.size)).setCell (p := ⟨w.heap.size, 6, none⟩) (Nat.le_refl _) (.slice a3 n3 k3)
 have bx6 := HX5.out.later hb3
 have bx7 := bx6.set6 (.slice a3 n3 k3) (val.take 5000)
 have L3 : Laid (w3.setCell ⟨w.heap.size, 6, none⟩ (.slice a3 n3 k3)) (w.heap.size + 2) (.slice a1 n1 k1) (row.take 5000) ∧ Laid (w3.setCell ⟨w.heap.size, 6, none⟩ (.slice a3 n3 k3)) (w.heap.size + 2) (.slice a2 n2 k2) (qual.take 5000) ∧ Laid (w3.setCell ⟨w.heap.size, 6, none⟩ (.slice a3 n3 k3)) (w.heap.size + 2) (.slice a3 n3 k3) (val.take 5000) := ⟨(L2.out.1.later hb3).put (by omega), (L2.out.2.later hb3).put (by omega), (l3.mono (by simpa using hs2)).put (by omega)⟩
 have bg4 := (bg3.out.later hb3).apart (apart_set w3 w.heap.size 6 (.slice a3 n3 k3)) (by omega)
 have GC : Hid (∀ g, (Value.slice a3 n3 k3).ownBlock = some g → w2.heap.size ≤ g) := fun g hg => by have := (l3.own_lt g hg).1; simpa using this
 have GS : Hid (w1.heap.size ≤ w2.heap.size) := by unfold Hid; have := hsz2.out; exact this
 obtain ⟨D, hD⟩ : ∃ D : EntD, D = ⟨(.slice a1 n1 k1), fam, (.slice a2 n2 k2), ts, seq, kind, (.slice a3 n3 k3), row.take 5000, qual.take 5000, val.take 5000⟩ := ⟨_, rfl⟩
 have fb := filled_box bg4 D
 have bw := B3.trans ((filled_apart (w3.setCell ⟨w.heap.size, 6, none⟩ (.slice a3 n3 k3)) (w.heap.size + 1) D).below (by omega) B3.size)
 have L4 : Laid (filled (w3.setCell ⟨w.heap.size, 6, none⟩ (.slice a3 n3 k3)) (w.heap.size + 1) D) (w.heap.size + 2) (.slice a1 n1 k1) (row.take 5000) ∧ Laid (filled (w3.setCell ⟨w.heap.size, 6, none⟩ (.slice a3 n3 k3)) (w.heap.size + 1) D) (w.heap.size + 2) (.slice a2 n2 k2) (qual.take 5000) ∧ Laid (filled (w3.setCell ⟨w.heap.size, 6, none⟩ (.slice a3 n3 k3)) (w.heap.size + 1) D) (w.heap.size + 2) (.slice a3 n3 k3) (val.take 5000) := ⟨L3.1.fill (by omega), L3.2.1.fill (by omega), L3.2.2.fill (by omega)⟩
 rw [hD] at fb bw L4
 have HDN : Hid (_ ∧ _ ∧ _) := ⟨fb, bw, L4⟩
 obtain ⟨z0, z1, z2, z3, z4, z5, z6⟩ := bx6.cells7
 obtain ⟨zf0, zf1, zf2, zf3, zf4, zf5, zf6⟩ := bx6.fz7
 obtain ⟨y0, y1, y2, y3, y4, y5, y6⟩ := bx7.cells7
 obtain ⟨g0, g1, g2, g3, g4, g5, g6⟩ := bg4.cells7
 obtain ⟨gf0, gf1, gf2, gf3, gf4, gf5, gf6⟩ := bg4.fz7
 simp only at y0 y1 y2 y3 y4 y5 y6 g0 g1 g2 g3 g4 g5 g6 z6
 clear l3 hb3 bx6 bx7 HX5 L2 L3 L4 c2 f2 x6 B2 B3 fb bw bg4 bg3 hD z0 z1 z2 z3 z4 z5
 simp only [filled] at HDN
 go_wp2
 obtain ⟨fb, bw, L4⟩ := HDN.out
 clear HDN
 generalize ((((((((w3.setCell ⟨w.heap.size, 6, none⟩ (.slice a3 n3 k3)).setCell ⟨w.heap.size + 1, 0, none⟩ (.slice a1 n1 k1)).setCell ⟨w.heap.size + 1, 1, none⟩ (.int .i64 fam)).setCell ⟨w.heap.size + 1, 2, none⟩ (.slice a2 n2 k2)).setCell ⟨w.heap.size + 1, 3, none⟩ (.int .i64 ts)).setCell ⟨w.heap.size + 1, 4, none⟩ (.int .i64 seq)).setCell ⟨w.heap.size + 1, 5, none⟩ (.int .i64 kind)).setCell ⟨w.heap.size + 1, 6, none⟩ (.slice a3 n3 k3)) = wz at fb bw L4 ⊢
 obtain ⟨t0, t1, t2, t3, t4, t5, t6⟩ := fb.cells7
 simp only at t0 t1 t2 t3 t4 t5 t6
 (try simp only [Exit.inBlock, Exit.then])
 refine bodyPost_ret (v := .agg #[(.slice a1 n1 k1), .int .i64 fam, (.slice a2 n2 k2), .int .i64 ts, .int .i64 seq, .int .i64 kind, (.slice a3 n3 k3)]) ?hres rfl ?_
 case hres => simp [results, Tryz.results6, go_sem, t0, t1, t2, t3, t4, t5, t6]
 exact ⟨⟨(.slice a1 n1 k1), fam, (.slice a2 n2 k2), ts, seq, kind, (.slice a3 n3 k3), row.take 5000, qual.take 5000, val.take 5000⟩, rfl, ⟨rfl, rfl, rfl, rfl, rfl, rfl, rfl⟩, LaidE.mono ⟨L4.1, L4.2.1, L4.2.2⟩ (by omega), bw, ⟨fun g hg h => by have h1 := GA.out g hg; have h2 := (GB.out g h).1; omega, fun g hg h => by have h1 := GA.out g hg; have h2 := GC.out g h; have := GS.out; omega, fun g hg h => by have h1 := (GB.out g hg).2; have h2 := GC.out g h; omega⟩⟩


set_option maxRecDepth 100000 in
set_option maxHeartbeats 4000000 in
theorem stands8_any {a b : EntD} {B : Nat} {w : World} (ha : LaidE w B a) (hb : EntD.Ok w b) (h : EntD.Same a b) (hf : EntD.Fine a) :
  Calls Tryz.prog 46 #[.agg a.cells, .agg b.cells] w fun r w' => r = .returned (.bool true) ∧ Below w.heap.size w w' := by
 have A1 := (Below.refl w.heap.size w).alloc (Nat.le_refl _) (.cells a.cells 38)
 have A2 := A1.alloc A1.size (.cells b.cells 38)
 have bxa0 := (EBox.new w a).later ((Below.refl (w.alloc (.cells a.cells 38)).heap.size (w.alloc (.cells a.cells 38))).alloc (Nat.le_refl _) (.cells b.cells 38))
 have bxb0 := EBox.new (w.alloc (.cells a.cells 38)) b
 rw [World.size_alloc] at bxb0
 have HX : Hid (EBox _ w.heap.size a ∧ EBox _ (w.heap.size + 1) b ∧ Below w.heap.size w _) := ⟨bxa0, bxb0, A2⟩
 have HA : Hid (LaidE w B a) := ha
 have HB : Hid (EntD.Ok w b) := hb
 have HF : Hid (EntD.Fine a) := hf
 clear A1 A2 bxa0 bxb0 ha hb hf
 obtain ⟨e1, e2, e3, e4, e5, e6, e7⟩ := h
 obtain ⟨va, fa, qa, ta, sa, ka, wa, ra, la, ya⟩ := a
 obtain ⟨vb, fb, qb, tb, sb, kb, wb, rb, lb, yb⟩ := b
 simp only at e1 e2 e3 e4 e5 e6 e7
 subst e1 e2 e3 e4 e5 e6 e7
 simp only [EntD.cells] at *
 go_enter Tryz.func46, Tryz.ntmps46
 go_wp2_with fail
 refine (intact8_any (HA.out.1.later HX.out.2.2) (HB.out.1.later HX.out.2.2) (by have := HF.out.1.2; simp only at this ⊢; omega)).mono ?_
 rintro e w1 ⟨rfl, hb1⟩
 have B1 := HX.out.2.2.trans (hb1.mono HX.out.2.2.size)
 have bxa1 : Hid (EBox w1 w.heap.size _) := HX.out.1.later hb1
 have bxb1 : Hid (EBox w1 (w.heap.size + 1) _) := HX.out.2.1.later hb1
 have x2 := bxa1.out.vq
 have y2 := bxb1.out.vq
 simp only at x2 y2
 clear HX hb1
 go_wp2_with fail
 refine (intact8_any (HA.out.2.1.later B1) (HB.out.2.1.later B1) (by have := HF.out.2.1.2; simp only at this ⊢; omega)).mono ?_
 rintro e w2 ⟨rfl, hb2⟩
 have B2 := B1.trans (hb2.mono B1.size)
 have x6 := (bxa1.out.later hb2).vv
 have y6 := (bxb1.out.later hb2).vv
 simp only at x6 y6
 clear hb2 bxa1 bxb1 x2 y2 B1
 go_wp2_with fail
 refine (intact8_any (HA.out.2.2.later B2) (HB.out.2.2.later B2) (by have := HF.out.2.2.2; simp only at this ⊢; omega)).mono ?_
 rintro e w3 ⟨rfl, hb3⟩
 go_wp2
 go_ret
 exact ⟨rfl, B2.trans (hb3.mono B2.size)⟩

end Go.Proofs.YtpabbnddeklpdaaGreat
