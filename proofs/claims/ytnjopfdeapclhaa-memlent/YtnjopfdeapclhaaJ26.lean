import Derived.Test.YtnjopfdeapclhaaJ25
namespace Go.Proofs.Ytnjopfdeapclhaa
open Go.RowKit Go.Shelf
set_option linter.unusedVariables false

set_option maxRecDepth 100000 in
set_option maxHeartbeats 1000000 in
theorem copied8_any {v : Value} {bs : List Nat} {w : World} (hr : Rd w v bs) (hl : bs.length ≤ 140737488355328) :
    Calls Try.prog 46 #[v] w fun e w' => ∃ a m c, e = .returned (.slice a m c) ∧ Own w' w.heap.size (.slice a m c) m bs ∧ Below w.heap.size w w' := by
  obtain ⟨a, n, cap, rfl⟩ := rd_slice hr
  obtain ⟨hn, hle, hm, hl48⟩ := rd_lens hr
  rw [← hn] at hl
  clear hn
  go_enter Try.func46, Try.ntmps46
  go_wp2_with (at_builtin; refine wpList_append_at rfl _ _ rfl w.heap.size none 0 0 [] rfl ⟨rfl, World.ownsRow_nil _ _ _ _⟩ a n cap bs rfl hr (by omega) (Nat.le_refl _) ?_; intro a5 m5 c5 w5 own5 hb5)
  go_ret
  exact ⟨a5, m5, c5, rfl, by simpa using own5, hb5⟩

/-- The list from the t-th entry on. -/
theorem RdL.drop {w : World} {b off n cap : Nat} {xs : List EntD} (h : RdL w (.slice (some ⟨b, off, none⟩) n cap) xs) {t : Nat} (ht : t ≤ n) : RdL w (.slice (some ⟨b, off + t * 7, none⟩) (n - t) (cap - t)) (xs.drop t) := by
  obtain ⟨a, c, h1, h2, h3, h4, h0, h5⟩ := h
  cases h1
  refine ⟨_, _, by rw [List.length_drop], by rw [List.length_drop]; omega, by omega, by rw [List.length_drop]; omega, .inr ⟨_, _, rfl⟩, fun i x hx => ?_⟩
  rw [List.getElem?_drop] at hx
  obtain ⟨k1, b', off', k2, k3⟩ := h5 _ _ hx
  cases k2
  exact ⟨k1, b, _, rfl, by rw [show off + t * 7 + i * 7 = off + (t + i) * 7 from by omega]; exact k3⟩
theorem drop_while {α : Type} {p : α → Bool} : ∀ {l : List α} {t : Nat} {x : α}, (∀ y ∈ l.take t, p y = true) → l[t]? = some x → p x = false → l.dropWhile p = l.drop t
  | [], t, x, _, h, _ => by simp at h
  | y :: l, 0, x, _, h, hx => by simp at h; subst h; rw [List.dropWhile_cons, if_neg (by simp [hx])]; rfl
  | y :: l, t + 1, x, h1, h, hx => by
    rw [List.dropWhile_cons, if_pos (h1 y (by simp))]
    exact drop_while (fun z hz => h1 z (by simp [hz])) (by simpa using h) hx
theorem mem_take_succ {α : Type} {l : List α} {t : Nat} {x y : α} (hx : l[t]? = some x) (h : y ∈ l.take (t + 1)) : y ∈ l.take t ∨ y = x := by
  rw [List.take_add_one, hx] at h
  simpa using h

/-- The box of a table of the reference. -/
def RBx (w : World) (b : Nat) (v : Value) (f : Bool) : Prop := w.heap[b]? = some (.cells #[v, .bool f] 44 (0, 0))
theorem RBx.later {w w' : World} {b : Nat} {v : Value} {f : Bool} (h : RBx w b v f) (hb : Below w.heap.size w w') : RBx w' b v f := (hb.block b (Array.getElem?_eq_some_iff.1 h).1).trans h
theorem RBx.c0 {w : World} {b : Nat} {v : Value} {f : Bool} (h : RBx w b v f) : w.cell? ⟨b, 0, none⟩ = some v := by unfold RBx at h; simp [World.cell?, h]
theorem RBx.c1 {w : World} {b : Nat} {v : Value} {f : Bool} (h : RBx w b v f) : w.cell? ⟨b, 1, none⟩ = some (.bool f) := by unfold RBx at h; simp [World.cell?, h]
theorem RBx.new (w : World) (v : Value) (f : Bool) : RBx (w.alloc (.cells #[v, .bool f] 44)) w.heap.size v f := World.alloc_heap_new w _

set_option maxRecDepth 100000 in
set_option maxHeartbeats 4000000 in
theorem refFrom_any {w : World} {lv : Value} {L : List EntD} {f : Bool} {e : EntD} (hl : RdL w lv L) (he : EntD.Ok w e) :
    Calls Try.prog 22 #[.agg #[lv, .bool f], .agg e.cells] w fun z w' => ∃ v, z = .returned v ∧ RdL w' v (L.dropWhile (fun y => decide (compareS y e < 0))) ∧ Below w.heap.size w w' := by
  have HL := Lib.hid hl
  have A1 := (Below.refl w.heap.size w).alloc (Nat.le_refl _) (.cells #[lv, .bool f] 44)
  have A2 := A1.alloc A1.size (.cells e.cells 30)
  have bt := (RBx.new w lv f).later ((Below.refl _ (w.alloc (.cells #[lv, .bool f] 44))).alloc (Nat.le_refl _) (.cells e.cells 30))
  have be := EBox.new (w.alloc (.cells #[lv, .bool f] 44)) e
  rw [World.size_alloc] at be
  obtain ⟨a, ca, rfl, a1, a2, a3, -, a4⟩ := hl
  obtain ⟨n, hn⟩ : ∃ n, n = L.length := ⟨_, rfl⟩
  rw [← hn] at a1 a3 HL A1 A2 bt be ⊢
  have HN : Hid (L.length = n) := hn.symm
  have HA4 := Lib.hid a4
  have HE := Lib.hid he
  obtain ⟨V, hV⟩ : ∃ V, V = (w.alloc (.cells #[.slice a n ca, .bool f] 44)).alloc (.cells e.cells 30) := ⟨_, rfl⟩
  rw [← hV] at A2 bt be
  have HV : Hid (V = _) := hV
  unfold EntD.cells at HV
  have HA2 := Lib.hid A2
  have c0 := bt.c0
  have KB : Hid (∀ wx, Below V.heap.size V wx → wx.cell? ⟨w.heap.size, 0, none⟩ = some (.slice a n ca) ∧ wx.cell? ⟨w.heap.size + 1, 0, none⟩ = some e.vr ∧ wx.cell? ⟨w.heap.size + 1, 1, none⟩ = some (.int .i64 e.fam) ∧ wx.cell? ⟨w.heap.size + 1, 2, none⟩ = some e.vq ∧ wx.cell? ⟨w.heap.size + 1, 3, none⟩ = some (.int .i64 e.ts) ∧ wx.cell? ⟨w.heap.size + 1, 4, none⟩ = some (.int .i64 e.seq) ∧ wx.cell? ⟨w.heap.size + 1, 5, none⟩ = some (.int .i64 e.kind) ∧ wx.cell? ⟨w.heap.size + 1, 6, none⟩ = some e.vv) := fun wx b => by
    have k1 := bt.later b
    have k2 := be.later b
    exact ⟨k1.c0, k2.vr, k2.fam, k2.vq, k2.ts, k2.seq, k2.kind, k2.vv⟩
  clear hn a4 he hV A1 A2 bt be c0
  unfold EntD.cells
  go_enter Try.func22, Try.ntmps22
  go_wp2
  rw [← HV.out]
  go_loopw [5] (fun i wr => ∃ t : Nat, t ≤ n ∧ i = .int .i64 (t : Int) ∧ Hid (∀ y ∈ L.take t, compareS y e < 0) ∧ Below V.heap.size V wr) (fun i _ => n - (intOf i).toNat)
  case atStart => exact ⟨0, by omega, rfl, (fun y hy => by simp at hy), Below.refl _ _⟩
  case round =>
    obtain ⟨t, htn, rfl, HT, hbk⟩ := hrel
    have HBK := Lib.hid hbk
    obtain ⟨c0, d0, d1, d2, d3, d4, d5, d6⟩ := KB.out _ hbk
    by_cases h1 : t < n
    · have h1' : (t : Int) < (n : Int) := by omega
      have ht0 : (0 : Int) ≤ (t : Int) := by omega
      obtain ⟨x, hx⟩ : ∃ x, L[t]? = some x := ⟨L[t]'(by rw [HN.out]; exact h1), by simp⟩
      obtain ⟨ox, ba, oa, rfl, cx⟩ := HA4.out t x hx
      have KS : Hid (∀ wx, Below wr.heap.size wr wx → (wx.cell? ⟨w.heap.size, 0, none⟩ = some (.slice (some ⟨ba, oa, none⟩) n ca) ∧ wx.cell? ⟨w.heap.size + 1, 0, none⟩ = some e.vr ∧ wx.cell? ⟨w.heap.size + 1, 1, none⟩ = some (.int .i64 e.fam) ∧ wx.cell? ⟨w.heap.size + 1, 2, none⟩ = some e.vq ∧ wx.cell? ⟨w.heap.size + 1, 3, none⟩ = some (.int .i64 e.ts) ∧ wx.cell? ⟨w.heap.size + 1, 4, none⟩ = some (.int .i64 e.seq) ∧ wx.cell? ⟨w.heap.size + 1, 5, none⟩ = some (.int .i64 e.kind) ∧ wx.cell? ⟨w.heap.size + 1, 6, none⟩ = some e.vv) ∧ (wx.cell? ⟨ba, oa + t * 7, none⟩ = some x.vr ∧ wx.cell? ⟨ba, oa + t * 7 + 1, none⟩ = some (.int .i64 x.fam) ∧ wx.cell? ⟨ba, oa + t * 7 + 2, none⟩ = some x.vq ∧ wx.cell? ⟨ba, oa + t * 7 + 3, none⟩ = some (.int .i64 x.ts) ∧ wx.cell? ⟨ba, oa + t * 7 + 4, none⟩ = some (.int .i64 x.seq) ∧ wx.cell? ⟨ba, oa + t * 7 + 5, none⟩ = some (.int .i64 x.kind) ∧ wx.cell? ⟨ba, oa + t * 7 + 6, none⟩ = some x.vv)) := fun wx b => by
        have k := (HBK.out.trans (b.mono HBK.out.size))
        exact ⟨KB.out _ k, cx.later (HA2.out.trans (k.mono HA2.out.size))⟩
      have HC : Hid (∀ Z, Below wr.heap.size wr Z → Calls Try.prog 15 #[.agg #[x.vr, .int .i64 x.fam, x.vq, .int .i64 x.ts, .int .i64 x.seq, .int .i64 x.kind, x.vv], .agg #[e.vr, .int .i64 e.fam, e.vq, .int .i64 e.ts, .int .i64 e.seq, .int .i64 e.kind, e.vv]] Z fun r w' => r = .returned (.int .i64 (compareS x e)) ∧ Below Z.heap.size Z w') := fun Z hZ => by
        have k := (HBK.out.trans (hZ.mono HBK.out.size))
        have k2 := HA2.out.trans (k.mono HA2.out.size)
        exact refCompare_any (ox.later k2) (HE.out.later k2)
      have HX : Hid (compareS x e < 0 → ∀ y ∈ L.take (t + 1), compareS y e < 0) := fun hc y hy => by
        rcases mem_take_succ hx hy with h | rfl
        · exact HT.out y h
        · exact hc
      have HD : Hid (¬ compareS x e < 0 → L.dropWhile (fun y => decide (compareS y e < 0)) = L.drop t) := fun hc => drop_while (fun y hy => by simpa using HT.out y hy) hx (by simpa using hc)
      obtain ⟨cc, hcc⟩ : ∃ cc, cc = compareS x e := ⟨_, rfl⟩
      rw [← hcc] at HC HX HD
      have D0 : Below wr.heap.size wr wr.drew := (Below.refl _ _).drew
      clear hx ox cx hbk hcc HT
      by_cases hcz : cc < 0
      · have hd : ¬ (0 : Int) ≤ cc := by omega
        go_wp2_with fail
        go_region_held3 (fun wx => (wx.cell? ⟨w.heap.size, 0, none⟩ = some (.slice (some ⟨ba, oa, none⟩) n ca) ∧ wx.cell? ⟨w.heap.size + 1, 0, none⟩ = some e.vr ∧ wx.cell? ⟨w.heap.size + 1, 1, none⟩ = some (.int .i64 e.fam) ∧ wx.cell? ⟨w.heap.size + 1, 2, none⟩ = some e.vq ∧ wx.cell? ⟨w.heap.size + 1, 3, none⟩ = some (.int .i64 e.ts) ∧ wx.cell? ⟨w.heap.size + 1, 4, none⟩ = some (.int .i64 e.seq) ∧ wx.cell? ⟨w.heap.size + 1, 5, none⟩ = some (.int .i64 e.kind) ∧ wx.cell? ⟨w.heap.size + 1, 6, none⟩ = some e.vv) ∧ (wx.cell? ⟨ba, oa + t * 7, none⟩ = some x.vr ∧ wx.cell? ⟨ba, oa + t * 7 + 1, none⟩ = some (.int .i64 x.fam) ∧ wx.cell? ⟨ba, oa + t * 7 + 2, none⟩ = some x.vq ∧ wx.cell? ⟨ba, oa + t * 7 + 3, none⟩ = some (.int .i64 x.ts) ∧ wx.cell? ⟨ba, oa + t * 7 + 4, none⟩ = some (.int .i64 x.seq) ∧ wx.cell? ⟨ba, oa + t * 7 + 5, none⟩ = some (.int .i64 x.kind) ∧ wx.cell? ⟨ba, oa + t * 7 + 6, none⟩ = some x.vv)) (first | exact KS.out _ D1 | exact KS.out _ D0) ((go_at_call 15; refine Calls.mono (HC.out _ D0) ?_; rintro e1 w1 ⟨rfl, hb1⟩; have D1 := D0.trans (hb1.mono D0.size)))
        go_wp2
        go_roundw
        case rel => exact ⟨t + 1, by omega, by go_num, HX.out hcz, HBK.out.trans (D1.mono HBK.out.size)⟩
        case measure => simp [intOf]; omega
      · have hd : (0 : Int) ≤ cc := by omega
        have htn' : (t : Int) ≤ (n : Int) := by omega
        have htc' : (t : Int) ≤ (ca : Int) := by omega
        have hnc' : (n : Int) ≤ (ca : Int) := by omega
        go_wp2_with fail
        go_region_held3 (fun wx => (wx.cell? ⟨w.heap.size, 0, none⟩ = some (.slice (some ⟨ba, oa, none⟩) n ca) ∧ wx.cell? ⟨w.heap.size + 1, 0, none⟩ = some e.vr ∧ wx.cell? ⟨w.heap.size + 1, 1, none⟩ = some (.int .i64 e.fam) ∧ wx.cell? ⟨w.heap.size + 1, 2, none⟩ = some e.vq ∧ wx.cell? ⟨w.heap.size + 1, 3, none⟩ = some (.int .i64 e.ts) ∧ wx.cell? ⟨w.heap.size + 1, 4, none⟩ = some (.int .i64 e.seq) ∧ wx.cell? ⟨w.heap.size + 1, 5, none⟩ = some (.int .i64 e.kind) ∧ wx.cell? ⟨w.heap.size + 1, 6, none⟩ = some e.vv) ∧ (wx.cell? ⟨ba, oa + t * 7, none⟩ = some x.vr ∧ wx.cell? ⟨ba, oa + t * 7 + 1, none⟩ = some (.int .i64 x.fam) ∧ wx.cell? ⟨ba, oa + t * 7 + 2, none⟩ = some x.vq ∧ wx.cell? ⟨ba, oa + t * 7 + 3, none⟩ = some (.int .i64 x.ts) ∧ wx.cell? ⟨ba, oa + t * 7 + 4, none⟩ = some (.int .i64 x.seq) ∧ wx.cell? ⟨ba, oa + t * 7 + 5, none⟩ = some (.int .i64 x.kind) ∧ wx.cell? ⟨ba, oa + t * 7 + 6, none⟩ = some x.vv)) (first | exact KS.out _ D1 | exact KS.out _ D0) ((go_at_call 15; refine Calls.mono (HC.out _ D0) ?_; rintro e1 w1 ⟨rfl, hb1⟩; have D1 := D0.trans (hb1.mono D0.size); have c1 := (KB.out _ (HBK.out.trans (D1.mono HBK.out.size))).1))
        go_wp2
        go_ret
        have k := HBK.out.trans (D1.mono HBK.out.size)
        have k2 := HA2.out.trans (k.mono HA2.out.size)
        refine ⟨_, rfl, ?_, k2⟩
        rw [HD.out (by first | exact hcz | exact Int.not_lt.1 hcz)]
        have := (HL.out.later k2).drop (t := t) htn
        first | exact this | go_num
    · have h1' : (n : Int) ≤ (t : Int) := by omega
      have HZ : Hid (L.dropWhile (fun y => decide (compareS y e < 0)) = []) := dropWhile_all (fun y hy => by
        have := HT.out y (by rw [List.take_of_length_le (by rw [HN.out]; omega)]; exact hy)
        simpa using this)
      clear HT
      go_wp2
      go_ret
      exact ⟨_, rfl, by rw [HZ.out]; exact RdL.nil _, HA2.out.trans (HBK.out.mono HA2.out.size)⟩
end Go.Proofs.Ytnjopfdeapclhaa


namespace Go.Proofs.Ytnjopfdeapclhaa
open Go.RowKit Go.Shelf
set_option linter.unusedVariables false

set_option maxRecDepth 100000 in
set_option maxHeartbeats 4000000 in
theorem refBytes8_any {w : World} {lv : Value} {L : List EntD} {f : Bool} (hl : RdL w lv L) (hg : ∀ x ∈ L, checkS x = 0) :
    Calls Try.prog 29 #[.agg #[lv, .bool f]] w fun z w' => z = .returned (.int .i64 ((pk L : Nat) : Int)) ∧ Below w.heap.size w w' := by
  have A1 := (Below.refl w.heap.size w).alloc (Nat.le_refl _) (.cells #[lv, .bool f] 44)
  have bt := RBx.new w lv f
  have HP : Hid (∀ t x, L[t]? = some x → pk (L.take (t + 1)) = pk (L.take t) + (packL x).length ∧ (packL x).length ≤ 20000 ∧ checkS x = 0) := fun t x hx => by
    have hc := hg x (List.mem_of_getElem? hx)
    obtain ⟨_, _, _, _, _, _, _, a4⟩ := hl
    exact ⟨pk_take hx, packL_len (a4 t x hx).1 hc, hc⟩
  obtain ⟨a, ca, rfl, a1, a2, a3, -, a4⟩ := hl
  obtain ⟨n, hn⟩ : ∃ n, n = L.length := ⟨_, rfl⟩
  rw [← hn] at a1 a3 A1 bt ⊢
  have HN : Hid (L.length = n) := hn.symm
  have HA4 := Lib.hid a4
  obtain ⟨V, hV⟩ : ∃ V, V = (w.alloc (.cells #[.slice a n ca, .bool f] 44)) := ⟨_, rfl⟩
  rw [← hV] at A1 bt
  have HV : Hid (V = _) := hV
  have HA2 := Lib.hid A1
  have KB : Hid (∀ wx, Below V.heap.size V wx → wx.cell? ⟨w.heap.size, 0, none⟩ = some (.slice a n ca)) := fun wx b => (bt.later b).c0
  clear hn a4 hV A1 bt hg
  go_enter Try.func29, Try.ntmps29
  go_wp2
  rw [← HV.out]
  go_loopw [3, 4] (fun s i wr => ∃ t k : Nat, t ≤ n ∧ i = .int .i64 (t : Int) ∧ s = .int .i64 (k : Int) ∧ k ≤ 20000 * t ∧ Hid (k = pk (L.take t)) ∧ Below V.heap.size V wr) (fun s i _ => n - (intOf i).toNat)
  case atStart => exact ⟨0, 0, by omega, rfl, rfl, by omega, rfl, Below.refl _ _⟩
  case round =>
    obtain ⟨t, k, htn, rfl, rfl, hk, HK, hbk⟩ := hrel
    have HBK := Lib.hid hbk
    have c0 := KB.out _ hbk
    by_cases h1 : t < n
    · have h1' : (t : Int) < (n : Int) := by omega
      have ht0 : (0 : Int) ≤ (t : Int) := by omega
      obtain ⟨x, hx⟩ : ∃ x, L[t]? = some x := ⟨L[t]'(by rw [HN.out]; exact h1), by simp⟩
      obtain ⟨ox, ba, oa, rfl, cx⟩ := HA4.out t x hx
      obtain ⟨p1, p2, p3⟩ := HP.out t x hx
      have HC : Hid (∀ Z, Below wr.heap.size wr Z → Calls Try.prog 53 #[.agg #[x.vr, .int .i64 x.fam, x.vq, .int .i64 x.ts, .int .i64 x.seq, .int .i64 x.kind, x.vv]] Z fun r w' => ∃ a m c, r = .returned (.tuple #[.slice a m c, .int .i64 0]) ∧ Own w' Z.heap.size (.slice a m c) m (packL x) ∧ Below Z.heap.size Z w') := fun Z hZ => by
        have k := (HBK.out.trans (hZ.mono HBK.out.size))
        have k2 := HA2.out.trans (k.mono HA2.out.size)
        exact refPack_ok (ox.later k2) p3
      have HPk : Hid (pk (L.take (t + 1)) = pk (L.take t) + (packL x).length) := p1
      have HPl : Hid ((packL x).length ≤ 20000) := p2
      have cxl := cx.later (HA2.out.trans (HBK.out.mono HA2.out.size))
      obtain ⟨d0, d1, d2, d3, d4, d5, d6⟩ := cxl
      clear hx ox cx hbk p1 p2 p3
      go_wp2_with (go_at_call 53; refine Calls.mono (HC.out _ (by first | exact Below.refl _ _ | exact (Below.refl _ _).drew)) ?_; rintro z w1 ⟨ap, mp, cp, rfl, ownp, hb1⟩; have hmp := HPl.out; have hme : mp = (packL x).length := ownp.1; rw [← hme] at hmp; have HME := Lib.hid hme; clear hme ownp)
      go_roundw
      case rel => exact ⟨t + 1, k + mp, by omega, by go_num, by go_num, by omega, by unfold Hid; rw [HPk.out, ← HK.out, HME.out], HBK.out.trans (hb1.mono HBK.out.size)⟩
      case measure => simp [intOf]; omega
    · have h1' : (n : Int) ≤ (t : Int) := by omega
      have HZ : Hid (k = pk L) := by
        have := HK.out
        rwa [List.take_of_length_le (by rw [HN.out]; omega)] at this
      clear HK
      go_wp2
      go_ret
      exact ⟨by rw [HZ.out]; rfl, HA2.out.trans (HBK.out.mono HA2.out.size)⟩

/-- The beginning of a list. -/
theorem RdL.take {w : World} {a : Option Addr} {n cap : Nat} {xs : List EntD} (h : RdL w (.slice a n cap) xs) {t : Nat} (ht : t ≤ n) : RdL w (.slice a t cap) (xs.take t) := by
  obtain ⟨a', c, h1, h2, h3, h4, h0, h5⟩ := h
  cases h1
  refine ⟨_, _, by rw [List.length_take, Nat.min_eq_left ht], by rw [List.length_take]; omega, h3, by rw [List.length_take]; omega, h0, fun i x hx => ?_⟩
  rw [List.getElem?_take] at hx
  split at hx
  · exact h5 i x hx
  · cases hx
theorem evals_app (a b : List EntD) : evals (a ++ b) = evals a ++ evals b := by simp [evals]
theorem evals_len : ∀ (xs : List EntD), (evals xs).length = xs.length * 7
  | [] => rfl
  | x :: xs => by
    have h := evals_len xs
    have e : evals (x :: xs) = x.cells.toList ++ evals xs := by simp [evals]
    have e2 : x.cells.toList.length = 7 := rfl
    rw [e, List.length_append, h, e2, List.length_cons]
    omega
theorem evals_get7 : ∀ {xs : List EntD} {j : Nat} {u : Value}, (evals xs)[j]? = some u → ∃ x, xs[j / 7]? = some x ∧ x.cells.toList[j % 7]? = some u
  | [], j, u, h => by simp [evals] at h
  | x :: xs, j, u, h => by
    have e : evals (x :: xs) = x.cells.toList ++ evals xs := by simp [evals]
    rw [e] at h
    by_cases hj : j < 7
    · rw [List.getElem?_append_left (show j < x.cells.toList.length from hj)] at h
      rw [Nat.div_eq_of_lt hj, Nat.mod_eq_of_lt hj]
      exact ⟨x, by simp, h⟩
    · rw [List.getElem?_append_right (show x.cells.toList.length ≤ j from by show 7 ≤ j; omega)] at h
      have h' : (evals xs)[j - 7]? = some u := h
      obtain ⟨y, h1, h2⟩ := evals_get7 h'
      have e1 : j / 7 = (j - 7) / 7 + 1 := by omega
      have e2 : j % 7 = (j - 7) % 7 := by omega
      rw [e1, e2]
      exact ⟨y, by simpa using h1, h2⟩
theorem Cs.get {w : World} {b o : Nat} {x : EntD} (h : Cs w b o x) {j : Nat} {u : Value} (hu : x.cells.toList[j]? = some u) : w.cell? ⟨b, o + j, none⟩ = some u := by
  obtain ⟨h0, h1, h2, h3, h4, h5, h6⟩ := h
  have hj : j < 7 := by
    have := (List.getElem?_eq_some_iff.1 hu).1
    simpa [EntD.cells] using this
  obtain rfl | rfl | rfl | rfl | rfl | rfl | rfl : j = 0 ∨ j = 1 ∨ j = 2 ∨ j = 3 ∨ j = 4 ∨ j = 5 ∨ j = 6 := by omega
  all_goals
    simp [EntD.cells] at hu
    subst hu
    assumption
theorem cells_one {w : World} {x : EntD} (h : EntD.Ok w x) : ∀ u ∈ x.cells.toList, u.oneCell' = true := by
  obtain ⟨ar, nr, cr, e1⟩ := rd_slice h.1
  obtain ⟨aq, nq, cq, e2⟩ := rd_slice h.2.1
  obtain ⟨av, nv, cv, e3⟩ := rd_slice h.2.2
  unfold EntD.cells
  rw [e1, e2, e3]
  simp [Value.oneCell']

set_option maxRecDepth 100000 in
/-- append of a list of entries to an own one. -/
theorem wpList_append_ents {w : World} {ops : Array Oper} {rest : List Oper} {o : Oper} {a : Act} {Q : Exit → Act → World → Prop} (hgd : o.guard = none) (s x : Operand)
    (ho : o.op = .call { callee := .builtin .append, args := #[s, x], argTypes := #[22, 22] })
    (B : Nat) (v : Value) (xs : List EntD) (hs : a.eval s = v) (hown : w.ownsRow B 30 7 v xs.length (evals xs))
    (u : Value) (ys : List EntD) (hx : a.eval x = u) (hu : RdL w u ys) (hn : xs.length + ys.length ≤ 1000000) (hB : B ≤ w.heap.size)
    (h : ∀ a' n' c' w', n' = (xs ++ ys).length → w'.ownsRow B 30 7 (.slice a' n' c') (xs ++ ys).length (evals (xs ++ ys)) → Below B w w' → KU w w' → wpList Try.prog ops Q rest (a.put o.dst (.slice a' n' c')) w') : wpList Try.prog ops Q (o :: rest) a w := by
  obtain ⟨i0, hi, hz0, hz1, hz2⟩ := info_parts info_ent
  obtain ⟨ad, cap, rfl, h1, h2, h3, h0, h5⟩ := hu
  cases ad with
  | none =>
    obtain rfl : ys = [] := by
      cases ys with
      | nil => rfl
      | cons y ys => obtain ⟨_, b, off, k, _⟩ := h5 0 y (by simp); cases k
    obtain rfl : cap = 0 := by
      rcases h0 with h | ⟨_, _, h⟩
      · exact h.2
      · cases h
    obtain ⟨a', c', rfl⟩ := row_slice (by decide) hown
    refine wpList_append_own_none hgd s x 22 ho B 30 i0 7 und_ents hi _ _ _ hs hown (by simpa using hx) ?_
    exact h _ _ _ _ (by simp) (by simpa using hown) (Below.refl _ _) (fun _ _ _ h => h)
  | some ad =>
    refine wpList_append_own _ hgd s x 22 ho B 30 i0 _ 7 104 und_ents hi hz0 hz1 hz2 rfl (by decide) _ _ _ hs hown ad ys.length cap (evals ys) hx (evals_len ys) (fun j u hj => ?_) (fun u hu => ?_) (by unfold maxLen; omega) (by omega) hB ?_
    · obtain ⟨y, e1, e2⟩ := evals_get7 hj
      obtain ⟨_, b, off, k, cs⟩ := h5 _ _ e1
      cases k
      have e : (⟨b, off, none⟩ : Addr).add j = ⟨b, off + j, none⟩ := by unfold Addr.add; split <;> simp_all
      rw [e]
      have := cs.get e2
      rwa [show off + j / 7 * 7 + j % 7 = off + j from by omega] at this
    · obtain ⟨j, hj⟩ := List.getElem?_of_mem hu
      obtain ⟨y, e1, e2⟩ := evals_get7 hj
      exact cells_one (h5 _ _ e1).1 u (List.mem_of_getElem? e2)
    · intro v' w' k1 k2 k3
      rw [← evals_app, ← List.length_append] at k1
      obtain ⟨a', c', rfl⟩ := row_slice (by decide) k1
      refine h _ _ _ _ rfl k1 ((Below.refl B w).grown k2 hB (fun k hk => (own_at hown hk).1)) (KU.grown k2 (fun r hr => ?_))
      obtain ⟨_, cur, hc⟩ := own_at hown hr
      exact ⟨cur, _, _, hc, by decide⟩
end Go.Proofs.Ytnjopfdeapclhaa

