import Derived.Test.YtnjopfdeapclhaaM3
namespace Go.Proofs.Ytnjopfdeapclhaa
open Go.RowKit
set_option linter.unusedVariables false

/-- The value of an ordered set. -/
def ordV (p : Option Addr) : Value := .agg #[.pointer p, .func (.func 18) #[] #[]]
def OBox (w : World) (g : Nat) (p : Option Addr) : Prop := w.heap[g]? = some (.cells #[.pointer p, .func (.func 18) #[] #[]] 67 (0, 0))
theorem OBox.new (w : World) (p : Option Addr) : OBox (w.alloc (.cells #[.pointer p, .func (.func 18) #[] #[]] 67)) w.heap.size p := by
  show (w.heap.push _)[w.heap.size]? = some _
  simp
theorem OBox.later {w w' : World} {g : Nat} {p : Option Addr} (h : OBox w g p) (hb : Below w.heap.size w w') : OBox w' g p := by
  unfold OBox at *
  rw [hb.block g (Array.getElem?_eq_some_iff.1 h).1]; exact h
theorem OBox.c0 {w : World} {g : Nat} {p : Option Addr} (h : OBox w g p) : w.cell? ⟨g, 0, none⟩ = some (.pointer p) := by unfold OBox at h; simp [World.cell?, h]
theorem OBox.c1 {w : World} {g : Nat} {p : Option Addr} (h : OBox w g p) : w.cell? ⟨g, 1, none⟩ = some (.func (.func 18) #[] #[]) := by unfold OBox at h; simp [World.cell?, h]
theorem OBox.lt {w : World} {g : Nat} {p : Option Addr} (h : OBox w g p) : g < w.heap.size := (Array.getElem?_eq_some_iff.1 h).1
theorem OBox.fz {w : World} {g : Nat} {p : Option Addr} (h : OBox w g p) (i : Nat) : w.frozen? ⟨g, i, none⟩ = false := by unfold OBox at h; simp [World.frozen?, h]

/-- The height that a node bears. -/
def htM (v : Value) (w : World) : Nat :=
  match v with
  | .pointer (some a) => match w.cell? ⟨a.block, 9, none⟩ with
    | some (.int _ z) => z.toNat
    | _ => 0
  | _ => 0
theorem htM_eq {G : Nat → Prop} {w : World} {p : Option Addr} {T : BT} (h : IsT G w p T) : htM (.pointer p) w = T.ht := by
  cases T with
  | leaf => obtain rfl : p = none := h; rfl
  | node l e r =>
    obtain ⟨b, pl, pr, rfl, hb, hn, he, hl, hr⟩ := h
    have c := hn.cells.2.2.2.2.2.2.2.2.2
    simp only [htM, c, BT.ht]
    omega
theorem srt_left {l r : BT} {e x : EntD} (h : Srt (BT.node l e r).ord) (hx : compareS x e < 0) : Srt l.ord ∧ ((∃ y ∈ (BT.node l e r).ord, compareS x y = 0) ↔ ∃ y ∈ l.ord, compareS x y = 0) := by
  simp only [BT.ord, Srt, List.pairwise_append, List.pairwise_cons, List.mem_append, List.mem_cons] at *
  obtain ⟨hl, ⟨her, hr⟩, hlr⟩ := h
  refine ⟨hl, ⟨?_, fun ⟨y, hy, h0⟩ => ⟨y, .inl hy, h0⟩⟩⟩
  rintro ⟨y, hy | rfl | hy, h0⟩
  · exact ⟨y, hy, h0⟩
  · omega
  · have := cmp_lt_trans hx (her y hy); omega
theorem srt_right {l r : BT} {e x : EntD} (h : Srt (BT.node l e r).ord) (hx : 0 < compareS x e) : Srt r.ord ∧ ((∃ y ∈ (BT.node l e r).ord, compareS x y = 0) ↔ ∃ y ∈ r.ord, compareS x y = 0) := by
  simp only [BT.ord, Srt, List.pairwise_append, List.pairwise_cons, List.mem_append, List.mem_cons] at *
  obtain ⟨hl, ⟨her, hr⟩, hlr⟩ := h
  refine ⟨hr, ⟨?_, fun ⟨y, hy, h0⟩ => ⟨y, .inr (.inr hy), h0⟩⟩⟩
  rintro ⟨y, hy | rfl | hy, h0⟩
  · have := cmp_le_lt (a := x) (Int.le_of_lt hx) (hlr y hy e (.inl rfl)); omega
  · omega
  · exact ⟨y, hy, h0⟩

set_option maxRecDepth 100000 in
set_option maxHeartbeats 4000000 in
theorem has_any {G : Nat → Prop} {w : World} {p : Option Addr} {T : BT} {x : EntD} (hT : IsT G w p T) (hx : EntD.Ok w x) (hs : Srt T.ord) :
    Calls Try.prog 32 #[ordV p, .agg x.cells] w fun e w' => ∃ b : Bool, e = .returned (.bool b) ∧ (b = true ↔ ∃ y ∈ T.ord, compareS x y = 0) ∧ Below w.heap.size w w' := by
  unfold ordV
  have A1 := (Below.refl w.heap.size w).alloc (Nat.le_refl _) (.cells #[.pointer p, .func (.func 18) #[] #[]] 67)
  have A2 := A1.alloc A1.size (.cells x.cells 30)
  have bo := (OBox.new w p).later ((Below.refl (w.alloc (.cells #[.pointer p, .func (.func 18) #[] #[]] 67)).heap.size _).alloc (Nat.le_refl _) (.cells x.cells 30))
  have bx := EBox.new (w.alloc (.cells #[.pointer p, .func (.func 18) #[] #[]] 67)) x
  rw [World.size_alloc] at bx
  obtain ⟨W, hW⟩ : ∃ W, W = (w.alloc (.cells #[.pointer p, .func (.func 18) #[] #[]] 67)).alloc (.cells x.cells 30) := ⟨_, rfl⟩
  rw [← hW] at A2 bx bo
  have o0 := bo.c0
  have HW : Hid (W = _) := hW
  clear hW
  have HX : Hid (EntD.Ok W x ∧ EBox W (w.heap.size + 1) x ∧ IsT G W p T ∧ Below w.heap.size w W ∧ OBox W w.heap.size p ∧ Srt T.ord) := ⟨hx.later A2, bx, hT.kept (KpG.of A2), A2, bo, hs⟩
  unfold EntD.cells at HW
  unfold EntD.cells
  clear A1 A2 hx hT bx bo hs
  go_enter Try.func32, Try.ntmps32
  go_wp2_with fail
  rw [← HW.out]
  go_wp2
  go_loopw [5] (fun n wr => ∃ q U, n = .pointer q ∧ Hid (IsT G wr q U ∧ Srt U.ord ∧ ((∃ y ∈ T.ord, compareS x y = 0) ↔ ∃ y ∈ U.ord, compareS x y = 0) ∧ Below W.heap.size W wr)) (fun n wr => htM n wr)
  case atStart => exact ⟨p, T, rfl, HX.out.2.2.1, HX.out.2.2.2.2.2, Iff.rfl, Below.refl _ _⟩
  case round =>
    obtain ⟨q, U, rfl, HU⟩ := hrel
    have HM : Hid (htM (.pointer q) wr = U.ht) := htM_eq HU.out.1
    cases U with
    | leaf =>
      obtain rfl : q = none := HU.out.1
      go_wp2
      go_ret
      refine ⟨false, rfl, ?_, HX.out.2.2.2.1.trans (HU.out.2.2.2.mono HX.out.2.2.2.1.size)⟩
      rw [HU.out.2.2.1]
      simp [BT.ord]
    | node l e r =>
      obtain ⟨b, pl, pr, rfl, hb, hn, he, hl, hr⟩ := HU.out.1
      have D := HU.out.2.2.2
      have KS : Hid (∀ wx, Below wr.heap.size wr wx → wx.cell? ⟨w.heap.size, 1, none⟩ = some (.func (.func 18) #[] #[]) ∧ wx.cell? ⟨w.heap.size + 1, 0, none⟩ = some x.vr ∧ wx.cell? ⟨w.heap.size + 1, 1, none⟩ = some (.int .i64 x.fam) ∧ wx.cell? ⟨w.heap.size + 1, 2, none⟩ = some x.vq ∧ wx.cell? ⟨w.heap.size + 1, 3, none⟩ = some (.int .i64 x.ts) ∧ wx.cell? ⟨w.heap.size + 1, 4, none⟩ = some (.int .i64 x.seq) ∧ wx.cell? ⟨w.heap.size + 1, 5, none⟩ = some (.int .i64 x.kind) ∧ wx.cell? ⟨w.heap.size + 1, 6, none⟩ = some x.vv ∧ wx.cell? ⟨b, 0, none⟩ = some e.vr ∧ wx.cell? ⟨b, 1, none⟩ = some (.int .i64 e.fam) ∧ wx.cell? ⟨b, 2, none⟩ = some e.vq ∧ wx.cell? ⟨b, 3, none⟩ = some (.int .i64 e.ts) ∧ wx.cell? ⟨b, 4, none⟩ = some (.int .i64 e.seq) ∧ wx.cell? ⟨b, 5, none⟩ = some (.int .i64 e.kind) ∧ wx.cell? ⟨b, 6, none⟩ = some e.vv) := fun wx b => by
        have k1 := (HX.out.2.2.2.2.1.later D).later b
        have k2 := (HX.out.2.1.later D).later b
        have k3 := (show NBox wx _ _ _ _ _ from (b.block _ hn.lt).trans hn).cells
        exact ⟨k1.c1, k2.vr, k2.fam, k2.vq, k2.ts, k2.seq, k2.kind, k2.vv, k3.1, k3.2.1, k3.2.2.1, k3.2.2.2.1, k3.2.2.2.2.1, k3.2.2.2.2.2.1, k3.2.2.2.2.2.2.1⟩
      have HC : Hid (∀ wx, Below wr.heap.size wr wx → Calls Try.prog 18 #[.agg #[x.vr, .int .i64 x.fam, x.vq, .int .i64 x.ts, .int .i64 x.seq, .int .i64 x.kind, x.vv], .agg #[e.vr, .int .i64 e.fam, e.vq, .int .i64 e.ts, .int .i64 e.seq, .int .i64 e.kind, e.vv]] wx fun r w' => r = .returned (.int .i64 (compareS x e)) ∧ Below wx.heap.size wx w') := fun wx b => compare_any ((HX.out.1.later D).later b) (he.ok.later b)
      have HT : Hid (∀ wx, Below wr.heap.size wr wx → IsT G wx pl l ∧ IsT G wx pr r ∧ wx.cell? ⟨b, 7, none⟩ = some (.pointer pl) ∧ wx.cell? ⟨b, 8, none⟩ = some (.pointer pr)) := fun wx b => ⟨hl.kept (KpG.of b), hr.kept (KpG.of b), (show NBox wx _ _ _ _ _ from (b.block _ hn.lt).trans hn).cells.2.2.2.2.2.2.2.1, (show NBox wx _ _ _ _ _ from (b.block _ hn.lt).trans hn).cells.2.2.2.2.2.2.2.2.1⟩
      have D0 : Below wr.heap.size wr wr.drew := (Below.refl _ _).drew
      obtain ⟨cc, hcc⟩ : ∃ cc, cc = compareS x e := ⟨_, rfl⟩
      rw [← hcc] at HC
      have HCC : Hid (cc = compareS x e) := hcc
      clear hcc hn he hl hr D
      go_wp2_with fail
      go_region_held3 (fun wx => wx.cell? ⟨w.heap.size, 1, none⟩ = some (.func (.func 18) #[] #[]) ∧ wx.cell? ⟨w.heap.size + 1, 0, none⟩ = some x.vr ∧ wx.cell? ⟨w.heap.size + 1, 1, none⟩ = some (.int .i64 x.fam) ∧ wx.cell? ⟨w.heap.size + 1, 2, none⟩ = some x.vq ∧ wx.cell? ⟨w.heap.size + 1, 3, none⟩ = some (.int .i64 x.ts) ∧ wx.cell? ⟨w.heap.size + 1, 4, none⟩ = some (.int .i64 x.seq) ∧ wx.cell? ⟨w.heap.size + 1, 5, none⟩ = some (.int .i64 x.kind) ∧ wx.cell? ⟨w.heap.size + 1, 6, none⟩ = some x.vv ∧ wx.cell? ⟨b, 0, none⟩ = some e.vr ∧ wx.cell? ⟨b, 1, none⟩ = some (.int .i64 e.fam) ∧ wx.cell? ⟨b, 2, none⟩ = some e.vq ∧ wx.cell? ⟨b, 3, none⟩ = some (.int .i64 e.ts) ∧ wx.cell? ⟨b, 4, none⟩ = some (.int .i64 e.seq) ∧ wx.cell? ⟨b, 5, none⟩ = some (.int .i64 e.kind) ∧ wx.cell? ⟨b, 6, none⟩ = some e.vv) (first | exact KS.out _ D0 | exact KS.out _ D1) (first | (go_at_call 18; refine Calls.mono (HC.out _ D0) ?_; rintro e1 w1 ⟨rfl, hb1⟩; have D1 := D0.trans (hb1.mono D0.size)))
      obtain ⟨tl, tr, c7, c8⟩ := HT.out _ D1
      have HTT : Hid (IsT G w1 pl l ∧ IsT G w1 pr r) := ⟨tl, tr⟩
      clear tl tr
      by_cases h0 : cc = 0
      · subst h0
        go_wp2
        go_ret
        have B1 := HX.out.2.2.2.1.trans ((HU.out.2.2.2.trans (D1.mono HU.out.2.2.2.size)).mono HX.out.2.2.2.1.size)
        refine ⟨true, rfl, ?_, B1⟩
        rw [HU.out.2.2.1]
        simp only [true_iff]
        exact ⟨e, by simp [BT.ord], HCC.out.symm⟩
      · by_cases h1 : cc < 0
        · go_wp2
          go_roundw
          case rel =>
            have k := srt_left HU.out.2.1 (by rw [← HCC.out]; exact h1)
            exact ⟨pl, l, rfl, HTT.out.1, k.1, HU.out.2.2.1.trans k.2, HU.out.2.2.2.trans (D1.mono HU.out.2.2.2.size)⟩
          case measure =>
            rw [HM.out, htM_eq HTT.out.1]
            simp only [BT.ht]; omega
        · have h2 : 0 < cc := by omega
          go_wp2
          go_roundw
          case rel =>
            have k := srt_right HU.out.2.1 (by rw [← HCC.out]; exact h2)
            exact ⟨pr, r, rfl, HTT.out.2, k.1, HU.out.2.2.1.trans k.2, HU.out.2.2.2.trans (D1.mono HU.out.2.2.2.size)⟩
          case measure =>
            rw [HM.out, htM_eq HTT.out.2]
            simp only [BT.ht]; omega
end Go.Proofs.Ytnjopfdeapclhaa

namespace Go.Proofs.Ytnjopfdeapclhaa
open Go.RowKit
set_option linter.unusedVariables false

set_option maxRecDepth 100000 in
set_option maxHeartbeats 8000000 in
theorem hang_any {G : Nat → Prop} {p0 : Option Addr} {x : EntD} (T : BT) : ∀ (w : World) (p : Option Addr), IsT G w p T → EOk G w x → T.ord.length < 274877906944 → (∀ i, w.heap.size ≤ i → G i) →
    Calls Try.prog 55 #[ordV p0, .pointer p, .agg x.cells] w fun z w' => ∃ b, z = .returned (.pointer (some ⟨b, 0, none⟩)) ∧ IsT G w' (some ⟨b, 0, none⟩) (hangS x T) ∧ Below w.heap.size w w' := by
  unfold ordV
  induction T with
  | leaf =>
    intro w p hT hx hs hG
    obtain rfl : p = none := hT
    have A1 := (Below.refl w.heap.size w).alloc (Nat.le_refl _) (.cells #[.pointer p0, .func (.func 18) #[] #[]] 67)
    have A2 := A1.alloc A1.size (.cells x.cells 30)
    have bo := (OBox.new w p0).later ((Below.refl (w.alloc (.cells #[.pointer p0, .func (.func 18) #[] #[]] 67)).heap.size _).alloc (Nat.le_refl _) (.cells x.cells 30))
    have bx := EBox.new (w.alloc (.cells #[.pointer p0, .func (.func 18) #[] #[]] 67)) x
    rw [World.size_alloc] at bx
    obtain ⟨W, hW⟩ : ∃ W, W = (w.alloc (.cells #[.pointer p0, .func (.func 18) #[] #[]] 67)).alloc (.cells x.cells 30) := ⟨_, rfl⟩
    rw [← hW] at A2 bx bo
    have HW : Hid (W = _) := hW
    clear hW A1
    unfold EntD.cells at HW
    have HJ : Hid (Calls Try.prog 81 #[.pointer none, .agg x.cells, .pointer none] W _) := join_tree (l := .leaf) (r := .leaf) (G := G) rfl rfl (hx.kept (KpG.of A2)) (by simp [BT.ht]) (fun i hi => hG i (Nat.le_trans A2.size hi))
    obtain ⟨c0, c1, c2, c3, c4, c5, c6⟩ := (⟨bx.vr, bx.fam, bx.vq, bx.ts, bx.seq, bx.kind, bx.vv⟩ : _ ∧ _ ∧ _ ∧ _ ∧ _ ∧ _ ∧ _)
    unfold EntD.cells at HJ
    unfold EntD.cells
    clear hx hG bx bo hs
    go_enter Try.func55, Try.ntmps55
    go_wp2_with fail
    rw [← HW.out]
    go_wp2_with (go_at_call 81; refine Calls.mono HJ.out ?_; rintro e1 w1 ⟨b, rfl, ht, hb⟩)
    go_ret
    exact ⟨b, rfl, ht, A2.trans (hb.mono A2.size)⟩
  | node l e r ihl ihr =>
    intro w p hT hx hs hG
    have A1 := (Below.refl w.heap.size w).alloc (Nat.le_refl _) (.cells #[.pointer p0, .func (.func 18) #[] #[]] 67)
    have A2 := A1.alloc A1.size (.cells x.cells 30)
    have bo := (OBox.new w p0).later ((Below.refl (w.alloc (.cells #[.pointer p0, .func (.func 18) #[] #[]] 67)).heap.size _).alloc (Nat.le_refl _) (.cells x.cells 30))
    have bx := EBox.new (w.alloc (.cells #[.pointer p0, .func (.func 18) #[] #[]] 67)) x
    rw [World.size_alloc] at bx
    obtain ⟨W, hW⟩ : ∃ W, W = (w.alloc (.cells #[.pointer p0, .func (.func 18) #[] #[]] 67)).alloc (.cells x.cells 30) := ⟨_, rfl⟩
    rw [← hW] at A2 bx bo
    have HW : Hid (W = _) := hW
    clear hW A1
    unfold EntD.cells at HW
    have hx0 := hx.kept (KpG.of A2)
    obtain ⟨b, pl, pr, rfl, hb, hn, he, hl, hr⟩ := hT.kept (KpG.of A2)
    have HG : Hid (∀ i, w.heap.size ≤ i → G i) := hG
    have hl0 := hl
    have hr0 := hr
    have he0 := he
    have KS : Hid (∀ wx, Below W.heap.size W wx → wx.cell? ⟨w.heap.size, 0, none⟩ = some (.pointer p0) ∧ wx.cell? ⟨w.heap.size, 1, none⟩ = some (.func (.func 18) #[] #[]) ∧ wx.cell? ⟨w.heap.size + 1, 0, none⟩ = some x.vr ∧ wx.cell? ⟨w.heap.size + 1, 1, none⟩ = some (.int .i64 x.fam) ∧ wx.cell? ⟨w.heap.size + 1, 2, none⟩ = some x.vq ∧ wx.cell? ⟨w.heap.size + 1, 3, none⟩ = some (.int .i64 x.ts) ∧ wx.cell? ⟨w.heap.size + 1, 4, none⟩ = some (.int .i64 x.seq) ∧ wx.cell? ⟨w.heap.size + 1, 5, none⟩ = some (.int .i64 x.kind) ∧ wx.cell? ⟨w.heap.size + 1, 6, none⟩ = some x.vv ∧ wx.cell? ⟨b, 0, none⟩ = some e.vr ∧ wx.cell? ⟨b, 1, none⟩ = some (.int .i64 e.fam) ∧ wx.cell? ⟨b, 2, none⟩ = some e.vq ∧ wx.cell? ⟨b, 3, none⟩ = some (.int .i64 e.ts) ∧ wx.cell? ⟨b, 4, none⟩ = some (.int .i64 e.seq) ∧ wx.cell? ⟨b, 5, none⟩ = some (.int .i64 e.kind) ∧ wx.cell? ⟨b, 6, none⟩ = some e.vv ∧ wx.cell? ⟨b, 7, none⟩ = some (.pointer pl) ∧ wx.cell? ⟨b, 8, none⟩ = some (.pointer pr)) := fun wx b => by
      have k1 := bo.later b
      have k2 := bx.later b
      have k3 := (show NBox wx _ _ _ _ _ from (b.block _ hn.lt).trans hn).cells
      exact ⟨k1.c0, k1.c1, k2.vr, k2.fam, k2.vq, k2.ts, k2.seq, k2.kind, k2.vv, k3.1, k3.2.1, k3.2.2.1, k3.2.2.2.1, k3.2.2.2.2.1, k3.2.2.2.2.2.1, k3.2.2.2.2.2.2.1, k3.2.2.2.2.2.2.2.1, k3.2.2.2.2.2.2.2.2.1⟩
    have HC : Hid (∀ wx, Below W.heap.size W wx → Calls Try.prog 18 #[.agg #[x.vr, .int .i64 x.fam, x.vq, .int .i64 x.ts, .int .i64 x.seq, .int .i64 x.kind, x.vv], .agg #[e.vr, .int .i64 e.fam, e.vq, .int .i64 e.ts, .int .i64 e.seq, .int .i64 e.kind, e.vv]] wx fun r w' => r = .returned (.int .i64 (compareS x e)) ∧ Below wx.heap.size wx w') := fun wx b => compare_any (hx0.ok.later b) (he.ok.later b)
    have D0 : Below W.heap.size W W.drew := (Below.refl _ _).drew
    obtain ⟨cc, hcc⟩ : ∃ cc, cc = compareS x e := ⟨_, rfl⟩
    rw [← hcc] at HC
    have HCC : Hid (cc = compareS x e) := hcc
    unfold EntD.cells at ihl ihr
    unfold EntD.cells
    clear hcc hn he hl hr hx hG hT bo bx
    go_enter Try.func55, Try.ntmps55
    go_wp2_with fail
    rw [← HW.out]
    go_wp2_with fail
    go_region_held3 (fun wx => wx.cell? ⟨w.heap.size, 0, none⟩ = some (.pointer p0) ∧ wx.cell? ⟨w.heap.size, 1, none⟩ = some (.func (.func 18) #[] #[]) ∧ wx.cell? ⟨w.heap.size + 1, 0, none⟩ = some x.vr ∧ wx.cell? ⟨w.heap.size + 1, 1, none⟩ = some (.int .i64 x.fam) ∧ wx.cell? ⟨w.heap.size + 1, 2, none⟩ = some x.vq ∧ wx.cell? ⟨w.heap.size + 1, 3, none⟩ = some (.int .i64 x.ts) ∧ wx.cell? ⟨w.heap.size + 1, 4, none⟩ = some (.int .i64 x.seq) ∧ wx.cell? ⟨w.heap.size + 1, 5, none⟩ = some (.int .i64 x.kind) ∧ wx.cell? ⟨w.heap.size + 1, 6, none⟩ = some x.vv ∧ wx.cell? ⟨b, 0, none⟩ = some e.vr ∧ wx.cell? ⟨b, 1, none⟩ = some (.int .i64 e.fam) ∧ wx.cell? ⟨b, 2, none⟩ = some e.vq ∧ wx.cell? ⟨b, 3, none⟩ = some (.int .i64 e.ts) ∧ wx.cell? ⟨b, 4, none⟩ = some (.int .i64 e.seq) ∧ wx.cell? ⟨b, 5, none⟩ = some (.int .i64 e.kind) ∧ wx.cell? ⟨b, 6, none⟩ = some e.vv ∧ wx.cell? ⟨b, 7, none⟩ = some (.pointer pl) ∧ wx.cell? ⟨b, 8, none⟩ = some (.pointer pr)) (first | exact KS.out _ D0 | exact KS.out _ D1) (first | (go_at_call 18; refine Calls.mono (HC.out _ D0) ?_; rintro e1 w1 ⟨rfl, hb1⟩; have D1 := D0.trans (hb1.mono D0.size)))
    have HD1 : Hid (Below W.heap.size W w1) := D1
    have KS1 : Hid (∀ wx, Below w1.heap.size w1 wx → wx.cell? ⟨w.heap.size, 0, none⟩ = some (.pointer p0) ∧ wx.cell? ⟨w.heap.size, 1, none⟩ = some (.func (.func 18) #[] #[]) ∧ wx.cell? ⟨w.heap.size + 1, 0, none⟩ = some x.vr ∧ wx.cell? ⟨w.heap.size + 1, 1, none⟩ = some (.int .i64 x.fam) ∧ wx.cell? ⟨w.heap.size + 1, 2, none⟩ = some x.vq ∧ wx.cell? ⟨w.heap.size + 1, 3, none⟩ = some (.int .i64 x.ts) ∧ wx.cell? ⟨w.heap.size + 1, 4, none⟩ = some (.int .i64 x.seq) ∧ wx.cell? ⟨w.heap.size + 1, 5, none⟩ = some (.int .i64 x.kind) ∧ wx.cell? ⟨w.heap.size + 1, 6, none⟩ = some x.vv ∧ wx.cell? ⟨b, 0, none⟩ = some e.vr ∧ wx.cell? ⟨b, 1, none⟩ = some (.int .i64 e.fam) ∧ wx.cell? ⟨b, 2, none⟩ = some e.vq ∧ wx.cell? ⟨b, 3, none⟩ = some (.int .i64 e.ts) ∧ wx.cell? ⟨b, 4, none⟩ = some (.int .i64 e.seq) ∧ wx.cell? ⟨b, 5, none⟩ = some (.int .i64 e.kind) ∧ wx.cell? ⟨b, 6, none⟩ = some e.vv ∧ wx.cell? ⟨b, 7, none⟩ = some (.pointer pl) ∧ wx.cell? ⟨b, 8, none⟩ = some (.pointer pr)) := fun wx b => KS.out wx (HD1.out.trans (b.mono HD1.out.size))
    clear D1 HC D0 hb1
    by_cases h1 : cc < 0
    · have d1 : decide (cc < 0) = true := by simpa using h1
      ·
        have HB : Hid (∀ wx b1, Below w1.heap.size w1 wx → IsT G wx (some ⟨b1, 0, none⟩) (hangS x l) → Calls Try.prog 82 #[.pointer (some ⟨b1, 0, none⟩), .agg #[e.vr, .int .i64 e.fam, e.vq, .int .i64 e.ts, .int .i64 e.seq, .int .i64 e.kind, e.vv], .pointer pr] wx fun z w' => ∃ b, z = .returned (.pointer (some ⟨b, 0, none⟩)) ∧ IsT G w' (some ⟨b, 0, none⟩) (balS (hangS x l) e r) ∧ Below wx.heap.size wx w') := fun wx b1 b t1 => by
          have bW := (Below.refl W.heap.size W).trans (HD1.out)
          refine balance_any t1 (hr0.kept (KpG.of (bW.trans (b.mono bW.size)))) (he0.kept (KpG.of (bW.trans (b.mono bW.size)))) ?_ (fun i hi => HG.out i (Nat.le_trans (Nat.le_trans (Nat.le_trans A2.size HD1.out.size) b.size) hi))
          have e1 := BT.ht_le (hangS x l)
          have e2 := BT.ht_le r
          have e3 := hangS_length x l
          simp only [BT.size, BT.ord, List.length_append, List.length_cons] at *
          omega
        have HH : Hid (∀ wx, Below w1.heap.size w1 wx → Calls Try.prog 55 #[.agg #[.pointer p0, .func (.func 18) #[] #[]], .pointer pl, .agg #[x.vr, .int .i64 x.fam, x.vq, .int .i64 x.ts, .int .i64 x.seq, .int .i64 x.kind, x.vv]] wx fun z w' => ∃ b, z = .returned (.pointer (some ⟨b, 0, none⟩)) ∧ IsT G w' (some ⟨b, 0, none⟩) (hangS x l) ∧ Below wx.heap.size wx w') := fun wx b => by
          have bW := (Below.refl W.heap.size W).trans (HD1.out)
          refine ihl wx pl (hl0.kept (KpG.of (bW.trans (b.mono bW.size)))) (hx0.kept (KpG.of (bW.trans (b.mono bW.size)))) ?_ (fun i hi => HG.out i (Nat.le_trans (Nat.le_trans (Nat.le_trans A2.size HD1.out.size) b.size) hi))
          simp only [BT.ord, List.length_append, List.length_cons] at hs
          omega
        have E0 : Below w1.heap.size w1 w1.drew := (Below.refl _ _).drew
        clear KS ihl ihr hl0 hr0 he0 hx0 hs
        go_wp2_with fail
        go_region_held3 (fun wx => wx.cell? ⟨w.heap.size, 0, none⟩ = some (.pointer p0) ∧ wx.cell? ⟨w.heap.size, 1, none⟩ = some (.func (.func 18) #[] #[]) ∧ wx.cell? ⟨w.heap.size + 1, 0, none⟩ = some x.vr ∧ wx.cell? ⟨w.heap.size + 1, 1, none⟩ = some (.int .i64 x.fam) ∧ wx.cell? ⟨w.heap.size + 1, 2, none⟩ = some x.vq ∧ wx.cell? ⟨w.heap.size + 1, 3, none⟩ = some (.int .i64 x.ts) ∧ wx.cell? ⟨w.heap.size + 1, 4, none⟩ = some (.int .i64 x.seq) ∧ wx.cell? ⟨w.heap.size + 1, 5, none⟩ = some (.int .i64 x.kind) ∧ wx.cell? ⟨w.heap.size + 1, 6, none⟩ = some x.vv ∧ wx.cell? ⟨b, 0, none⟩ = some e.vr ∧ wx.cell? ⟨b, 1, none⟩ = some (.int .i64 e.fam) ∧ wx.cell? ⟨b, 2, none⟩ = some e.vq ∧ wx.cell? ⟨b, 3, none⟩ = some (.int .i64 e.ts) ∧ wx.cell? ⟨b, 4, none⟩ = some (.int .i64 e.seq) ∧ wx.cell? ⟨b, 5, none⟩ = some (.int .i64 e.kind) ∧ wx.cell? ⟨b, 6, none⟩ = some e.vv ∧ wx.cell? ⟨b, 7, none⟩ = some (.pointer pl) ∧ wx.cell? ⟨b, 8, none⟩ = some (.pointer pr)) (first | exact KS1.out _ E0 | exact KS1.out _ E1 | exact KS1.out _ E2) (first | (go_at_call 55; refine Calls.mono (HH.out _ E0) ?_; rintro e5 w5 ⟨b5, rfl, t5, k5⟩; have E1 := E0.trans (k5.mono E0.size)) | (go_at_call 82; refine Calls.mono (HB.out _ _ E1 t5) ?_; rintro e6 w6 ⟨b6, rfl, t6, k6⟩; have E2 := E1.trans (k6.mono E1.size)))
        go_wp2
        go_ret
        unfold hangS
        rw [if_pos (by rw [← HCC.out]; exact h1)]
        exact ⟨b6, rfl, t6, A2.trans ((HD1.out.trans (E2.mono HD1.out.size)).mono A2.size)⟩
    · have d1 : decide (cc < 0) = false := by simpa using h1
      ·
        have HB : Hid (∀ wx b1, Below w1.heap.size w1 wx → IsT G wx (some ⟨b1, 0, none⟩) (hangS x r) → Calls Try.prog 82 #[.pointer pl, .agg #[e.vr, .int .i64 e.fam, e.vq, .int .i64 e.ts, .int .i64 e.seq, .int .i64 e.kind, e.vv], .pointer (some ⟨b1, 0, none⟩)] wx fun z w' => ∃ b, z = .returned (.pointer (some ⟨b, 0, none⟩)) ∧ IsT G w' (some ⟨b, 0, none⟩) (balS l e (hangS x r)) ∧ Below wx.heap.size wx w') := fun wx b1 b t1 => by
          have bW := (Below.refl W.heap.size W).trans (HD1.out)
          refine balance_any (hl0.kept (KpG.of (bW.trans (b.mono bW.size)))) t1 (he0.kept (KpG.of (bW.trans (b.mono bW.size)))) ?_ (fun i hi => HG.out i (Nat.le_trans (Nat.le_trans (Nat.le_trans A2.size HD1.out.size) b.size) hi))
          have e1 := BT.ht_le (hangS x r)
          have e2 := BT.ht_le l
          have e3 := hangS_length x r
          simp only [BT.size, BT.ord, List.length_append, List.length_cons] at *
          omega
        have HH : Hid (∀ wx, Below w1.heap.size w1 wx → Calls Try.prog 55 #[.agg #[.pointer p0, .func (.func 18) #[] #[]], .pointer pr, .agg #[x.vr, .int .i64 x.fam, x.vq, .int .i64 x.ts, .int .i64 x.seq, .int .i64 x.kind, x.vv]] wx fun z w' => ∃ b, z = .returned (.pointer (some ⟨b, 0, none⟩)) ∧ IsT G w' (some ⟨b, 0, none⟩) (hangS x r) ∧ Below wx.heap.size wx w') := fun wx b => by
          have bW := (Below.refl W.heap.size W).trans (HD1.out)
          refine ihr wx pr (hr0.kept (KpG.of (bW.trans (b.mono bW.size)))) (hx0.kept (KpG.of (bW.trans (b.mono bW.size)))) ?_ (fun i hi => HG.out i (Nat.le_trans (Nat.le_trans (Nat.le_trans A2.size HD1.out.size) b.size) hi))
          simp only [BT.ord, List.length_append, List.length_cons] at hs
          omega
        have E0 : Below w1.heap.size w1 w1.drew := (Below.refl _ _).drew
        clear KS ihl ihr hl0 hr0 he0 hx0 hs
        go_wp2_with fail
        go_region_held3 (fun wx => wx.cell? ⟨w.heap.size, 0, none⟩ = some (.pointer p0) ∧ wx.cell? ⟨w.heap.size, 1, none⟩ = some (.func (.func 18) #[] #[]) ∧ wx.cell? ⟨w.heap.size + 1, 0, none⟩ = some x.vr ∧ wx.cell? ⟨w.heap.size + 1, 1, none⟩ = some (.int .i64 x.fam) ∧ wx.cell? ⟨w.heap.size + 1, 2, none⟩ = some x.vq ∧ wx.cell? ⟨w.heap.size + 1, 3, none⟩ = some (.int .i64 x.ts) ∧ wx.cell? ⟨w.heap.size + 1, 4, none⟩ = some (.int .i64 x.seq) ∧ wx.cell? ⟨w.heap.size + 1, 5, none⟩ = some (.int .i64 x.kind) ∧ wx.cell? ⟨w.heap.size + 1, 6, none⟩ = some x.vv ∧ wx.cell? ⟨b, 0, none⟩ = some e.vr ∧ wx.cell? ⟨b, 1, none⟩ = some (.int .i64 e.fam) ∧ wx.cell? ⟨b, 2, none⟩ = some e.vq ∧ wx.cell? ⟨b, 3, none⟩ = some (.int .i64 e.ts) ∧ wx.cell? ⟨b, 4, none⟩ = some (.int .i64 e.seq) ∧ wx.cell? ⟨b, 5, none⟩ = some (.int .i64 e.kind) ∧ wx.cell? ⟨b, 6, none⟩ = some e.vv ∧ wx.cell? ⟨b, 7, none⟩ = some (.pointer pl) ∧ wx.cell? ⟨b, 8, none⟩ = some (.pointer pr)) (first | exact KS1.out _ E0 | exact KS1.out _ E1 | exact KS1.out _ E2) (first | (go_at_call 55; refine Calls.mono (HH.out _ E0) ?_; rintro e5 w5 ⟨b5, rfl, t5, k5⟩; have E1 := E0.trans (k5.mono E0.size)) | (go_at_call 82; refine Calls.mono (HB.out _ _ E1 t5) ?_; rintro e6 w6 ⟨b6, rfl, t6, k6⟩; have E2 := E1.trans (k6.mono E1.size)))
        go_wp2
        go_ret
        unfold hangS
        rw [if_neg (by rw [← HCC.out]; omega)]
        exact ⟨b6, rfl, t6, A2.trans ((HD1.out.trans (E2.mono HD1.out.size)).mono A2.size)⟩
end Go.Proofs.Ytnjopfdeapclhaa

namespace Go.Proofs.Ytnjopfdeapclhaa
open Go.RowKit
set_option linter.unusedVariables false

theorem RdG.lt {G : Nat → Prop} {w : World} {v : Value} {bs : List Nat} (h : RdG G w v bs) : RdG (fun i => G i ∧ i < w.heap.size) w v bs := by
  refine ⟨h.1, fun b off m c e hm => ?_⟩
  obtain ⟨h8, cur, fr, h9⟩ := h.2 b off m c e hm
  exact ⟨⟨h8, (Array.getElem?_eq_some_iff.1 h9).1⟩, cur, fr, h9⟩
theorem EOk.lt {G : Nat → Prop} {w : World} {e : EntD} (h : EOk G w e) : EOk (fun i => G i ∧ i < w.heap.size) w e := ⟨h.1.lt, h.2.1.lt, h.2.2.lt⟩
theorem IsT.lt {G : Nat → Prop} {w : World} : ∀ {p : Option Addr} {T : BT}, IsT G w p T → IsT (fun i => G i ∧ i < w.heap.size) w p T
  | _, .leaf, h => h
  | _, .node _ _ _, ⟨b, pl, pr, hp, hb, hn, he, hl, hr⟩ => ⟨b, pl, pr, hp, ⟨hb, hn.lt⟩, hn, he.lt, hl.lt, hr.lt⟩
theorem KpG.setCell {G : Nat → Prop} {w w' : World} (h : KpG G w w') {g : Nat} (hg : ¬ G g) (i : Nat) (v : Value) : KpG G w (w'.setCell ⟨g, i, none⟩ v) :=
  ⟨by rw [World.size_setCell]; exact h.size, fun k hk hG => (Below.heap_setCell w' ⟨g, i, none⟩ v k (fun e => hg (by cases e; exact hG))).trans (h.block k hk hG)⟩
theorem KpG.alloc {G : Nat → Prop} {w w' : World} (h : KpG G w w') (o : Obj) : KpG G w (w'.alloc o) := ⟨by rw [World.size_alloc]; exact Nat.le_succ_of_le h.size, fun k hk hG => (Below.heap_alloc w' o k (Nat.lt_of_lt_of_le hk h.size)).trans (h.block k hk hG)⟩
theorem KpG.drew {G : Nat → Prop} {w w' : World} (h : KpG G w w') : KpG G w w'.drew := ⟨h.size, h.block⟩

set_option maxRecDepth 100000 in
set_option maxHeartbeats 4000000 in
theorem with_any {G : Nat → Prop} {w : World} {p0 : Option Addr} {T : BT} {x : EntD} (hT : IsT G w p0 T) (hx : EOk G w x) (hs : T.ord.length < 274877906944) (hG : ∀ i, w.heap.size ≤ i → G i) :
    Calls Try.prog 33 #[ordV p0, .agg x.cells] w fun z w' => ∃ b, z = .returned (ordV (some ⟨b, 0, none⟩)) ∧ IsT G w' (some ⟨b, 0, none⟩) (hangS x T) ∧ Below w.heap.size w w' := by
  have A1 := (Below.refl w.heap.size w).alloc (Nat.le_refl _) (.cells #[.pointer p0, .func (.func 18) #[] #[]] 67)
  have A2 := A1.alloc A1.size (.cells x.cells 30)
  have bo := (OBox.new w p0).later ((Below.refl (w.alloc (.cells #[.pointer p0, .func (.func 18) #[] #[]] 67)).heap.size _).alloc (Nat.le_refl _) (.cells x.cells 30))
  have bx := EBox.new (w.alloc (.cells #[.pointer p0, .func (.func 18) #[] #[]] 67)) x
  rw [World.size_alloc] at bx
  obtain ⟨W, hW⟩ : ∃ W, W = (w.alloc (.cells #[.pointer p0, .func (.func 18) #[] #[]] 67)).alloc (.cells x.cells 30) := ⟨_, rfl⟩
  rw [← hW] at A2 bx bo
  have HW : Hid (W = _) := hW
  clear hW A1
  unfold EntD.cells at HW
  unfold ordV at *
  have A3 := A2.alloc A2.size (.cells #[.pointer none, .nilFunc] 67)
  obtain ⟨G', hG'⟩ : ∃ G' : Nat → Prop, G' = fun i => (G i ∧ i < w.heap.size) ∨ w.heap.size + 3 ≤ i := ⟨_, rfl⟩
  have hT' : IsT G' w p0 T := hT.lt.mono (fun i hi => by rw [hG']; exact .inl hi)
  have hx' : EOk G' w x := hx.lt.mono (fun i hi => by rw [hG']; exact .inl hi)
  have HGG : Hid (∀ i, G' i → G i) := fun i hi => by rw [hG'] at hi; rcases hi with hi | hi; exact hi.1; exact hG i (by omega)
  have hn : ∀ i, w.heap.size ≤ i → i ≤ w.heap.size + 2 → ¬ G' i := fun i h1 h2 h => by rw [hG'] at h; omega
  have HN : Hid (¬ G' w.heap.size ∧ ¬ G' (w.heap.size + 1 + 1)) := ⟨hn _ (by omega) (by omega), hn _ (by omega) (by omega)⟩
  have hsz : W.heap.size = w.heap.size + 2 := by rw [HW.out]; simp
  have HH : Hid (Calls Try.prog 55 #[.agg #[.pointer p0, .func (.func 18) #[] #[]], .pointer p0, .agg #[x.vr, .int .i64 x.fam, x.vq, .int .i64 x.ts, .int .i64 x.seq, .int .i64 x.kind, x.vv]] (W.alloc (.cells #[.pointer none, .nilFunc] 67)) _) := hang_any (G := G') T _ p0 (hT'.kept (KpG.of A3)) (hx'.kept (KpG.of A3)) hs (fun i hi => by rw [hG']; right; rw [World.size_alloc, hsz] at hi; omega)
  obtain ⟨c0, c1, c2, c3, c4, c5, c6⟩ := (⟨bx.vr, bx.fam, bx.vq, bx.ts, bx.seq, bx.kind, bx.vv⟩ : _ ∧ _ ∧ _ ∧ _ ∧ _ ∧ _ ∧ _)
  have o0 := bo.c0
  have o1 := bo.c1
  have rz : (W.alloc (.cells #[.pointer none, .nilFunc] 67)).heap[w.heap.size + 1 + 1]? = some (.cells #[.pointer none, .nilFunc] 67 (0, 0)) := by
    have e : w.heap.size + 1 + 1 = W.heap.size := by omega
    rw [e]
    show (W.heap.push _)[W.heap.size]? = some _
    simp
  have HB : Hid (OBox (W.alloc (.cells #[.pointer none, .nilFunc] 67)) w.heap.size p0 ∧ _) := ⟨bo.later ((Below.refl _ W).alloc (Nat.le_refl _) _), rz⟩
  have HA3 : Hid (Below w.heap.size w _) := A3
  clear hT hx hT' hx' hn hG hs rz A3 A2 bx bo hsz hG'
  unfold EntD.cells
  go_enter Try.func33, Try.ntmps33
  go_wp2_with fail
  rw [← HW.out]
  refine Calls.mono HH.out ?_
  rintro e1 w1 ⟨b, rfl, ht, hb⟩
  have ob1 := HB.out.1.later hb
  have rz1 := (hb.block _ (Array.getElem?_eq_some_iff.1 HB.out.2).1).trans HB.out.2
  have HT : Hid (IsT G' w1 (some ⟨b, 0, none⟩) (hangS x T)) := ht
  have HB1 : Hid (Below w.heap.size w w1) := HA3.out.trans (hb.mono HA3.out.size)
  have x0 := ob1.c0
  have x1 := ob1.c1
  have f0 := ob1.fz 0
  have y0 : w1.cell? ⟨w.heap.size + 1 + 1, 0, none⟩ = some (.pointer none) := by simp [World.cell?, rz1]
  have y1 : w1.cell? ⟨w.heap.size + 1 + 1, 1, none⟩ = some .nilFunc := by simp [World.cell?, rz1]
  have g0 : w1.frozen? ⟨w.heap.size + 1 + 1, 0, none⟩ = false := by simp [World.frozen?, rz1]
  have g1 : w1.frozen? ⟨w.heap.size + 1 + 1, 1, none⟩ = false := by simp [World.frozen?, rz1]
  clear ht hb ob1 rz1 HB HH
  go_wp2
  refine bodyPost_ret (v := .agg #[.pointer (some ⟨b, 0, none⟩), .func (.func 18) #[] #[]]) (by simp [results, Try.results33, go_sem, y0, y1]) rfl ?_
  refine ⟨b, rfl, ?_, ?_⟩
  · refine (HT.out.kept (((KpG.refl G' w1).setCell HN.out.1 0 _).setCell HN.out.2 0 _ |>.setCell HN.out.2 1 _)).mono HGG.out
  · exact ((HB1.out.setCell (p := ⟨w.heap.size, 0, none⟩) (Nat.le_refl _) _).setCell (p := ⟨w.heap.size + 1 + 1, 0, none⟩) (by show _ ≤ w.heap.size + 1 + 1; omega) _).setCell (p := ⟨w.heap.size + 1 + 1, 1, none⟩) (by show _ ≤ w.heap.size + 1 + 1; omega) _
end Go.Proofs.Ytnjopfdeapclhaa

namespace Go.Proofs.Ytnjopfdeapclhaa
open Go.RowKit
set_option linter.unusedVariables false

/-- A table's block. -/
def tabC (p : Option Addr) (n k : Int) (f : Bool) : Array Value := #[.pointer p, .func (.func 18) #[] #[], .int .i64 n, .int .i64 k, .bool f]
def TBox (w : World) (t : Nat) (p : Option Addr) (n k : Int) (f : Bool) : Prop := w.heap[t]? = some (.cells (tabC p n k f) 69 (0, 0))
theorem TBox.cells {w : World} {t : Nat} {p : Option Addr} {n k : Int} {f : Bool} (h : TBox w t p n k f) :
    w.cell? ⟨t, 0, none⟩ = some (.pointer p) ∧ w.cell? ⟨t, 1, none⟩ = some (.func (.func 18) #[] #[]) ∧ w.cell? ⟨t, 2, none⟩ = some (.int .i64 n) ∧ w.cell? ⟨t, 3, none⟩ = some (.int .i64 k) ∧ w.cell? ⟨t, 4, none⟩ = some (.bool f) := by
  unfold TBox tabC at h
  refine ⟨?_, ?_, ?_, ?_, ?_⟩ <;> simp [World.cell?, h]
theorem TBox.fz {w : World} {t : Nat} {p : Option Addr} {n k : Int} {f : Bool} (h : TBox w t p n k f) (i : Nat) : w.frozen? ⟨t, i, none⟩ = false := by unfold TBox at h; simp [World.frozen?, h]
theorem TBox.lt {w : World} {t : Nat} {p : Option Addr} {n k : Int} {f : Bool} (h : TBox w t p n k f) : t < w.heap.size := (Array.getElem?_eq_some_iff.1 h).1
theorem TBox.later {w w' : World} {t : Nat} {p : Option Addr} {n k : Int} {f : Bool} (h : TBox w t p n k f) (hb : Below w.heap.size w w') : TBox w' t p n k f := by
  unfold TBox at *
  rw [hb.block t (Array.getElem?_eq_some_iff.1 h).1]; exact h
theorem TBox.set0 {w : World} {t : Nat} {p : Option Addr} {n k : Int} {f : Bool} (h : TBox w t p n k f) (q : Option Addr) : TBox (w.setCell ⟨t, 0, none⟩ (.pointer q)) t q n k f := by
  unfold TBox tabC at *
  simp [World.setCell, Array.getElem?_modify, h]
theorem TBox.set1 {w : World} {t : Nat} {p : Option Addr} {n k : Int} {f : Bool} (h : TBox w t p n k f) : TBox (w.setCell ⟨t, 1, none⟩ (.func (.func 18) #[] #[])) t p n k f := by
  unfold TBox tabC at *
  simp [World.setCell, Array.getElem?_modify, h]
theorem TBox.set2 {w : World} {t : Nat} {p : Option Addr} {n k : Int} {f : Bool} (h : TBox w t p n k f) (q : Int) : TBox (w.setCell ⟨t, 2, none⟩ (.int .i64 q)) t p q k f := by
  unfold TBox tabC at *
  simp [World.setCell, Array.getElem?_modify, h]
theorem TBox.set3 {w : World} {t : Nat} {p : Option Addr} {n k : Int} {f : Bool} (h : TBox w t p n k f) (q : Int) : TBox (w.setCell ⟨t, 3, none⟩ (.int .i64 q)) t p n q f := by
  unfold TBox tabC at *
  simp [World.setCell, Array.getElem?_modify, h]

/-- A table: its block, the tree in blocks of G, in order. -/
structure Tab (G : Nat → Prop) (w : World) (t : Nat) (L : List EntD) (n k : Int) (f : Bool) : Prop where
  not : ¬ G t
  srt : Srt L
  tree : ∃ p T, TBox w t p n k f ∧ IsT G w p T ∧ T.ord = L

set_option maxRecDepth 100000 in
theorem new_any (w : World) : Calls Try.prog 8 #[] w fun e w' => e = .returned (.pointer (some ⟨w.heap.size, 0, none⟩)) ∧ TBox w' w.heap.size none 0 0 false ∧ w'.heap.size = w.heap.size + 1 ∧ Below w.heap.size w w' := by
  go_enter Try.func8, Try.ntmps8
  go_wp2
  go_ret
  refine ⟨rfl, ?_, by simp, (Below.refl _ w).alloc (Nat.le_refl _) _⟩
  show (w.heap.push _)[w.heap.size]? = some _
  simp [tabC]

set_option maxRecDepth 100000 in
theorem len_any {w : World} {t : Nat} {p : Option Addr} {n k : Int} {f : Bool} (h : TBox w t p n k f) : Calls Try.prog 13 #[.pointer (some ⟨t, 0, none⟩)] w fun e w' => e = .returned (.int .i64 n) ∧ w' = w := by
  have c := h.cells.2.2.1
  go_enter Try.func13, Try.ntmps13
  go_wp2
  go_ret
  exact ⟨rfl, rfl⟩

set_option maxRecDepth 100000 in
theorem all_any (w : World) (v : Option Addr) : Calls Try.prog 11 #[.pointer v] w fun e w' => e = .returned (.func (.func 35) #[] #[.pointer (some ⟨w.heap.size, 0, none⟩)]) ∧ w' = w.alloc (.cells #[.pointer v] 24) := by
  go_enter Try.func11, Try.ntmps11
  go_wp2
  go_ret
  exact ⟨rfl, rfl⟩

set_option maxRecDepth 100000 in
theorem oall_any (w : World) (p : Option Addr) : Calls Try.prog 37 #[ordV p] w fun e w' => e = .returned (.func (.func 57) #[] #[.pointer (some ⟨w.heap.size, 0, none⟩)]) ∧ w' = w.alloc (.cells #[.pointer p, .func (.func 18) #[] #[]] 67) := by
  unfold ordV
  go_enter Try.func37, Try.ntmps37
  go_wp2
  go_ret
  exact ⟨rfl, rfl⟩
end Go.Proofs.Ytnjopfdeapclhaa
