import Derived.Test.YthhkpkfpifllkaaGreatK12
import Derived.Test.YthhkpkfpifllkaaGreatRows
import Derived.ProofKit
import Derived.OpenShut
import Derived.Deep.DeepHandedRow
import Derived.Lib.LaidTab
import Derived.Deep.Slices
namespace Go.Proofs.YthhkpkfpifllkaaGreat
open Go.RowKit
set_option linter.unusedVariables false

theorem RdL3.cells {w w' : World} {b off cap : Nat} {xs : List EntD} (h : RdL3 w (some ⟨b, off, none⟩) cap xs) (hb : Below w.heap.size w w') {t : Nat} {x : EntD} (hx : xs[t]? = some x) : ∀ (j : Nat) u, x.cells.toList[j]? = some u → w'.cell? ⟨b, off + t * 7 + j, none⟩ = some u := by
  rcases (h.later hb).at_ with h0 | ⟨b2, off2, e, hc⟩
  · rw [h0] at hx; simp at hx
  · cases e
    exact hc t x hx
set_option maxRecDepth 100000 in
set_option maxHeartbeats 4000000 in
theorem sameAll_ok {w : World} {aa ab : Option Addr} {ca cb : Nat} {xs ys : List EntD} (ha : RdL3 w aa ca xs) (hb : RdL3 w ab cb ys) (hs : xs.map EntD.dat = ys.map EntD.dat) (hl : xs.length ≤ 1353245080300) :
    Calls Tryz.prog 18 #[.slice aa xs.length ca, .slice ab ys.length cb] w fun e w' => e = .returned (.bool true) ∧ Below w.heap.size w w' := by
  have HA := Lib.hid ha
  have HB := Lib.hid hb
  have el : ys.length = xs.length := by have := congrArg List.length hs; simpa using this.symm
  have HS := Lib.hid hs
  obtain ⟨n, hn⟩ : ∃ n, n = xs.length := ⟨_, rfl⟩
  rw [el, ← hn]
  rw [← hn] at hl
  have a1 : n ≤ ca := by rw [hn]; exact ha.cap.1
  have b1 : n ≤ cb := by rw [hn, ← el]; exact hb.cap.1
  have HN : Hid (xs.length = n) := hn.symm
  have HEl : Hid (ys.length = n) := el.trans hn.symm
  clear hn hs el ha hb
  have hmx : Tryz.prog.follows .mixedOrders = true := by kernel_rfl
  go_enter Tryz.func18, Tryz.ntmps18
  go_wp2
  go_loopw [5] (fun i wr => ∃ t : Nat, t ≤ n ∧ i = .int .i64 (t : Int) ∧ Below w.heap.size w wr) (fun i _ => n - (intOf i).toNat)
  case atStart => exact ⟨0, by omega, rfl, Below.refl _ _⟩
  case round =>
    obtain ⟨t, htn, rfl, hbk⟩ := hrel
    by_cases h1 : t < n
    · have h1' : (t : Int) < (n : Int) := by omega
      have ht0 : (0 : Int) ≤ (t : Int) := by omega
      have HBK := Lib.hid hbk
      obtain ⟨x, hx⟩ : ∃ x, xs[t]? = some x := ⟨xs[t]'(by rw [HN.out]; exact h1), List.getElem?_eq_getElem _⟩
      obtain ⟨y, hy⟩ : ∃ y, ys[t]? = some y := ⟨ys[t]'(by rw [HEl.out]; exact h1), List.getElem?_eq_getElem _⟩
      have hxy : EntD.Same x y := by
        have e1 : (xs.map EntD.dat)[t]? = some x.dat := by rw [List.getElem?_map, hx]; rfl
        have e2 : (ys.map EntD.dat)[t]? = some y.dat := by rw [List.getElem?_map, hy]; rfl
        rw [HS.out, e2] at e1
        exact EntD.dat_same.1 (Option.some.inj e1).symm
      obtain ⟨ba, oa, rfl⟩ : ∃ b off, aa = some ⟨b, off, none⟩ := by
        rcases HA.out.at_ with h0 | ⟨b, off, e, _⟩
        · rw [h0] at hx; simp at hx
        · exact ⟨b, off, e⟩
      obtain ⟨bb, ob, rfl⟩ : ∃ b off, ab = some ⟨b, off, none⟩ := by
        rcases HB.out.at_ with h0 | ⟨b, off, e, _⟩
        · rw [h0] at hy; simp at hy
        · exact ⟨b, off, e⟩
      have KS : Hid (∀ wx, Below wr.heap.size wr wx → (wx.cell? ⟨ba, oa + t * 7, none⟩ = some x.vr ∧ wx.cell? ⟨ba, oa + t * 7 + 1, none⟩ = some (.int .i64 x.fam) ∧ wx.cell? ⟨ba, oa + t * 7 + 2, none⟩ = some x.vq ∧ wx.cell? ⟨ba, oa + t * 7 + 3, none⟩ = some (.int .i64 x.ts) ∧ wx.cell? ⟨ba, oa + t * 7 + 4, none⟩ = some (.int .i64 x.seq) ∧ wx.cell? ⟨ba, oa + t * 7 + 5, none⟩ = some (.int .i64 x.kind) ∧ wx.cell? ⟨ba, oa + t * 7 + 6, none⟩ = some x.vv) ∧ (wx.cell? ⟨bb, ob + t * 7, none⟩ = some y.vr ∧ wx.cell? ⟨bb, ob + t * 7 + 1, none⟩ = some (.int .i64 y.fam) ∧ wx.cell? ⟨bb, ob + t * 7 + 2, none⟩ = some y.vq ∧ wx.cell? ⟨bb, ob + t * 7 + 3, none⟩ = some (.int .i64 y.ts) ∧ wx.cell? ⟨bb, ob + t * 7 + 4, none⟩ = some (.int .i64 y.seq) ∧ wx.cell? ⟨bb, ob + t * 7 + 5, none⟩ = some (.int .i64 y.kind) ∧ wx.cell? ⟨bb, ob + t * 7 + 6, none⟩ = some y.vv)) := fun wx b => by
        have k := (HBK.out.trans (b.mono HBK.out.size))
        have c1 := HA.out.cells k hx
        have c2 := HB.out.cells k hy
        exact ⟨⟨c1 0 _ rfl, c1 1 _ rfl, c1 2 _ rfl, c1 3 _ rfl, c1 4 _ rfl, c1 5 _ rfl, c1 6 _ rfl⟩, ⟨c2 0 _ rfl, c2 1 _ rfl, c2 2 _ rfl, c2 3 _ rfl, c2 4 _ rfl, c2 5 _ rfl, c2 6 _ rfl⟩⟩
      have HSe : Hid (∀ Z, Below wr.heap.size wr Z → Calls Tryz.prog 45 #[.agg #[x.vr, .int .i64 x.fam, x.vq, .int .i64 x.ts, .int .i64 x.seq, .int .i64 x.kind, x.vv], .agg #[y.vr, .int .i64 y.fam, y.vq, .int .i64 y.ts, .int .i64 y.seq, .int .i64 y.kind, y.vv]] Z fun r w' => r = .returned (.bool true) ∧ Below Z.heap.size Z w') := fun Z hZ => by
        have k := (HBK.out.trans (hZ.mono HBK.out.size))
        refine (same3r_any ((HA.out.later k).ok x (List.mem_of_getElem? hx)) ((HB.out.later k).ok y (List.mem_of_getElem? hy))).mono ?_
        rintro r w' ⟨rfl, hb⟩
        exact ⟨by rw [decide_eq_true hxy], hb⟩
      have D0 : Below wr.heap.size wr wr.drew := (Below.refl _ _).drew
      clear hx hy hxy hbk
      go_wp2_with fail
      go_region_held3 (fun wx => (wx.cell? ⟨ba, oa + t * 7, none⟩ = some x.vr ∧ wx.cell? ⟨ba, oa + t * 7 + 1, none⟩ = some (.int .i64 x.fam) ∧ wx.cell? ⟨ba, oa + t * 7 + 2, none⟩ = some x.vq ∧ wx.cell? ⟨ba, oa + t * 7 + 3, none⟩ = some (.int .i64 x.ts) ∧ wx.cell? ⟨ba, oa + t * 7 + 4, none⟩ = some (.int .i64 x.seq) ∧ wx.cell? ⟨ba, oa + t * 7 + 5, none⟩ = some (.int .i64 x.kind) ∧ wx.cell? ⟨ba, oa + t * 7 + 6, none⟩ = some x.vv) ∧ (wx.cell? ⟨bb, ob + t * 7, none⟩ = some y.vr ∧ wx.cell? ⟨bb, ob + t * 7 + 1, none⟩ = some (.int .i64 y.fam) ∧ wx.cell? ⟨bb, ob + t * 7 + 2, none⟩ = some y.vq ∧ wx.cell? ⟨bb, ob + t * 7 + 3, none⟩ = some (.int .i64 y.ts) ∧ wx.cell? ⟨bb, ob + t * 7 + 4, none⟩ = some (.int .i64 y.seq) ∧ wx.cell? ⟨bb, ob + t * 7 + 5, none⟩ = some (.int .i64 y.kind) ∧ wx.cell? ⟨bb, ob + t * 7 + 6, none⟩ = some y.vv)) (first | exact KS.out _ D1 | exact KS.out _ D0) ((go_at_call 45; refine Calls.mono (HSe.out _ D0) ?_; rintro e1 w1 ⟨rfl, hb1⟩; have D1 := D0.trans (hb1.mono D0.size)))
      go_wp2
      go_roundw
      case rel => exact ⟨t + 1, by omega, by go_num, HBK.out.trans (D1.mono HBK.out.size)⟩
      case measure => simp [intOf]; omega
    · have h1' : (n : Int) ≤ (t : Int) := by omega
      go_wp2
      go_ret
      exact ⟨rfl, hbk⟩
end Go.Proofs.YthhkpkfpifllkaaGreat

namespace Go.Proofs.YthhkpkfpifllkaaGreat
open Go.RowKit
set_option linter.unusedVariables false

def oneD (vr vq vv : Value) (k ts seq : Int) (val : List Nat) : EntD := ⟨vr, 0, vq, ts, seq, k, vv, [114], [113], val⟩
theorem heap_old9 {w : World} (o : Obj) {k : Nat} {x : Obj} (h : w.heap[k]? = some x) : (w.alloc o).heap[k]? = some x := by
  rw [Below.heap_alloc w o k (Array.getElem?_eq_some_iff.1 h).1]
  exact h
theorem heap_new9 (w : World) (o : Obj) {k : Nat} (h : k = w.heap.size) : (w.alloc o).heap[k]? = some o := by
  subst h
  show (w.heap.push o)[w.heap.size]? = some o
  simp
theorem five5 (w : World) (a b c d e : Obj) : ∃ X, X = ((((w.alloc a).alloc b).alloc c).alloc d).alloc e ∧ X.heap[w.heap.size]? = some a ∧ X.heap[w.heap.size + 1]? = some b ∧ X.heap[w.heap.size + 2]? = some c ∧ X.heap[w.heap.size + 4]? = some e ∧ Below w.heap.size w X := by
  have A1 := (Below.refl w.heap.size w).alloc (Nat.le_refl _) a
  have A2 := A1.alloc A1.size b
  have A3 := A2.alloc A2.size c
  have A4 := A3.alloc A3.size d
  have A5 := A4.alloc A4.size e
  exact ⟨_, rfl, heap_old9 _ (heap_old9 _ (heap_old9 _ (heap_old9 _ (heap_new9 _ _ rfl)))), heap_old9 _ (heap_old9 _ (heap_old9 _ (heap_new9 _ _ (by simp)))), heap_old9 _ (heap_old9 _ (heap_new9 _ _ (by simp))), heap_new9 _ _ (by simp), A5⟩
theorem four4 (w : World) (a b c d : Obj) : ∃ X, X = (((w.alloc a).alloc b).alloc c).alloc d ∧ X.heap[w.heap.size]? = some a ∧ X.heap[w.heap.size + 1]? = some b ∧ X.heap[w.heap.size + 2]? = some c ∧ Below w.heap.size w X := by
  have A1 := (Below.refl w.heap.size w).alloc (Nat.le_refl _) a
  have A2 := A1.alloc A1.size b
  have A3 := A2.alloc A2.size c
  have A4 := A3.alloc A3.size d
  exact ⟨_, rfl, heap_old9 _ (heap_old9 _ (heap_old9 _ (heap_new9 _ _ rfl))), heap_old9 _ (heap_old9 _ (heap_new9 _ _ (by simp))), heap_old9 _ (heap_new9 _ _ (by simp)), A4⟩
theorem rd_nil0 (w : World) : Rd w (.slice none 0 0) [] := ⟨(fun x hx => by cases hx), none, 0, rfl, Nat.le_refl _, Nat.zero_le _, Nat.zero_le _, .inl rfl, .inl rfl⟩
theorem cell_at9 {X : World} {g i : Nat} {cs : Array Value} {ty : TypeId} {fr : Nat × Nat} {u : Value} (h : X.heap[g]? = some (.cells cs ty fr)) (hu : cs[i]? = some u) : X.cell? ⟨g, i, none⟩ = some u := by simp [World.cell?, h, hu]
set_option maxRecDepth 100000 in
set_option maxHeartbeats 1000000 in
theorem one1_any (ts seq : Int) (w : World) : Calls Tryz.prog 43 #[.int .i64 1, .int .i64 ts, .int .i64 seq] w fun e w' => ∃ vr vq vv, e = .returned (.agg (oneD vr vq vv 1 ts seq [118]).cells) ∧ EntD.Ok w' (oneD vr vq vv 1 ts seq [118]) ∧ Below w.heap.size w w' := by
  have k1 := Joins.run_convert_bytes_const_at (P := Tryz.prog) (w.alloc (.cells zeroD.cells 84)) 82 5 #[.int .u8 114] 1 1 (w.heap.size + 1) (by simp) und_bytes und_byte
  have k2 := Joins.run_convert_bytes_const_at (P := Tryz.prog) ((w.alloc (.cells zeroD.cells 84)).alloc (.cells #[.int .u8 114] 5 (1, 2))) 82 5 #[.int .u8 113] 1 1 (w.heap.size + 2) (by simp) und_bytes und_byte
  have k3 := Joins.run_convert_bytes_const_at (P := Tryz.prog) ((((w.alloc (.cells zeroD.cells 84)).alloc (.cells #[.int .u8 114] 5 (1, 2))).alloc (.cells #[.int .u8 113] 5 (1, 2))).alloc (.cells (oneD (.slice (some ⟨w.heap.size + 1, 0, none⟩) 1 1) (.slice (some ⟨w.heap.size + 2, 0, none⟩) 1 1) (.slice none 0 0) 1 ts seq []).cells 84)) 82 5 #[.int .u8 118] 1 1 (w.heap.size + 4) (by simp) und_bytes und_byte
  simp only [zeroD, oneD, EntD.cells, List.size_toArray, List.length_cons, List.length_nil, Nat.zero_add] at k1 k2 k3
  have HF := Lib.hid (five5 w (.cells (oneD (.slice (some ⟨w.heap.size + 1, 0, none⟩) 1 1) (.slice (some ⟨w.heap.size + 2, 0, none⟩) 1 1) (.slice (some ⟨w.heap.size + 4, 0, none⟩) 1 1) 1 ts seq [118]).cells 84) (.cells #[.int .u8 114] 5 (1, 2)) (.cells #[.int .u8 113] 5 (1, 2)) (.cells (oneD (.slice (some ⟨w.heap.size + 1, 0, none⟩) 1 1) (.slice (some ⟨w.heap.size + 2, 0, none⟩) 1 1) (.slice (some ⟨w.heap.size + 4, 0, none⟩) 1 1) 1 ts seq [118]).cells 84) (.cells #[.int .u8 118] 5 (1, 2)))
  simp only [oneD, EntD.cells] at HF
  go_enter Tryz.func43, Tryz.ntmps43
  go_wp2
  clear k1 k2 k3
  obtain ⟨X, hX, h0, h1, h2, h4, bel⟩ := HF.out
  clear HF
  rw [← hX]
  have y0 := cell_at9 (i := 0) h0 rfl
  have y1 := cell_at9 (i := 1) h0 rfl
  have y2 := cell_at9 (i := 2) h0 rfl
  have y3 := cell_at9 (i := 3) h0 rfl
  have y4 := cell_at9 (i := 4) h0 rfl
  have y5 := cell_at9 (i := 5) h0 rfl
  have y6 := cell_at9 (i := 6) h0 rfl
  refine bodyPost_ret (v := .agg (oneD (.slice (some ⟨w.heap.size + 1, 0, none⟩) 1 1) (.slice (some ⟨w.heap.size + 2, 0, none⟩) 1 1) (.slice (some ⟨w.heap.size + 4, 0, none⟩) 1 1) 1 ts seq [118]).cells) (by simp [results, Tryz.results43, go_sem, y0, y1, y2, y3, y4, y5, y6, oneD, EntD.cells]) rfl ?_
  exact ⟨_, _, _, rfl, ⟨rd_one (cell_at9 (i := 0) h1 rfl) (by decide), rd_one (cell_at9 (i := 0) h2 rfl) (by decide), rd_one (cell_at9 (i := 0) h4 rfl) (by decide)⟩, bel⟩
set_option maxRecDepth 100000 in
set_option maxHeartbeats 1000000 in
theorem one2_any (ts seq : Int) (w : World) : Calls Tryz.prog 43 #[.int .i64 2, .int .i64 ts, .int .i64 seq] w fun e w' => ∃ vr vq vv, e = .returned (.agg (oneD vr vq vv 2 ts seq []).cells) ∧ EntD.Ok w' (oneD vr vq vv 2 ts seq []) ∧ Below w.heap.size w w' := by
  have k1 := Joins.run_convert_bytes_const_at (P := Tryz.prog) (w.alloc (.cells zeroD.cells 84)) 82 5 #[.int .u8 114] 1 1 (w.heap.size + 1) (by simp) und_bytes und_byte
  have k2 := Joins.run_convert_bytes_const_at (P := Tryz.prog) ((w.alloc (.cells zeroD.cells 84)).alloc (.cells #[.int .u8 114] 5 (1, 2))) 82 5 #[.int .u8 113] 1 1 (w.heap.size + 2) (by simp) und_bytes und_byte
  simp only [zeroD, EntD.cells, List.size_toArray, List.length_cons, List.length_nil, Nat.zero_add] at k1 k2
  have HF := Lib.hid (four4 w (.cells (oneD (.slice (some ⟨w.heap.size + 1, 0, none⟩) 1 1) (.slice (some ⟨w.heap.size + 2, 0, none⟩) 1 1) (.slice none 0 0) 2 ts seq []).cells 84) (.cells #[.int .u8 114] 5 (1, 2)) (.cells #[.int .u8 113] 5 (1, 2)) (.cells (oneD (.slice (some ⟨w.heap.size + 1, 0, none⟩) 1 1) (.slice (some ⟨w.heap.size + 2, 0, none⟩) 1 1) (.slice none 0 0) 2 ts seq []).cells 84))
  simp only [oneD, EntD.cells] at HF
  go_enter Tryz.func43, Tryz.ntmps43
  go_wp2
  clear k1 k2
  obtain ⟨X, hX, h0, h1, h2, bel⟩ := HF.out
  clear HF
  rw [← hX]
  have y0 := cell_at9 (i := 0) h0 rfl
  have y1 := cell_at9 (i := 1) h0 rfl
  have y2 := cell_at9 (i := 2) h0 rfl
  have y3 := cell_at9 (i := 3) h0 rfl
  have y4 := cell_at9 (i := 4) h0 rfl
  have y5 := cell_at9 (i := 5) h0 rfl
  have y6 := cell_at9 (i := 6) h0 rfl
  refine bodyPost_ret (v := .agg (oneD (.slice (some ⟨w.heap.size + 1, 0, none⟩) 1 1) (.slice (some ⟨w.heap.size + 2, 0, none⟩) 1 1) (.slice none 0 0) 2 ts seq []).cells) (by simp [results, Tryz.results43, go_sem, y0, y1, y2, y3, y4, y5, y6, oneD, EntD.cells]) rfl ?_
  exact ⟨_, _, _, rfl, ⟨rd_one (cell_at9 (i := 0) h1 rfl) (by decide), rd_one (cell_at9 (i := 0) h2 rfl) (by decide), rd_nil0 _⟩, bel⟩
set_option maxRecDepth 100000 in
set_option maxHeartbeats 1000000 in
theorem one3_any (ts seq : Int) (w : World) : Calls Tryz.prog 43 #[.int .i64 3, .int .i64 ts, .int .i64 seq] w fun e w' => ∃ vr vq vv, e = .returned (.agg (oneD vr vq vv 3 ts seq []).cells) ∧ EntD.Ok w' (oneD vr vq vv 3 ts seq []) ∧ Below w.heap.size w w' := by
  have k1 := Joins.run_convert_bytes_const_at (P := Tryz.prog) (w.alloc (.cells zeroD.cells 84)) 82 5 #[.int .u8 114] 1 1 (w.heap.size + 1) (by simp) und_bytes und_byte
  have k2 := Joins.run_convert_bytes_const_at (P := Tryz.prog) ((w.alloc (.cells zeroD.cells 84)).alloc (.cells #[.int .u8 114] 5 (1, 2))) 82 5 #[.int .u8 113] 1 1 (w.heap.size + 2) (by simp) und_bytes und_byte
  simp only [zeroD, EntD.cells, List.size_toArray, List.length_cons, List.length_nil, Nat.zero_add] at k1 k2
  have HF := Lib.hid (four4 w (.cells (oneD (.slice (some ⟨w.heap.size + 1, 0, none⟩) 1 1) (.slice (some ⟨w.heap.size + 2, 0, none⟩) 1 1) (.slice none 0 0) 3 ts seq []).cells 84) (.cells #[.int .u8 114] 5 (1, 2)) (.cells #[.int .u8 113] 5 (1, 2)) (.cells (oneD (.slice (some ⟨w.heap.size + 1, 0, none⟩) 1 1) (.slice (some ⟨w.heap.size + 2, 0, none⟩) 1 1) (.slice none 0 0) 3 ts seq []).cells 84))
  simp only [oneD, EntD.cells] at HF
  go_enter Tryz.func43, Tryz.ntmps43
  go_wp2
  clear k1 k2
  obtain ⟨X, hX, h0, h1, h2, bel⟩ := HF.out
  clear HF
  rw [← hX]
  have y0 := cell_at9 (i := 0) h0 rfl
  have y1 := cell_at9 (i := 1) h0 rfl
  have y2 := cell_at9 (i := 2) h0 rfl
  have y3 := cell_at9 (i := 3) h0 rfl
  have y4 := cell_at9 (i := 4) h0 rfl
  have y5 := cell_at9 (i := 5) h0 rfl
  have y6 := cell_at9 (i := 6) h0 rfl
  refine bodyPost_ret (v := .agg (oneD (.slice (some ⟨w.heap.size + 1, 0, none⟩) 1 1) (.slice (some ⟨w.heap.size + 2, 0, none⟩) 1 1) (.slice none 0 0) 3 ts seq []).cells) (by simp [results, Tryz.results43, go_sem, y0, y1, y2, y3, y4, y5, y6, oneD, EntD.cells]) rfl ?_
  exact ⟨_, _, _, rfl, ⟨rd_one (cell_at9 (i := 0) h1 rfl) (by decide), rd_one (cell_at9 (i := 0) h2 rfl) (by decide), rd_nil0 _⟩, bel⟩
def famF (mx tl : Int) : FamD := ⟨⟨#[102]⟩, mx, tl⟩
theorem two2 (w : World) (a b : Obj) : ∃ X, X = (w.alloc a).alloc b ∧ X.heap[w.heap.size]? = some a ∧ X.heap[w.heap.size + 1]? = some b ∧ Below w.heap.size w X := by
  have A1 := (Below.refl w.heap.size w).alloc (Nat.le_refl _) a
  have A2 := A1.alloc A1.size b
  exact ⟨_, rfl, heap_old9 _ (heap_new9 _ _ rfl), heap_new9 _ _ (by simp), A2⟩
set_option maxRecDepth 100000 in
set_option maxHeartbeats 1000000 in
theorem family3_any (mx tl : Int) (w : World) : Calls Tryz.prog 44 #[.int .i64 mx, .int .i64 tl] w fun e w' => ∃ b, e = .returned (.agg #[.slice (some ⟨b, 0, none⟩) 1 1]) ∧ RdF w' (.slice (some ⟨b, 0, none⟩) 1 1) [famF mx tl] ∧ Below w.heap.size w w' := by
  have HF := Lib.hid (two2 w (.cells #[.slice (some ⟨w.heap.size + 1, 0, none⟩) 1 1] 27) (.cells #[.string ⟨#[102]⟩, .int .i64 mx, .int .i64 tl] 132))
  go_enter Tryz.func44, Tryz.ntmps44
  go_wp2
  obtain ⟨X, hX, h0, h1, bel⟩ := HF.out
  clear HF
  rw [← hX]
  have y0 := cell_at9 (i := 0) h0 rfl
  refine bodyPost_ret (v := .agg #[.slice (some ⟨w.heap.size + 1, 0, none⟩) 1 1]) (by simp [results, Tryz.results44, go_sem, y0]) rfl ?_
  refine ⟨_, rfl, ⟨_, 1, rfl, Nat.le_refl _, by decide, by simp, .inr ⟨_, 0, rfl, fun i f hf => ?_⟩⟩, bel⟩
  cases i with
  | zero =>
    simp only [List.getElem?_cons_zero, Option.some.injEq] at hf
    subst hf
    exact ⟨cell_at9 (i := 0) h1 rfl, cell_at9 (i := 1) h1 rfl, cell_at9 (i := 2) h1 rfl⟩
  | succ i => simp at hf
end Go.Proofs.YthhkpkfpifllkaaGreat

namespace Go.Proofs.YthhkpkfpifllkaaGreat
open Go.RowKit
set_option linter.unusedVariables false

def oE (k ts seq : Int) (val : List Nat) : En := ⟨[114], 0, [113], ts, seq, k, val⟩
theorem ah_o {k ts seq k' ts' seq' : Int} {v v' : List Nat} (h : k ≤ 3) (h' : k' ≤ 3) (ht : ts' ≤ ts) (hs : ts = ts' → seq' < seq) : Ah (oE k ts seq v) (oE k' ts' seq' v') :=
  ⟨by simp [oE, ordC], fun _ => Int.le_refl _, fun _ _ z => by have z : k' = 5 := z; omega, fun _ _ _ => by simp [oE, ordC], fun _ _ _ _ z => by have z : k' = 4 := z; omega, fun _ _ _ _ _ => ht, fun _ _ _ _ _ z => hs z⟩
theorem inOrder_zero {k : Nat} {l : List EntD} (hck : ∀ x ∈ l, check3S k x = 0) (hne : l.Pairwise fun a b => a.seq ≠ b.seq) : inOrderE (check3S k) l = 0 := by
  have ho : onceS l = some l := by simpa [onceS] using once_self l [] (by simpa using hne)
  unfold inOrderE
  rw [firstBad_zero hck, if_neg (by simp), if_neg (by rw [ho]; simp)]
def dl : List En := [oE 1 5 3 [118], oE 1 9 1 [118], oE 3 7 4 [], oE 1 7 2 [118]]
def ml : List En := [oE 1 9 1 [118], oE 3 7 4 [], oE 1 7 2 [118], oE 1 5 3 [118]]
theorem dl_ck : ∀ e ∈ dl, check3S 1 (EntD.ofEn e) = 0 := by
  intro e he
  simp only [dl, List.mem_cons, List.not_mem_nil, or_false] at he
  rcases he with rfl | rfl | rfl | rfl <;> rfl
theorem ml_mem (e : En) : e ∈ ml ↔ e ∈ dl := by
  simp only [ml, dl, List.mem_cons, List.not_mem_nil, or_false]
  constructor
  · rintro (h | h | h | h) <;> simp [h]
  · rintro (h | h | h | h) <;> simp [h]
theorem ml_ord : IsOrd 1 dl ml := by
  refine ⟨?_, ?_, fun e he => va_of_check (k := 1) (e := EntD.ofEn e) (dl_ck e ((ml_mem e).1 he)), fun e he => dl_ck e ((ml_mem e).1 he), ml_mem⟩
  · simp only [ml, List.pairwise_cons, List.mem_cons, List.not_mem_nil, or_false, forall_eq_or_imp, forall_eq, List.Pairwise.nil, and_true, false_implies, implies_true]
    exact ⟨⟨ah_o (by omega) (by omega) (by omega) (by omega), ah_o (by omega) (by omega) (by omega) (by omega), ah_o (by omega) (by omega) (by omega) (by omega)⟩, ⟨ah_o (by omega) (by omega) (by omega) (by omega), ah_o (by omega) (by omega) (by omega) (by omega)⟩, ah_o (by omega) (by omega) (by omega) (by omega)⟩
  · simp [ml, oE]
theorem ml_vis : (showS 1099511627776 16 (verdictsS [(2, 10)] 12 ml)).2 = [oE 1 9 1 [118]] := rfl
theorem ml_read : (showS 12 1 (verdictsS [(2, 10)] 12 ml)).2 = [oE 1 9 1 [118]] := rfl
theorem ml_top : topS (verdictsS [(2, 10)] 12 ml) = 9 := rfl
theorem ml_squash : outS false 0 (verdictsS [(2, 10)] 12 ml) = [oE 1 9 1 [118], oE 2 7 4 []] := rfl
theorem famF_ok : SchemaOk [famF 2 10] := by
  refine ⟨by decide, fun i f hf => ?_⟩
  cases i with
  | succ i => simp at hf
  | zero =>
    simp only [List.getElem?_cons_zero, Option.some.injEq] at hf
    subst hf
    refine ⟨⟨⟨by decide, by decide, fun i hi => ?_⟩, by decide, by decide, by decide⟩, by simp [famIx, famF]⟩
    have : i = 0 := by have : i < 1 := hi; omega
    subst this
    exact .inl (by decide)
end Go.Proofs.YthhkpkfpifllkaaGreat

namespace Go.Proofs.YthhkpkfpifllkaaGreat
open Go.RowKit
set_option linter.unusedVariables false

def ByE (e : En) : Prop := (Bys e.row ∧ Bys e.qual ∧ Bys e.val) ∧ e.row.length ≤ 281474976710656 ∧ e.qual.length ≤ 281474976710656 ∧ e.val.length ≤ 281474976710656
theorem O3.okB {W : World} {N : Nat} {x : EntD} (h : O3 W N x) (hb : ByE x.dat) : EntD.Ok W x := ⟨h.row.rd hb.1.1 hb.2.1, h.qual.rd hb.1.2.1 hb.2.2.1, h.val.rd hb.1.2.2 hb.2.2.2⟩
theorem EntD.Ok.by {W : World} {x : EntD} (h : EntD.Ok W x) : ByE x.dat := by
  obtain ⟨⟨a1, _, _, _, _, _, a2, _⟩, ⟨b1, _, _, _, _, _, b2, _⟩, ⟨c1, _, _, _, _, _, c2, _⟩⟩ := h
  exact ⟨⟨a1, b1, c1⟩, a2, b2, c2⟩
theorem Rw.rdl {W : World} {N : Nat} {v : Value} {zs : List EntD} {O : Nat → Prop} (h : Rw W N v zs O) (hb : ∀ x ∈ zs, ByE x.dat) : ∃ a cap, v = .slice a zs.length cap ∧ (a = none → cap = 0) ∧ RdL3 W a cap zs := by
  have hok : ∀ x ∈ zs, EntD.Ok W x := fun x hx => (h.ents x hx).okB (hb x hx)
  rcases h.row.2 with ⟨h1, h2⟩ | ⟨g, cap, cur, h1, h2, h3, h4, h5, h6, h7⟩
  · have hz := List.eq_nil_of_length_eq_zero h2
    subst hz
    exact ⟨none, 0, h1, fun _ => rfl, ⟨⟨Nat.le_refl _, Nat.zero_le _⟩, .inl rfl, hok⟩⟩
  · refine ⟨some ⟨g, 0, none⟩, cap, h1, (fun z => by cases z), ⟨⟨h4, h5⟩, ?_, hok⟩⟩
    refine .inr ⟨g, 0, rfl, fun i x hi j u hj => ?_⟩
    have hr := h.row
    rw [h1] at hr
    obtain ⟨g2, e, _, _, hc⟩ := row_cells3 hr hi
    cases e
    rw [Nat.zero_add]
    exact hc j u hj
theorem bys_c {l : List Nat} (h : l.all (· < 256) = true) : Bys l := fun x hx => by simpa using List.all_eq_true.1 h x hx
theorem oE_by {k ts seq : Int} {v : List Nat} (h : v.all (· < 256) = true) (hl : v.length ≤ 4096) : ByE (oE k ts seq v) := ⟨⟨bys_c rfl, bys_c rfl, bys_c h⟩, by simp [oE], by simp [oE], by show v.length ≤ _; omega⟩
theorem hC0 : ((0 : Nat) = 0 ↔ SchemaOk [famF 2 10]) ∧ ((0 : Nat) = 0 ∨ (0 : Nat) = 28) := ⟨⟨fun _ => famF_ok, fun _ => rfl⟩, .inl rfl⟩
structure LS (W : World) (a : Option Addr) (cap : Nat) (l : List EntD) : Prop where
  rd : RdL3 W a cap l
  dat : l.map EntD.dat = dl
theorem LS.later {W W' : World} {a : Option Addr} {cap : Nat} {l : List EntD} (h : LS W a cap l) (b : Below W.heap.size W W') : LS W' a cap l := ⟨h.rd.later b, h.dat⟩
theorem LS.len {W : World} {a : Option Addr} {cap : Nat} {l : List EntD} (h : LS W a cap l) : l.length = 4 := by have := congrArg List.length h.dat; simpa [dl] using this
theorem LS.ord {W : World} {a : Option Addr} {cap : Nat} {l : List EntD} (h : LS W a cap l) : inOrderE (check3S 1) l = 0 := by
  refine inOrder_zero (fun x hx => ?_) ?_
  · rw [check_dat]
    exact dl_ck _ (by rw [← h.dat]; exact List.mem_map_of_mem hx)
  · have : (l.map EntD.dat).Pairwise fun a b => a.seq ≠ b.seq := by rw [h.dat]; simp [dl, oE]
    rw [List.pairwise_map] at this
    exact this
theorem LS.uniq {W : World} {a : Option Addr} {cap : Nat} {l xs ys : List EntD} (h : LS W a cap l) (k1 : onceS l = some xs) (k2 : ys.Perm xs) (k3 : ys.Pairwise fun x y => compareS x y ≤ 0) : ys.map EntD.dat = ml := by
  have := isOrd_of h.ord k1 k2 k3
  rw [h.dat] at this
  exact this.unique ml_ord
theorem one_of {z : List EntD} {e : En} (h : z.map EntD.dat = [e]) : ∃ x, z = [x] ∧ x.dat = e := by
  match z, h with
  | [x], h => exact ⟨x, rfl, by simpa using h⟩
theorem two_of {z : List EntD} {e f : En} (h : z.map EntD.dat = [e, f]) : ∃ x y, z = [x, y] ∧ x.dat = e ∧ y.dat = f := by
  match z, h with
  | [x, y], h => exact ⟨x, y, rfl, by simpa using h⟩
theorem some_of {W : World} {a : Option Addr} {cap : Nat} {x : EntD} {l : List EntD} (h : RdL3 W a cap (x :: l)) : ∃ b off, a = some ⟨b, off, none⟩ := by
  rcases h.at_ with h0 | ⟨b, off, e, _⟩
  · cases h0
  · exact ⟨b, off, e⟩
theorem vis_st {W : World} {b cap : Nat} {a : Option Addr} {l : List EntD} (hr : RdF W (.slice (some ⟨b, 0, none⟩) 1 1) [famF 2 10]) (h : LS W a cap l) :
    Calls Tryz.prog 19 #[.agg #[.slice (some ⟨b, 0, none⟩) 1 1], .int .i64 12, .slice a 4 cap] W fun r W' => Below W.heap.size W W' ∧ ∃ g o c x, r = .returned (.tuple #[.slice (some ⟨g, o, none⟩) 1 c, .int .i64 0]) ∧ RdL3 W' (some ⟨g, o, none⟩) c [x] ∧ x.dat = oE 1 9 1 [118] := by
  have hl := h.len
  have := vis_any sort_ok (W := W) (fa := some ⟨b, 0, none⟩) (fc := 1) (fs := [famF 2 10]) (cap := cap) (a := a) hr (fun z => by cases z) 0 hC0 12 h.rd (by omega)
  rw [hl] at this
  refine Calls.mono this ?_
  rintro r W' ⟨h1, h2, h3⟩
  refine ⟨h1, ?_⟩
  have hz : readE 0 [famF 2 10] 12 1099511627776 16 l = 0 := by
    unfold readE
    rw [if_neg (by decide)]
    exact h.ord
  obtain ⟨xs, ys, zs, v, O, k1, k2, k3, k4, k5, k6⟩ := h3 hz
  rw [h.uniq k1 k2 k3] at k6
  have k7 : zs.map EntD.dat = [oE 1 9 1 [118]] := k6.trans ml_vis
  obtain ⟨x, rfl, hx⟩ := one_of k7
  obtain ⟨a', c', hv, _, hrd⟩ := k5.rdl (fun y hy => by rw [List.mem_singleton.1 hy, hx]; exact oE_by rfl (by decide))
  obtain ⟨g, o, rfl⟩ := some_of hrd
  exact ⟨g, o, c', x, by rw [k4, hv]; rfl, hrd, hx⟩
theorem read_st {W : World} {b cap : Nat} {a : Option Addr} {l : List EntD} (hr : RdF W (.slice (some ⟨b, 0, none⟩) 1 1) [famF 2 10]) (h : LS W a cap l) :
    Calls Tryz.prog 21 #[.agg #[.slice (some ⟨b, 0, none⟩) 1 1], .int .i64 12, .int .i64 12, .int .i64 1, .slice a 4 cap] W fun r W' => Below W.heap.size W W' ∧ ∃ g o c x, r = .returned (.tuple #[.slice (some ⟨g, o, none⟩) 1 c, .int .i64 0]) ∧ RdL3 W' (some ⟨g, o, none⟩) c [x] ∧ x.dat = oE 1 9 1 [118] := by
  have hl := h.len
  have := read_any sort_ok (W := W) (fa := some ⟨b, 0, none⟩) (fc := 1) (fs := [famF 2 10]) (cap := cap) (a := a) hr (fun z => by cases z) 0 hC0 12 12 1 h.rd (by omega)
  rw [hl] at this
  refine Calls.mono this ?_
  rintro r W' ⟨h1, h2, h3⟩
  refine ⟨h1, ?_⟩
  have hz : readE 0 [famF 2 10] 12 12 1 l = 0 := by
    unfold readE
    rw [if_neg (by decide)]
    exact h.ord
  obtain ⟨xs, ys, zs, v, O, k1, k2, k3, k4, k5, k6⟩ := h3 hz
  rw [h.uniq k1 k2 k3] at k6
  have k7 : zs.map EntD.dat = [oE 1 9 1 [118]] := k6.trans ml_read
  obtain ⟨x, rfl, hx⟩ := one_of k7
  obtain ⟨a', c', hv, _, hrd⟩ := k5.rdl (fun y hy => by rw [List.mem_singleton.1 hy, hx]; exact oE_by rfl (by decide))
  obtain ⟨g, o, rfl⟩ := some_of hrd
  exact ⟨g, o, c', x, by rw [k4, hv]; rfl, hrd, hx⟩
theorem squash_st {W : World} {b cap : Nat} {a : Option Addr} {l : List EntD} (hr : RdF W (.slice (some ⟨b, 0, none⟩) 1 1) [famF 2 10]) (h : LS W a cap l) :
    Calls Tryz.prog 23 #[.agg #[.slice (some ⟨b, 0, none⟩) 1 1], .int .i64 12, .bool false, .int .i64 0, .slice a 4 cap] W fun r W' => Below W.heap.size W W' ∧ ∃ g o c x y, r = .returned (.tuple #[.slice (some ⟨g, o, none⟩) 2 c, .int .i64 0]) ∧ RdL3 W' (some ⟨g, o, none⟩) c [x, y] ∧ x.dat = oE 1 9 1 [118] ∧ y.dat = oE 2 7 4 [] := by
  have hl := h.len
  have := squash_any sort_ok (W := W) (fa := some ⟨b, 0, none⟩) (fc := 1) (fs := [famF 2 10]) (cap := cap) (a := a) hr (fun z => by cases z) 0 hC0 12 0 false h.rd (by omega)
  rw [hl] at this
  refine Calls.mono this ?_
  rintro r W' ⟨h1, h2, h3⟩
  refine ⟨h1, ?_⟩
  have hz : squashE 0 [famF 2 10] 12 0 l = 0 := by
    unfold squashE
    rw [if_neg (by decide)]
    exact h.ord
  obtain ⟨xs, ys, zs, v, O, k1, k2, k3, k4, k5, k6⟩ := h3 hz
  rw [h.uniq k1 k2 k3] at k6
  have k7 : zs.map EntD.dat = [oE 1 9 1 [118], oE 2 7 4 []] := k6.trans ml_squash
  obtain ⟨x, y, rfl, hx, hy⟩ := two_of k7
  obtain ⟨a', c', hv, _, hrd⟩ := k5.rdl (fun z hz => by
    simp only [List.mem_cons, List.not_mem_nil, or_false] at hz
    rcases hz with rfl | rfl
    · rw [hx]; exact oE_by rfl (by decide)
    · rw [hy]; exact oE_by rfl (by decide))
  obtain ⟨g, o, rfl⟩ := some_of hrd
  exact ⟨g, o, c', x, y, by rw [k4, hv]; rfl, hrd, hx, hy⟩
theorem top_st {W : World} {b cap : Nat} {a : Option Addr} {l : List EntD} (hr : RdF W (.slice (some ⟨b, 0, none⟩) 1 1) [famF 2 10]) (h : LS W a cap l) :
    Calls Tryz.prog 25 #[.agg #[.slice (some ⟨b, 0, none⟩) 1 1], .int .i64 12, .slice a 4 cap] W fun r W' => Below W.heap.size W W' ∧ r = .returned (.tuple #[.int .i64 9, .int .i64 0]) := by
  have hl := h.len
  have := top_any sort_ok (W := W) (fa := some ⟨b, 0, none⟩) (fc := 1) (fs := [famF 2 10]) (cap := cap) (a := a) hr (fun z => by cases z) 0 hC0 12 h.rd (by omega)
  rw [hl] at this
  refine Calls.mono this ?_
  rintro r W' ⟨h1, h2, h3⟩
  refine ⟨h1, ?_⟩
  have hz : topE 0 [famF 2 10] 12 l = 0 := by
    unfold topE
    rw [if_neg (by decide)]
    exact h.ord
  obtain ⟨xs, ys, k1, k2, k3, k4⟩ := h3 hz
  rw [h.uniq k1 k2 k3] at k4
  rw [k4]
  show _ = Ending.returned (Value.tuple #[.int .i64 9, .int .i64 0])
  rw [show topS (verdictsS (mt [famF 2 10]) 12 ml) = 9 from ml_top]
end Go.Proofs.YthhkpkfpifllkaaGreat

namespace Go.Proofs.YthhkpkfpifllkaaGreat
open Go.RowKit
set_option linter.unusedVariables false

theorem num_sym (n : Int) (w : World) : Calls Tryz.prog 17 #[.int .i64 n] w fun e w' => e = .returned (.int .i64 n) ∧ w = w' := Calls.mono (num_any n w) fun e w' h => ⟨h.1, h.2.symm⟩
theorem oneS {k ts seq : Int} {val : List Nat} {w : World} (h : Calls Tryz.prog 43 #[.int .i64 k, .int .i64 ts, .int .i64 seq] w fun e w' => ∃ vr vq vv, e = .returned (.agg (oneD vr vq vv k ts seq val).cells) ∧ EntD.Ok w' (oneD vr vq vv k ts seq val) ∧ Below w.heap.size w w') :
    Calls Tryz.prog 43 #[.int .i64 k, .int .i64 ts, .int .i64 seq] w fun e w' => ∃ a1 c1 a2 c2 a3 c3, e = .returned (.agg #[.slice a1 1 c1, .int .i64 0, .slice a2 1 c2, .int .i64 ts, .int .i64 seq, .int .i64 k, .slice a3 val.length c3]) ∧ EntD.Ok w' (oneD (.slice a1 1 c1) (.slice a2 1 c2) (.slice a3 val.length c3) k ts seq val) ∧ Below w.heap.size w w' := by
  refine Calls.mono h ?_
  rintro e w' ⟨vr, vq, vv, he, ok, b⟩
  obtain ⟨_, a1, c1, e1, _⟩ := ok.1
  obtain ⟨_, a2, c2, e2, _⟩ := ok.2.1
  obtain ⟨_, a3, c3, e3, _⟩ := ok.2.2
  have e1 : vr = .slice a1 1 c1 := e1
  have e2 : vq = .slice a2 1 c2 := e2
  have e3 : vv = .slice a3 val.length c3 := e3
  rw [e1, e2, e3] at he ok
  exact ⟨a1, c1, a2, c2, a3, c3, he, ok, b⟩
theorem rowC {X : World} {g : Nat} {C : Array Value} {ty : TypeId} {fr : Nat × Nat} {L : List EntD} (h : X.heap[g]? = some (.cells C ty fr)) (hC : C.toList = evals L) : ∀ (i : Nat) x, L[i]? = some x → ∀ (j : Nat) u, x.cells.toList[j]? = some u → X.cell? ⟨g, 0 + i * 7 + j, none⟩ = some u := by
  intro i x hi j u hj
  have := evals_at hi hj
  rw [← hC, Array.getElem?_toList] at this
  rw [Nat.zero_add]
  exact cell_at9 h this
theorem same_yes {a b : EntD} {w : World} (ha : EntD.Ok w a) (hb : EntD.Ok w b) (h : a.dat = b.dat) : Calls Tryz.prog 45 #[.agg a.cells, .agg b.cells] w fun r w' => r = .returned (.bool true) ∧ Below w.heap.size w w' := by
  refine Calls.mono (same3r_any ha hb) ?_
  rintro r w' ⟨rfl, hb⟩
  exact ⟨by rw [decide_eq_true (EntD.dat_same.1 h)], hb⟩
theorem same_one {x : EntD} {Z : World} {p1 p2 p3 : Option Addr} {q1 q2 q3 n : Nat} {k ts seq : Int} {val : List Nat} (hx : EntD.Ok Z x) (ho : EntD.Ok Z (oneD (.slice p1 1 q1) (.slice p2 1 q2) (.slice p3 n q3) k ts seq val)) (hd : x.dat = oE k ts seq val) : Calls Tryz.prog 45 #[.agg #[x.vr, .int .i64 x.fam, x.vq, .int .i64 x.ts, .int .i64 x.seq, .int .i64 x.kind, x.vv], .agg #[.slice p1 1 q1, .int .i64 0, .slice p2 1 q2, .int .i64 ts, .int .i64 seq, .int .i64 k, .slice p3 n q3]] Z fun r w' => r = .returned (.bool true) ∧ Below Z.heap.size Z w' := same_yes (a := x) (b := oneD (.slice p1 1 q1) (.slice p2 1 q2) (.slice p3 n q3) k ts seq val) hx ho hd
set_option maxRecDepth 100000 in
set_option maxHeartbeats 4000000 in
theorem started3 (w : World) : Calls Tryz.prog 12 #[] w fun e w' => e = .returned (.bool true) ∧ Below w.heap.size w w' := by
  go_enter Tryz.func12, Tryz.ntmps12
  go_wp2_with fail
  refine Calls.mono (oneS (one1_any 5 3 _)) ?_
  rintro e1 w1 ⟨a1, b1, a2, b2, a3, b3, rfl, ok1, B1⟩
  have H1 := Lib.hid (And.intro ok1 B1)
  clear ok1 B1
  simp only [List.length_cons, List.length_nil, Nat.zero_add]
  go_wp2_with fail
  refine Calls.mono (oneS (one1_any 9 1 _)) ?_
  rintro e1 w2 ⟨a4, b4, a5, b5, a6, b6, rfl, ok2, B2⟩
  have H2 := Lib.hid (And.intro ok2 B2)
  clear ok2 B2
  simp only [List.length_cons, List.length_nil, Nat.zero_add]
  go_wp2_with fail
  refine Calls.mono (oneS (one3_any 7 4 _)) ?_
  rintro e1 w3 ⟨a7, b7, a8, b8, a9, b9, rfl, ok3, B3⟩
  have H3 := Lib.hid (And.intro ok3 B3)
  clear ok3 B3
  simp only [List.length_nil]
  go_wp2_with fail
  refine Calls.mono (oneS (one1_any 7 2 _)) ?_
  rintro e1 w4 ⟨a10, b10, a11, b11, a12, b12, rfl, ok4, B4⟩
  have H4 := Lib.hid (And.intro ok4 B4)
  clear ok4 B4
  simp only [List.length_cons, List.length_nil, Nat.zero_add]
  go_wp2_with fail
  generalize hX : World.alloc w4 _ = X
  have hbk := hX ▸ heap_new9 w4 _ rfl
  have BX : Below w4.heap.size w4 X := hX ▸ (Below.refl w4.heap.size w4).alloc (Nat.le_refl _) _
  have HL : Hid (∃ l, LS X (some ⟨w4.heap.size, 0, none⟩) 4 l ∧ Below w.heap.size w X) := by
    obtain ⟨ok1, B1⟩ := H1.out
    obtain ⟨ok2, B2⟩ := H2.out
    obtain ⟨ok3, B3⟩ := H3.out
    obtain ⟨ok4, B4⟩ := H4.out
    refine ⟨[oneD (.slice a1 1 b1) (.slice a2 1 b2) (.slice a3 1 b3) 1 5 3 [118], oneD (.slice a4 1 b4) (.slice a5 1 b5) (.slice a6 1 b6) 1 9 1 [118], oneD (.slice a7 1 b7) (.slice a8 1 b8) (.slice a9 0 b9) 3 7 4 [], oneD (.slice a10 1 b10) (.slice a11 1 b11) (.slice a12 1 b12) 1 7 2 [118]], ⟨⟨⟨Nat.le_refl _, by decide⟩, .inr ⟨_, 0, rfl, rowC (L := [oneD (.slice a1 1 b1) (.slice a2 1 b2) (.slice a3 1 b3) 1 5 3 [118], oneD (.slice a4 1 b4) (.slice a5 1 b5) (.slice a6 1 b6) 1 9 1 [118], oneD (.slice a7 1 b7) (.slice a8 1 b8) (.slice a9 0 b9) 3 7 4 [], oneD (.slice a10 1 b10) (.slice a11 1 b11) (.slice a12 1 b12) 1 7 2 [118]]) hbk rfl⟩, fun x hx => ?_⟩, rfl⟩, ((((B1.trans (B2.mono B1.size)).trans (B3.mono (Nat.le_trans B1.size B2.size))).trans (B4.mono (Nat.le_trans B1.size (Nat.le_trans B2.size B3.size)))).trans (BX.mono (Nat.le_trans B1.size (Nat.le_trans B2.size (Nat.le_trans B3.size B4.size)))))⟩
    simp only [List.mem_cons, List.not_mem_nil, or_false] at hx
    rcases hx with rfl | rfl | rfl | rfl
    · exact (((ok1.later B2).later B3).later B4).later BX
    · exact ((ok2.later B3).later B4).later BX
    · exact (ok3.later B4).later BX
    · exact ok4.later BX
  clear hX hbk BX H1 H2 H3 H4
  obtain ⟨gl, hgl⟩ : ∃ gl, gl = w4.heap.size := ⟨_, rfl⟩
  rw [← hgl] at HL ⊢
  clear hgl
  refine Calls.mono (family3_any 2 10 _) ?_
  rintro e1 w5 ⟨f1, rfl, rf1, B5⟩
  have HV := Lib.hid (fun l (h : LS X (some ⟨gl, 0, none⟩) 4 l) => vis_st rf1 (h.later B5))
  have HB5 := Lib.hid B5
  clear rf1 B5
  go_wp2_with fail
  refine Calls.mono (HV.out _ HL.out.choose_spec.1) ?_
  rintro e1 w6 ⟨B6, g1, o1, c1, x1, rfl, rd1, dx1⟩
  have H6 := Lib.hid (And.intro (HB5.out.trans (B6.mono HB5.out.size)) (And.intro rd1 dx1))
  clear HV HB5 B6 rd1 dx1
  go_wp2_with fail
  refine Calls.mono (family3_any 2 10 _) ?_
  rintro e1 w7 ⟨f2, rfl, rf2, B7⟩
  have HV := Lib.hid (fun l (h : LS X (some ⟨gl, 0, none⟩) 4 l) => squash_st rf2 (h.later (H6.out.1.trans (B7.mono H6.out.1.size))))
  have HB7 := Lib.hid B7
  clear rf2 B7
  go_wp2_with fail
  refine Calls.mono (HV.out _ HL.out.choose_spec.1) ?_
  rintro e1 w8 ⟨B8, g2, o2, c2, x2, y2, rfl, rd2, dx2, dy2⟩
  have H8 := Lib.hid (And.intro (HB7.out.trans (B8.mono HB7.out.size)) (And.intro rd2 (And.intro dx2 dy2)))
  clear HV HB7 B8 rd2 dx2 dy2
  go_wp2_with fail
  refine Calls.mono (family3_any 2 10 _) ?_
  rintro e1 w9 ⟨f3, rfl, rf3, B9⟩
  have K8 := Lib.hid (H6.out.1.trans (H8.out.1.mono H6.out.1.size))
  have HV := Lib.hid (fun l (h : LS X (some ⟨gl, 0, none⟩) 4 l) => read_st rf3 (h.later (K8.out.trans (B9.mono K8.out.size))))
  have HB9 := Lib.hid B9
  clear rf3 B9
  go_wp2_with fail
  refine Calls.mono (HV.out _ HL.out.choose_spec.1) ?_
  rintro e1 w10 ⟨B10, g3, o3, c3, x3, rfl, rd3, dx3⟩
  have H10 := Lib.hid (And.intro (HB9.out.trans (B10.mono HB9.out.size)) (And.intro rd3 dx3))
  clear HV HB9 B10 rd3 dx3
  go_wp2_with fail
  refine Calls.mono (family3_any 2 10 _) ?_
  rintro e1 w11 ⟨f4, rfl, rf4, B11⟩
  have K10 := Lib.hid (K8.out.trans (H10.out.1.mono K8.out.size))
  have HV := Lib.hid (fun l (h : LS X (some ⟨gl, 0, none⟩) 4 l) => top_st rf4 (h.later (K10.out.trans (B11.mono K10.out.size))))
  have HB11 := Lib.hid B11
  clear rf4 B11
  go_wp2_with fail
  refine Calls.mono (HV.out _ HL.out.choose_spec.1) ?_
  rintro e1 w12 ⟨B12, rfl⟩
  have H12 := Lib.hid (HB11.out.trans (B12.mono HB11.out.size))
  clear HV HB11 B12
  go_wp2_with (go_at_call 17; refine (num_sym _ _).mono ?_; rintro e1 wn ⟨rfl, rfl⟩)
  have K12 := Lib.hid (K10.out.trans (H12.out.mono K10.out.size))
  have R1 := Lib.hid (H6.out.2.1.later (H8.out.1.trans ((H10.out.1.trans (H12.out.mono H10.out.1.size)).mono H8.out.1.size)))
  have R2 := Lib.hid (H8.out.2.1.later (H10.out.1.trans (H12.out.mono H10.out.1.size)))
  have R3 := Lib.hid (H10.out.2.1.later H12.out)
  have KS : Hid (∀ wx, Below w12.heap.size w12 wx → (wx.cell? ⟨g1, o1, none⟩ = some x1.vr ∧ wx.cell? ⟨g1, o1 + 1, none⟩ = some (.int .i64 x1.fam) ∧ wx.cell? ⟨g1, o1 + 2, none⟩ = some x1.vq ∧ wx.cell? ⟨g1, o1 + 3, none⟩ = some (.int .i64 x1.ts) ∧ wx.cell? ⟨g1, o1 + 4, none⟩ = some (.int .i64 x1.seq) ∧ wx.cell? ⟨g1, o1 + 5, none⟩ = some (.int .i64 x1.kind) ∧ wx.cell? ⟨g1, o1 + 6, none⟩ = some x1.vv) ∧ (wx.cell? ⟨g2, o2, none⟩ = some x2.vr ∧ wx.cell? ⟨g2, o2 + 1, none⟩ = some (.int .i64 x2.fam) ∧ wx.cell? ⟨g2, o2 + 2, none⟩ = some x2.vq ∧ wx.cell? ⟨g2, o2 + 3, none⟩ = some (.int .i64 x2.ts) ∧ wx.cell? ⟨g2, o2 + 4, none⟩ = some (.int .i64 x2.seq) ∧ wx.cell? ⟨g2, o2 + 5, none⟩ = some (.int .i64 x2.kind) ∧ wx.cell? ⟨g2, o2 + 6, none⟩ = some x2.vv) ∧ (wx.cell? ⟨g2, o2 + 7, none⟩ = some y2.vr ∧ wx.cell? ⟨g2, o2 + 7 + 1, none⟩ = some (.int .i64 y2.fam) ∧ wx.cell? ⟨g2, o2 + 7 + 2, none⟩ = some y2.vq ∧ wx.cell? ⟨g2, o2 + 7 + 3, none⟩ = some (.int .i64 y2.ts) ∧ wx.cell? ⟨g2, o2 + 7 + 4, none⟩ = some (.int .i64 y2.seq) ∧ wx.cell? ⟨g2, o2 + 7 + 5, none⟩ = some (.int .i64 y2.kind) ∧ wx.cell? ⟨g2, o2 + 7 + 6, none⟩ = some y2.vv) ∧ (wx.cell? ⟨g3, o3, none⟩ = some x3.vr ∧ wx.cell? ⟨g3, o3 + 1, none⟩ = some (.int .i64 x3.fam) ∧ wx.cell? ⟨g3, o3 + 2, none⟩ = some x3.vq ∧ wx.cell? ⟨g3, o3 + 3, none⟩ = some (.int .i64 x3.ts) ∧ wx.cell? ⟨g3, o3 + 4, none⟩ = some (.int .i64 x3.seq) ∧ wx.cell? ⟨g3, o3 + 5, none⟩ = some (.int .i64 x3.kind) ∧ wx.cell? ⟨g3, o3 + 6, none⟩ = some x3.vv)) := fun wx b => by
    have c1 := R1.out.cells b (t := 0) rfl
    have c2 := R2.out.cells b (t := 0) rfl
    have c3 := R2.out.cells b (t := 1) rfl
    have c4 := R3.out.cells b (t := 0) rfl
    exact ⟨⟨c1 0 _ rfl, c1 1 _ rfl, c1 2 _ rfl, c1 3 _ rfl, c1 4 _ rfl, c1 5 _ rfl, c1 6 _ rfl⟩, ⟨c2 0 _ rfl, c2 1 _ rfl, c2 2 _ rfl, c2 3 _ rfl, c2 4 _ rfl, c2 5 _ rfl, c2 6 _ rfl⟩, ⟨c3 0 _ rfl, c3 1 _ rfl, c3 2 _ rfl, c3 3 _ rfl, c3 4 _ rfl, c3 5 _ rfl, c3 6 _ rfl⟩, ⟨c4 0 _ rfl, c4 1 _ rfl, c4 2 _ rfl, c4 3 _ rfl, c4 4 _ rfl, c4 5 _ rfl, c4 6 _ rfl⟩⟩
  have HO1 : Hid (∀ Z, Calls Tryz.prog 43 #[.int .i64 1, .int .i64 9, .int .i64 1] Z fun e w' => ∃ p1 q1 p2 q2 p3 q3, e = .returned (.agg #[.slice p1 1 q1, .int .i64 0, .slice p2 1 q2, .int .i64 9, .int .i64 1, .int .i64 1, .slice p3 1 q3]) ∧ EntD.Ok w' (oneD (.slice p1 1 q1) (.slice p2 1 q2) (.slice p3 1 q3) 1 9 1 [118]) ∧ Below Z.heap.size Z w') := fun Z => oneS (one1_any 9 1 Z)
  have HO2 : Hid (∀ Z, Calls Tryz.prog 43 #[.int .i64 2, .int .i64 7, .int .i64 4] Z fun e w' => ∃ p1 q1 p2 q2 p3 q3, e = .returned (.agg #[.slice p1 1 q1, .int .i64 0, .slice p2 1 q2, .int .i64 7, .int .i64 4, .int .i64 2, .slice p3 0 q3]) ∧ EntD.Ok w' (oneD (.slice p1 1 q1) (.slice p2 1 q2) (.slice p3 0 q3) 2 7 4 []) ∧ Below Z.heap.size Z w') := fun Z => oneS (one2_any 7 4 Z)
  have HS1 : Hid (∀ Z, Below w12.heap.size w12 Z → ∀ p1 q1 p2 q2 p3 q3, EntD.Ok Z (oneD (.slice p1 1 q1) (.slice p2 1 q2) (.slice p3 1 q3) 1 9 1 [118]) → Calls Tryz.prog 45 #[.agg #[x1.vr, .int .i64 x1.fam, x1.vq, .int .i64 x1.ts, .int .i64 x1.seq, .int .i64 x1.kind, x1.vv], .agg #[.slice p1 1 q1, .int .i64 0, .slice p2 1 q2, .int .i64 9, .int .i64 1, .int .i64 1, .slice p3 1 q3]] Z fun r w' => r = .returned (.bool true) ∧ Below Z.heap.size Z w') := fun Z b p1 q1 p2 q2 p3 q3 ho => same_one ((R1.out.later b).ok x1 (List.mem_singleton.2 rfl)) ho H6.out.2.2
  have HS2 : Hid (∀ Z, Below w12.heap.size w12 Z → ∀ p1 q1 p2 q2 p3 q3, EntD.Ok Z (oneD (.slice p1 1 q1) (.slice p2 1 q2) (.slice p3 1 q3) 1 9 1 [118]) → Calls Tryz.prog 45 #[.agg #[x2.vr, .int .i64 x2.fam, x2.vq, .int .i64 x2.ts, .int .i64 x2.seq, .int .i64 x2.kind, x2.vv], .agg #[.slice p1 1 q1, .int .i64 0, .slice p2 1 q2, .int .i64 9, .int .i64 1, .int .i64 1, .slice p3 1 q3]] Z fun r w' => r = .returned (.bool true) ∧ Below Z.heap.size Z w') := fun Z b p1 q1 p2 q2 p3 q3 ho => same_one ((R2.out.later b).ok x2 List.mem_cons_self) ho H8.out.2.2.1
  have HS3 : Hid (∀ Z, Below w12.heap.size w12 Z → ∀ p1 q1 p2 q2 p3 q3, EntD.Ok Z (oneD (.slice p1 1 q1) (.slice p2 1 q2) (.slice p3 0 q3) 2 7 4 []) → Calls Tryz.prog 45 #[.agg #[y2.vr, .int .i64 y2.fam, y2.vq, .int .i64 y2.ts, .int .i64 y2.seq, .int .i64 y2.kind, y2.vv], .agg #[.slice p1 1 q1, .int .i64 0, .slice p2 1 q2, .int .i64 7, .int .i64 4, .int .i64 2, .slice p3 0 q3]] Z fun r w' => r = .returned (.bool true) ∧ Below Z.heap.size Z w') := fun Z b p1 q1 p2 q2 p3 q3 ho => same_one ((R2.out.later b).ok y2 (List.mem_cons_of_mem _ List.mem_cons_self)) ho H8.out.2.2.2
  have HS4 : Hid (∀ Z, Below w12.heap.size w12 Z → ∀ p1 q1 p2 q2 p3 q3, EntD.Ok Z (oneD (.slice p1 1 q1) (.slice p2 1 q2) (.slice p3 1 q3) 1 9 1 [118]) → Calls Tryz.prog 45 #[.agg #[x3.vr, .int .i64 x3.fam, x3.vq, .int .i64 x3.ts, .int .i64 x3.seq, .int .i64 x3.kind, x3.vv], .agg #[.slice p1 1 q1, .int .i64 0, .slice p2 1 q2, .int .i64 9, .int .i64 1, .int .i64 1, .slice p3 1 q3]] Z fun r w' => r = .returned (.bool true) ∧ Below Z.heap.size Z w') := fun Z b p1 q1 p2 q2 p3 q3 ho => same_one ((R3.out.later b).ok x3 (List.mem_singleton.2 rfl)) ho H10.out.2.2
  have D0 : Below w12.heap.size w12 w12.drew := (Below.refl _ _).drew
  have hmx : Tryz.prog.follows .mixedOrders = true := by kernel_rfl
  have c1w : 1 ≤ c1 := R1.out.cap.1
  have c2w : 2 ≤ c2 := R2.out.cap.1
  have c3w : 1 ≤ c3 := R3.out.cap.1
  have KW := Lib.hid (HL.out.choose_spec.2.trans (K12.out.mono HL.out.choose_spec.2.size))
  clear H6 H8 H10 H12 K8 K10 HL K12
  go_region_held3 (fun wx => (wx.cell? ⟨g1, o1, none⟩ = some x1.vr ∧ wx.cell? ⟨g1, o1 + 1, none⟩ = some (.int .i64 x1.fam) ∧ wx.cell? ⟨g1, o1 + 2, none⟩ = some x1.vq ∧ wx.cell? ⟨g1, o1 + 3, none⟩ = some (.int .i64 x1.ts) ∧ wx.cell? ⟨g1, o1 + 4, none⟩ = some (.int .i64 x1.seq) ∧ wx.cell? ⟨g1, o1 + 5, none⟩ = some (.int .i64 x1.kind) ∧ wx.cell? ⟨g1, o1 + 6, none⟩ = some x1.vv) ∧ (wx.cell? ⟨g2, o2, none⟩ = some x2.vr ∧ wx.cell? ⟨g2, o2 + 1, none⟩ = some (.int .i64 x2.fam) ∧ wx.cell? ⟨g2, o2 + 2, none⟩ = some x2.vq ∧ wx.cell? ⟨g2, o2 + 3, none⟩ = some (.int .i64 x2.ts) ∧ wx.cell? ⟨g2, o2 + 4, none⟩ = some (.int .i64 x2.seq) ∧ wx.cell? ⟨g2, o2 + 5, none⟩ = some (.int .i64 x2.kind) ∧ wx.cell? ⟨g2, o2 + 6, none⟩ = some x2.vv) ∧ (wx.cell? ⟨g2, o2 + 7, none⟩ = some y2.vr ∧ wx.cell? ⟨g2, o2 + 7 + 1, none⟩ = some (.int .i64 y2.fam) ∧ wx.cell? ⟨g2, o2 + 7 + 2, none⟩ = some y2.vq ∧ wx.cell? ⟨g2, o2 + 7 + 3, none⟩ = some (.int .i64 y2.ts) ∧ wx.cell? ⟨g2, o2 + 7 + 4, none⟩ = some (.int .i64 y2.seq) ∧ wx.cell? ⟨g2, o2 + 7 + 5, none⟩ = some (.int .i64 y2.kind) ∧ wx.cell? ⟨g2, o2 + 7 + 6, none⟩ = some y2.vv) ∧ (wx.cell? ⟨g3, o3, none⟩ = some x3.vr ∧ wx.cell? ⟨g3, o3 + 1, none⟩ = some (.int .i64 x3.fam) ∧ wx.cell? ⟨g3, o3 + 2, none⟩ = some x3.vq ∧ wx.cell? ⟨g3, o3 + 3, none⟩ = some (.int .i64 x3.ts) ∧ wx.cell? ⟨g3, o3 + 4, none⟩ = some (.int .i64 x3.seq) ∧ wx.cell? ⟨g3, o3 + 5, none⟩ = some (.int .i64 x3.kind) ∧ wx.cell? ⟨g3, o3 + 6, none⟩ = some x3.vv)) (first | exact KS.out _ D8 | exact KS.out _ D7 | exact KS.out _ D6 | exact KS.out _ D5 | exact KS.out _ D4 | exact KS.out _ D3 | exact KS.out _ D2 | exact KS.out _ D1 | exact KS.out _ D0) (first | (have hq := D7; clear hq; (go_at_call 45; refine Calls.mono (HS4.out _ D7 _ _ _ _ _ _ k7) ?_; rintro e1 z8 ⟨rfl, m8⟩; have D8 := D7.trans (m8.mono D7.size))) | (have hq := D6; clear hq; (go_at_call 43; refine Calls.mono (HO1.out _) ?_; rintro e1 z7 ⟨i7a, i7b, i7c, i7d, i7e, i7f, rfl, k7, m7⟩; have D7 := D6.trans (m7.mono D6.size))) | (have hq := D5; clear hq; (go_at_call 45; refine Calls.mono (HS3.out _ D5 _ _ _ _ _ _ k5) ?_; rintro e1 z6 ⟨rfl, m6⟩; have D6 := D5.trans (m6.mono D5.size))) | (have hq := D4; clear hq; (go_at_call 43; refine Calls.mono (HO2.out _) ?_; rintro e1 z5 ⟨i5a, i5b, i5c, i5d, i5e, i5f, rfl, k5, m5⟩; have D5 := D4.trans (m5.mono D4.size))) | (have hq := D3; clear hq; (go_at_call 45; refine Calls.mono (HS2.out _ D3 _ _ _ _ _ _ k3) ?_; rintro e1 z4 ⟨rfl, m4⟩; have D4 := D3.trans (m4.mono D3.size))) | (have hq := D2; clear hq; (go_at_call 43; refine Calls.mono (HO1.out _) ?_; rintro e1 z3 ⟨i3a, i3b, i3c, i3d, i3e, i3f, rfl, k3, m3⟩; have D3 := D2.trans (m3.mono D2.size))) | (have hq := D1; clear hq; (go_at_call 45; refine Calls.mono (HS1.out _ D1 _ _ _ _ _ _ k1) ?_; rintro e1 z2 ⟨rfl, m2⟩; have D2 := D1.trans (m2.mono D1.size))) | (have hq := D0; clear hq; (go_at_call 43; refine Calls.mono (HO1.out _) ?_; rintro e1 z1 ⟨i1a, i1b, i1c, i1d, i1e, i1f, rfl, k1, m1⟩; have D1 := D0.trans (m1.mono D0.size))))
  all_goals
    go_wp2
    go_ret
    exact ⟨rfl, KW.out.trans (D8.mono KW.out.size)⟩
end Go.Proofs.YthhkpkfpifllkaaGreat

namespace Go.Proofs.YthhkpkfpifllkaaGreat
open Go.RowKit
set_option linter.unusedVariables false

theorem tld_by (m : List En) {e : En} (h : ByE e) : ByE (tld m e) := by
  obtain ⟨a1, a2, a3, a4, a5, a6, a7⟩ := tld_eq m e
  unfold ByE
  rw [a1, a3, a6]
  exact h
theorem RdL3.by {W : World} {a : Option Addr} {cap : Nat} {l : List EntD} (h : RdL3 W a cap l) : ∀ e ∈ l.map EntD.dat, ByE e := fun e he => by
  obtain ⟨x, hx, rfl⟩ := List.mem_map.1 he
  exact (h.ok x hx).by
section
variable {W : World} {cap fc : Nat} {a fa : Option Addr} {fs : List FamD} {l : List EntD}
end
end Go.Proofs.YthhkpkfpifllkaaGreat

namespace Go.Proofs.YthhkpkfpifllkaaGreat
open Go.RowKit
set_option linter.unusedVariables false

def shw (tm : Int) (v : Vd) : Bool := decide (v.fate = 5 ∧ v.e.kind = 1 ∧ v.e.ts ≤ tm)
structure SI (tm : Int) (vs : List Vd) (s : Sp) : Prop where
  c : 1 ≤ s.rank → 0 ≤ (showS tm 16 vs).1 ∧ (showS tm 16 vs).1 ≤ s.rank
  r : 0 ≤ s.rank
  out : (showS tm 16 vs).2 = (vs.filter (shw tm)).map Vd.e
section
variable {fs : List (Int × Int)} {clock tm : Int} {vs : List Vd} {s : Sp}
end
end Go.Proofs.YthhkpkfpifllkaaGreat

namespace Go.Proofs.YthhkpkfpifllkaaGreat
open Go.RowKit
set_option linter.unusedVariables false

def hit (x e : En) : Prop := x.fam = e.fam ∧ x.ts = e.ts ∧ x.seq = e.seq ∧ x.row = e.row ∧ x.qual = e.qual ∧ x.kind = e.kind
end Go.Proofs.YthhkpkfpifllkaaGreat

namespace Go.Proofs.YthhkpkfpifllkaaGreat
open Go.ChangeShapes Go.WideShapes Go.ChangeAt Go.RowKit
set_option linter.unusedVariables false

theorem own_knob : ownKnob Tryz.prog.godebug = none := by kernel_rfl
theorem laid_out : laidOutB Tryz.prog = true := by kernel_rfl
theorem und_int : Tryz.prog.underlying 3 = some (.int .i64) := by kernel_rfl
theorem und_bool : Tryz.prog.underlying 4 = some .bool := by kernel_rfl
theorem cells_byte : Tryz.prog.cellsOf 5 = 1 := by kernel_rfl
theorem cells_bytes : Tryz.prog.cellsOf 82 = 1 := by kernel_rfl

theorem bulk_pos {H : Type} (d : DataW H) : 1 ≤ Rows.uptoBulk d := by
  cases d with
  | lit l => cases l <;> simp [Rows.uptoBulk]
  | nil => simp [Rows.uptoBulk]
  | ptr d => simp [Rows.uptoBulk]
  | slice elems spare => simp [Rows.uptoBulk]
  | agg parts => simp [Rows.uptoBulk]
  | iface t d => simp [Rows.uptoBulk]
  | map entries => simp [Rows.uptoBulk]
  | held h => simp [Rows.uptoBulk]
theorem bulk_len {H : Type} (l : List (DataW H)) : l.length ≤ Rows.uptoBulkAll l := by
  induction l with
  | nil => simp [Rows.uptoBulkAll]
  | cons x r ih => have := bulk_pos x; simp only [Rows.uptoBulkAll, List.length_cons]; omega

theorem open_bytes {H : Type} {enc : TypeId × Value → H} {W : World} {v : Value} {d : DataW H} {p : List MemPlace} {base : Nat} {held : Bool} (h : DataW.Trod enc Tryz.prog W base (fun _ => true) held 82 v d p) (hs : ∃ a n c, v = .slice a n c) :
    ∃ bs : List Nat, (bs.length ≤ 281474976710656 → Rd W v bs) ∧ bs.length + 1 ≤ Rows.uptoBulk d ∧ (bs = [] ∨ ∃ elems spare, d = .slice elems spare ∧ elems.length = bs.length) := by
  obtain ⟨a, n, c, rfl⟩ := hs
  obtain ⟨fuel, hf⟩ := h
  rcases open_ints und_bytes und_byte cells_byte hf with ⟨hcs, hx⟩ | ⟨x, l, c', zs, hcs, _, hl, hm, hz, hx, hcell, hwz⟩
  · simp [Value.cells] at hcs
    obtain ⟨rfl, rfl, rfl⟩ := hcs
    refine ⟨[], fun _ => Rd.nil W, ?_, .inl rfl⟩
    have := bulk_pos d
    simpa using this
  · simp [Value.cells] at hcs
    obtain ⟨rfl, rfl, rfl⟩ := hcs
    simp only [if_true] at hz
    simp only [Prod.mk.injEq] at hx
    obtain ⟨rfl, _⟩ := hx
    have hby : ∀ i, i < zs.length → 0 ≤ zs.getD i 0 ∧ zs.getD i 0 < 256 := by
      intro i hi
      have hmem : zs.getD i 0 ∈ zs := by simp [List.getD, List.getElem?_eq_getElem hi]
      have := bounds_u8 (hwz _ hmem)
      omega
    refine ⟨(zs.take n).map Int.toNat, fun hlen => ⟨?_, some x, c, ?_, ?_, hm, hlen, ?_, ?_⟩, ?_, .inr ⟨_, _, rfl, by simp [lits]⟩⟩
    · intro y hy
      simp only [List.mem_map] at hy
      obtain ⟨z, hz1, rfl⟩ := hy
      have := bounds_u8 (hwz z (List.mem_of_mem_take hz1))
      omega
    · simp; omega
    · simp; omega
    · by_cases hc0 : c = 0
      · exact .inl hc0
      · right
        obtain ⟨b, off, spot⟩ := x
        have hc := hcell 0 (by omega)
        have hspot : spot = none := by simpa [Addr.add] using World.cell?_spot hc
        subst hspot
        exact ⟨b, off, rfl⟩
    · by_cases hn0 : n = 0
      · left; simp [hn0]
      · right
        obtain ⟨b, off, spot⟩ := x
        have hc := hcell 0 (by omega)
        have hspot : spot = none := by simpa [Addr.add] using World.cell?_spot hc
        subst hspot
        refine ⟨b, off, rfl, fun i hi => ?_⟩
        have hin : i < n := by simp at hi; omega
        have hc := hcell i (by omega)
        have e : (⟨b, off, none⟩ : Addr).add i = ⟨b, off + i, none⟩ := by unfold Addr.add; split <;> simp_all
        rw [e] at hc
        rw [hc]
        have hb := hby i (by omega)
        have e2 : ((zs.take n).map Int.toNat).getD i 0 = (zs.getD i 0).toNat := by
          simp [List.getElem?_take_of_lt hin, List.getElem?_eq_getElem (show i < zs.length by omega)]
        rw [e2, Int.toNat_of_nonneg hb.1]
    · have h1 := bulk_len (H := H) (lits .u8 (zs.take n))
      simp only [Rows.uptoBulk]
      simp [lits] at h1 ⊢
      omega

theorem reach_bytes {H : Type} {ts : List TypeId} {ds gs : List (DataW H)} (h : (DataW.weightsEach Tryz.prog ts (ds ++ gs)).all (fun x => decide (x ≤ reachBytes)) = true) (j : Nat) (ht : ts[j]? = some 82) {d : DataW H} (hd : ds[j]? = some d) {bs : List Nat} (hx : bs = [] ∨ ∃ elems spare, d = .slice elems spare ∧ elems.length = bs.length) : bs.length ≤ 140737488351232 := by
  rcases hx with rfl | ⟨elems, spare, rfl, hl⟩
  · simp
  · have hd2 : (ds ++ gs)[j]? = some (.slice elems spare) := by
      rw [List.getElem?_append_left (List.getElem?_eq_some_iff.1 hd).1]
      exact hd
    have := sized_slice h ht hd2 und_bytes
    rw [show Tryz.prog.bytesOf 5 = 1 by kernel_rfl] at this
    unfold reachBytes at this
    omega

end Go.Proofs.YthhkpkfpifllkaaGreat

namespace Go.Proofs.YthhkpkfpifllkaaGreat
open Go.ChangeShapes Go.WideShapes Go.ChangeAt Go.RowKit
set_option linter.unusedVariables false

set_option maxRecDepth 100000 in
theorem und_entry : Tryz.prog.underlying 84 = some (.struct #[{ name := "Row", type := 82, offset := 0, embedded := false, tag := "", pkgPath := "", byteOffset := 0 }, { name := "Fam", type := 3, offset := 1, embedded := false, tag := "", pkgPath := "", byteOffset := 24 }, { name := "Qual", type := 82, offset := 2, embedded := false, tag := "", pkgPath := "", byteOffset := 32 }, { name := "Ts", type := 3, offset := 3, embedded := false, tag := "", pkgPath := "", byteOffset := 56 }, { name := "Seq", type := 3, offset := 4, embedded := false, tag := "", pkgPath := "", byteOffset := 64 }, { name := "Kind", type := 3, offset := 5, embedded := false, tag := "", pkgPath := "", byteOffset := 72 }, { name := "Value", type := 82, offset := 6, embedded := false, tag := "", pkgPath := "", byteOffset := 80 }]) := by kernel_rfl
theorem cells_entry : Tryz.prog.cellsOf 84 = 7 := by kernel_rfl
theorem cells_int : Tryz.prog.cellsOf 3 = 1 := by kernel_rfl

theorem slice_one {H : Type} {enc : TypeId × Value → H} {W : World} {base fuel : Nat} {held : Bool} {t e : TypeId} {c : Value} {x : DataW H × List MemPlace} (hu : Tryz.prog.underlying t = some (.slice e)) (h : DataW.trod enc Tryz.prog W base (fun _ => true) held fuel t [c] = some x) : (∃ a n k, c = .slice a n k) ∧ DataW.Trod enc Tryz.prog W base (fun _ => true) held t c x.1 x.2 := by
  have hsl : ∃ a n k, c = .slice a n k := by
    rcases DataW.trod_slice hu h with ⟨h0, _⟩ | ⟨a, len, cap, _, _, _, _, h0, _⟩
    · simp at h0; exact ⟨_, _, _, h0⟩
    · simp at h0; exact ⟨_, _, _, h0⟩
  refine ⟨hsl, fuel, ?_⟩
  obtain ⟨a, n, k, rfl⟩ := hsl
  simpa [Value.cells] using h

set_option maxRecDepth 100000 in
theorem open_entry {H : Type} {enc : TypeId × Value → H} {W : World} {base : Nat} {held : Bool} {v : Value} {d : DataW H} {p : List MemPlace} (h0 : DataW.Trod enc Tryz.prog W base (fun _ => true) held 84 v d p) (hv : ∃ cs, v = .agg cs ∧ cs.size = Tryz.prog.cellsOf 84) :
    ∃ e : EntD, v = .agg e.cells ∧ ((e.row.length ≤ 281474976710656 ∧ e.qual.length ≤ 281474976710656 ∧ e.val.length ≤ 281474976710656) → EntD.Ok W e) ∧ (e.row.length + e.qual.length + e.val.length + 8 ≤ Rows.uptoBulk d) ∧
      ((d.weights Tryz.prog 84).all (fun x => decide (x ≤ reachBytes)) = true → e.row.length ≤ 140737488351232 ∧ e.qual.length ≤ 140737488351232 ∧ e.val.length ≤ 140737488351232) := by
  obtain ⟨csA, rfl, hcs⟩ := hv
  obtain ⟨fuel, h⟩ := h0
  obtain ⟨cs⟩ := csA
  simp only [Value.cells] at h
  obtain ⟨xs, n, hx, hdp, hcl, hxl, hf⟩ := DataW.trod_struct und_entry h
  simp only [Prod.mk.injEq] at hdp
  obtain ⟨rfl, rfl⟩ := hdp
  rw [cells_entry] at hcl
  obtain ⟨c0, c1, c2, c3, c4, c5, c6, rfl⟩ : ∃ c0 c1 c2 c3 c4 c5 c6, cs = [c0, c1, c2, c3, c4, c5, c6] := by
    match cs, hcl with
    | [c0, c1, c2, c3, c4, c5, c6], _ => exact ⟨_, _, _, _, _, _, _, rfl⟩
  obtain ⟨x0, x1, x2, x3, x4, x5, x6, rfl⟩ : ∃ x0 x1 x2 x3 x4 x5 x6, xs = [x0, x1, x2, x3, x4, x5, x6] := by
    match xs, hxl with
    | [c0, c1, c2, c3, c4, c5, c6], _ => exact ⟨_, _, _, _, _, _, _, rfl⟩
  have f0 := hf 0 _ rfl
  have f1 := hf 1 _ rfl
  have f2 := hf 2 _ rfl
  have f3 := hf 3 _ rfl
  have f4 := hf 4 _ rfl
  have f5 := hf 5 _ rfl
  have f6 := hf 6 _ rfl
  simp [cells_int, cells_bytes] at f0 f1 f2 f3 f4 f5 f6
  obtain ⟨n1, e1, b1, w1⟩ := DataW.trod_int und_int f1
  obtain ⟨n3, e3, b3, w3⟩ := DataW.trod_int und_int f3
  obtain ⟨n4, e4, b4, w4⟩ := DataW.trod_int und_int f4
  obtain ⟨n5, e5, b5, w5⟩ := DataW.trod_int und_int f5
  simp at e1 e3 e4 e5
  subst e1 e3 e4 e5
  obtain ⟨s0, t0⟩ := slice_one und_bytes f0
  obtain ⟨s2, t2⟩ := slice_one und_bytes f2
  obtain ⟨s6, t6⟩ := slice_one und_bytes f6
  obtain ⟨row, hr, hrl, hrd⟩ := open_bytes t0 s0
  obtain ⟨qual, hq, hql, hqd⟩ := open_bytes t2 s2
  obtain ⟨val, hw, hwl, hwd⟩ := open_bytes t6 s6
  refine ⟨⟨c0, n1, c2, n3, n4, n5, c6, row, qual, val⟩, rfl, fun h => ⟨hr h.1, hq h.2.1, hw h.2.2⟩, ?_, fun hs => ?_⟩
  · have q1 := bulk_pos x1.1
    have q3 := bulk_pos x3.1
    have q4 := bulk_pos x4.1
    have q5 := bulk_pos x5.1
    simp only [Rows.uptoBulk, List.map_cons, List.map_nil, Rows.uptoBulkAll]
    omega
  · have hs2 : (DataW.weightsEach Tryz.prog [82, 3, 82, 3, 3, 3, 82] ([x0.1, x1.1, x2.1, x3.1, x4.1, x5.1, x6.1] ++ [])).all (fun x => decide (x ≤ reachBytes)) = true := by
      simp only [DataW.weights, und_entry] at hs
      simpa using hs
    exact ⟨reach_bytes hs2 0 rfl rfl hrd, reach_bytes hs2 2 rfl rfl hqd, reach_bytes hs2 6 rfl rfl hwd⟩

theorem weight_at {H : Type} : ∀ {ts : List TypeId} {ds : List (DataW H)} (h : (DataW.weightsEach Tryz.prog ts ds).all (fun x => decide (x ≤ reachBytes)) = true) (j : Nat) {t : TypeId} {d : DataW H} (ht : ts[j]? = some t) (hd : ds[j]? = some d), (d.weights Tryz.prog t).all (fun x => decide (x ≤ reachBytes)) = true
  | [], _, _, j, _, _, ht, _ => by simp at ht
  | _ :: _, [], _, j, _, _, _, hd => by simp at hd
  | t :: ts, d :: ds, h, 0, _, _, ht, hd => by
    simp only [List.getElem?_cons_zero, Option.some.injEq] at ht hd
    subst ht hd
    simp only [DataW.weightsEach, List.all_append, Bool.and_eq_true] at h
    exact h.1
  | t :: ts, d :: ds, h, j + 1, _, _, ht, hd => by
    simp only [DataW.weightsEach, List.all_append, Bool.and_eq_true] at h
    exact weight_at h.2 j (by simpa using ht) (by simpa using hd)

end Go.Proofs.YthhkpkfpifllkaaGreat
