import Derived.Test.YtledfniedoapiaaDoorJ10
import Derived.Deep.RegionHeld3
import Derived.Deep.DeepCutAuto
import Derived.Lib.Hide
import Derived.Laws.MakeOwn
import Derived.Laws.CopyOwn
namespace Go.Proofs.YtledfniedoapiaaDoor
open Go.RowKit
set_option linter.unusedVariables false

/-- What a desk holds: the bytes, then marks. -/
def deskL (bs : List Nat) (m : Nat) : List Nat := (List.range m).map fun i => if i < bs.length then bs.getD i 0 else mkD i
theorem deskL_len (bs : List Nat) (m : Nat) : (deskL bs m).length = m := by simp [deskL]
theorem deskL_at {bs : List Nat} {m i : Nat} (h : i < m) : (deskL bs m).getD i 0 = if i < bs.length then bs.getD i 0 else mkD i := by
  simp [deskL, List.getD, h]
theorem deskL_bys {bs : List Nat} (hb : Bys bs) (m : Nat) : Bys (deskL bs m) := by
  intro x hx
  unfold deskL at hx
  obtain ⟨i, _, rfl⟩ := List.mem_map.1 hx
  split
  · exact hb.get i
  · exact mkD_lt i
/-- The beginning of a desk's room reads as the bytes. -/
theorem desk_rd {w : World} {B g m c : Nat} {bs : List Nat} (o : Own w B (.slice (some ⟨g, 0, none⟩) m c) m (deskL bs m)) (hb : Bys bs) (hl : bs.length ≤ m) (hm : m ≤ 100000000) : Rd w (.slice (some ⟨g, 0, none⟩) bs.length c) bs := by
  obtain ⟨hc1, hc2⟩ : m ≤ c ∧ c ≤ maxLen := by
    rcases o.2.2 with ⟨h1, _⟩ | ⟨g2, cap, cur, h1, _, _, h4, h5, _⟩
    · cases h1
    · simp only [Value.slice.injEq] at h1
      obtain ⟨_, _, rfl⟩ := h1
      exact ⟨h4, h5⟩
  refine ⟨hb, _, c, rfl, by omega, hc2, by omega, .inr ⟨g, 0, rfl⟩, .inr ⟨g, 0, rfl, fun i hi => ?_⟩⟩
  have h1 := o.2.cellAt i (by omega)
  simp only [Nat.zero_add]
  rw [h1, bv_at _ _ (by rw [deskL_len]; omega), deskL_at (by omega), if_pos hi]

set_option maxRecDepth 100000 in
set_option maxHeartbeats 4000000 in
/-- The desk still holds the bytes, and the marks behind them. -/
theorem back_any {w : World} {g B m c nb cb gR : Nat} {ab : Option Addr} {bs : List Nat} (hd : DBox w g (.slice (some ⟨gR, 0, none⟩) m c) nb) (ho : Own w B (.slice (some ⟨gR, 0, none⟩) m c) m (deskL bs m)) (hb : Rd w (.slice ab nb cb) bs) (hn : nb + 70 ≤ m) (hm : m ≤ 100000000) :
    Calls Tryd.prog 16 #[.pointer (some ⟨g, 0, none⟩), .slice ab nb cb] w fun e w' => e = .returned (.bool true) ∧ Below w.heap.size w w' := by
  have hnb := (rd_lens hb).1
  have HD := Lib.hid hd
  have HO := Lib.hid ho
  have HB := Lib.hid hb
  have RD := desk_rd ho hb.1 (by omega) hm
  rw [← hnb] at RD
  have HR := Lib.hid RD
  have hc : m ≤ c := by
    rcases ho.2.2 with ⟨h1, _⟩ | ⟨g2, cap, cur, h1, _, _, h4, h5, _⟩
    · cases h1
    · simp only [Value.slice.injEq] at h1
      omega
  have dn := hd.n
  have dr := hd.r
  have HNB := Lib.hid hnb
  have D0 : Below w.heap.size w w.drew := (Below.refl _ _).drew
  have hnc : (nb : Int) ≤ (c : Int) := by omega
  have hn0 : (0 : Int) ≤ (nb : Int) := by omega
  have KS : Hid (∀ wx, Below w.heap.size w wx → wx.cell? ⟨g, 0, none⟩ = some (.slice (some ⟨gR, 0, none⟩) m c) ∧ wx.cell? ⟨g, 1, none⟩ = some (.int .i64 (nb : Int))) := fun wx h => ⟨by rw [h.cell (World.block_lt_of_cell? _ _ dr)]; exact dr, by rw [h.cell (World.block_lt_of_cell? _ _ dn)]; exact dn⟩
  clear hd ho hb RD hnb
  go_enter Tryd.func16, Tryd.ntmps16
  go_wp2_with fail
  go_region_held3 (fun wx => wx.cell? ⟨g, 0, none⟩ = some (.slice (some ⟨gR, 0, none⟩) m c) ∧ wx.cell? ⟨g, 1, none⟩ = some (.int .i64 (nb : Int))) (first | exact KS.out _ D0 | exact KS.out _ DD1)
    (first | (go_at_call 12; refine (alike_same (HR.out.later D0) (HB.out.later D0)).mono ?_; rintro e1 w1 ⟨rfl, hb1⟩; have DD1 := D0.trans (hb1.mono D0.size)))
  have HB1 := Lib.hid DD1
  clear KS D0 DD1 hb1 dn dr
  have KL : Hid (∀ wx, Below w.heap.size w wx → wx.cell? ⟨g, 0, none⟩ = some (.slice (some ⟨gR, 0, none⟩) m c) ∧ wx.cell? ⟨g, 1, none⟩ = some (.int .i64 (nb : Int)) ∧ ∀ t, nb ≤ t → t < m → wx.cell? ⟨gR, t, none⟩ = some (.int .u8 ((mkD t : Nat) : Int))) := fun wx h => ⟨(HD.out.later h).r, (HD.out.later h).n, fun t h1 h2 => by
    have o := HO.out.later h
    rw [o.2.cellAt t (by omega), bv_at _ _ (by rw [deskL_len]; omega), deskL_at h2, if_neg (by rw [← HNB.out]; omega)]⟩
  have dn := (KL.out w1 HB1.out).2.1
  have dr := (KL.out w1 HB1.out).1
  go_wp2
  go_loopw [5] (fun i wr => ∃ t : Nat, nb ≤ t ∧ t ≤ m ∧ i = .int .i64 (t : Int) ∧ Hid (Below w.heap.size w wr)) (fun i _ => m - (intOf i).toNat)
  case atStart => exact ⟨nb, by omega, by omega, rfl, HB1⟩
  case round =>
    clear dn dr HB1
    obtain ⟨t, ht0, ht, rfl, hb⟩ := hrel
    have dr := (KL.out wr hb.out).1
    by_cases hlt : t < m
    · have hlt2 : (t : Int) < (m : Int) := by omega
      have htn : (0 : Int) ≤ (t : Int) := by omega
      have cy := (KL.out wr hb.out).2.2 t ht0 hlt
      have D0 : Below wr.heap.size wr wr.drew := (Below.refl _ _).drew
      obtain ⟨y, hy⟩ : ∃ y : Nat, y = mkD t := ⟨_, rfl⟩
      have CM : Hid (∀ wx, Calls Tryd.prog 30 #[.int .i64 (t : Int)] wx fun e w' => e = .returned (.int .u8 (y : Int)) ∧ w' = wx) := fun wx => by rw [hy]; exact mark_any t (by omega) wx
      rw [← hy] at cy
      have KS : Hid (∀ wx, Below wr.heap.size wr wx → wx.cell? ⟨g, 0, none⟩ = some (.slice (some ⟨gR, 0, none⟩) m c) ∧ wx.cell? ⟨gR, t, none⟩ = some (.int .u8 (y : Int))) := fun wx h => ⟨by rw [h.cell (World.block_lt_of_cell? _ _ dr)]; exact dr, by rw [h.cell (World.block_lt_of_cell? _ _ cy)]; exact cy⟩
      clear hy
      go_wp2_with fail
      go_region_held3 (fun wx => wx.cell? ⟨g, 0, none⟩ = some (.slice (some ⟨gR, 0, none⟩) m c) ∧ wx.cell? ⟨gR, t, none⟩ = some (.int .u8 (y : Int))) (first | exact KS.out _ D0)
        (first | (go_at_call 30; refine (CM.out _).mono ?_; rintro e1 w2 ⟨rfl, rfl⟩))
      have HB2 := Lib.hid (hb.out.trans (D0.mono hb.out.size))
      clear KS D0 CM dr cy
      go_wp2
      go_roundw
      case rel => exact ⟨t + 1, by omega, by omega, by go_num, HB2⟩
      case measure => simp [intOf]; omega
    · have hge : (m : Int) ≤ (t : Int) := by omega
      go_wp2
      go_ret
      exact ⟨rfl, hb.out⟩

end Go.Proofs.YtledfniedoapiaaDoor

namespace Go.Proofs.YtledfniedoapiaaDoor
open Go.RowKit
set_option linter.unusedVariables false

/-- All blocks but a box and one more are as they were. -/
structure Fd (w w' : World) (g : Nat) (o : Option Nat) : Prop where
  os : w'.os = w.os
  tape : w'.tape = w.tape
  output : w'.output = w.output
  size : w.heap.size ≤ w'.heap.size
  block : ∀ i, i < w.heap.size → i ≠ g → o ≠ some i → w'.heap[i]? = w.heap[i]?
theorem Fd.refl (w : World) (g : Nat) (o : Option Nat) : Fd w w g o := ⟨rfl, rfl, rfl, Nat.le_refl _, fun _ _ _ _ => rfl⟩
theorem Fd.grow {w w1 w2 : World} {g : Nat} {o p : Option Nat} (h : Fd w w1 g o) (k : w1.grownBy w2 p) (hp : ∀ x, p = some x → x = g ∨ o = some x ∨ w.heap.size ≤ x) : Fd w w2 g o :=
  ⟨k.os.trans h.os, k.tape.trans h.tape, k.output.trans h.output, Nat.le_trans h.size k.size, fun i hi hg ho => by
    rw [k.block i (Nat.lt_of_lt_of_le hi h.size) ?_, h.block i hi hg ho]
    intro e
    rcases hp i e.symm with h1 | h1 | h1
    · exact hg h1
    · exact ho h1
    · omega⟩
theorem Fd.below {w w' : World} {B g : Nat} {o : Option Nat} (h : Fd w w' g o) (hg : B ≤ g) (ho : ∀ x, o = some x → B ≤ x) (hB : B ≤ w.heap.size) : Below B w w' := ⟨h.os, h.tape, h.output, h.size, fun i hi => h.block i (by omega) (by omega) (fun e => by have := ho i e; omega)⟩
theorem zeros_made (N : Nat) : madeCells (Value.int .u8 0).cells (N * 1) = (bv (List.replicate N 0)).toArray := by
  apply Array.ext
  · simp [madeCells, bv]
  · intro i h1 h2
    simp [madeCells, bv, Value.cells, Nat.mod_one]
theorem own_zeros {w : World} {B N : Nat} (hB : B ≤ w.heap.size) (hN : N ≤ 4194304) : Own (w.alloc (.cells (bv (List.replicate N 0)).toArray 5)) B (.slice (some ⟨w.heap.size, 0, none⟩) N N) N (List.replicate N 0) := by
  refine ⟨by simp, by simp [bv], .inr ⟨w.heap.size, N, _, rfl, hB, heap_new w _, Nat.le_refl _, by unfold maxLen; omega, by simp [bv], by simp [bv]⟩⟩
/-- The marks of the first t places, then what was there. -/
def markTo (zs : List Nat) (t : Nat) : List Nat := (List.range t).map mkD ++ zs.drop t
theorem markTo_next {zs : List Nat} {t : Nat} (h : t < zs.length) : (markTo zs t).set t (mkD t) = markTo zs (t + 1) := by
  unfold markTo
  rw [List.set_append_right _ _ (by simp), drop_cons zs t h, List.range_succ]
  simp
theorem markTo_bys {zs : List Nat} (h : Bys zs) (t : Nat) : Bys (markTo zs t) := by
  intro x hx
  rcases List.mem_append.1 hx with hx | hx
  · obtain ⟨i, _, rfl⟩ := List.mem_map.1 hx
    exact mkD_lt i
  · exact h x (List.mem_of_mem_drop hx)
theorem mark_copy {zs bs : List Nat} {m : Nat} (hz : zs.length = m) (hb : bs.length ≤ m) : bs ++ (markTo zs m).drop bs.length = deskL bs m := by
  apply List.ext_getElem?
  intro i
  have hl : (markTo zs m).length = m := by simp [markTo, hz]
  unfold deskL
  by_cases hi : i < bs.length
  · rw [List.getElem?_append_left hi]
    simp [hi, show i < m by omega]
  · rw [List.getElem?_append_right (by omega), List.getElem?_drop]
    by_cases hm : i < m
    · have e : bs.length + (i - bs.length) = i := by omega
      rw [e]
      unfold markTo
      rw [List.getElem?_append_left (by simpa using hm)]
      simp [hm, hi]
    · rw [List.getElem?_eq_none (by rw [hl]; omega)]
      simp [hm]

/-- copy into a desk's room. -/
theorem wpList_copy_desk {w : World} {ops : Array Oper} {rest : List Oper} {o : Oper} {a : Act} {Q : Exit → Act → World → Prop} (hgd : o.guard = none) (d s : Operand)
    (ho : o.op = .call { callee := .builtin .copy, args := #[d, s], argTypes := #[23, 23] })
    (B gR mm cc nb cb : Nat) (ab : Option Addr) (ys bs : List Nat) (hd : a.eval d = .slice (some ⟨gR, 0, none⟩) mm cc) (hs : a.eval s = .slice ab nb cb) (hown : Own w B (.slice (some ⟨gR, 0, none⟩) mm cc) mm ys) (hb : Rd w (.slice ab nb cb) bs) (hn : nb ≤ mm)
    (h : ∀ w', Own w' B (.slice (some ⟨gR, 0, none⟩) mm cc) mm (bs ++ ys.drop nb) → w.grownBy w' (some gR) → wpList Tryd.prog ops Q rest (a.put o.dst (goInt nb)) w') : wpList Tryd.prog ops Q (o :: rest) a w := by
  have hnb := (rd_lens hb).1
  have hsz : (Tryd.prog.info? 5).map (·.size) = some 1 := by
    have := info_byte
    cases h1 : Tryd.prog.info? 5 with
    | none => rw [h1] at this; simp at this
    | some i => rw [h1] at this; simp at this; simp [this.2.1]
  by_cases h0 : nb = 0
  · have hbs : bs = [] := List.eq_nil_of_length_eq_zero (by rw [← hnb]; exact h0)
    subst hbs
    subst h0
    refine wpList_copy_nothing hgd d s 23 23 ho 5 und_bytes hsz _ _ mm cc 0 cb hd hs (by simp) ?_
    exact h w (by simpa using hown) (World.grownBy.refl _ _)
  · rcases hown.2.2 with ⟨h1, _⟩ | ⟨g2, cap, cur, h1, h2, h3, h4, h5, h6, h7⟩
    · cases h1
    simp only [Value.slice.injEq, Option.some.injEq, Addr.mk.injEq, and_true, true_and] at h1
    obtain ⟨rfl, rfl⟩ := h1
    obtain ⟨_, a1, c1, e1, _, _, _, _, hat⟩ := hb
    simp only [Value.slice.injEq] at e1
    obtain ⟨rfl, e2, rfl⟩ := e1
    rcases hat with hat | ⟨b, off, rfl, hc⟩
    · rw [hat] at hnb; simp at hnb; omega
    have hat2 : At w (some ⟨b, off, none⟩) bs := .inr ⟨b, off, rfl, hc⟩
    have hyl := hown.1
    have hcs : cur.toList.length = cc := by simp [h6]
    refine wpList_copy_own hgd d s 23 23 ho 5 und_bytes hsz gR 0 mm cc ⟨b, off, none⟩ nb cb hd hs cur 5 h3 (bv bs) (by rw [bv_length, ← hnb]; exact (Nat.min_eq_left hn).symm) hat2.add (by rw [bv_length, ← hnb, h6]; omega) (bv_oneCell bs) ?_
    have eg : goInt (bv bs).length = goInt nb := by rw [bv_length, hnb]
    rw [eg]
    refine h _ ⟨by simp; omega, by rw [bv_length]; simp; omega, .inr ⟨gR, cc, _, rfl, h2, setRow_heap w gR cur _ 5 _ h3, h4, h5, ?_, ?_⟩⟩ ⟨rfl, rfl, rfl, by simp [World.setRow], fun k hk hne => setRow_other w gR k _ (fun e => hne (by rw [e]))⟩
    · simp [bv_length, ← hnb]; omega
    · simp only [List.take_zero, List.nil_append, Nat.zero_add, bv_length, ← hnb, Nat.mul_one] at h7 ⊢
      rw [List.take_append, bv_length, ← hnb, List.take_of_length_le (by rw [bv_length, ← hnb]; exact hn), bv_append]
      congr 1
      have e3 : bv (ys.drop nb) = (bv ys).drop nb := by simp [bv, List.map_drop]
      rw [e3, ← h7, List.drop_take]

set_option maxRecDepth 100000 in
theorem move_v {a : Act} {w : World} {x : Nat} {v : Value} {d : Option Nat} {ty : TypeId} {ps : String} {af : Array Edge} (hx : a.tmps[x]?.getD undef = v) :
    (execOp a.eval { dst := d, op := Op.move (Operand.tmp x), type := ty, pos := ps, after := af, guard := none }).run Tryd.prog w = .ok (.value v) w := by
  go_simp
set_option maxRecDepth 100000 in
theorem nil_v {a : Act} {w : World} {x g : Nat} {d : Option Nat} {ps : String} {af : Array Edge} (hx : a.tmps[x]?.getD undef = .pointer (some ⟨g, 0, none⟩)) :
    (execOp a.eval { dst := d, op := Op.nilCheck (Operand.tmp x), type := 0, pos := ps, after := af, guard := none }).run Tryd.prog w = .ok (.value (.pointer (some ⟨g, 0, none⟩))) w := by
  go_simp
set_option maxRecDepth 100000 in
theorem field_r {a : Act} {w : World} {x g : Nat} {d : Option Nat} {ps : String} {af : Array Edge} (hx : a.tmps[x]?.getD undef = .pointer (some ⟨g, 0, none⟩)) :
    (execOp a.eval { dst := d, op := Op.fieldAddr 35 (Operand.tmp x) 0, type := 0, pos := ps, after := af, guard := none }).run Tryd.prog w = .ok (.value (.pointer (some ⟨g, 0, none⟩))) w := by
  go_simp
set_option maxRecDepth 100000 in
theorem load_b {a : Act} {w : World} {p g u : Nat} {v : Value} {d : Option Nat} {ps : String} {af : Array Edge} (h : w.cell? ⟨g, u, none⟩ = some v) (hp : a.tmps[p]?.getD undef = .pointer (some ⟨g, u, none⟩)) :
    (execOp a.eval { dst := d, op := Op.load 23 (Operand.tmp p), type := 23, pos := ps, after := af, guard := none }).run Tryd.prog w = .ok (.value v) w := by
  go_simp
set_option maxRecDepth 100000 in
theorem wp_call_mark {a : Act} {w : World} {K : Act → World → Prop} {Q : Exit → Act → World → Prop} {d : Option Nat} {ps : String} {af : Array Edge} {x : Nat} {v : Value} {R : Ending → World → Prop} (hc : Calls Tryd.prog 30 #[v] w R) (hx : a.tmps[x]?.getD undef = v) (h : ∀ r w', R r w' → ∃ u, r = .returned u ∧ K (a.put d u) w') :
    Oper.wp Tryd.prog { dst := d, op := Op.call { callee := Callee.value (Operand.func 30), args := #[Operand.tmp x], argTypes := #[3] }, type := 5, pos := ps, after := af, guard := none } a w K Q := by
  go_simp
  refine hc.mono ?_
  intro r w' hr
  obtain ⟨u, rfl, hk⟩ := h r w' hr
  exact hk
set_option maxRecDepth 100000 in
theorem wp_index_b {a : Act} {w : World} {K : Act → World → Prop} {Q : Exit → Act → World → Prop} {x y g u n c : Nat} {d : Option Nat} {ps : String} {af : Array Edge} (hx : a.tmps[x]?.getD undef = .slice (some ⟨g, 0, none⟩) n c) (hy : a.tmps[y]?.getD undef = .int .i64 (u : Int)) (hu : (u : Int) < (n : Int)) (hu0 : (0 : Int) ≤ (u : Int)) (hk : K (a.put d (.pointer (some ⟨g, u, none⟩))) w) :
    Oper.wp Tryd.prog { dst := d, op := Op.indexAddr 23 (Operand.tmp x) (Operand.tmp y), type := 0, pos := ps, after := af, guard := none } a w K Q := by
  go_simp
  exact hk
set_option maxRecDepth 100000 in
theorem wp_store_b {a : Act} {w : World} {K : Act → World → Prop} {Q : Exit → Act → World → Prop} {p q g u : Nat} {v y : Int} {ps : String} {af : Array Edge} (hc : w.cell? ⟨g, u, none⟩ = some (.int .u8 y)) (hf : w.frozen? ⟨g, u, none⟩ = false) (hp : a.tmps[p]?.getD undef = .pointer (some ⟨g, u, none⟩)) (hq : a.tmps[q]?.getD undef = .int .u8 v) (hk : K a (w.setCell ⟨g, u, none⟩ (.int .u8 v))) :
    Oper.wp Tryd.prog { dst := none, op := Op.store 5 (Operand.tmp p) (Operand.tmp q), type := 0, pos := ps, after := af, guard := none } a w K Q := by
  go_simp
  exact hk
def lendAct (s0 s1 s2 s3 s4 s5 s6 s7 s8 s9 s10 s11 s12 s13 s14 s15 s16 s17 s18 s19 s20 s21 s22 s23 s24 s25 s26 s27 s28 s29 s30 s31 s32 s33 s34 s35 s36 s37 s38 s39 s40 s41 s42 s43 s44 s45 s46 s47 s48 s49 s50 s51 s52 s53 s54 s55 s56 s57 s58 : Value) : Act := ⟨#[s0, s1, s2, s3, s4, s5, s6, s7, s8, s9, s10, s11, s12, s13, s14, s15, s16, s17, s18, s19, s20, s21, s22, s23, s24, s25, s26, s27, s28, s29, s30, s31, s32, s33, s34, s35, s36, s37, s38, s39, s40, s41, s42, s43, s44, s45, s46, s47, s48, s49, s50, s51, s52, s53, s54, s55, s56, s57, s58], []⟩
def lendOps : Array Oper := #[{ dst := some 33, op := Op.move (Operand.tmp 0), type := 33, pos := "again.go:25", after := #[], guard := none }, { dst := some 34, op := Op.nilCheck (Operand.tmp 33), type := 0, pos := "again.go:25", after := #[{ on := 0, ground := Ground.data }], guard := none }, { dst := some 35, op := Op.fieldAddr 35 (Operand.tmp 34) 0, type := 0, pos := "again.go:25", after := #[{ on := 1, ground := Ground.data }], guard := none }, { dst := some 36, op := Op.load 23 (Operand.tmp 35), type := 23, pos := "again.go:25", after := #[{ on := 2, ground := Ground.data }], guard := none }, { dst := some 37, op := Op.move (Operand.tmp 5), type := 3, pos := "again.go:25", after := #[], guard := none }, { dst := some 38, op := Op.move (Operand.tmp 5), type := 3, pos := "again.go:25", after := #[], guard := none }, { dst := some 39, op := Op.call { callee := Callee.value (Operand.func 30), args := #[Operand.tmp 38], argTypes := #[3] }, type := 5, pos := "again.go:25", after := #[{ on := 5, ground := Ground.data }], guard := none }, { dst := some 40, op := Op.indexAddr 23 (Operand.tmp 36) (Operand.tmp 37), type := 0, pos := "again.go:25", after := #[{ on := 3, ground := Ground.data }, { on := 4, ground := Ground.data }, { on := 0, ground := Ground.phase }, { on := 1, ground := Ground.phase }, { on := 2, ground := Ground.phase }, { on := 3, ground := Ground.phase }, { on := 4, ground := Ground.phase }, { on := 5, ground := Ground.phase }, { on := 6, ground := Ground.phase }], guard := none }, { dst := none, op := Op.store 5 (Operand.tmp 40) (Operand.tmp 39), type := 0, pos := "again.go:25", after := #[{ on := 7, ground := Ground.data }, { on := 6, ground := Ground.data }, { on := 6, ground := Ground.chain }, { on := 0, ground := Ground.phase }, { on := 1, ground := Ground.phase }, { on := 2, ground := Ground.phase }, { on := 3, ground := Ground.phase }, { on := 4, ground := Ground.phase }, { on := 5, ground := Ground.phase }, { on := 6, ground := Ground.phase }], guard := none }]
set_option maxRecDepth 100000 in
set_option maxHeartbeats 8000000 in
theorem lend6_region {g gR mm cc t y z : Nat} {X : World} {s1 s2 s3 s4 s6 s7 s8 s9 s10 s11 s12 s13 s14 s15 s16 s17 s18 s19 s20 s21 s22 s23 s24 s25 s26 s27 s28 s29 s30 s31 s32 s33 s34 s35 s36 s37 s38 s39 s40 s41 s42 s43 s44 s45 s46 s47 s48 s49 s50 s51 s52 s53 s54 s55 s56 s57 s58 : Value} (hr : X.cell? ⟨g, 0, none⟩ = some (.slice (some ⟨gR, 0, none⟩) mm cc)) (hc : X.cell? ⟨gR, t, none⟩ = some (.int .u8 (z : Int))) (hf : X.frozen? ⟨gR, t, none⟩ = false) (hne : g ≠ gR) (ht : t < mm) (hcall : ∀ wx, Calls Tryd.prog 30 #[.int .i64 (t : Int)] wx fun e w' => e = .returned (.int .u8 (y : Int)) ∧ w' = wx) (Q : Exit → Act → World → Prop)
    (hQ : Hid (Q .normal (lendAct (.pointer (some ⟨g, 0, none⟩)) s1 s2 s3 s4 (.int .i64 (t : Int)) s6 s7 s8 s9 s10 s11 s12 s13 s14 s15 s16 s17 s18 s19 s20 s21 s22 s23 s24 s25 s26 s27 s28 s29 s30 s31 s32 (.pointer (some ⟨g, 0, none⟩)) (.pointer (some ⟨g, 0, none⟩)) (.pointer (some ⟨g, 0, none⟩)) (.slice (some ⟨gR, 0, none⟩) mm cc) (.int .i64 (t : Int)) (.int .i64 (t : Int)) (.int .u8 (y : Int)) (.pointer (some ⟨gR, t, none⟩)) s41 s42 s43 s44 s45 s46 s47 s48 s49 s50 s51 s52 s53 s54 s55 s56 s57 s58) (X.drew.setCell ⟨gR, t, none⟩ (.int .u8 (y : Int))))) :
    Code.wp Tryd.prog (Code.region 6 lendOps true) Q (lendAct (.pointer (some ⟨g, 0, none⟩)) s1 s2 s3 s4 (.int .i64 (t : Int)) s6 s7 s8 s9 s10 s11 s12 s13 s14 s15 s16 s17 s18 s19 s20 s21 s22 s23 s24 s25 s26 s27 s28 s29 s30 s31 s32 s33 s34 s35 s36 s37 s38 s39 s40 s41 s42 s43 s44 s45 s46 s47 s48 s49 s50 s51 s52 s53 s54 s55 s56 s57 s58) X := by
  have hti : (t : Int) < (mm : Int) := by omega
  have ht0 : (0 : Int) ≤ (t : Int) := by omega
  have HR : Hid (X.drew.cell? ⟨g, 0, none⟩ = some (.slice (some ⟨gR, 0, none⟩) mm cc)) := hr
  have HC : Hid (X.drew.cell? ⟨gR, t, none⟩ = some (.int .u8 (z : Int))) := hc
  have HF : Hid (X.drew.frozen? ⟨gR, t, none⟩ = false) := hf
  have HCL := Lib.hid hcall
  clear hr hc hf hcall
  refine wp_region_noPanic ?_
  have st : wpAnyH Tryd.prog .any lendOps (NoPanic Q) (fun wx => wx.cell? ⟨g, 0, none⟩ = some (.slice (some ⟨gR, 0, none⟩) mm cc)) 3 #[true, true, true, true, true, true, false, false, false] (lendAct (.pointer (some ⟨g, 0, none⟩)) s1 s2 s3 s4 (.int .i64 (t : Int)) s6 s7 s8 s9 s10 s11 s12 s13 s14 s15 s16 s17 s18 s19 s20 s21 s22 s23 s24 s25 s26 s27 s28 s29 s30 s31 s32 (.pointer (some ⟨g, 0, none⟩)) (.pointer (some ⟨g, 0, none⟩)) (.pointer (some ⟨g, 0, none⟩)) (.slice (some ⟨gR, 0, none⟩) mm cc) (.int .i64 (t : Int)) (.int .i64 (t : Int)) s39 s40 s41 s42 s43 s44 s45 s46 s47 s48 s49 s50 s51 s52 s53 s54 s55 s56 s57 s58) X.drew := by
    refine wpAnyH_ready (rs := [6]) (by kernel_rfl) (by simp) ?_
    refine AllReadyH.cons (o := { dst := some 39, op := Op.call { callee := Callee.value (Operand.func 30), args := #[Operand.tmp 38], argTypes := #[3] }, type := 5, pos := "again.go:25", after := #[{ on := 5, ground := Ground.data }], guard := none }) rfl (fun K hK => ?_) AllReadyH.nil
    rw [if_pos (by rfl)]
    refine wp_call_mark (HCL.out _) rfl ?_
    rintro r w2 ⟨rfl, rfl⟩
    refine ⟨_, rfl, hK.out _ _ HR.out (fun _ => ?_)⟩
    have st2 : wpAnyH Tryd.prog .any lendOps (NoPanic Q) (fun wx => wx.cell? ⟨g, 0, none⟩ = some (.slice (some ⟨gR, 0, none⟩) mm cc)) 2 #[true, true, true, true, true, true, true, false, false] (lendAct (.pointer (some ⟨g, 0, none⟩)) s1 s2 s3 s4 (.int .i64 (t : Int)) s6 s7 s8 s9 s10 s11 s12 s13 s14 s15 s16 s17 s18 s19 s20 s21 s22 s23 s24 s25 s26 s27 s28 s29 s30 s31 s32 (.pointer (some ⟨g, 0, none⟩)) (.pointer (some ⟨g, 0, none⟩)) (.pointer (some ⟨g, 0, none⟩)) (.slice (some ⟨gR, 0, none⟩) mm cc) (.int .i64 (t : Int)) (.int .i64 (t : Int)) (.int .u8 (y : Int)) s40 s41 s42 s43 s44 s45 s46 s47 s48 s49 s50 s51 s52 s53 s54 s55 s56 s57 s58) X.drew := by
      refine wpAnyH_ready (rs := [7]) (by kernel_rfl) (by simp) ?_
      refine AllReadyH.cons (o := { dst := some 40, op := Op.indexAddr 23 (Operand.tmp 36) (Operand.tmp 37), type := 0, pos := "again.go:25", after := #[{ on := 3, ground := Ground.data }, { on := 4, ground := Ground.data }, { on := 0, ground := Ground.phase }, { on := 1, ground := Ground.phase }, { on := 2, ground := Ground.phase }, { on := 3, ground := Ground.phase }, { on := 4, ground := Ground.phase }, { on := 5, ground := Ground.phase }, { on := 6, ground := Ground.phase }], guard := none }) rfl (fun K2 hK2 => ?_) AllReadyH.nil
      rw [if_pos (by rfl)]
      refine wp_index_b rfl rfl hti ht0 ?_
      refine hK2.out _ _ HR.out (fun _ => ?_)
      have st3 : wpAnyH Tryd.prog .any lendOps (NoPanic Q) (fun wx => wx.cell? ⟨g, 0, none⟩ = some (.slice (some ⟨gR, 0, none⟩) mm cc)) 1 #[true, true, true, true, true, true, true, true, false] (lendAct (.pointer (some ⟨g, 0, none⟩)) s1 s2 s3 s4 (.int .i64 (t : Int)) s6 s7 s8 s9 s10 s11 s12 s13 s14 s15 s16 s17 s18 s19 s20 s21 s22 s23 s24 s25 s26 s27 s28 s29 s30 s31 s32 (.pointer (some ⟨g, 0, none⟩)) (.pointer (some ⟨g, 0, none⟩)) (.pointer (some ⟨g, 0, none⟩)) (.slice (some ⟨gR, 0, none⟩) mm cc) (.int .i64 (t : Int)) (.int .i64 (t : Int)) (.int .u8 (y : Int)) (.pointer (some ⟨gR, t, none⟩)) s41 s42 s43 s44 s45 s46 s47 s48 s49 s50 s51 s52 s53 s54 s55 s56 s57 s58) X.drew := by
        refine wpAnyH_ready (rs := [8]) (by kernel_rfl) (by simp) ?_
        refine AllReadyH.cons (o := { dst := none, op := Op.store 5 (Operand.tmp 40) (Operand.tmp 39), type := 0, pos := "again.go:25", after := #[{ on := 7, ground := Ground.data }, { on := 6, ground := Ground.data }, { on := 6, ground := Ground.chain }, { on := 0, ground := Ground.phase }, { on := 1, ground := Ground.phase }, { on := 2, ground := Ground.phase }, { on := 3, ground := Ground.phase }, { on := 4, ground := Ground.phase }, { on := 5, ground := Ground.phase }, { on := 6, ground := Ground.phase }], guard := none }) rfl (fun K3 hK3 => ?_) AllReadyH.nil
        rw [if_pos (by rfl)]
        refine wp_store_b HC.out HF.out rfl rfl ?_
        have hr2 : (X.drew.setCell ⟨gR, t, none⟩ (.int .u8 (y : Int))).cell? ⟨g, 0, none⟩ = some (.slice (some ⟨gR, 0, none⟩) mm cc) := (set_grown X.drew gR t (.int .u8 (y : Int))).cell HR.out (fun e => by simp at e; exact hne e)
        refine hK3.out _ _ hr2 (fun _ => ?_)
        refine wpAnyH_done (by kernel_rfl) ?_ _
        exact NoPanic.normal hQ.out
      exact st3
    exact st2
  refine wp_region_held_drew (S := (fun wx => wx.cell? ⟨g, 0, none⟩ = some (.slice (some ⟨gR, 0, none⟩) mm cc))) (by kernel_rfl) HR.out (fun hS => ?_)
  refine wpAnyH_take (i := 0) (oi := { dst := some 33, op := Op.move (Operand.tmp 0), type := 33, pos := "again.go:25", after := #[], guard := none }) (v := (.pointer (some ⟨g, 0, none⟩))) rfl (by kernel_rfl) (by kernel_rfl) (by kernel_rfl) (fun _ _ _ h => h) (Or.inl ⟨by rfl, fun w hw => move_v rfl⟩) hS ?_
  refine wpAnyH_take (i := 1) (oi := { dst := some 34, op := Op.nilCheck (Operand.tmp 33), type := 0, pos := "again.go:25", after := #[{ on := 0, ground := Ground.data }], guard := none }) (v := (.pointer (some ⟨g, 0, none⟩))) rfl (by kernel_rfl) (by kernel_rfl) (by kernel_rfl) (fun _ _ _ h => h) (Or.inl ⟨by rfl, fun w hw => nil_v rfl⟩) hS ?_
  refine wpAnyH_take (i := 2) (oi := { dst := some 35, op := Op.fieldAddr 35 (Operand.tmp 34) 0, type := 0, pos := "again.go:25", after := #[{ on := 1, ground := Ground.data }], guard := none }) (v := (.pointer (some ⟨g, 0, none⟩))) rfl (by kernel_rfl) (by kernel_rfl) (by kernel_rfl) (fun _ _ _ h => h) (Or.inl ⟨by rfl, fun w hw => field_r rfl⟩) hS ?_
  refine wpAnyH_take (i := 3) (oi := { dst := some 36, op := Op.load 23 (Operand.tmp 35), type := 23, pos := "again.go:25", after := #[{ on := 2, ground := Ground.data }], guard := none }) (v := (.slice (some ⟨gR, 0, none⟩) mm cc)) rfl (by kernel_rfl) (by kernel_rfl) (by kernel_rfl) (fun _ _ _ h => h) (Or.inl ⟨by rfl, fun w hw => load_b hw rfl⟩) hS ?_
  refine wpAnyH_take (i := 4) (oi := { dst := some 37, op := Op.move (Operand.tmp 5), type := 3, pos := "again.go:25", after := #[], guard := none }) (v := (.int .i64 (t : Int))) rfl (by kernel_rfl) (by kernel_rfl) (by kernel_rfl) (fun _ _ _ h => h) (Or.inl ⟨by rfl, fun w hw => move_v rfl⟩) hS ?_
  refine wpAnyH_take (i := 5) (oi := { dst := some 38, op := Op.move (Operand.tmp 5), type := 3, pos := "again.go:25", after := #[], guard := none }) (v := (.int .i64 (t : Int))) rfl (by kernel_rfl) (by kernel_rfl) (by kernel_rfl) (fun _ _ _ h => h) (Or.inl ⟨by rfl, fun w hw => move_v rfl⟩) hS ?_
  exact st

set_option maxRecDepth 100000 in
set_option maxHeartbeats 8000000 in
theorem lend_any {w : World} {g B m c n0 nb cb : Nat} {a ab : Option Addr} {ys bs : List Nat} (hd : DBox w g (.slice a m c) n0) (ho : Own w B (.slice a m c) m ys) (hby : Bys ys) (hm : m ≤ 4194304) (hb : Rd w (.slice ab nb cb) bs) (hl : nb ≤ 1048576) (hB : B ≤ w.heap.size) (hgB : B ≤ g) (far : bs ≠ [] → ∀ x, (Value.slice ab nb cb).ownBlock = some x → x < B) :
    Calls Tryd.prog 14 #[.pointer (some ⟨g, 0, none⟩), .slice ab nb cb] w fun e w' => ∃ gR m' c', e = .returned (.slice (some ⟨gR, 0, none⟩) nb c') ∧ DBox w' g (.slice (some ⟨gR, 0, none⟩) m' c') nb ∧ Own w' B (.slice (some ⟨gR, 0, none⟩) m' c') m' (deskL bs m') ∧ nb + 70 ≤ m' ∧ m' ≤ 4194304 ∧ Fd w w' g (Value.slice a m c).ownBlock ∧ ((Value.slice a m c).ownBlock = some gR ∨ w.heap.size ≤ gR) := by
  obtain ⟨i0, hi, hz0, hz1, hz2⟩ := info_parts info_byte
  have HD := Lib.hid hd
  have HO := Lib.hid ho
  have HBY := Lib.hid hby
  have HB := Lib.hid hb
  have HNB := Lib.hid (rd_lens hb).1
  have HFAR := Lib.hid far
  have dr := hd.r
  have fr := hd.fz 0
  have hl2 : (nb : Int) ≤ 1048576 := by omega
  have hm2 : (m : Int) ≤ 4194304 := by omega
  obtain ⟨N, hN⟩ : ∃ N, N = 2 * nb + 512 := ⟨_, rfl⟩
  obtain ⟨ZZ, hZZ⟩ : ∃ ZZ, ZZ = (bv (List.replicate N 0)).toArray := ⟨_, rfl⟩
  have hmk : ∀ w, (Instr.makeSlice 23 (.int .i64 (2 * (nb : Int) + 512)) (.int .i64 (2 * (nb : Int) + 512))).run Tryd.prog w = .ok (.slice (some ⟨w.heap.size, 0, none⟩) N N) (w.alloc (.cells ZZ 5)) := fun w => by
    have h := run_make (P := Tryd.prog) w 23 5 i0 (.int .u8 0) und_bytes hi hz0 .i64 .i64 (2 * (nb : Int) + 512) (2 * (nb : Int) + 512) (by omega) (Int.le_refl _) (by rw [hz2]; omega) (by omega)
    have e : (2 * (nb : Int) + 512).toNat = N := by omega
    rw [e, hz1, zeros_made, ← hZZ] at h
    exact h
  have HN := Lib.hid (And.intro hN hZZ)
  clear hd ho hby hb far hN hZZ
  go_enter Tryd.func14, Tryd.ntmps14
  go_upto_if 15 with fail
  go_cut [4] (fun r wx => r = .slice none 0 0 ∧ ∃ gR m' c' zs, Hid (DBox wx g (.slice (some ⟨gR, 0, none⟩) m' c') n0 ∧ Own wx B (.slice (some ⟨gR, 0, none⟩) m' c') m' zs ∧ Bys zs ∧ Fd w wx g (Value.slice a m c).ownBlock ∧ ((Value.slice a m c).ownBlock = some gR ∨ w.heap.size ≤ gR)) ∧ 2 * nb + 70 ≤ m' ∧ m' ≤ 4194304)
  case first =>
    by_cases hlt : m < 2 * nb + 70
    · have hlt2 : (m : Int) < 2 * (nb : Int) + 70 := by omega
      have A0 := (Below.refl w.heap.size w).alloc (Nat.le_refl _) (.cells ZZ 5)
      have dra := (HD.out.later A0).r
      have fra := (HD.out.later A0).fz 0
      have H2 : Hid (DBox ((w.alloc (.cells ZZ 5)).setCell ⟨g, 0, none⟩ (.slice (some ⟨w.heap.size, 0, none⟩) N N)) g (.slice (some ⟨w.heap.size, 0, none⟩) N N) n0 ∧ Own ((w.alloc (.cells ZZ 5)).setCell ⟨g, 0, none⟩ (.slice (some ⟨w.heap.size, 0, none⟩) N N)) B (.slice (some ⟨w.heap.size, 0, none⟩) N N) N (List.replicate N 0) ∧ Bys (List.replicate N 0) ∧ Fd w ((w.alloc (.cells ZZ 5)).setCell ⟨g, 0, none⟩ (.slice (some ⟨w.heap.size, 0, none⟩) N N)) g (Value.slice a m c).ownBlock ∧ ((Value.slice a m c).ownBlock = some w.heap.size ∨ w.heap.size ≤ w.heap.size)) := by
        have sg := set_grown (w.alloc (.cells ZZ 5)) g 0 (.slice (some ⟨w.heap.size, 0, none⟩) N N)
        have oz : Own (w.alloc (.cells ZZ 5)) B (.slice (some ⟨w.heap.size, 0, none⟩) N N) N (List.replicate N 0) := by rw [HN.out.2]; exact own_zeros hB (by have := HN.out.1; omega)
        refine ⟨(HD.out.later A0).setR _, oz.far sg (fun x hx e => by cases hx; exact dbox_own (HD.out.later A0) oz e rfl), rep_bys _ _ (by omega), ((Fd.refl w g _).grow (grown_below A0 none) (fun x hx => by cases hx)).grow sg (fun x hx => by cases hx; exact .inl rfl), .inr (Nat.le_refl _)⟩
      have hNb : 2 * nb + 70 ≤ N ∧ N ≤ 4194304 := by have := HN.out.1; omega
      clear A0
      go_wp2
      go_meet
      exact ⟨rfl, w.heap.size, N, N, _, H2, hNb.1, hNb.2⟩
    · have hge : 2 * (nb : Int) + 70 ≤ (m : Int) := by omega
      rcases own_nonil2 HO.out with ⟨_, h0, _⟩ | ⟨gR, rfl⟩
      · omega
      have H2 : Hid (DBox w g (.slice (some ⟨gR, 0, none⟩) m c) n0 ∧ Own w B (.slice (some ⟨gR, 0, none⟩) m c) m ys ∧ Bys ys ∧ Fd w w g (Value.slice (some ⟨gR, 0, none⟩) m c).ownBlock ∧ ((Value.slice (some ⟨gR, 0, none⟩) m c).ownBlock = some gR ∨ w.heap.size ≤ gR)) := ⟨HD.out, HO.out, HBY.out, Fd.refl _ _ _, .inl rfl⟩
      go_wp2
      go_meet
      exact ⟨rfl, gR, m, c, ys, H2, by omega, by omega⟩
  case rest =>
  obtain ⟨rfl, gR, mm, cc, zs, HI, hm1, hm3⟩ := hcut
  have hm4 : (mm : Int) ≤ 4194304 := by omega
  have hzl : Hid (zs.length = mm) := HI.out.2.1.1.symm
  have dr := HI.out.1.r
  clear fr hmk
  have I0 : Hid (DBox wc g (.slice (some ⟨gR, 0, none⟩) mm cc) n0 ∧ Own wc B (.slice (some ⟨gR, 0, none⟩) mm cc) mm (markTo zs 0) ∧ Fd w wc g (Value.slice a m c).ownBlock) := ⟨HI.out.1, by simpa [markTo] using HI.out.2.1, HI.out.2.2.2.1⟩
  have HBZ := Lib.hid HI.out.2.2.1
  have HWH := Lib.hid HI.out.2.2.2.2
  clear HI
  go_wp2
  go_loopw [5] (fun i wr => ∃ t : Nat, t ≤ mm ∧ i = .int .i64 (t : Int) ∧ Hid (DBox wr g (.slice (some ⟨gR, 0, none⟩) mm cc) n0 ∧ Own wr B (.slice (some ⟨gR, 0, none⟩) mm cc) mm (markTo zs t) ∧ Fd w wr g (Value.slice a m c).ownBlock)) (fun i _ => mm - (intOf i).toNat)
  case atStart => exact ⟨0, by omega, rfl, I0⟩
  case round =>
    clear dr I0
    obtain ⟨t, ht, rfl, HR⟩ := hrel
    have dr := HR.out.1.r
    by_cases hlt : t < mm
    · have hlt2 : (t : Int) < (mm : Int) := by omega
      have ht0 : (0 : Int) ≤ (t : Int) := by omega
      obtain ⟨y, hy, cy, fy⟩ := own_bytes HR.out.2.1 (markTo_bys HBZ.out t) hlt
      have hne := dbox_own HR.out.1 HR.out.2.1 rfl
      have H2 : Hid (DBox (wr.drew.setCell ⟨gR, t, none⟩ (.int .u8 ((mkD t : Nat) : Int))) g (.slice (some ⟨gR, 0, none⟩) mm cc) n0 ∧ Own (wr.drew.setCell ⟨gR, t, none⟩ (.int .u8 ((mkD t : Nat) : Int))) B (.slice (some ⟨gR, 0, none⟩) mm cc) mm (markTo zs (t + 1)) ∧ Fd w (wr.drew.setCell ⟨gR, t, none⟩ (.int .u8 ((mkD t : Nat) : Int))) g (Value.slice a m c).ownBlock) := by
        have dd : Below wr.heap.size wr wr.drew := (Below.refl _ _).drew
        have sg := set_grown wr.drew gR t (.int .u8 ((mkD t : Nat) : Int))
        obtain ⟨i1, i2, i3⟩ := HR.out
        refine ⟨(i1.later dd).far sg (fun x hx => by cases hx; exact hne), ?_, (i3.grow (grown_below dd none) (fun x hx => by cases hx)).grow sg (fun x hx => by
          cases hx
          rcases HWH.out with h | h
          · exact .inr (.inl h)
          · exact .inr (.inr h))⟩
        have o := own_put (i2.later dd) t (mkD t)
        rw [markTo_next (by rw [hzl.out]; exact hlt)] at o
        exact o
      go_wp2_with fail
      refine lend6_region dr cy fy hne hlt (fun wx => mark_any t (by omega) wx) _ (Lib.hid ?_)
      unfold lendAct
      clear dr cy fy HR
      go_wp2
      go_roundw
      case rel => exact ⟨t + 1, by omega, by go_num, H2⟩
      case measure => simp [intOf]; omega
    · have hge : (mm : Int) ≤ (t : Int) := by omega
      have HTM : Hid (t = mm) := by unfold Hid; omega
      have OW := HR.out.2.1
      rw [HTM.out] at OW
      have BL : Hid (Below B w wr) := HR.out.2.2.below hgB (fun x hx => (HO.out.2.lt x hx).1) hB
      have RB : Rd wr (.slice ab nb cb) bs := by
        obtain ⟨h1, a1, c1, e1, h3, h4, h5, h6, h7⟩ := HB.out
        refine ⟨h1, a1, c1, e1, h3, h4, h5, h6, ?_⟩
        by_cases hbe : bs = []
        · exact .inl hbe
        rcases h7 with h7 | ⟨b, off, rfl, hc⟩
        · exact .inl h7
        · simp only [Value.slice.injEq] at e1
          obtain ⟨rfl, _, _⟩ := e1
          refine .inr ⟨b, off, rfl, fun i hi => ?_⟩
          rw [BL.out.cell (p := ⟨b, off + i, none⟩) (HFAR.out hbe b rfl)]
          exact hc i hi
      have hne := dbox_own HR.out.1 HR.out.2.1 rfl
      have DR := Lib.hid HR.out.1
      have FR := Lib.hid HR.out.2.2
      clear HR
      go_upto_region 7 with fail
      go_upto_region 8 with (refine wpList_copy_desk rfl (.tmp 44) (.tmp 45) rfl B gR mm cc nb cb ab _ bs rfl rfl OW RB (by omega) ?_; intro w2 own2 gr2)
      have D2 := DR.out.far gr2 (fun x hx => by cases hx; exact hne)
      have e := mark_copy (bs := bs) hzl.out (by rw [← HNB.out]; omega)
      rw [← HNB.out] at e
      rw [e] at own2
      have F2 := FR.out.grow gr2 (fun x hx => by
        cases hx
        rcases HWH.out with h | h
        · exact .inr (.inl h)
        · exact .inr (.inr h))
      have hcc : mm ≤ cc := by
        rcases own2.2.2 with ⟨h1, _⟩ | ⟨g2, cap, cur, h1, _, _, h4, h5, _⟩
        · cases h1
        · simp only [Value.slice.injEq] at h1
          omega
      have hncc : (nb : Int) ≤ (cc : Int) := by omega
      have hn0 : (0 : Int) ≤ (nb : Int) := by omega
      have sg := set_grown w2 g 1 (.int .i64 (nb : Int))
      have FIN : Hid (DBox (w2.setCell ⟨g, 1, none⟩ (.int .i64 (nb : Int))) g (.slice (some ⟨gR, 0, none⟩) mm cc) nb ∧ Own (w2.setCell ⟨g, 1, none⟩ (.int .i64 (nb : Int))) B (.slice (some ⟨gR, 0, none⟩) mm cc) mm (deskL bs mm) ∧ Fd w (w2.setCell ⟨g, 1, none⟩ (.int .i64 (nb : Int))) g (Value.slice a m c).ownBlock) := ⟨D2.setN nb, own2.far sg (fun x hx e => by cases hx; exact dbox_own D2 own2 e rfl), F2.grow sg (fun x hx => by cases hx; exact .inl rfl)⟩
      have dn2 := D2.n
      have dr2 := D2.r
      have fn2 := D2.fz 1
      have dr3 := FIN.out.1.r
      clear own2 gr2 e D2 F2 sg RB OW BL DR FR
      go_wp2
      go_ret
      exact ⟨gR, mm, cc, rfl, FIN.out.1, FIN.out.2.1, by omega, hm3, FIN.out.2.2, HWH.out⟩

end Go.Proofs.YtledfniedoapiaaDoor

