import Derived.Test.YtbheifelfeekmaaK04
import Derived.Sort.Walk0
namespace Go.Proofs.Ytbheifelfeekmaa
open Go.RowKit Go.MapKept Go.Sort
set_option linter.unusedVariables false
set_option linter.unusedSimpArgs false
variable {w w' W X : World} {O O' : Nat → Prop} {dB : Nat} {d : Dk4}
def ofL (l : List UInt8) : ByteArray := ⟨l.toArray⟩
theorem nmL_ofL (l : List UInt8) : nmL (ofL l) = l := by simp [nmL, ofL]
theorem ofL_nmL (s : ByteArray) : ofL (nmL s) = s := by
  cases s
  simp [nmL, ofL]
theorem RdN4.later {a : Option Addr} {k : Nat} {ss : List ByteArray} (h : RdN4 w a k ss) (b : Below w.heap.size w w') : RdN4 w' a k ss := by
  refine ⟨h.cap, fun i s hs => ?_⟩
  obtain ⟨g, off, e, hc⟩ := h.cel i s hs
  exact ⟨g, off, e, (b.cell (p := ⟨g, off + i, none⟩) (World.block_lt_of_cell? _ _ hc)).trans hc⟩
theorem OwnS.rd {B n k : Nat} {a : Option Addr} {ss : List (List UInt8)} (h : OwnS w B (.slice a n k) n ss) : n = ss.length ∧ RdN4 w a k (ss.map ofL) := by
  obtain ⟨rfl, h⟩ := h
  refine ⟨rfl, ?_⟩
  rcases h.2 with ⟨h1, h2⟩ | ⟨g, cap, cur, h1, h2, h3, h4, h5, h6, h7⟩
  · simp only [Value.slice.injEq] at h1
    obtain ⟨rfl, _, rfl⟩ := h1
    have : ss = [] := List.eq_nil_of_length_eq_zero h2
    subst this
    exact ⟨⟨by simp, by decide⟩, fun i s hs => by simp at hs⟩
  · simp only [Value.slice.injEq] at h1
    obtain ⟨rfl, _, rfl⟩ := h1
    refine ⟨⟨by simpa using h4, h5⟩, fun i s hs => ⟨g, 0, rfl, ?_⟩⟩
    rw [List.getElem?_map, Option.map_eq_some_iff] at hs
    obtain ⟨l, hl, rfl⟩ := hs
    have hi := (List.getElem?_eq_some_iff.1 hl).1
    have hx : (ss.map encStr)[i]? = some (encStr l) := by rw [List.getElem?_map, hl]; rfl
    rw [← h7, List.getElem?_take_of_lt (by omega)] at hx
    simp only [World.cell?, h3, Nat.zero_add]
    simpa [ofL] using hx
theorem leB_trans : ∀ a b c : List UInt8, leB a b = true → leB b c = true → leB a c = true := fun a b c h1 h2 => by simp only [leB, decide_eq_true_eq] at *; exact List.le_trans h1 h2
theorem leB_total : ∀ a b : List UInt8, (leB a b || leB b a) = true := fun a b => by simp only [leB, Bool.or_eq_true, decide_eq_true_eq]; exact List.le_total a b
theorem nmL_inj {a b : ByteArray} (h : nmL a = nmL b) : a = b := by rw [← ofL_nmL a, h, ofL_nmL]
theorem preB_nil (s : ByteArray) : preB ⟨#[]⟩ s = true := by
  unfold preB
  have : (⟨#[]⟩ : ByteArray).size = 0 := rfl
  rw [if_pos (by omega), this]
  have e : s.extract 0 0 = ⟨#[]⟩ := by
    apply ByteArray.ext
    simp
  rw [e]
  simp
theorem lsP_lt {ps : List PF} {pre : ByteArray} (hn : (ps.map (·.1)).Nodup) : (lsP ps pre).Pairwise (· < ·) := by
  have h1 : (lsP ps pre).Pairwise (fun a b => leB a b = true) := List.pairwise_mergeSort leB_trans leB_total _
  have h2 : (lsP ps pre).Nodup := by
    refine (List.mergeSort_perm _ leB).symm.nodup ?_
    have : ((ps.map (·.1)).filter (preB pre)).Nodup := hn.sublist List.filter_sublist
    rw [List.Nodup, List.pairwise_map]
    exact this.imp (fun h e => h (nmL_inj e))
  have h3 : (lsP ps pre).Pairwise (fun a b => leB a b = true ∧ a ≠ b) := List.Pairwise.and h1 h2
  refine h3.imp (fun {a b} h => ?_)
  have : a ≤ b := by simpa [leB] using h.1
  exact Std.lt_of_le_of_ne this h.2
theorem lsP_pre (ps : List PF) (pre : ByteArray) : lsP ps pre = (lsP ps ⟨#[]⟩).filter (fun l => preB pre (ofL l)) := by
  have hs : ((lsP ps ⟨#[]⟩).filter (fun l => preB pre (ofL l))).Pairwise (fun a b => leB a b = true) := (List.pairwise_mergeSort leB_trans leB_total _).sublist List.filter_sublist
  have e1 : ((lsP ps ⟨#[]⟩).filter (fun l => preB pre (ofL l))).mergeSort leB = (lsP ps ⟨#[]⟩).filter (fun l => preB pre (ofL l)) := List.mergeSort_of_pairwise hs
  rw [← e1]
  unfold lsP
  refine mergeSort_of_perm ?_
  have p1 : ((((ps.map (·.1)).filter (preB ⟨#[]⟩)).map nmL).mergeSort leB).Perm (((ps.map (·.1)).filter (preB ⟨#[]⟩)).map nmL) := List.mergeSort_perm _ _
  refine List.Perm.trans ?_ (p1.filter _).symm
  have e2 : (ps.map (·.1)).filter (preB ⟨#[]⟩) = ps.map (·.1) := List.filter_eq_self.2 (fun a _ => preB_nil a)
  rw [e2]
  obtain ⟨ns, hns⟩ : ∃ ns, ns = ps.map (·.1) := ⟨_, rfl⟩
  rw [← hns]
  have e3 : ((fun l => preB pre (ofL l)) ∘ nmL) = preB pre := by
    funext s
    simp [ofL_nmL]
  rw [List.filter_map, e3]
theorem begL_pre (p s : ByteArray) : begL (numL p) (numL s) = preB p s := by
  unfold begL preB
  rw [numL_len, numL_len]
  by_cases h : p.size ≤ s.size
  · rw [if_pos h]
    have e : ((s.extract 0 p.size).toList == p.toList) = decide ((nmL s).take p.size = nmL p) := by
      rw [ByteArray.toList_eq, ByteArray.toList_eq]
      have : (s.extract 0 p.size).data.toList = (nmL s).take p.size := by
        simp [nmL, ByteArray.data_extract]
      rw [this]
      by_cases hh : (nmL s).take p.size = nmL p
      · rw [hh]
        simp [nmL]
      · simp only [hh, decide_false]
        simpa [nmL] using hh
    rw [e]
    have inj : ∀ a b : List UInt8, a.map UInt8.toNat = b.map UInt8.toNat ↔ a = b := fun a b => ⟨fun q => (List.map_inj_right (fun x y z => UInt8.toNat_inj.1 z)).1 q, fun q => by rw [q]⟩
    have : (numL p = (numL s).take p.size) ↔ ((nmL s).take p.size = nmL p) := by
      unfold numL
      rw [← List.map_take, inj]
      exact eq_comm
    simp [h, this]
  · rw [if_neg h]
    simp [h]
theorem list_dsk (hD : Dsk w O dB d) (pre : ByteArray) : Calls Try.prog 10 #[.pointer (some ⟨dB, 0, none⟩), .string pre] w fun e w' => ∃ a n k, e = .returned (.slice a n k) ∧ OwnS w' w.heap.size (.slice a n k) n (lsP d.fs pre) ∧ Below w.heap.size w w' := by
  obtain ⟨ok, mb, fl, hM, hfl⟩ := hD
  have := list_any hM pre (by have := ok.cnt; rw [← hfl, List.length_map] at this; exact this)
  rw [hfl] at this
  exact this
end Go.Proofs.Ytbheifelfeekmaa

namespace Go.Proofs.Ytbheifelfeekmaa
open Go.RowKit Go.MapKept Go.Sort
set_option linter.unusedVariables false
set_option linter.unusedSimpArgs false
set_option maxRecDepth 100000 in
set_option maxHeartbeats 400000 in
theorem bclone_any {v : Value} {bs : List Nat} {w : World} (hr : Rd w v bs) (h47 : bs.length ≤ 140737488355328) :
    Calls Try.prog 42 #[v] w fun e w' => ∃ s, e = .returned s ∧ w'.ownsRow w.heap.size 5 1 s bs.length (bv bs) ∧ Below w.heap.size w w' := by
  obtain ⟨i0, hi, hz0, hz1, hz2⟩ := info_parts info_byte
  obtain ⟨hby, a, cap, rfl, hle, hm, hl48, hnone, hat⟩ := hr
  have heq := fun w => Lib.run_eql_slice_nil (P := Try.prog) w 29 5 a bs.length cap 0 0 und_bytes
  cases a with
  | none =>
    have hb0 : bs = [] := by
      rcases hnone with h | ⟨b, off, h⟩
      · exact List.eq_nil_of_length_eq_zero (by omega)
      · cases h
    subst hb0
    simp only [List.length_nil, Option.isNone_none] at heq
    go_enter Try.func42, Try.ntmps42
    go_wp2
    go_ret
    exact ⟨_, rfl, World.ownsRow_nil _ _ _ _, Below.refl _ _⟩
  | some x =>
    have hc' := (hat.later ((Below.refl _ _).alloc (Nat.le_refl _) (.cells #[] 5))).add
    clear hat hnone
    go_enter Try.func42, Try.ntmps42
    go_wp2_with (at_builtin; refine wpList_append_own _ rfl _ _ 29 rfl w.heap.size 5 i0 (.int .u8 0) 1 1 und_bytes hi hz0 hz1 hz2 rfl (by decide) _ 0 (bv []) rfl (World.ownsRow_made w #[] 0 (Nat.le_refl _) (Nat.zero_le _) rfl) x bs.length cap (bv bs) rfl ?c0 hc' (bv_oneCell bs) ?c3 ?c4 ?c5 ?_)
    case c0 => simp [bv]
    case c3 => unfold maxLen; omega
    case c4 => omega
    case c5 => simp
    intro v' w1 hown' hgrow _
    have hb1 : Below w.heap.size w w1 := ((Below.refl _ w).alloc (Nat.le_refl _) _).grown hgrow (by simp) (fun k hk => by simp [Value.ownBlock] at hk; omega)
    clear hgrow hc'
    go_wp2
    go_ret
    refine ⟨_, rfl, ?_, hb1⟩
    simpa [bv] using hown'

variable {w w' W X : World} {O O' : Nat → Prop} {dB : Nat} {d : Dk4}
theorem und_files4 : Try.prog.underlying 45 = some (.slice 50) := by kernel_rfl
theorem info_file4 : (Try.prog.info? 50).map (fun i => (i.zero, i.size, i.bytes)) = some (some (.agg #[.string ⟨#[]⟩, .slice none 0 0, .int .i64 0]), 3, 48) := by kernel_rfl
def fCells : List (PF × Value) → List Value
  | [] => []
  | x :: xs => .string x.1.1 :: x.2 :: .int .i64 (x.1.2.2 : Int) :: fCells xs
theorem fCells_len : ∀ l : List (PF × Value), (fCells l).length = l.length * 3
  | [] => rfl
  | x :: xs => by simp only [fCells, List.length_cons, fCells_len xs]; omega
theorem fCells_append : ∀ a b : List (PF × Value), fCells (a ++ b) = fCells a ++ fCells b
  | [], _ => rfl
  | x :: xs, b => by simp only [List.cons_append, fCells, fCells_append xs b]
structure FLs (w : World) (B : Nat) (v : Value) (n : Nat) (l : List (PF × Value)) : Prop where
  len : n = l.length
  row : w.ownsRow B 50 3 v n (fCells l)
  dat : ∀ x ∈ l, OwnO w (fun i => B ≤ i) x.2 x.1.2.1
theorem file_append {w : World} {o : Oper} {a : Act} {K : Act → World → Prop} {Q : Exit → Act → World → Prop} (s x : Operand)
    (ho : o.op = .call { callee := .builtin .append, args := #[s, x], argTypes := #[45, 45] })
    {B n blk : Nat} {v : Value} {l : List (PF × Value)} {f : PF × Value} (hs : a.eval s = v) (hown : FLs w B v n l) (hx : a.eval x = .slice (some ⟨blk, 0, none⟩) 1 1) (hf : w.cell? ⟨blk, 0, none⟩ = some (.string f.1.1) ∧ w.cell? ⟨blk, 1, none⟩ = some f.2 ∧ w.cell? ⟨blk, 2, none⟩ = some (.int .i64 (f.1.2.2 : Int)))
    (hfd : OwnO w (fun i => B ≤ i) f.2 f.1.2.1) (hn : n ≤ 1000000) (hB : B ≤ w.heap.size)
    (h : ∀ a' c' w', FLs w' B (.slice a' (n + 1) c') (n + 1) (l ++ [f]) → Below B w w' → w.grownBy w' v.ownBlock → K (a.put o.dst (.slice a' (n + 1) c')) w') :
    Oper.wp Try.prog o a w K Q := by
  obtain ⟨i0, hi, hz0, hz1, hz2⟩ := info_parts info_file4
  have hform : ∃ ap cp, f.2 = .slice ap f.1.2.1.length cp := hfd.form
  obtain ⟨ap, cp, hfv⟩ := hform
  obtain ⟨v', w', hr, h2, h3, h4⟩ := run_append_own (P := Try.prog) w B 45 o.type 50 i0 (.agg #[.string ⟨#[]⟩, .slice none 0 0, .int .i64 0]) 3 48 und_files4 hi hz0 hz1 hz2 rfl (by decide) v n (fCells l) hown.row ⟨blk, 0, none⟩ 1 1 (fCells [f]) rfl (fun j y hj => by
    have hj3 : j < 3 := by
      have := (List.getElem?_eq_some_iff.1 hj).1
      simpa [fCells] using this
    have e : (⟨blk, 0, none⟩ : Addr).add j = ⟨blk, j, none⟩ := by unfold Addr.add; split <;> simp_all
    rw [e]
    match j, hj3, hj with
    | 0, _, hj => simp [fCells] at hj; subst hj; exact hf.1
    | 1, _, hj => simp [fCells] at hj; subst hj; exact hf.2.1
    | 2, _, hj => simp [fCells] at hj; subst hj; exact hf.2.2) (fun y hy => by
      simp [fCells] at hy
      rcases hy with rfl | rfl | rfl
      · rfl
      · rw [hfv]; rfl
      · rfl) (by unfold maxLen; omega) (by omega) hB
  have hb : Below B w w' := (Below.refl B w).grown h3 hB (fun k hk => (hown.row.lt k hk).1)
  have hrow : ∀ (y : PF × Value), OwnO w (fun i => B ≤ i) y.2 y.1.2.1 → OwnO w' (fun i => B ≤ i) y.2 y.1.2.1 := fun y hy => hy.kept (fun g hg => by
    obtain ⟨cur, ht⟩ := hy.typ hg
    refine ⟨h3.block g (Array.getElem?_eq_some_iff.1 ht).1 (fun e => ?_), hy.blk g hg⟩
    rcases hown.row.2 with ⟨rfl, _⟩ | ⟨g2, cap2, cur2, rfl, _, hh, _⟩
    · cases e
    · simp only [Value.ownBlock, Option.some.injEq] at e
      rw [e, hh] at ht
      simp only [Option.some.injEq, Obj.cells.injEq] at ht
      exact absurd ht.2.1 (by decide))
  obtain ⟨a', c', rfl⟩ : ∃ a' c', v' = .slice a' (n + 1) c' := by
    rcases h2.2 with ⟨_, h0⟩ | ⟨g, cap, cur, rfl, _⟩
    · omega
    · exact ⟨_, _, rfl⟩
  unfold Oper.wp execOp
  rw [ho]
  simp only [resolve, invoke, builtin, Sem.run_bind, Sem.run_pure, Result.andThen_ok, List.map_toArray, List.map_cons, List.map_nil, hs, hx, hr]
  refine h a' c' w' ⟨by rw [List.length_append, hown.len]; rfl, by rw [fCells_append]; exact h2, fun y hy => ?_⟩ hb h3
  rcases List.mem_append.1 hy with hy | hy
  · exact hrow y (hown.dat y hy)
  · simp at hy
    subst hy
    exact hrow _ hfd
end Go.Proofs.Ytbheifelfeekmaa

namespace Go.Proofs.Ytbheifelfeekmaa
open Go.RowKit Go.MapKept Go.Sort
set_option linter.unusedVariables false
set_option linter.unusedSimpArgs false
variable {w w' W X : World} {O O' : Nat → Prop} {dB : Nat} {d : Dk4}
def fileP (d : Dk4) (x : List UInt8) : PF := (ofL x, (atP d.fs (ofL x)).getD ([], 0))
def filesP (d : Dk4) : List PF := (lsP d.fs ⟨#[]⟩).map (fileP d)
theorem lsP_at {ps : List PF} {pre : ByteArray} {x : List UInt8} (h : x ∈ lsP ps pre) : ∃ v, atP ps (ofL x) = some v := by
  unfold lsP at h
  have h := (List.mergeSort_perm _ leB).mem_iff.1 h
  obtain ⟨s, hs, rfl⟩ := List.mem_map.1 h
  have hs := (List.mem_filter.1 hs).1
  obtain ⟨p, hp, rfl⟩ := List.mem_map.1 hs
  rw [ofL_nmL]
  cases h : atP ps p.1 with
  | some v => exact ⟨v, rfl⟩
  | none => exact absurd rfl (atP_none h p hp)
theorem OwnS.kept {B n : Nat} {v : Value} {ss : List (List UInt8)} {row : Option Nat} (h : OwnS w B v n ss) (hg : w.grownBy w' row) (hne : v.ownBlock = none ∨ v.ownBlock ≠ row) : OwnS w' B v n ss := ⟨h.1, h.2.kept hg hne⟩
theorem OwnS.later {B n : Nat} {v : Value} {ss : List (List UInt8)} (h : OwnS w B v n ss) (b : Below w.heap.size w w') : OwnS w' B v n ss := by
  refine ⟨h.1, h.2.1, ?_⟩
  rcases h.2.2 with h2 | ⟨g, cap, cur, h3, h4, h5, h6⟩
  · exact .inl h2
  · exact .inr ⟨g, cap, cur, h3, h4, by rw [b.block g (Array.getElem?_eq_some_iff.1 h5).1]; exact h5, h6⟩
theorem FLs.later {B n : Nat} {v : Value} {l : List (PF × Value)} (h : FLs w B v n l) (b : Below w.heap.size w w') : FLs w' B v n l := by
  refine ⟨h.len, ⟨h.row.1, ?_⟩, fun x hx => (h.dat x hx).kept (fun g hg => ⟨b.block g ?_, (h.dat x hx).blk g hg⟩)⟩
  · rcases h.row.2 with h2 | ⟨g, cap, cur, h3, h4, h5, h6⟩
    · exact .inl h2
    · exact .inr ⟨g, cap, cur, h3, h4, by rw [b.block g (Array.getElem?_eq_some_iff.1 h5).1]; exact h5, h6⟩
  · obtain ⟨cur, ht⟩ := (h.dat x hx).typ hg
    exact (Array.getElem?_eq_some_iff.1 ht).1
theorem FLs.nil (w : World) (B : Nat) : FLs w B (.slice none 0 0) 0 [] := ⟨rfl, World.ownsRow_nil _ _ _ _, fun x hx => by cases hx⟩
theorem row_ne {B B' n n' : Nat} {v v' : Value} {ss : List (List UInt8)} {l : List (PF × Value)} (h : OwnS w B v n ss) (k : FLs w B' v' n' l) : v.ownBlock = none ∨ v.ownBlock ≠ v'.ownBlock := by
  rcases h.2.2 with ⟨rfl, _⟩ | ⟨g, cap, cur, rfl, _, h5, _⟩
  · exact .inl rfl
  · right
    rcases k.row.2 with ⟨rfl, _⟩ | ⟨g2, cap2, cur2, rfl, _, h6, _⟩
    · intro e; cases e
    · intro e
      simp only [Value.ownBlock, Option.some.injEq] at e
      rw [e, h6] at h5
      simp only [Option.some.injEq, Obj.cells.injEq] at h5
      exact absurd h5.2.1 (by decide)
set_option maxRecDepth 100000 in
set_option maxHeartbeats 4000000 in
theorem files_any (hD : Dsk w O dB d) : Calls Try.prog 22 #[.pointer (some ⟨dB, 0, none⟩)] w fun e w' => ∃ a n k l, e = .returned (.slice a n k) ∧ FLs w' w.heap.size (.slice a n k) n l ∧ l.map (·.1) = filesP d ∧ Below w.heap.size w w' := by
  have HD := Lib.hid hD
  have HLIST := Lib.hid (list_dsk hD ⟨#[]⟩)
  obtain ⟨_, mb, fl, hM0, hfl0⟩ := id hD
  have HM0 := Lib.hid (And.intro hM0 hfl0)
  clear hM0 hfl0
  obtain ⟨L, hL⟩ : ∃ L, L = lsP d.fs ⟨#[]⟩ := ⟨_, rfl⟩
  have hF : filesP d = L.map (fileP d) := by rw [hL]; rfl
  rw [hF]
  rw [← hL] at HLIST
  have HL := Lib.hid hL
  have hlen : L.length ≤ 256 := by
    rw [hL]
    unfold lsP
    rw [List.length_mergeSort, List.length_map]
    refine Nat.le_trans (List.length_filter_le _ _) ?_
    rw [List.length_map]
    exact hD.1.cnt
  have HLEN := Lib.hid hlen
  clear hD hL hF hlen
  go_enter Try.func22, Try.ntmps22
  go_wp2_with fail
  refine HLIST.out.mono ?_
  rintro e w1 ⟨al, nl, kl, rfl, o1, b1⟩
  have HO1 := Lib.hid o1
  have HB1 := Lib.hid b1
  have hnl : nl ≤ 256 := by rw [o1.1]; exact HLEN.out
  clear o1 b1
  go_wp2_with fail
  go_loopw [3, 10] (fun v i wr => ∃ (t : Nat) (a : Option Addr) (n k : Nat) (l : List (PF × Value)), t ≤ nl ∧ i = .int .i64 (t : Int) ∧ v = .slice a n k ∧ FLs wr w.heap.size (.slice a n k) n l ∧ l.map (·.1) = (L.take t).map (fileP d) ∧ Below w.heap.size w wr ∧ OwnS wr w.heap.size (.slice al nl kl) nl L) (fun _ i _ => nl - (intOf i).toNat)
  case atStart => exact ⟨0, none, 0, 0, [], Nat.zero_le _, rfl, rfl, FLs.nil _ _, rfl, HB1.out, HO1.out⟩
  case round =>
    obtain ⟨t, a, n, k, l, ht, rfl, rfl, hfl, hll, hbw, hown⟩ := hrel
    have HFL := Lib.hid (And.intro hfl hll)
    have HBW := Lib.hid hbw
    have HOWN := Lib.hid hown
    clear hfl hll hbw hown
    by_cases hlt : t < nl
    · have j1 : (t : Int) < (nl : Int) := by omega
      have j2 : (0 : Int) ≤ (t : Int) := by omega
      have htL : t < L.length := by rw [← HOWN.out.1]; exact hlt
      have hx : ∃ x, L[t]? = some x := ⟨_, List.getElem?_eq_getElem htL⟩
      obtain ⟨x, hx⟩ := hx
      have hc := HOWN.out.rd.2.cel t (ofL x) (by rw [List.getElem?_map, hx]; rfl)
      obtain ⟨gl, hc⟩ := hc
      obtain ⟨ol, hc⟩ := hc
      have hal := hc.1
      have hcl := hc.2
      subst hal
      clear hc
      have hM := HM0.out.1.below HBW.out
      have hfl := HM0.out.2
      have hat : ∃ v, atP d.fs (ofL x) = some v := lsP_at (by rw [← HL.out]; exact List.mem_of_getElem? hx)
      have hatF : ∃ f, atF fl (ofL x) = some f ∧ atP d.fs (ofL x) = some (f.dat, f.syn) := by
        obtain ⟨v, hv⟩ := hat
        rw [← hfl, atF_pf] at hv ⊢
        cases h : atF fl (ofL x) with
        | none => rw [h] at hv; cases hv
        | some f => exact ⟨f, rfl, rfl⟩
      obtain ⟨f, hf⟩ := hatF
      have hf1 := hf.1
      have hf2 := hf.2
      have hmp := hM.map
      obtain ⟨es, hmp⟩ := hmp
      obtain ⟨ck, hmp⟩ := hmp
      have hlook := hmp.look (ofL x)
      have e1 : atN (fl.map fun f => (f.nm, f.b)) (ofL x) = some f.b := by
        have := atF_nb (ofL x) fl
        rw [hf1] at this
        exact this
      rw [e1] at hlook
      have hmem := atF_mem hf1
      have hfb := hM.fil f hmem.1
      have hform := hfb.2.1.form
      obtain ⟨af, hform⟩ := hform
      obtain ⟨kf, hform⟩ := hform
      have hbx := hfb.1
      have hrd := hfb.2.1.rd (by have := totP_mem hf2; simp only at this; have := HD.out.1.tot; have := HD.out.1.cap1; omega)
      rw [hform] at hbx hrd
      have hl47 : f.dat.length ≤ 140737488355328 := by have := totP_mem hf2; simp only at this; have := HD.out.1.tot; have := HD.out.1.cap1; omega
      have c0 := hM.box.cells.1
      have hn256 : n ≤ 1000000 := by
        have h1 := HFL.out.1.len
        have h2 := congrArg List.length HFL.out.2
        rw [List.length_map, List.length_map, List.length_take] at h2
        omega
      have hlook2 : (Instr.lookup 76 (.map (some mb)) (.string (ofL x)) false).run Try.prog wr = .ok (.pointer (some ⟨f.b, 0, none⟩)) wr := hlook
      have hbl : f.b < w.heap.size := by
        exact HM0.out.1.lt _ (HM0.out.1.fil f hmem.1).2.2
      have HX := Lib.hid (And.intro hx (And.intro hf2 (And.intro hbx (And.intro hrd hl47))))
      clear hM hfl hat hf hf1 hf2 hmp hlook e1 hmem hfb hform hbx hrd hl47 hx
      go_upto_region 6 with fail
      refine wp_region_noPanic ?_
      refine wp_region_anyE (S := fun wx => Below w.heap.size w wx ∧ wx.cell? ⟨f.b, 0, none⟩ = some (.slice af f.dat.length kf) ∧ wx.cell? ⟨f.b, 1, none⟩ = some (.int .i64 (f.syn : Int))) (E := fun j => true) (by kernel_rfl) ?_
      have hbc := HX.out.2.2.1.cells
      have hHeld : Below w.heap.size w wr.drew ∧ wr.drew.cell? ⟨f.b, 0, none⟩ = some (.slice af f.dat.length kf) ∧ wr.drew.cell? ⟨f.b, 1, none⟩ = some (.int .i64 (f.syn : Int)) := ⟨HBW.out.drew, hbc.1, hbc.2⟩
      have HKB := Lib.hid hbc
      clear hbc
      have HZ := Lib.hid ((Below.refl wr.heap.size wr).drew)
      have hZ0 : ∃ z, z = wr.drew := ⟨_, rfl⟩
      obtain ⟨Z0, hZ0⟩ := hZ0
      rw [← hZ0] at HZ hHeld ⊢
      clear hZ0
      refine AnyE.take (i := 0) (.slice a n k) rfl (by kernel_rfl) (by kernel_rfl) (by kernel_rfl) (by kernel_rfl) (fun _ _ _ h => h) (.inl ⟨by kernel_rfl, fun wy hy => by (go_simp; done)⟩) hHeld ?_
      try simp only [Act.put, List.setIfInBounds_toArray, List.set_cons_zero, List.set_cons_succ]
      refine AnyE.take (i := 1) (.string (ofL x)) rfl (by kernel_rfl) (by kernel_rfl) (by kernel_rfl) (by kernel_rfl) (fun _ _ _ h => h) (.inl ⟨by kernel_rfl, fun wy hy => by (go_simp; done)⟩) hHeld ?_
      try simp only [Act.put, List.setIfInBounds_toArray, List.set_cons_zero, List.set_cons_succ]
      refine AnyE.take (i := 2) (.pointer (some ⟨f.b, 0, none⟩)) rfl (by kernel_rfl) (by kernel_rfl) (by kernel_rfl) (by kernel_rfl) (fun _ _ _ h => h) (.inl ⟨by kernel_rfl, fun wy hy => by (go_simp; done)⟩) hHeld ?_
      try simp only [Act.put, List.setIfInBounds_toArray, List.set_cons_zero, List.set_cons_succ]
      refine AnyE.take (i := 3) (.pointer (some ⟨f.b, 0, none⟩)) rfl (by kernel_rfl) (by kernel_rfl) (by kernel_rfl) (by kernel_rfl) (fun _ _ _ h => h) (.inl ⟨by kernel_rfl, fun wy hy => by (go_simp; done)⟩) hHeld ?_
      try simp only [Act.put, List.setIfInBounds_toArray, List.set_cons_zero, List.set_cons_succ]
      refine AnyE.take (i := 4) (.pointer (some ⟨f.b, 0, none⟩)) rfl (by kernel_rfl) (by kernel_rfl) (by kernel_rfl) (by kernel_rfl) (fun _ _ _ h => h) (.inl ⟨by kernel_rfl, fun wy hy => by (go_simp; done)⟩) hHeld ?_
      try simp only [Act.put, List.setIfInBounds_toArray, List.set_cons_zero, List.set_cons_succ]
      refine AnyE.take (i := 5) (.slice af f.dat.length kf) rfl (by kernel_rfl) (by kernel_rfl) (by kernel_rfl) (by kernel_rfl) (fun _ _ _ h => h) (.inl ⟨by kernel_rfl, fun wy hy => by (have q0 := hy.2.1; go_simp; done)⟩) hHeld ?_
      try simp only [Act.put, List.setIfInBounds_toArray, List.set_cons_zero, List.set_cons_succ]
      refine AnyE.take (i := 7) (.pointer (some ⟨f.b, 0, none⟩)) rfl (by kernel_rfl) (by kernel_rfl) (by kernel_rfl) (by kernel_rfl) (fun _ _ _ h => h) (.inl ⟨by kernel_rfl, fun wy hy => by (go_simp; done)⟩) hHeld ?_
      try simp only [Act.put, List.setIfInBounds_toArray, List.set_cons_zero, List.set_cons_succ]
      refine AnyE.take (i := 8) (.pointer (some ⟨f.b, 0, none⟩)) rfl (by kernel_rfl) (by kernel_rfl) (by kernel_rfl) (by kernel_rfl) (fun _ _ _ h => h) (.inl ⟨by kernel_rfl, fun wy hy => by (go_simp; done)⟩) hHeld ?_
      try simp only [Act.put, List.setIfInBounds_toArray, List.set_cons_zero, List.set_cons_succ]
      refine AnyE.take (i := 9) (.pointer (some ⟨f.b, 1, none⟩)) rfl (by kernel_rfl) (by kernel_rfl) (by kernel_rfl) (by kernel_rfl) (fun _ _ _ h => h) (.inl ⟨by kernel_rfl, fun wy hy => by (go_simp; done)⟩) hHeld ?_
      try simp only [Act.put, List.setIfInBounds_toArray, List.set_cons_zero, List.set_cons_succ]
      refine AnyE.take (i := 10) (.int .i64 (f.syn : Int)) rfl (by kernel_rfl) (by kernel_rfl) (by kernel_rfl) (by kernel_rfl) (fun _ _ _ h => h) (.inl ⟨by kernel_rfl, fun wy hy => by (have q0 := hy.2.2; go_simp; done)⟩) hHeld ?_
      try simp only [Act.put, List.setIfInBounds_toArray, List.set_cons_zero, List.set_cons_succ]
      refine AnyE.one (i := 6) rfl (by kernel_rfl) (by kernel_rfl) (fun KK hK => ?_)
      go_simp
      go_at_call 42
      refine (bclone_any (HX.out.2.2.2.1.later HZ.out) HX.out.2.2.2.2).mono ?_
      rintro e9 Z2 ⟨sv, rfl, ow, bw⟩
      have hsf := own_form ow
      obtain ⟨ac, hsf⟩ := hsf
      obtain ⟨kc, hsf⟩ := hsf
      subst hsf
      have hHeld : Below w.heap.size w Z2 ∧ Z2.cell? ⟨f.b, 0, none⟩ = some (.slice af f.dat.length kf) ∧ Z2.cell? ⟨f.b, 1, none⟩ = some (.int .i64 (f.syn : Int)) := ⟨hHeld.1.trans (bw.mono hHeld.1.size), (bw.cell (p := ⟨f.b, 0, none⟩) (World.block_lt_of_cell? _ _ hHeld.2.1)).trans hHeld.2.1, (bw.cell (p := ⟨f.b, 1, none⟩) (World.block_lt_of_cell? _ _ hHeld.2.2)).trans hHeld.2.2⟩
      have HOW := Lib.hid ow
      have HZZ := Lib.hid HZ.out
      have HZ := Lib.hid (HZ.out.trans (bw.mono HZ.out.size))
      clear ow bw
      go_wp2_with fail
      refine hK.out _ _ ⟨fun _ => hHeld, ?_⟩
      clear hK
      try simp only [Act.put, List.setIfInBounds_toArray, List.set_cons_zero, List.set_cons_succ]
      refine AnyE.one (i := 11) rfl (by kernel_rfl) (by kernel_rfl) (fun KK hK => ?_)
      go_simp
      refine hK.out _ _ ⟨fun _ => hHeld, ?_⟩
      clear hK
      try simp only [Act.put, List.setIfInBounds_toArray, List.set_cons_zero, List.set_cons_succ]
      refine AnyE.one (i := 12) rfl (by kernel_rfl) (by kernel_rfl) (fun KK hK => ?_)
      go_simp
      have bA := (Below.refl Z2.heap.size Z2).alloc (Nat.le_refl _) (.cells #[.string (ofL x), .slice ac f.dat.length kc, .int .i64 (f.syn : Int)] 50)
      have cA : (Z2.alloc (.cells #[.string (ofL x), .slice ac f.dat.length kc, .int .i64 (f.syn : Int)] 50)).cell? ⟨Z2.heap.size, 0, none⟩ = some (.string (ofL x)) ∧ (Z2.alloc (.cells #[.string (ofL x), .slice ac f.dat.length kc, .int .i64 (f.syn : Int)] 50)).cell? ⟨Z2.heap.size, 1, none⟩ = some (.slice ac f.dat.length kc) ∧ (Z2.alloc (.cells #[.string (ofL x), .slice ac f.dat.length kc, .int .i64 (f.syn : Int)] 50)).cell? ⟨Z2.heap.size, 2, none⟩ = some (.int .i64 (f.syn : Int)) := by
        refine ⟨?_, ?_, ?_⟩ <;> simp [go_sem]
      have hZ3 : ∃ z, z = Z2.alloc (.cells #[.string (ofL x), .slice ac f.dat.length kc, .int .i64 (f.syn : Int)] 50) := ⟨_, rfl⟩
      obtain ⟨Z3, hZ3⟩ := hZ3
      rw [← hZ3] at bA cA ⊢
      clear hZ3
      have hHeld : Below w.heap.size w Z3 ∧ Z3.cell? ⟨f.b, 0, none⟩ = some (.slice af f.dat.length kf) ∧ Z3.cell? ⟨f.b, 1, none⟩ = some (.int .i64 (f.syn : Int)) := ⟨hHeld.1.trans (bA.mono hHeld.1.size), (bA.cell (p := ⟨f.b, 0, none⟩) (World.block_lt_of_cell? _ _ hHeld.2.1)).trans hHeld.2.1, (bA.cell (p := ⟨f.b, 1, none⟩) (World.block_lt_of_cell? _ _ hHeld.2.2)).trans hHeld.2.2⟩
      have HCA := Lib.hid (And.intro bA cA)
      clear bA cA
      refine hK.out _ _ ⟨fun _ => hHeld, ?_⟩
      clear hK
      try simp only [Act.put, List.setIfInBounds_toArray, List.set_cons_zero, List.set_cons_succ]
      refine AnyE.one (i := 13) rfl (by kernel_rfl) (by kernel_rfl) (fun KK hK => ?_)
      have hwz : wr.heap.size ≤ Z3.heap.size := Nat.le_trans HZ.out.size HCA.out.1.size
      have efp : fileP d x = (ofL x, f.dat, f.syn) := by unfold fileP; rw [HX.out.2.1]; rfl
      have o2 : OwnO Z2 (fun i => w.heap.size ≤ i) (.slice ac f.dat.length kc) f.dat := by
        refine ⟨⟨HOW.out.1, ?_⟩, HX.out.2.2.2.1.1, fun g hg => ?_⟩
        · rcases HOW.out.2 with h | ⟨g, cap, cur, h1, h2, h3⟩
          · exact .inl h
          · exact .inr ⟨g, cap, cur, h1, Nat.zero_le _, h3⟩
        · have := (HOW.out.lt g hg).1
          exact Nat.le_trans HBW.out.size (Nat.le_trans HZZ.out.size this)
      have o3 : OwnO Z3 (fun i => w.heap.size ≤ i) (.slice ac f.dat.length kc) f.dat := o2.kept (fun g hg => ⟨HCA.out.1.block g (by obtain ⟨cur, ht⟩ := o2.typ hg; exact (Array.getElem?_eq_some_iff.1 ht).1), o2.blk g hg⟩)
      have HO3 := Lib.hid o3
      have HEF := Lib.hid efp
      clear o2 o3 efp
      refine file_append _ _ rfl (B := w.heap.size) (n := n) (blk := Z2.heap.size) (v := .slice a n k) (l := l) (f := ((ofL x, f.dat, f.syn), .slice ac f.dat.length kc)) rfl ((HFL.out.1.later HZ.out).later HCA.out.1) rfl HCA.out.2 HO3.out hn256 (Nat.le_trans HBW.out.size hwz) (fun a9 k9 Z4 own9 b9 g9 => ?_)
      have hHeld : Below w.heap.size w Z4 ∧ Z4.cell? ⟨f.b, 0, none⟩ = some (.slice af f.dat.length kf) ∧ Z4.cell? ⟨f.b, 1, none⟩ = some (.int .i64 (f.syn : Int)) := ⟨hHeld.1.trans b9, (b9.cell (p := ⟨f.b, 0, none⟩) hbl).trans hHeld.2.1, (b9.cell (p := ⟨f.b, 1, none⟩) hbl).trans hHeld.2.2⟩
      have HO4 := Lib.hid (((HOWN.out.later HZ.out).later HCA.out.1).kept g9 (row_ne HOWN.out HFL.out.1))
      have HF4 := Lib.hid (And.intro own9 hHeld.1)
      clear own9 b9 g9
      refine hK.out _ _ ⟨fun _ => hHeld, ?_⟩
      clear hK
      try simp only [Act.put, List.setIfInBounds_toArray, List.set_cons_zero, List.set_cons_succ]
      refine AnyE.one (i := 14) rfl (by kernel_rfl) (by kernel_rfl) (fun KK hK => ?_)
      go_simp
      refine hK.out _ _ ⟨fun _ => hHeld, ?_⟩
      clear hK hHeld
      try simp only [Act.put, List.setIfInBounds_toArray, List.set_cons_zero, List.set_cons_succ]
      refine AnyE.done (by kernel_rfl) (NoPanic.normal ?_) _
      go_simp
      go_step
      go_wp2
      go_roundw
      case rel =>
        refine ⟨t + 1, a9, n + 1, k9, l ++ [((ofL x, f.dat, f.syn), .slice ac f.dat.length kc)], by omega, by go_num, rfl, HF4.out.1, ?_, HF4.out.2, HO4.out⟩
        rw [List.map_append, HFL.out.2, List.take_add_one, HX.out.1, ← HEF.out]
        simp [HEF.out]
      case measure => simp [intOf]; omega
    · have j1 : (nl : Int) ≤ (t : Int) := by omega
      have hend : t = nl := by omega
      have hall : L.take t = L := by rw [hend, HOWN.out.1, List.take_length]
      have HALL := Lib.hid hall
      clear hall hend hlt
      go_wp2
      go_ret
      exact ⟨a, n, k, l, rfl, HFL.out.1, by rw [HFL.out.2, HALL.out], HBW.out⟩
end Go.Proofs.Ytbheifelfeekmaa

namespace Go.Proofs.Ytbheifelfeekmaa
open Go.RowKit Go.MapKept Go.Sort
set_option linter.unusedVariables false
set_option linter.unusedSimpArgs false
variable {w w' W X : World} {O O' : Nat → Prop} {dB : Nat} {d : Dk4}
def keepN (syn len : Nat) (st : Int) : Nat := syn + (min (max st 0) ((len : Int) - (syn : Int))).toNat
theorem keepN_le {syn len : Nat} (h : syn ≤ len) (st : Int) : syn ≤ keepN syn len st ∧ keepN syn len st ≤ len := by
  unfold keepN
  omega
set_option maxRecDepth 100000 in
set_option maxHeartbeats 4000000 in
theorem cut_any {b syn : Nat} {v : Value} {dat : List Nat} {st : Int} (hb : FBox w b v syn) (ho : OwnO w O v dat) (hs : syn ≤ dat.length) (hl : dat.length ≤ 67108864) (hbO : ∀ g, v.ownBlock = some g → g ≠ b) :
    Calls Try.prog 49 #[.pointer (some ⟨b, 0, none⟩), .int .i64 st] w fun e w' => e = .returned (.tuple #[]) ∧ ∃ v', FBox w' b v' (keepN syn dat.length st) ∧ OwnO w' (fun i => v.ownBlock = some i ∨ w.heap.size ≤ i) v' (dat.take (keepN syn dat.length st)) ∧ (v' = v ∨ ∀ g, v'.ownBlock = some g → w.heap.size ≤ g) ∧ Go4 w w' (fun i => i = b) (fun i => i = b) := by
  obtain ⟨a, c, rfl⟩ := ho.form
  obtain ⟨n, hn⟩ : ∃ n, n = dat.length := ⟨_, rfl⟩
  obtain ⟨k, hk⟩ : ∃ k, k = keepN syn dat.length st := ⟨_, rfl⟩
  have hkl := keepN_le hs st
  have hrd := ho.rd (by omega)
  have hnc : n ≤ c := by
    obtain ⟨_, a1, c1, h2, h3, _⟩ := hrd
    simp only [Value.slice.injEq] at h2
    obtain ⟨_, _, rfl⟩ := h2
    rw [hn]
    exact h3
  obtain ⟨m, hm⟩ : ∃ m : Int, max st 0 = m := ⟨_, rfl⟩
  obtain ⟨q, hq⟩ : ∃ q : Int, min m ((n : Int) - (syn : Int)) = q := ⟨_, rfl⟩
  have hkq : (syn : Int) + q = (k : Int) := by rw [hk]; unfold keepN; rw [hm, ← hn, hq]; omega
  have q0 : 0 ≤ q := by omega
  have q1 : q ≤ 67108864 := by omega
  rw [← hk] at hkl ⊢
  rw [← hn] at hb ho hs hl hkl hrd
  have lb := hb.lt
  have HBX := Lib.hid hb
  have HO := Lib.hid (And.intro hrd ho)
  have HN := Lib.hid (And.intro hn hk)
  have HBO := Lib.hid hbO
  have s2 : syn ≤ 67108864 := by omega
  have k2 : k ≤ n := hkl.2
  have HKQ := Lib.hid hkq
  clear hb ho hn hk hbO hrd hkl hkq
  go_enter Try.func49, Try.ntmps49
  go_upto_region 0 with fail
  have BD : Below w.heap.size w w.drew := (Below.refl _ _).drew
  refine wp_region_noPanic ?_
  refine wp_region_anyE (S := fun wx => Below w.heap.size w wx) (E := fun j => true) (by kernel_rfl) ?_
  have hHeld : Below w.heap.size w w.drew := BD
  have HB := Lib.hid BD
  have hZ0 : ∃ z, z = w.drew := ⟨_, rfl⟩
  obtain ⟨Z0, hZ0⟩ := hZ0
  rw [← hZ0] at HB hHeld ⊢
  clear hZ0 BD
  refine AnyE.take (i := 0) (.pointer (some ⟨b, 0, none⟩)) rfl (by kernel_rfl) (by kernel_rfl) (by kernel_rfl) (by kernel_rfl) (fun _ _ _ h => h) (.inl ⟨by kernel_rfl, fun wy hy => by (go_simp; done)⟩) hHeld ?_
  try simp only [Act.put, List.setIfInBounds_toArray, List.set_cons_zero, List.set_cons_succ]
  refine AnyE.take (i := 1) (.pointer (some ⟨b, 0, none⟩)) rfl (by kernel_rfl) (by kernel_rfl) (by kernel_rfl) (by kernel_rfl) (fun _ _ _ h => h) (.inl ⟨by kernel_rfl, fun wy hy => by (go_simp; done)⟩) hHeld ?_
  try simp only [Act.put, List.setIfInBounds_toArray, List.set_cons_zero, List.set_cons_succ]
  refine AnyE.take (i := 2) (.pointer (some ⟨b, 0, none⟩)) rfl (by kernel_rfl) (by kernel_rfl) (by kernel_rfl) (by kernel_rfl) (fun _ _ _ h => h) (.inl ⟨by kernel_rfl, fun wy hy => by (go_simp; done)⟩) hHeld ?_
  try simp only [Act.put, List.setIfInBounds_toArray, List.set_cons_zero, List.set_cons_succ]
  refine AnyE.take (i := 3) (.slice a n c) rfl (by kernel_rfl) (by kernel_rfl) (by kernel_rfl) (by kernel_rfl) (fun _ _ _ h => h) (.inl ⟨by kernel_rfl, fun wy hy => by (have q0 := (HBX.out.kept (hy.block _ lb)).cells.1; go_simp; done)⟩) hHeld ?_
  try simp only [Act.put, List.setIfInBounds_toArray, List.set_cons_zero, List.set_cons_succ]
  refine AnyE.take (i := 4) (.int .i64 (n : Int)) rfl (by kernel_rfl) (by kernel_rfl) (by kernel_rfl) (by kernel_rfl) (fun _ _ _ h => h) (.inl ⟨by kernel_rfl, fun wy hy => by (go_simp; first | done | (cases a <;> (go_simp; done)))⟩) hHeld ?_
  try simp only [Act.put, List.setIfInBounds_toArray, List.set_cons_zero, List.set_cons_succ]
  refine AnyE.take (i := 5) (.pointer (some ⟨b, 0, none⟩)) rfl (by kernel_rfl) (by kernel_rfl) (by kernel_rfl) (by kernel_rfl) (fun _ _ _ h => h) (.inl ⟨by kernel_rfl, fun wy hy => by (go_simp; done)⟩) hHeld ?_
  try simp only [Act.put, List.setIfInBounds_toArray, List.set_cons_zero, List.set_cons_succ]
  refine AnyE.take (i := 6) (.pointer (some ⟨b, 0, none⟩)) rfl (by kernel_rfl) (by kernel_rfl) (by kernel_rfl) (by kernel_rfl) (fun _ _ _ h => h) (.inl ⟨by kernel_rfl, fun wy hy => by (go_simp; done)⟩) hHeld ?_
  try simp only [Act.put, List.setIfInBounds_toArray, List.set_cons_zero, List.set_cons_succ]
  refine AnyE.take (i := 7) (.pointer (some ⟨b, 1, none⟩)) rfl (by kernel_rfl) (by kernel_rfl) (by kernel_rfl) (by kernel_rfl) (fun _ _ _ h => h) (.inl ⟨by kernel_rfl, fun wy hy => by (go_simp; done)⟩) hHeld ?_
  try simp only [Act.put, List.setIfInBounds_toArray, List.set_cons_zero, List.set_cons_succ]
  refine AnyE.take (i := 8) (.int .i64 (syn : Int)) rfl (by kernel_rfl) (by kernel_rfl) (by kernel_rfl) (by kernel_rfl) (fun _ _ _ h => h) (.inl ⟨by kernel_rfl, fun wy hy => by (have q0 := (HBX.out.kept (hy.block _ lb)).cells.2; go_simp; done)⟩) hHeld ?_
  try simp only [Act.put, List.setIfInBounds_toArray, List.set_cons_zero, List.set_cons_succ]
  refine AnyE.take (i := 9) (.int .i64 ((n : Int) - (syn : Int))) rfl (by kernel_rfl) (by kernel_rfl) (by kernel_rfl) (by kernel_rfl) (fun _ _ _ h => h) (.inl ⟨by kernel_rfl, fun wy hy => by (go_simp; exact IntWalk.i64_in _ ⟨by omega, by omega⟩)⟩) hHeld ?_
  try simp only [Act.put, List.setIfInBounds_toArray, List.set_cons_zero, List.set_cons_succ]
  refine AnyE.take (i := 10) (.int .i64 ((n : Int) - (syn : Int))) rfl (by kernel_rfl) (by kernel_rfl) (by kernel_rfl) (by kernel_rfl) (fun _ _ _ h => h) (.inl ⟨by kernel_rfl, fun wy hy => by (go_simp; done)⟩) hHeld ?_
  try simp only [Act.put, List.setIfInBounds_toArray, List.set_cons_zero, List.set_cons_succ]
  refine AnyE.done (by kernel_rfl) (NoPanic.normal ?_) _
  have hZ9 : ∃ z, z = Z0 := ⟨_, rfl⟩
  obtain ⟨W0, hZ9⟩ := hZ9
  rw [← hZ9] at HB ⊢
  clear hHeld hZ9
  have HB0 := Lib.hid HB.out
  have bx0 := HBX.out.kept (HB.out.block _ lb)
  have c0 := bx0.cells.1
  have c1 := bx0.cells.2
  have z1 := bx0.fz 1
  go_simp
  go_step
  go_upto_region 2 with fail
  rw [HKQ.out]
  have bX : FBox (W0.setCell ⟨b, 1, none⟩ (.int .i64 (k : Int))) b (.slice a n c) k := bx0.setSyn k
  have gX : Go4 w (W0.setCell ⟨b, 1, none⟩ (.int .i64 (k : Int))) (fun i => i = b) (fun i => i = b) := (Go4.of_below HB0.out).trans (Go4.of_set (O := fun i => i = b) (a := ⟨b, 1, none⟩) rfl _)
  have hX : ∃ x, x = W0.setCell ⟨b, 1, none⟩ (.int .i64 (k : Int)) := ⟨_, rfl⟩
  obtain ⟨X, hX⟩ := hX
  rw [← hX] at bX gX ⊢
  have HGX := Lib.hid gX
  have HBXX := Lib.hid bX
  have lX := bX.lt
  clear hX bX gX bx0 c0 c1 z1 HB hm hq q0 q1
  have BD : Below X.heap.size X X.drew := (Below.refl _ _).drew
  refine wp_region_noPanic ?_
  refine wp_region_anyE (S := fun wx => Below X.heap.size X wx) (E := fun j => true) (by kernel_rfl) ?_
  have hHeld : Below X.heap.size X X.drew := BD
  have HB := Lib.hid BD
  have hZ0 : ∃ z, z = X.drew := ⟨_, rfl⟩
  obtain ⟨Z0, hZ0⟩ := hZ0
  rw [← hZ0] at HB hHeld ⊢
  clear hZ0 BD
  refine AnyE.take (i := 0) (.pointer (some ⟨b, 0, none⟩)) rfl (by kernel_rfl) (by kernel_rfl) (by kernel_rfl) (by kernel_rfl) (fun _ _ _ h => h) (.inl ⟨by kernel_rfl, fun wy hy => by (go_simp; done)⟩) hHeld ?_
  try simp only [Act.put, List.setIfInBounds_toArray, List.set_cons_zero, List.set_cons_succ]
  refine AnyE.take (i := 1) (.pointer (some ⟨b, 0, none⟩)) rfl (by kernel_rfl) (by kernel_rfl) (by kernel_rfl) (by kernel_rfl) (fun _ _ _ h => h) (.inl ⟨by kernel_rfl, fun wy hy => by (go_simp; done)⟩) hHeld ?_
  try simp only [Act.put, List.setIfInBounds_toArray, List.set_cons_zero, List.set_cons_succ]
  refine AnyE.take (i := 2) (.pointer (some ⟨b, 1, none⟩)) rfl (by kernel_rfl) (by kernel_rfl) (by kernel_rfl) (by kernel_rfl) (fun _ _ _ h => h) (.inl ⟨by kernel_rfl, fun wy hy => by (go_simp; done)⟩) hHeld ?_
  try simp only [Act.put, List.setIfInBounds_toArray, List.set_cons_zero, List.set_cons_succ]
  refine AnyE.take (i := 3) (.int .i64 (k : Int)) rfl (by kernel_rfl) (by kernel_rfl) (by kernel_rfl) (by kernel_rfl) (fun _ _ _ h => h) (.inl ⟨by kernel_rfl, fun wy hy => by (have q0 := (HBXX.out.kept (hy.block _ lX)).cells.2; go_simp; done)⟩) hHeld ?_
  try simp only [Act.put, List.setIfInBounds_toArray, List.set_cons_zero, List.set_cons_succ]
  refine AnyE.take (i := 4) (.pointer (some ⟨b, 0, none⟩)) rfl (by kernel_rfl) (by kernel_rfl) (by kernel_rfl) (by kernel_rfl) (fun _ _ _ h => h) (.inl ⟨by kernel_rfl, fun wy hy => by (go_simp; done)⟩) hHeld ?_
  try simp only [Act.put, List.setIfInBounds_toArray, List.set_cons_zero, List.set_cons_succ]
  refine AnyE.take (i := 5) (.pointer (some ⟨b, 0, none⟩)) rfl (by kernel_rfl) (by kernel_rfl) (by kernel_rfl) (by kernel_rfl) (fun _ _ _ h => h) (.inl ⟨by kernel_rfl, fun wy hy => by (go_simp; done)⟩) hHeld ?_
  try simp only [Act.put, List.setIfInBounds_toArray, List.set_cons_zero, List.set_cons_succ]
  refine AnyE.take (i := 6) (.pointer (some ⟨b, 0, none⟩)) rfl (by kernel_rfl) (by kernel_rfl) (by kernel_rfl) (by kernel_rfl) (fun _ _ _ h => h) (.inl ⟨by kernel_rfl, fun wy hy => by (go_simp; done)⟩) hHeld ?_
  try simp only [Act.put, List.setIfInBounds_toArray, List.set_cons_zero, List.set_cons_succ]
  refine AnyE.take (i := 7) (.slice a n c) rfl (by kernel_rfl) (by kernel_rfl) (by kernel_rfl) (by kernel_rfl) (fun _ _ _ h => h) (.inl ⟨by kernel_rfl, fun wy hy => by (have q0 := (HBXX.out.kept (hy.block _ lX)).cells.1; go_simp; done)⟩) hHeld ?_
  try simp only [Act.put, List.setIfInBounds_toArray, List.set_cons_zero, List.set_cons_succ]
  refine AnyE.take (i := 8) (.int .i64 (n : Int)) rfl (by kernel_rfl) (by kernel_rfl) (by kernel_rfl) (by kernel_rfl) (fun _ _ _ h => h) (.inl ⟨by kernel_rfl, fun wy hy => by (go_simp; first | done | (cases a <;> (go_simp; done)))⟩) hHeld ?_
  try simp only [Act.put, List.setIfInBounds_toArray, List.set_cons_zero, List.set_cons_succ]
  refine AnyE.take (i := 9) (.bool (decide ((k : Int) < (n : Int)))) rfl (by kernel_rfl) (by kernel_rfl) (by kernel_rfl) (by kernel_rfl) (fun _ _ _ h => h) (.inl ⟨by kernel_rfl, fun wy hy => by (go_simp; done)⟩) hHeld ?_
  try simp only [Act.put, List.setIfInBounds_toArray, List.set_cons_zero, List.set_cons_succ]
  refine AnyE.done (by kernel_rfl) (NoPanic.normal ?_) _
  have hZ9 : ∃ z, z = Z0 := ⟨_, rfl⟩
  obtain ⟨Y, hZ9⟩ := hZ9
  rw [← hZ9] at HB ⊢
  clear hHeld hZ9
  have HBY := Lib.hid HB.out
  have HY := Lib.hid (HBXX.out.kept (HB.out.block _ lX))
  have HGY := Lib.hid (HGX.out.trans (Go4.of_below HB.out))
  have hown : OwnO Y (fun i => (Value.slice a n c).ownBlock = some i ∨ w.heap.size ≤ i) (.slice a n c) dat := by
    refine HO.out.2.kept (fun g hg => ⟨HGY.out.block g ?_ ?_, .inl hg⟩)
    · obtain ⟨cur, ht⟩ := HO.out.2.typ hg
      exact (Array.getElem?_eq_some_iff.1 ht).1
    · exact HBO.out g (by rw [← HN.out.1]; exact hg)
  have HOWN := Lib.hid hown
  clear hown HB
  go_simp
  go_step
  by_cases hkn : k = n
  · have d1 : decide ((k : Int) < (n : Int)) = false := by simp; omega
    have d2 : ¬ (k : Int) < (n : Int) := by omega
    have HKN := Lib.hid hkn
    clear hkn
    go_wp2
    go_end0
    refine ⟨rfl, .slice a n c, HY.out, ?_, .inl (by rw [HN.out.1]), HGY.out⟩
    rw [HKN.out, HN.out.1, List.take_length]
    rw [← HN.out.1]
    exact HOWN.out
  · have d1 : decide ((k : Int) < (n : Int)) = true := by simp; omega
    have d2 : (k : Int) < (n : Int) := by omega
    clear hkn
    have k0 : (0 : Int) ≤ (k : Int) := by omega
    have k3 : (k : Int) ≤ (c : Int) := by omega
    have lY := HY.out.lt
    go_upto_region 3 with fail
    have BD : Below Y.heap.size Y Y.drew := (Below.refl _ _).drew
    refine wp_region_noPanic ?_
    refine wp_region_anyE (S := fun wx => Below Y.heap.size Y wx) (E := fun j => decide (j < 13)) (by kernel_rfl) ?_
    have hHeld : Below Y.heap.size Y Y.drew := BD
    have HB := Lib.hid BD
    have hZ0 : ∃ z, z = Y.drew := ⟨_, rfl⟩
    obtain ⟨Z0, hZ0⟩ := hZ0
    rw [← hZ0] at HB hHeld ⊢
    clear hZ0 BD
    refine AnyE.take (i := 0) (.pointer (some ⟨b, 0, none⟩)) rfl (by kernel_rfl) (by kernel_rfl) (by kernel_rfl) (by kernel_rfl) (fun _ _ _ h => h) (.inl ⟨by kernel_rfl, fun wy hy => by (go_simp; done)⟩) hHeld ?_
    try simp only [Act.put, List.setIfInBounds_toArray, List.set_cons_zero, List.set_cons_succ]
    refine AnyE.take (i := 1) (.pointer (some ⟨b, 0, none⟩)) rfl (by kernel_rfl) (by kernel_rfl) (by kernel_rfl) (by kernel_rfl) (fun _ _ _ h => h) (.inl ⟨by kernel_rfl, fun wy hy => by (go_simp; done)⟩) hHeld ?_
    try simp only [Act.put, List.setIfInBounds_toArray, List.set_cons_zero, List.set_cons_succ]
    refine AnyE.take (i := 2) (.pointer (some ⟨b, 0, none⟩)) rfl (by kernel_rfl) (by kernel_rfl) (by kernel_rfl) (by kernel_rfl) (fun _ _ _ h => h) (.inl ⟨by kernel_rfl, fun wy hy => by (go_simp; done)⟩) hHeld ?_
    try simp only [Act.put, List.setIfInBounds_toArray, List.set_cons_zero, List.set_cons_succ]
    refine AnyE.take (i := 3) (.pointer (some ⟨b, 0, none⟩)) rfl (by kernel_rfl) (by kernel_rfl) (by kernel_rfl) (by kernel_rfl) (fun _ _ _ h => h) (.inl ⟨by kernel_rfl, fun wy hy => by (go_simp; done)⟩) hHeld ?_
    try simp only [Act.put, List.setIfInBounds_toArray, List.set_cons_zero, List.set_cons_succ]
    refine AnyE.take (i := 4) (.slice a n c) rfl (by kernel_rfl) (by kernel_rfl) (by kernel_rfl) (by kernel_rfl) (fun _ _ _ h => h) (.inl ⟨by kernel_rfl, fun wy hy => by (have q0 := (HY.out.kept (hy.block _ lY)).cells.1; go_simp; done)⟩) hHeld ?_
    try simp only [Act.put, List.setIfInBounds_toArray, List.set_cons_zero, List.set_cons_succ]
    refine AnyE.take (i := 5) (.pointer (some ⟨b, 0, none⟩)) rfl (by kernel_rfl) (by kernel_rfl) (by kernel_rfl) (by kernel_rfl) (fun _ _ _ h => h) (.inl ⟨by kernel_rfl, fun wy hy => by (go_simp; done)⟩) hHeld ?_
    try simp only [Act.put, List.setIfInBounds_toArray, List.set_cons_zero, List.set_cons_succ]
    refine AnyE.take (i := 6) (.pointer (some ⟨b, 0, none⟩)) rfl (by kernel_rfl) (by kernel_rfl) (by kernel_rfl) (by kernel_rfl) (fun _ _ _ h => h) (.inl ⟨by kernel_rfl, fun wy hy => by (go_simp; done)⟩) hHeld ?_
    try simp only [Act.put, List.setIfInBounds_toArray, List.set_cons_zero, List.set_cons_succ]
    refine AnyE.take (i := 7) (.pointer (some ⟨b, 1, none⟩)) rfl (by kernel_rfl) (by kernel_rfl) (by kernel_rfl) (by kernel_rfl) (fun _ _ _ h => h) (.inl ⟨by kernel_rfl, fun wy hy => by (go_simp; done)⟩) hHeld ?_
    try simp only [Act.put, List.setIfInBounds_toArray, List.set_cons_zero, List.set_cons_succ]
    refine AnyE.take (i := 8) (.int .i64 (k : Int)) rfl (by kernel_rfl) (by kernel_rfl) (by kernel_rfl) (by kernel_rfl) (fun _ _ _ h => h) (.inl ⟨by kernel_rfl, fun wy hy => by (have q0 := (HY.out.kept (hy.block _ lY)).cells.2; go_simp; done)⟩) hHeld ?_
    try simp only [Act.put, List.setIfInBounds_toArray, List.set_cons_zero, List.set_cons_succ]
    refine AnyE.take (i := 9) (.slice a k c) rfl (by kernel_rfl) (by kernel_rfl) (by kernel_rfl) (by kernel_rfl) (fun _ _ _ h => h) (.inl ⟨by kernel_rfl, fun wy hy => by (go_simp; first | done | (cases a <;> (go_simp; done)))⟩) hHeld ?_
    try simp only [Act.put, List.setIfInBounds_toArray, List.set_cons_zero, List.set_cons_succ]
    refine AnyE.one (i := 10) rfl (by kernel_rfl) (by kernel_rfl) (fun KK hK => ?_)
    go_simp
    go_at_call 42
    refine (bclone_any (((HO.out.1.upto4 k k2).go4 (w' := Y) (fun g off n9 c9 hv hb => ?_)).later HB.out) (by rw [List.length_take]; have := HN.out.1; omega)).mono ?_
    · simp only [Value.slice.injEq] at hv
      obtain ⟨hv1, hv2, hv3⟩ := hv
      subst hv1
      exact HGY.out.block g hb (HBO.out g rfl)
    rintro e9 Z2 ⟨sv, rfl, ow, bw⟩
    have hm2 : ∃ m2, m2 = (dat.take k).length := ⟨_, rfl⟩
    obtain ⟨m2, hm2⟩ := hm2
    rw [← hm2] at ow
    have HM2 := Lib.hid hm2
    have hsf := own_form ow
    obtain ⟨ac, hsf⟩ := hsf
    obtain ⟨kc, hsf⟩ := hsf
    subst hsf
    have HOW := Lib.hid ow
    have HB1 := Lib.hid HB.out
    have HB := Lib.hid (HB.out.trans (bw.mono HB.out.size))
    clear ow bw hm2
    go_wp2_with fail
    refine hK.out _ _ ⟨fun _ => HB.out, ?_⟩
    have hHeld := HB.out
    clear hK
    try simp only [Act.put, List.setIfInBounds_toArray, List.set_cons_zero, List.set_cons_succ]
    refine AnyE.one (i := 11) rfl (by kernel_rfl) (by kernel_rfl) (fun KK hK => ?_)
    go_simp
    refine hK.out _ _ ⟨fun _ => HB.out, ?_⟩
    clear hK
    try simp only [Act.put, List.setIfInBounds_toArray, List.set_cons_zero, List.set_cons_succ]
    refine AnyE.one (i := 12) rfl (by kernel_rfl) (by kernel_rfl) (fun KK hK => ?_)
    go_simp
    refine hK.out _ _ ⟨fun _ => HB.out, ?_⟩
    clear hK
    try simp only [Act.put, List.setIfInBounds_toArray, List.set_cons_zero, List.set_cons_succ]
    refine AnyE.one (i := 13) rfl (by kernel_rfl) (by kernel_rfl) (fun KK hK => ?_)
    have z0 := (HY.out.kept (HB.out.block _ lY)).cells.1
    have z1 := (HY.out.kept (HB.out.block _ lY)).fz 0
    go_simp
    have bF : FBox (Z2.setCell ⟨b, 0, none⟩ (.slice ac m2 kc)) b (.slice ac m2 kc) k := (HY.out.kept (HB.out.block _ lY)).setV _
    have hnb : ∀ g, (Value.slice ac m2 kc).ownBlock = some g → Y.heap.size ≤ g := fun g hg => Nat.le_trans HB1.out.size (HOW.out.lt g hg).1
    have oF : OwnO (Z2.setCell ⟨b, 0, none⟩ (.slice ac m2 kc)) (fun i => (Value.slice a n c).ownBlock = some i ∨ w.heap.size ≤ i) (.slice ac m2 kc) (dat.take k) := by
      have o1 : OwnO Z2 (fun i => w.heap.size ≤ i) (.slice ac m2 kc) (dat.take k) := by
        refine ⟨⟨by rw [← HM2.out]; exact HOW.out.1, ?_⟩, fun x hx => HO.out.1.1 x (List.mem_of_mem_take hx), fun g hg => Nat.le_trans HGY.out.size (hnb g hg)⟩
        rw [← HM2.out]
        rcases HOW.out.2 with h | ⟨g, cap, cur, h1, h2, h3⟩
        · exact .inl h
        · exact .inr ⟨g, cap, cur, h1, Nat.zero_le _, h3⟩
      exact o1.kept (fun g hg => ⟨heap_setCell_other _ _ _ _ (fun e => by have := hnb g hg; simp only at e; omega), .inr (o1.blk g hg)⟩)
    have gF : Go4 w (Z2.setCell ⟨b, 0, none⟩ (.slice ac m2 kc)) (fun i => i = b) (fun i => i = b) := (HGY.out.trans (Go4.of_below HB.out)).trans (Go4.of_set (O := fun i => i = b) (a := ⟨b, 0, none⟩) rfl _)
    have HFIN := Lib.hid (And.intro bF (And.intro oF (And.intro gF hnb)))
    have hV : ∃ x, x = Z2.setCell ⟨b, 0, none⟩ (.slice ac m2 kc) := ⟨_, rfl⟩
    obtain ⟨V, hV⟩ := hV
    rw [← hV] at HFIN ⊢
    clear hV z0 z1 bF oF gF hnb hHeld
    refine hK.out _ _ ⟨fun h => (by cases h), ?_⟩
    clear hK
    try simp only [Act.put, List.setIfInBounds_toArray, List.set_cons_zero, List.set_cons_succ]
    refine AnyE.done (by kernel_rfl) (NoPanic.normal ?_) _
    go_simp
    go_end0
    refine ⟨rfl, _, HFIN.out.1, by rw [← HN.out.1]; exact HFIN.out.2.1, .inr (fun g hg => Nat.le_trans HGY.out.size (HFIN.out.2.2.2 g hg)), HFIN.out.2.2.1⟩
end Go.Proofs.Ytbheifelfeekmaa
