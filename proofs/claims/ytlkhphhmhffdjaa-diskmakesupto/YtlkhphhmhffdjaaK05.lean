import Derived.Test.YtlkhphhmhffdjaaK04
import Derived.Shelf.Slices.In.SortNone
import Derived.Sort.OwnSorted
import Derived.Sort.KeysCollected
import Derived.Lib.ConvBytes
import Derived.Sort.Walk0
set_option linter.unusedSimpArgs false
set_option linter.unusedVariables false
namespace Go.Proofs.Ytlkhphhmhffdjaa
open Go.RowKit Go.MapKept Go.Sort
theorem drow_form1 {w : World} {B n : Nat} {e : TypeId} {v : Value} {xs : List Value} (h : w.ownsRow B e 1 v n xs) : ∃ a c, v = .slice a n c := by
 rcases h.2 with ⟨h1, h2⟩ | ⟨g, cap, cur, h3, h4⟩
 ·exact ⟨none, 0, by rw [h1, h2]⟩
 ·exact ⟨_, _, h3⟩
theorem dpl_append1 {w : World} {ops : Array Oper} {rest : List Oper} {o : Oper} {a : Act} {Q : Exit → Act → World → Prop} (hgd : o.guard = none) (s x : Operand) (te ts bb : Nat) (z : Value) (hund : Try.prog.underlying ts = some (.slice te)) (hinf : (Try.prog.info? te).map (fun i => (i.zero, i.size, i.bytes)) = some (some z, 1, bb)) (hzs : z.cells.size = 1) (hb24 : bb ≤ 24)
  (ho : o.op = .call { callee := .builtin .append, args := #[s, x], argTypes := #[ts, ts] })
  (B : Nat) (ap : Option Addr) (n cp : Nat) (vs : List Value) (hs : a.eval s = .slice ap n cp) (hown : w.ownsRow B te 1 (.slice ap n cp) n vs)
  (blk : Nat) (u : Value) (hx : a.eval x = .slice (some ⟨blk, 0, none⟩) 1 1) (hu : w.cell? ⟨blk, 0, none⟩ = some u) (h1 : u.oneCell' = true) (hn : n ≤ 1000000) (hB : B ≤ w.heap.size)
  (h : ∀ a' c' w', w'.ownsRow B te 1 (.slice a' (n + 1) c') (n + 1) (vs ++ [u]) → w.grownBy w' (Value.slice ap n cp).ownBlock → ((Value.slice a' (n + 1) c').ownBlock = (Value.slice ap n cp).ownBlock ∨ (Value.slice a' (n + 1) c').ownBlock = some w.heap.size) → wpList Try.prog ops Q rest (a.put o.dst (.slice a' (n + 1) c')) w') : wpList Try.prog ops Q (o :: rest) a w := by
 obtain ⟨i0, hi, hz0, hz1, hz2⟩ := info_parts hinf
 obtain ⟨v', w', hr, h2, h3, h4, h5⟩ := run_append_own_at (P := Try.prog) w B ts o.type te i0 z 1 bb hund hi hz0 hz1 hz2 hzs (by decide) _ n vs hown ⟨blk, 0, none⟩ 1 1 [u] (by simp) (fun j y hj => by
  have hj0 : j = 0 := by
   have := (List.getElem?_eq_some_iff.1 hj).1
   simp at this
   exact this
  subst hj0
  simp at hj
  subst hj
  have e : (⟨blk, 0, none⟩ : Addr).add 0 = ⟨blk, 0, none⟩ := by unfold Addr.add; split <;> simp_all
  rw [e]
  exact hu) (fun y hy => by simp at hy; subst hy; exact h1) (by unfold maxLen; omega) (by
   have : (n + 1) * bb ≤ (n + 1) * 24 := Nat.mul_le_mul_left _ hb24
   omega) hB
 obtain ⟨a', c', rfl⟩ := drow_form1 h2
 refine wpList_plain hgd fun _ hK => ?_
 unfold Oper.wp execOp
 rw [ho]
 simp only [resolve, invoke, builtin, Sem.run_bind, Sem.run_pure, Result.andThen_ok, List.map_toArray, List.map_cons, List.map_nil, hs, hx, hr]
 exact hK _ _ (h a' c' w' h2 h3 h5)
variable {w w' W : World} {O O' : Nat → Prop} {dB mb : Nat} {fl : List FE} {cap arm : Int} {down : Bool} {c : Nat → Int}
theorem und_strs4 : Try.prog.underlying 63 = some (.slice 9) := by kernel_rfl
theorem info_str4 : (Try.prog.info? 9).map (fun i => (i.zero, i.size, i.bytes)) = some (some (.string ⟨#[]⟩), 1, 16) := by kernel_rfl
def nmL (s : ByteArray) : List UInt8 := s.data.toList
theorem enc_nmL (s : ByteArray) : encStr (nmL s) = .string s := by
 unfold nmL
 cases s
 rfl
def OwnS (w : World) (B : Nat) (v : Value) (n : Nat) (ss : List (List UInt8)) : Prop := n = ss.length ∧ w.ownsRow B 9 1 v n (ss.map encStr)
theorem ownsRow_less {w : World} {B B' e size n : Nat} {v : Value} {xs : List Value} (h : w.ownsRow B e size v n xs) (hB : B' ≤ B) : w.ownsRow B' e size v n xs := by
 refine ⟨h.1, ?_⟩
 rcases h.2 with h2 | ⟨g, cap, cur, h3, h4, h5⟩
 ·exact .inl h2
 ·exact .inr ⟨g, cap, cur, h3, Nat.le_trans hB h4, h5⟩
theorem sort_own {v : Value} {n B : Nat} {ss : List (List UInt8)} (h : OwnS w B v n ss) (hl : n ≤ 1000000) :
  Calls Try.prog 54 #[v] w fun e w' => e = .returned (.tuple #[]) ∧ OwnS w' B v n (ss.mergeSort leB) ∧ w.grownBy w' v.ownBlock := by
 obtain ⟨rfl, h⟩ := h
 rcases h.2 with ⟨rfl, h0⟩ | ⟨g, cp, cur, rfl, hB, hg, h1, h2, h3, h4⟩
 ·have e0 : ss = [] := List.eq_nil_of_length_eq_zero h0
  subst e0
  refine (Any.slices_Sort_string_none laysSort none 0 w).mono ?_
  rintro e w' ⟨rfl, rfl⟩
  rw [show ([] : List (List UInt8)).mergeSort leB = [] from by simp]
  exact ⟨rfl, ⟨rfl, h⟩, World.grownBy.refl _ _⟩
 ·have hH : Holds encStr w g 0 ss.toArray := holds_of_block hg (by simpa using h4)
  refine (Any.slices_Sort_string laysSort g 0 cp ss w hH (Array.getElem?_eq_some_iff.1 hg).1 (by omega)).mono ?_
  rintro e w' ⟨rfl, m, os, rfl⟩
  have hl2 : (ss.mergeSort leB).length = ss.length := List.length_mergeSort ss
  refine ⟨rfl, ⟨hl2.symm, ownsRow_sorted hl2 hB hg h1 h2 h3⟩, grownBy_sorted _⟩
def wanted4 (pre : ByteArray) : Value → Bool
 | .string s => preB pre s
 | _ => false
def keyL : Value → List UInt8
 | .string s => nmL s
 | _ => []
def selL (l : List MapEntry) (seen : Array Nat) (pre : ByteArray) : List (List UInt8) := (l.filter (fun e => seen.contains e.born && wanted4 pre e.key)).map (fun e => keyL e.key)
theorem selL_none (l : List MapEntry) (pre : ByteArray) : selL l #[] pre = [] := by
 unfold selL
 rw [List.filter_eq_nil_iff.2 (fun x _ => by simp)]
 rfl
theorem sel_push {pre : ByteArray} {seen : Array Nat} {e : MapEntry} (hs : seen.contains e.born = false) : ∀ {l : List MapEntry}, (l.map (·.born)).Nodup → e ∈ l → (selL l (seen.push e.born) pre).Perm (selL l seen pre ++ (if wanted4 pre e.key then [keyL e.key] else [])) := by
 have other : ∀ l : List MapEntry, (∀ x ∈ l, x.born ≠ e.born) → selL l (seen.push e.born) pre = selL l seen pre := by
  intro l h
  unfold selL
  congr 1
  refine List.filter_congr (fun x hx => ?_)
  rw [contains_push]
  have : (x.born == e.born) = false := by simpa using h x hx
  rw [this, Bool.or_false]
 intro l
 induction l with
 | nil => intro _ h; cases h
 | cons x xs ih =>
  intro hn he
  rw [List.map_cons, List.nodup_cons] at hn
  rcases List.mem_cons.1 he with h | h
  ·subst h
   have ho := other xs (fun y hy q => hn.1 (by rw [← q]; exact List.mem_map.2 ⟨_, hy, rfl⟩))
   have h1 : selL (e :: xs) (seen.push e.born) pre = (if wanted4 pre e.key then [keyL e.key] else []) ++ selL xs (seen.push e.born) pre := by
    unfold selL
    rw [List.filter_cons, contains_push]
    cases hw : wanted4 pre e.key <;> simp
   have h2 : selL (e :: xs) seen pre = selL xs seen pre := by
    unfold selL
    rw [List.filter_cons, hs]
    simp
   rw [h1, h2, ho]
   exact List.perm_append_comm
  ·have hne : x.born ≠ e.born := fun q => hn.1 (by rw [q]; exact List.mem_map.2 ⟨_, h, rfl⟩)
   have hb : (x.born == e.born) = false := by simpa using hne
   have i := ih hn.2 h
   unfold selL at i ⊢
   rw [List.filter_cons, List.filter_cons, contains_push, hb, Bool.or_false]
   split
   ·simpa using i.cons (keyL x.key)
   ·exact i
def lsP (ps : List PF) (pre : ByteArray) : List (List UInt8) := (((ps.map (·.1)).filter (preB pre)).map nmL).mergeSort leB
theorem selL_all {es : Array MapEntry} {seen : Array Nat} {pre : ByteArray} (h : ∀ x ∈ es.toList, seen.contains x.born = true) (he : es.toList.map (fun e => (e.key, e.val)) = fl.map (fun f => (entOf (f.nm, f.b)))) : selL es.toList seen pre = (((fl.map FE.pf).map (·.1)).filter (preB pre)).map nmL := by
 have e1 : selL es.toList seen pre = ((es.toList.map (fun e => (e.key, e.val))).filter (fun p => wanted4 pre p.1)).map (fun p => keyL p.1) := by
  unfold selL
  rw [List.filter_map, List.map_map]
  congr 1
  exact List.filter_congr (fun x hx => by rw [h x hx]; rfl)
 rw [e1, he]
 simp only [List.filter_map, List.map_map]
 congr 1
theorem selL_len (l : List MapEntry) (seen : Array Nat) (pre : ByteArray) : (selL l seen pre).length ≤ l.length := by
 unfold selL
 rw [List.length_map]
 exact List.length_filter_le _ _
set_option maxRecDepth 100000 in
set_option maxHeartbeats 4000000 in
theorem list_any (hD : DskM w O dB mb fl cap arm down c) (pre : ByteArray) (hfl : fl.length ≤ 256) :
  Calls Try.prog 33 #[.pointer (some ⟨dB, 0, none⟩), .string pre] w fun e w' => ∃ a n k, e = .returned (.slice a n k) ∧ OwnS w' w.heap.size (.slice a n k) n (lsP (fl.map FE.pf) pre) ∧ Below w.heap.size w w' := by
 obtain ⟨es, clock, hm⟩ := hD.map
 obtain ⟨c0, c1, -⟩ := hD.box.cells
 have lb := hD.box.lt
 have HM := Lib.hid hm
 have HD := Lib.hid hD
 have hb := hm.blk
 have hlen : es.toList.length ≤ 256 := by
  have := hm.len
  rw [List.length_map] at this
  rw [Array.length_toList, this]
  exact hfl
 have HLEN := Lib.hid hlen
 have hrg := run_range_map (P := Try.prog) w 77 _ _ mb es clock und_fmap hb
 obtain ⟨L, hL⟩ : ∃ L, L = lsP (fl.map FE.pf) pre := ⟨_, rfl⟩
 rw [← hL]
 have HLL := Lib.hid hL
 clear hm hD hlen hfl hL
 go_enter Try.func33, Try.ntmps33
 go_wp2
 have hit : (w.alloc (.mapIter (some mb) clock #[] clock)).heap[w.heap.size]? = some (.mapIter (some mb) clock #[] clock) := heap_alloc_new _ _
 have hbw : Below w.heap.size w (w.alloc (.mapIter (some mb) clock #[] clock)) := (Below.refl _ _).alloc (Nat.le_refl _) _
 obtain ⟨W, hW⟩ : ∃ W, W = w.alloc (.mapIter (some mb) clock #[] clock) := ⟨_, rfl⟩
 obtain ⟨ib, hib⟩ : ∃ ib, ib = w.heap.size := ⟨_, rfl⟩
 rw [← hW] at hit hbw ⊢
 rw [← hib] at hit ⊢
 have HI := Lib.hid hib
 have HIT := Lib.hid hit
 have HBW := Lib.hid hbw
 have HHB := Lib.hid hb
 clear hW hib hit hbw hrg hb
 go_loopw [5] (fun v w' => ∃ (seen : Array Nat) (a : Option Addr) (n k : Nat) (xs : List (List UInt8)), w'.heap[ib]? = some (.mapIter (some mb) clock seen clock) ∧ Below ib w w' ∧ v = .slice a n k ∧ OwnS w' (ib + 1) (.slice a n k) n xs ∧ xs.Perm (selL es.toList seen pre)) (fun v w' => (leftOf es (w'.iterSeen ib)).size)
 case atStart => exact ⟨#[], none, 0, 0, [], HIT.out, by rw [HI.out]; exact HBW.out, rfl, ⟨rfl, World.ownsRow_nil _ _ _ _⟩, by rw [selL_none]⟩
 case round =>
  obtain ⟨seen, a, n, k, xs, hit, hbw, rfl, hown, hperm⟩ := hrel
  have lm : mb < ib := by rw [HI.out]; exact HM.out.lt
  have hb1 : wr.heap[mb]? = some (.map es clock) := (hbw.block _ lm).trans HHB.out
  have law := next_at (P := Try.prog) 0 hit hb1 HM.out.st.1 (Nat.le_refl _)
  have HIT1 := Lib.hid hit
  have HBW1 := Lib.hid hbw
  have HOWN := Lib.hid hown
  have HPERM := Lib.hid hperm
  have hn256 : n ≤ 256 := by
   rw [hown.1, hperm.length_eq]
   exact Nat.le_trans (selL_len _ _ _) HLEN.out
  clear hit hbw hb1 hown hperm
  rcases law with ⟨h0, hrun⟩ | ⟨e, he, w2, hal2, hrun⟩
  ·have hnx : ∀ ty, (Instr.next (.pointer (some ⟨ib, 0, none⟩)) false ty).run Try.prog wr = _ := fun _ => hrun
   have hfin : L = xs.mergeSort leB := by
    have he := HM.out.ent
    rw [List.map_map] at he
    rw [HLL.out, mergeSort_of_perm HPERM.out, selL_all (all_seen es seen h0) he]
    rfl
   have HSORT := Lib.hid (sort_own HOWN.out (by omega))
   have HFIN := Lib.hid hfin
   clear hfin h0 hrun
   go_wp2_with fail
   refine HSORT.out.mono ?_
   rintro e w3 ⟨rfl, o3, g3⟩
   have b3 := Lib.hid (Below.grown HBW1.out g3 (by have := HIT1.out; exact Nat.le_of_lt (Array.getElem?_eq_some_iff.1 this).1) (fun i hi => by have := (HOWN.out.2.lt i hi).1; omega))
   have HO3 := Lib.hid o3
   clear g3 o3
   go_wp2
   go_ret
   refine ⟨a, n, k, rfl, ?_, by rw [← HI.out]; exact b3.out⟩
   rw [HFIN.out]
   have q := HO3.out
   exact ⟨q.1, ownsRow_less q.2 (by rw [HI.out]; omega)⟩
  ·have hm0 := mem_left he
   obtain ⟨f, hf, hk, hv⟩ := HM.out.mem hm0.1
   obtain ⟨X, hX⟩ : ∃ X, X = setO w2 ib (.mapIter (some mb) clock (seen.push e.born) clock) := ⟨_, rfl⟩
   have hsz : w2.heap.size = wr.heap.size := by rcases hal2 with rfl | rfl <;> rfl
   have hib2 : ib < w2.heap.size := by rw [hsz]; exact (Array.getElem?_eq_some_iff.1 HIT1.out).1
   have itX : X.heap[ib]? = some (.mapIter (some mb) clock (seen.push e.born) clock) := by rw [hX]; exact setO_at hib2
   have bX : Below ib w X := by
    have b2 : Below ib w w2 := by
     rcases hal2 with rfl | rfl
     ·exact HBW1.out
     ·exact HBW1.out.drew
    rw [hX]
    exact b2.trans (setO_below (Nat.le_refl _))
   have oX : OwnS X (ib + 1) (.slice a n k) n xs := by
    refine ⟨HOWN.out.1, HOWN.out.2.kept (w' := X) (row := some ib) ?_ (.inr (fun q => by have := (HOWN.out.2.lt ib q).1; omega))⟩
    have : wr.grownBy X (some ib) := by
     rw [hX]
     rcases hal2 with rfl | rfl
     ·exact ⟨rfl, rfl, rfl, by rw [setO_size]; exact Nat.le_refl _, fun i _ hi => setO_ne (fun q => hi (by rw [q]))⟩
     ·exact ⟨rfl, rfl, rfl, by rw [setO_size]; exact Nat.le_refl _, fun i _ hi => setO_ne (fun q => hi (by rw [q]))⟩
    exact this
   have hbX : X.heap[mb]? = some (.map es clock) := (bX.block _ lm).trans HHB.out
   have hen := entry_at (P := Try.prog) itX hbX hm0.1 HM.out.st.2.1
   rw [← hX, hk] at hrun
   rw [hk] at hen
   have hnx : ∀ ty, (Instr.next (.pointer (some ⟨ib, 0, none⟩)) false ty).run Try.prog wr = _ := fun _ => hrun
   have hpm := sel_push (pre := pre) hm0.2 HM.out.st.2.1 hm0.1
   rw [hk] at hpm
   obtain ⟨s, hs⟩ : ∃ s, s = f.1 := ⟨_, rfl⟩
   rw [← hs] at hrun hen hpm hnx
   have HC := Lib.hid (hasPrefix_any s pre X)
   have HE := Lib.hid he
   have HP := Lib.hid (show (selL es.toList (seen.push e.born) pre).Perm (selL es.toList seen pre ++ (if preB pre s then [nmL s] else [])) from hpm)
   have HX := Lib.hid (And.intro itX (And.intro bX oX))
   have lX : ib < X.heap.size := (Array.getElem?_eq_some_iff.1 itX).1
   clear itX bX oX hX hm0 hf hk hv hal2 hsz hib2 hbX he hrun hpm
   have HS := Lib.hid hs
   clear hs
   by_cases hp : preB pre s = true
   ·rw [hp] at HC HP
    clear hp
    go_wp2_with fail
    refine HC.out.mono ?_
    rintro e9 w9 ⟨rfl, rfl⟩
    go_wp2_with (at_builtin; refine dpl_append1 rfl _ _ 9 63 16 (.string ⟨#[]⟩) und_strs4 info_str4 rfl (by decide) rfl (ib + 1) a n k (xs.map encStr) rfl (HX.out.2.2.2.alloc _) w9.heap.size (.string s) rfl ?_ rfl (by omega) (by simp; omega) ?_)
    ·simp [go_sem]
    intro a3 k3 X3 own3 gr3 loc3
    have HO3 := Lib.hid own3
    have bA : Below ib w (w9.alloc (.cells #[.string s] 9)) := HX.out.2.1.alloc (Nat.le_of_lt lX) _
    have hrow : ∀ i, (Value.slice a n k).ownBlock = some i → ib + 1 ≤ i := fun i hi => (HX.out.2.2.2.lt i hi).1
    have hb3 : Below ib w X3 := bA.grown gr3 (by simp; omega) (fun i hi => by have := hrow i hi; omega)
    have hit3 : X3.heap[ib]? = some (.mapIter (some mb) clock (seen.push e.born) clock) := by
     rw [gr3.block ib (by simp; omega) (fun q => by have := hrow ib q.symm; omega)]
     rw [Below.heap_alloc _ _ _ lX]
     exact HX.out.1
    have HB3 := Lib.hid hb3
    have HIT3 := Lib.hid hit3
    clear own3 gr3 loc3 bA hrow hb3 hit3
    go_wp2
    go_roundw
    case rel =>
     refine ⟨seen.push e.born, a3, n + 1, k3, xs ++ [nmL s], HIT3.out, HB3.out, rfl, ⟨by rw [HOWN.out.1]; simp, ?_⟩, (HPERM.out.append_right _).trans HP.out.symm⟩
     have q := HO3.out
     rw [List.map_append, List.map_cons, List.map_nil, enc_nmL]
     exact q
    case measure =>
     rw [iterSeen_at HIT1.out, iterSeen_at HIT3.out]
     exact left_shrinks es seen e HE.out
   ·have hpf : preB pre s = false := by simpa using hp
    rw [hpf] at HC HP
    clear hp hpf
    go_wp2_with fail
    refine HC.out.mono ?_
    rintro e9 w9 ⟨rfl, rfl⟩
    go_wp2
    go_roundw
    case rel => exact ⟨seen.push e.born, a, n, k, xs, HX.out.1, HX.out.2.1, rfl, HX.out.2.2, HPERM.out.trans (by simpa using HP.out.symm)⟩
    case measure =>
     rw [iterSeen_at HIT1.out, iterSeen_at HX.out.1]
     exact left_shrinks es seen e HE.out
end Go.Proofs.Ytlkhphhmhffdjaa

namespace Go.Proofs.Ytlkhphhmhffdjaa
open Go.RowKit Go.MapKept Go.Sort
variable {w w' W X : World} {O O' : Nat → Prop} {dB : Nat} {d : Dk4}
def numL (s : ByteArray) : List Nat := (nmL s).map UInt8.toNat
theorem Rd.upto4 {w : World} {a : Option Addr} {n cap : Nat} {bs : List Nat} (h : Rd w (.slice a n cap) bs) (j : Nat) (hj : j ≤ n) : Rd w (.slice a j cap) (bs.take j) := by
 obtain ⟨h1, a0, cap0, h2, h3, h4, h5, h6, h7⟩ := h
 simp only [Value.slice.injEq] at h2
 obtain ⟨rfl, rfl, rfl⟩ := h2
 have hl : (bs.take j).length = j := by rw [List.length_take]; omega
 refine ⟨fun x hx => h1 x (List.mem_of_mem_take hx), a, cap, by rw [hl], by rw [hl]; omega, h4, by rw [hl]; omega, h6, ?_⟩
 rcases h7 with rfl | ⟨b, off, rfl, hc⟩
 ·exact .inl (by simp)
 ·refine .inr ⟨b, off, rfl, fun i hi => ?_⟩
  rw [hl] at hi
  rw [hc i (by omega)]
  simp [List.getD_eq_getElem?_getD, List.getElem?_take_of_lt hi]
def begL (a b : List Nat) : Bool := decide (a.length ≤ b.length ∧ a = b.take a.length)
end Go.Proofs.Ytlkhphhmhffdjaa

namespace Go.Proofs.Ytlkhphhmhffdjaa
open Go.RowKit Go.MapKept Go.Sort
variable {w w' W X : World} {O O' : Nat → Prop} {dB : Nat} {d : Dk4}
def ofL (l : List UInt8) : ByteArray := ⟨l.toArray⟩
theorem nmL_ofL (l : List UInt8) : nmL (ofL l) = l := by simp [nmL, ofL]
theorem ofL_nmL (s : ByteArray) : ofL (nmL s) = s := by
 cases s
 simp [nmL, ofL]
theorem OwnS.rd {B n k : Nat} {a : Option Addr} {ss : List (List UInt8)} (h : OwnS w B (.slice a n k) n ss) : n = ss.length ∧ RdN4 w a k (ss.map ofL) := by
 obtain ⟨rfl, h⟩ := h
 refine ⟨rfl, ?_⟩
 rcases h.2 with ⟨h1, h2⟩ | ⟨g, cap, cur, h1, h2, h3, h4, h5, h6, h7⟩
 ·simp only [Value.slice.injEq] at h1
  obtain ⟨rfl, _, rfl⟩ := h1
  have : ss = [] := List.eq_nil_of_length_eq_zero h2
  subst this
  exact ⟨⟨by simp, by decide⟩, fun i s hs => by simp at hs⟩
 ·simp only [Value.slice.injEq] at h1
  obtain ⟨rfl, _, rfl⟩ := h1
  refine ⟨⟨by simpa using h4, h5⟩, fun i s hs => ⟨g, 0, rfl, ?_⟩⟩
  rw [List.getElem?_map, Option.map_eq_some_iff] at hs
  obtain ⟨l, hl, rfl⟩ := hs
  have hi := (List.getElem?_eq_some_iff.1 hl).1
  have hx : (ss.map encStr)[i]? = some (encStr l) := by rw [List.getElem?_map, hl]; rfl
  rw [← h7, List.getElem?_take_of_lt (by omega)] at hx
  simp only [World.cell?, h3, Nat.zero_add]
  simpa [ofL] using hx
theorem leB_trans : ∀ a b c : List UInt8, leB a b = true → leB b c = true → leB a c = true := fun a b c h1 h2 => by simp only [leB, decide_eq_true_eq] at *; exact List.le_trans h1 h2
theorem leB_total : ∀ a b : List UInt8, (leB a b || leB b a) = true := fun a b => by simp only [leB, Bool.or_eq_true, decide_eq_true_eq]; exact List.le_total a b
theorem nmL_inj {a b : ByteArray} (h : nmL a = nmL b) : a = b := by rw [← ofL_nmL a, h, ofL_nmL]
theorem preB_nil (s : ByteArray) : preB ⟨#[]⟩ s = true := by
 unfold preB
 have : (⟨#[]⟩ : ByteArray).size = 0 := rfl
 rw [if_pos (by omega), this]
 have e : s.extract 0 0 = ⟨#[]⟩ := by
  apply ByteArray.ext
  simp
 rw [e]
 simp
theorem lsP_lt {ps : List PF} {pre : ByteArray} (hn : (ps.map (·.1)).Nodup) : (lsP ps pre).Pairwise (· < ·) := by
 have h1 : (lsP ps pre).Pairwise (fun a b => leB a b = true) := List.pairwise_mergeSort leB_trans leB_total _
 have h2 : (lsP ps pre).Nodup := by
  refine (List.mergeSort_perm _ leB).symm.nodup ?_
  have : ((ps.map (·.1)).filter (preB pre)).Nodup := hn.sublist List.filter_sublist
  rw [List.Nodup, List.pairwise_map]
  exact this.imp (fun h e => h (nmL_inj e))
 have h3 : (lsP ps pre).Pairwise (fun a b => leB a b = true ∧ a ≠ b) := List.Pairwise.and h1 h2
 refine h3.imp (fun {a b} h => ?_)
 have : a ≤ b := by simpa [leB] using h.1
 exact Std.lt_of_le_of_ne this h.2
theorem lsP_pre (ps : List PF) (pre : ByteArray) : lsP ps pre = (lsP ps ⟨#[]⟩).filter (fun l => preB pre (ofL l)) := by
 have hs : ((lsP ps ⟨#[]⟩).filter (fun l => preB pre (ofL l))).Pairwise (fun a b => leB a b = true) := (List.pairwise_mergeSort leB_trans leB_total _).sublist List.filter_sublist
 have e1 : ((lsP ps ⟨#[]⟩).filter (fun l => preB pre (ofL l))).mergeSort leB = (lsP ps ⟨#[]⟩).filter (fun l => preB pre (ofL l)) := List.mergeSort_of_pairwise hs
 rw [← e1]
 unfold lsP
 refine mergeSort_of_perm ?_
 have p1 : ((((ps.map (·.1)).filter (preB ⟨#[]⟩)).map nmL).mergeSort leB).Perm (((ps.map (·.1)).filter (preB ⟨#[]⟩)).map nmL) := List.mergeSort_perm _ _
 refine List.Perm.trans ?_ (p1.filter _).symm
 have e2 : (ps.map (·.1)).filter (preB ⟨#[]⟩) = ps.map (·.1) := List.filter_eq_self.2 (fun a _ => preB_nil a)
 rw [e2]
 obtain ⟨ns, hns⟩ : ∃ ns, ns = ps.map (·.1) := ⟨_, rfl⟩
 rw [← hns]
 have e3 : ((fun l => preB pre (ofL l)) ∘ nmL) = preB pre := by
  funext s
  simp [ofL_nmL]
 rw [List.filter_map, e3]
theorem list_dsk (hD : Dsk w O dB d) (pre : ByteArray) : Calls Try.prog 33 #[.pointer (some ⟨dB, 0, none⟩), .string pre] w fun e w' => ∃ a n k, e = .returned (.slice a n k) ∧ OwnS w' w.heap.size (.slice a n k) n (lsP d.fs pre) ∧ Below w.heap.size w w' := by
 obtain ⟨ok, mb, fl, hM, hfl⟩ := hD
 have := list_any hM pre (by have := ok.cnt; rw [← hfl, List.length_map] at this; exact this)
 rw [hfl] at this
 exact this
end Go.Proofs.Ytlkhphhmhffdjaa

namespace Go.Proofs.Ytlkhphhmhffdjaa
open Go.RowKit Go.MapKept Go.Sort
set_option maxRecDepth 100000 in
set_option maxHeartbeats 400000 in
theorem bclone_any {v : Value} {bs : List Nat} {w : World} (hr : Rd w v bs) (h47 : bs.length ≤ 140737488355328) :
  Calls Try.prog 34 #[v] w fun e w' => ∃ s, e = .returned s ∧ w'.ownsRow w.heap.size 5 1 s bs.length (bv bs) ∧ Below w.heap.size w w' := by
 obtain ⟨i0, hi, hz0, hz1, hz2⟩ := info_parts info_byte
 obtain ⟨hby, a, cap, rfl, hle, hm, hl48, hnone, hat⟩ := hr
 have heq := fun w => Lib.run_eql_slice_nil (P := Try.prog) w 27 5 a bs.length cap 0 0 und_bytes
 cases a with
 | none =>
  have hb0 : bs = [] := by
   rcases hnone with h | ⟨b, off, h⟩
   ·exact List.eq_nil_of_length_eq_zero (by omega)
   ·cases h
  subst hb0
  simp only [List.length_nil, Option.isNone_none] at heq
  go_enter Try.func34, Try.ntmps34
  go_wp2
  go_ret
  exact ⟨_, rfl, World.ownsRow_nil _ _ _ _, Below.refl _ _⟩
 | some x =>
  have hc' := (hat.later ((Below.refl _ _).alloc (Nat.le_refl _) (.cells #[] 5))).add
  clear hat hnone
  go_enter Try.func34, Try.ntmps34
  go_wp2_with (at_builtin; refine wpList_append_own _ rfl _ _ 27 rfl w.heap.size 5 i0 (.int .u8 0) 1 1 und_bytes hi hz0 hz1 hz2 rfl (by decide) _ 0 (bv []) rfl (World.ownsRow_made w #[] 0 (Nat.le_refl _) (Nat.zero_le _) rfl) x bs.length cap (bv bs) rfl ?c0 hc' (bv_oneCell bs) ?c3 ?c4 ?c5 ?_)
  case c0 => simp [bv]
  case c3 => unfold maxLen; omega
  case c4 => omega
  case c5 => simp
  intro v' w1 hown' hgrow _
  have hb1 : Below w.heap.size w w1 := ((Below.refl _ w).alloc (Nat.le_refl _) _).grown hgrow (by simp) (fun k hk => by simp [Value.ownBlock] at hk; omega)
  clear hgrow hc'
  go_wp2
  go_ret
  refine ⟨_, rfl, ?_, hb1⟩
  simpa [bv] using hown'

variable {w w' W X : World} {O O' : Nat → Prop} {dB : Nat} {d : Dk4}
theorem und_files4 : Try.prog.underlying 22 = some (.slice 60) := by kernel_rfl
theorem info_file4 : (Try.prog.info? 60).map (fun i => (i.zero, i.size, i.bytes)) = some (some (.agg #[.string ⟨#[]⟩, .slice none 0 0, .int .i64 0]), 3, 48) := by kernel_rfl
def fCells : List (PF × Value) → List Value
 | [] => []
 | x :: xs => .string x.1.1 :: x.2 :: .int .i64 (x.1.2.2 : Int) :: fCells xs
theorem fCells_len : ∀ l : List (PF × Value), (fCells l).length = l.length * 3
 | [] => rfl
 | x :: xs => by simp only [fCells, List.length_cons, fCells_len xs]; omega
theorem fCells_append : ∀ a b : List (PF × Value), fCells (a ++ b) = fCells a ++ fCells b
 | [], _ => rfl
 | x :: xs, b => by simp only [List.cons_append, fCells, fCells_append xs b]
structure FLs (w : World) (B : Nat) (v : Value) (n : Nat) (l : List (PF × Value)) : Prop where
 len : n = l.length
 row : w.ownsRow B 60 3 v n (fCells l)
 dat : ∀ x ∈ l, OwnO w (fun i => B ≤ i) x.2 x.1.2.1
theorem file_append {w : World} {o : Oper} {a : Act} {K : Act → World → Prop} {Q : Exit → Act → World → Prop} (s x : Operand)
  (ho : o.op = .call { callee := .builtin .append, args := #[s, x], argTypes := #[22, 22] })
  {B n blk : Nat} {v : Value} {l : List (PF × Value)} {f : PF × Value} (hs : a.eval s = v) (hown : FLs w B v n l) (hx : a.eval x = .slice (some ⟨blk, 0, none⟩) 1 1) (hf : w.cell? ⟨blk, 0, none⟩ = some (.string f.1.1) ∧ w.cell? ⟨blk, 1, none⟩ = some f.2 ∧ w.cell? ⟨blk, 2, none⟩ = some (.int .i64 (f.1.2.2 : Int)))
  (hfd : OwnO w (fun i => B ≤ i) f.2 f.1.2.1) (hn : n ≤ 1000000) (hB : B ≤ w.heap.size)
  (h : ∀ a' c' w', FLs w' B (.slice a' (n + 1) c') (n + 1) (l ++ [f]) → Below B w w' → w.grownBy w' v.ownBlock → K (a.put o.dst (.slice a' (n + 1) c')) w') :
  Oper.wp Try.prog o a w K Q := by
 obtain ⟨i0, hi, hz0, hz1, hz2⟩ := info_parts info_file4
 have hform : ∃ ap cp, f.2 = .slice ap f.1.2.1.length cp := hfd.form
 obtain ⟨ap, cp, hfv⟩ := hform
 obtain ⟨v', w', hr, h2, h3, h4⟩ := run_append_own (P := Try.prog) w B 22 o.type 60 i0 (.agg #[.string ⟨#[]⟩, .slice none 0 0, .int .i64 0]) 3 48 und_files4 hi hz0 hz1 hz2 rfl (by decide) v n (fCells l) hown.row ⟨blk, 0, none⟩ 1 1 (fCells [f]) rfl (fun j y hj => by
  have hj3 : j < 3 := by
   have := (List.getElem?_eq_some_iff.1 hj).1
   simpa [fCells] using this
  have e : (⟨blk, 0, none⟩ : Addr).add j = ⟨blk, j, none⟩ := by unfold Addr.add; split <;> simp_all
  rw [e]
  match j, hj3, hj with
  | 0, _, hj => simp [fCells] at hj; subst hj; exact hf.1
  | 1, _, hj => simp [fCells] at hj; subst hj; exact hf.2.1
  | 2, _, hj => simp [fCells] at hj; subst hj; exact hf.2.2) (fun y hy => by
   simp [fCells] at hy
   rcases hy with rfl | rfl | rfl
   ·rfl
   ·rw [hfv]; rfl
   ·rfl) (by unfold maxLen; omega) (by omega) hB
 have hb : Below B w w' := (Below.refl B w).grown h3 hB (fun k hk => (hown.row.lt k hk).1)
 have hrow : ∀ (y : PF × Value), OwnO w (fun i => B ≤ i) y.2 y.1.2.1 → OwnO w' (fun i => B ≤ i) y.2 y.1.2.1 := fun y hy => hy.kept (fun g hg => by
  obtain ⟨cur, ht⟩ := hy.typ hg
  refine ⟨h3.block g (Array.getElem?_eq_some_iff.1 ht).1 (fun e => ?_), hy.blk g hg⟩
  rcases hown.row.2 with ⟨rfl, _⟩ | ⟨g2, cap2, cur2, rfl, _, hh, _⟩
  ·cases e
  ·simp only [Value.ownBlock, Option.some.injEq] at e
   rw [e, hh] at ht
   simp only [Option.some.injEq, Obj.cells.injEq] at ht
   exact absurd ht.2.1 (by decide))
 obtain ⟨a', c', rfl⟩ : ∃ a' c', v' = .slice a' (n + 1) c' := by
  rcases h2.2 with ⟨_, h0⟩ | ⟨g, cap, cur, rfl, _⟩
  ·omega
  ·exact ⟨_, _, rfl⟩
 unfold Oper.wp execOp
 rw [ho]
 simp only [resolve, invoke, builtin, Sem.run_bind, Sem.run_pure, Result.andThen_ok, List.map_toArray, List.map_cons, List.map_nil, hs, hx, hr]
 refine h a' c' w' ⟨by rw [List.length_append, hown.len]; rfl, by rw [fCells_append]; exact h2, fun y hy => ?_⟩ hb h3
 rcases List.mem_append.1 hy with hy | hy
 ·exact hrow y (hown.dat y hy)
 ·simp at hy
  subst hy
  exact hrow _ hfd
end Go.Proofs.Ytlkhphhmhffdjaa

namespace Go.Proofs.Ytlkhphhmhffdjaa
open Go.RowKit Go.MapKept
variable {w w' W X : World} {O O' : Nat → Prop} {dB : Nat} {d : Dk4}
def takeD (d : Dk4) (s : ByteArray) (bs : List Nat) (y : Int) : Int × Dk4 :=
 if ¬ DkName s then (40, d)
 else if (atP d.fs s).isSome then (41, d)
 else if y < 0 ∨ (bs.length : Int) < y then (43, d)
 else if d.cap - (totP d.fs : Int) < (bs.length : Int) then (4, d)
 else (0, ⟨setP d.fs (s, bs, y.toNat), d.cap, d.arm, d.down, d.c⟩)
theorem fsOk_take {d : Dk4} (ok : d.Ok) {s : ByteArray} {bs : List Nat} {y : Int} (hs : DkName s) (hn : atP d.fs s = none) (hc : d.fs.length < 256) (hy : ¬ (y < 0 ∨ (bs.length : Int) < y)) (hf : ¬ d.cap - (totP d.fs : Int) < (bs.length : Int)) : FsOk d.cap (setP d.fs (s, bs, y.toNat)) := by
 have e := setP_new (f := (s, bs, y.toNat)) (atP_none hn)
 rw [e]
 refine ⟨?_, fun p hp => ?_, by simp; omega, fun p hp => ?_, ?_⟩
 ·rw [totP_append]
  have := ok.tot
  simp [totP] at this hf ⊢
  omega
 ·rcases List.mem_append.1 hp with h | h
  ·exact ok.nam p h
  ·simp at h; subst h; exact hs
 ·rcases List.mem_append.1 hp with h | h
  ·exact ok.syn p h
  ·simp at h; subst h; simp; omega
 ·rw [List.map_append, List.nodup_append]
  refine ⟨ok.nod, by simp, fun a ha b hb => ?_⟩
  obtain ⟨p, hp, rfl⟩ := List.mem_map.1 ha
  simp at hb
  subst hb
  exact atP_none hn p hp
theorem OwnO.of_row {B : Nat} {v : Value} {xs : List Nat} (h : w.ownsRow B 5 1 v xs.length (bv xs)) (hb : Bys xs) : OwnO w (fun i => B ≤ i ∧ i < w.heap.size) v xs := by
 refine ⟨⟨h.1, ?_⟩, hb, fun g hg => ?_⟩
 ·rcases h.2 with h1 | ⟨g, cap, cur, e, h2, h3⟩
  ·exact .inl h1
  ·exact .inr ⟨g, cap, cur, e, Nat.zero_le _, h3⟩
 ·rcases h.2 with ⟨rfl, _⟩ | ⟨g', cap, cur, rfl, h2, h3, _⟩
  ·cases hg
  ·simp only [Value.ownBlock, Option.some.injEq] at hg
   subst hg
   exact ⟨h2, (Array.getElem?_eq_some_iff.1 h3).1⟩
set_option maxRecDepth 100000 in
set_option maxHeartbeats 4000000 in
theorem take4_any {s : ByteArray} {ab : Option Addr} {nb kb : Nat} {bs : List Nat} {y : Int} (hD : Dsk w O dB d) (hrd : Rd w (.slice ab nb kb) bs) (hc : d.fs.length < 256) :
  Calls Try.prog 39 #[.pointer (some ⟨dB, 0, none⟩), .agg #[.string s, .slice ab nb kb, .int .i64 y]] w (AnsD w O dB (takeD d s bs y)) := by
 have hnb : nb = bs.length := by
  obtain ⟨_, a, c, h, _⟩ := hrd
  simp only [Value.slice.injEq] at h
  exact h.2.1
 have hR : ∃ R, R = takeD d s bs y := ⟨_, rfl⟩
 obtain ⟨R, hR⟩ := hR
 rw [← hR]
 have hR2 := hR
 unfold takeD at hR2
 have cs : (w.alloc (.cells #[.string s, .slice ab nb kb, .int .i64 y] 60)).cell? ⟨w.heap.size, 0, none⟩ = some (.string s) ∧ (w.alloc (.cells #[.string s, .slice ab nb kb, .int .i64 y] 60)).cell? ⟨w.heap.size, 1, none⟩ = some (.slice ab nb kb) ∧ (w.alloc (.cells #[.string s, .slice ab nb kb, .int .i64 y] 60)).cell? ⟨w.heap.size, 2, none⟩ = some (.int .i64 y) ∧ (w.alloc (.cells #[.string s, .slice ab nb kb, .int .i64 y] 60)).heap.size = w.heap.size + 1 := by
  refine ⟨?_, ?_, ?_, ?_⟩ <;> simp [go_sem]
 have b0 : Below w.heap.size w (w.alloc (.cells #[.string s, .slice ab nb kb, .int .i64 y] 60)) := (Below.refl _ _).alloc (Nat.le_refl _) _
 have hW0 : ∃ W0, W0 = w.alloc (.cells #[.string s, .slice ab nb kb, .int .i64 y] 60) := ⟨_, rfl⟩
 obtain ⟨W0, hW0⟩ := hW0
 have hq : ∃ q, q = w.heap.size := ⟨_, rfl⟩
 obtain ⟨q, hq⟩ := hq
 rw [← hW0] at cs b0
 rw [← hq] at cs
 have D0 := hD.below b0
 have R0 := hrd.later b0
 have b1 := (Below.refl W0.heap.size W0).alloc (Nat.le_refl _) (.cells #[.string s] 9)
 have r1 := rdN1 W0 s
 have hW1 : ∃ W1, W1 = W0.alloc (.cells #[.string s] 9) := ⟨_, rfl⟩
 obtain ⟨W1, hW1⟩ := hW1
 rw [← hW1] at b1 r1
 have D1 := D0.below b1
 have R1 := R0.later b1
 have lq : q < W0.heap.size := by omega
 have c1 : W1.cell? ⟨q, 0, none⟩ = some (.string s) ∧ W1.cell? ⟨q, 1, none⟩ = some (.slice ab nb kb) ∧ W1.cell? ⟨q, 2, none⟩ = some (.int .i64 y) ∧ q < W1.heap.size := ⟨(b1.cell (p := ⟨q, 0, none⟩) lq).trans cs.1, (b1.cell (p := ⟨q, 1, none⟩) lq).trans cs.2.1, (b1.cell (p := ⟨q, 2, none⟩) lq).trans cs.2.2.1, Nat.lt_of_lt_of_le lq b1.size⟩
 have B1 : Below w.heap.size w W1 := b0.trans (b1.mono b0.size)
 have HC := Lib.hid (checkNames_any r1)
 have hk : ∃ kk, kk = chkN [s] := ⟨_, rfl⟩
 obtain ⟨kk, hk⟩ := hk
 rw [← hk] at HC
 simp only [List.length_cons, List.length_nil, Nat.zero_add] at HC
 have HW := Lib.hid (And.intro hW0 (And.intro hW1 hq))
 have HD := Lib.hid (And.intro D1 (And.intro R1 B1))
 have C1 := Lib.hid c1
 have C0 := Lib.hid cs
 have HNB := Lib.hid hnb
 have HR := Lib.hid hR2
 have HCNT := Lib.hid hc
 have HRDB := Lib.hid hrd.1
 have hk0 : kk = 0 ↔ DkName s := by rw [hk]; unfold chkN; by_cases h : DkName s <;> simp [h]
 have hk1 : ¬ DkName s → kk = 40 := fun h => by rw [hk]; unfold chkN; rw [if_neg (fun z => h (z s (by simp)))]
 have HK := Lib.hid (And.intro hk0 hk1)
 clear hk hk0 hk1 hW0 hW1 hq hD hrd hc hnb hR hR2 cs b0 b1 r1 D0 D1 R0 R1 B1 c1 lq
 go_enter Try.func39, Try.ntmps39
 go_upto_region 1 with fail
 rw [← HW.out.1, ← HW.out.2.2]
 have c00 := C0.out.1
 go_wp2_with fail
 clear c00
 rw [← HW.out.2.1]
 refine HC.out.mono ?_
 rintro e w1 ⟨rfl, rfl⟩
 obtain ⟨HOK, mb, fl, hM, hfl⟩ := HD.out.1
 obtain ⟨es, clock, hm⟩ := hM.map
 have HM := Lib.hid (And.intro hM (And.intro hfl hm))
 have HOKH := Lib.hid HOK
 have lmb := hm.lt
 have ldb := hM.box.lt
 have lq := C1.out.2.2.2
 have hat : atP d.fs s = (atF fl s).map (fun f => (f.dat, f.syn)) := by rw [← hfl, atF_pf]
 have HAT := Lib.hid hat
 clear hM hfl hm HOK hat
 by_cases h0 : kk = 0
 ·have hnm := HK.out.1.1 h0
  have HNM := Lib.hid hnm
  subst h0
  clear hnm
  have c10 := C1.out.1
  go_upto_region 4 with fail
  clear c10
  have hP0 : ∃ P0, P0 = ptrO (atN (fl.map FE.nb) s) := ⟨_, rfl⟩
  obtain ⟨P0, hP0⟩ := hP0
  have HP0 := Lib.hid hP0
  clear hP0
  have BD : Below w1.heap.size w1 w1.drew := (Below.refl _ _).drew
  refine wp_region_noPanic ?_
  refine wp_region_anyE (S := fun wx => Below w1.heap.size w1 wx) (E := fun j => true) (by kernel_rfl) ?_
  have hHeld : Below w1.heap.size w1 w1.drew := BD
  have HB := Lib.hid BD
  have hZ0 : ∃ z, z = w1.drew := ⟨_, rfl⟩
  obtain ⟨Z0, hZ0⟩ := hZ0
  rw [← hZ0] at HB hHeld ⊢
  clear hZ0 BD
  refine AnyE.take (i := 0) (.pointer (some ⟨dB, 0, none⟩)) rfl (by kernel_rfl) (by kernel_rfl) (by kernel_rfl) (by kernel_rfl) (fun _ _ _ h => h) (.inl ⟨by kernel_rfl, fun wy hy => by (go_simp; done)⟩) hHeld ?_
  try simp only [Act.put, List.setIfInBounds_toArray, List.set_cons_zero, List.set_cons_succ]
  refine AnyE.take (i := 1) (.pointer (some ⟨dB, 0, none⟩)) rfl (by kernel_rfl) (by kernel_rfl) (by kernel_rfl) (by kernel_rfl) (fun _ _ _ h => h) (.inl ⟨by kernel_rfl, fun wy hy => by (go_simp; done)⟩) hHeld ?_
  try simp only [Act.put, List.setIfInBounds_toArray, List.set_cons_zero, List.set_cons_succ]
  refine AnyE.take (i := 2) (.pointer (some ⟨dB, 0, none⟩)) rfl (by kernel_rfl) (by kernel_rfl) (by kernel_rfl) (by kernel_rfl) (fun _ _ _ h => h) (.inl ⟨by kernel_rfl, fun wy hy => by (go_simp; done)⟩) hHeld ?_
  try simp only [Act.put, List.setIfInBounds_toArray, List.set_cons_zero, List.set_cons_succ]
  refine AnyE.take (i := 3) (.map (some mb)) rfl (by kernel_rfl) (by kernel_rfl) (by kernel_rfl) (by kernel_rfl) (fun _ _ _ h => h) (.inl ⟨by kernel_rfl, fun wy hy => by (have q0 := (HM.out.1.box.kept (hy.block _ ldb)).cells.1; go_simp; done)⟩) hHeld ?_
  try simp only [Act.put, List.setIfInBounds_toArray, List.set_cons_zero, List.set_cons_succ]
  refine AnyE.take (i := 4) (.pointer (some ⟨q, 0, none⟩)) rfl (by kernel_rfl) (by kernel_rfl) (by kernel_rfl) (by kernel_rfl) (fun _ _ _ h => h) (.inl ⟨by kernel_rfl, fun wy hy => by (go_simp; done)⟩) hHeld ?_
  try simp only [Act.put, List.setIfInBounds_toArray, List.set_cons_zero, List.set_cons_succ]
  refine AnyE.take (i := 5) (.string s) rfl (by kernel_rfl) (by kernel_rfl) (by kernel_rfl) (by kernel_rfl) (fun _ _ _ h => h) (.inl ⟨by kernel_rfl, fun wy hy => by (have q0 := (hy.cell (p := ⟨q, 0, none⟩) lq).trans C1.out.1; go_simp; done)⟩) hHeld ?_
  try simp only [Act.put, List.setIfInBounds_toArray, List.set_cons_zero, List.set_cons_succ]
  refine AnyE.take (i := 6) (P0) rfl (by kernel_rfl) (by kernel_rfl) (by kernel_rfl) (by kernel_rfl) (fun _ _ _ h => h) (.inl ⟨by kernel_rfl, fun wy hy => by (have q0 := (HM.out.2.2.kept (hy.block _ lmb)).look s; have q1 : P0 = ptrO (atN (fl.map (fun f => (f.nm, f.b))) s) := HP0.out; rw [← q1] at q0; go_simp; done)⟩) hHeld ?_
  try simp only [Act.put, List.setIfInBounds_toArray, List.set_cons_zero, List.set_cons_succ]
  cases hF : atF fl s with
  | some f =>
   have hPv : P0 = .pointer (some ⟨f.b, 0, none⟩) := by rw [HP0.out, atF_nb, hF]; rfl
   have hRR : R = (41, d) := by rw [HR.out, if_neg (fun z => z HNM.out), if_pos (by rw [HAT.out, hF]; rfl)]
   subst hRR
   rw [hPv]
   clear hPv hF
   refine AnyE.take (i := 7) (.bool true) rfl (by kernel_rfl) (by kernel_rfl) (by kernel_rfl) (by kernel_rfl) (fun _ _ _ h => h) (.inl ⟨by kernel_rfl, fun wy hy => by (go_simp; done)⟩) hHeld ?_
   try simp only [Act.put, List.setIfInBounds_toArray, List.set_cons_zero, List.set_cons_succ]
   refine AnyE.done (by kernel_rfl) (NoPanic.normal ?_) _
   go_simp
   go_step
   go_wp2
   go_ret
   exact ⟨rfl, O, HD.out.1.below HB.out, Go4.of_below (HD.out.2.2.trans (HB.out.mono HD.out.2.2.size))⟩
  | none =>
   have hPv : P0 = .pointer none := by rw [HP0.out, atF_nb, hF]; rfl
   rw [hPv]
   have hno : atP d.fs s = none := by rw [HAT.out, hF]; rfl
   have HF := Lib.hid (And.intro hF hno)
   have hRR : R = (if y < 0 ∨ (bs.length : Int) < y then (43, d) else if d.cap - (totP d.fs : Int) < (bs.length : Int) then (4, d) else (0, ⟨setP d.fs (s, bs, y.toNat), d.cap, d.arm, d.down, d.c⟩)) := by rw [HR.out, if_neg (fun z => z HNM.out), if_neg (by rw [hno]; simp)]
   rw [← HNB.out] at hRR
   have HRR := Lib.hid hRR
   clear hPv hF hno hRR
   refine AnyE.take (i := 7) (.bool false) rfl (by kernel_rfl) (by kernel_rfl) (by kernel_rfl) (by kernel_rfl) (fun _ _ _ h => h) (.inl ⟨by kernel_rfl, fun wy hy => by (go_simp; done)⟩) hHeld ?_
   try simp only [Act.put, List.setIfInBounds_toArray, List.set_cons_zero, List.set_cons_succ]
   refine AnyE.done (by kernel_rfl) (NoPanic.normal ?_) _
   have Q : Hid (Z0.cell? ⟨q, 0, none⟩ = some (.string s) ∧ Z0.cell? ⟨q, 1, none⟩ = some (.slice ab nb kb) ∧ Z0.cell? ⟨q, 2, none⟩ = some (.int .i64 y) ∧ q < Z0.heap.size) := ⟨(HB.out.cell (p := ⟨q, 0, none⟩) lq).trans C1.out.1, (HB.out.cell (p := ⟨q, 1, none⟩) lq).trans C1.out.2.1, (HB.out.cell (p := ⟨q, 2, none⟩) lq).trans C1.out.2.2.1, Nat.lt_of_lt_of_le lq HB.out.size⟩
   have BZ := Lib.hid (HD.out.2.2.trans (HB.out.mono HD.out.2.2.size))
   have DZ := Lib.hid (And.intro (HD.out.1.below HB.out) (And.intro (HM.out.1.below HB.out) (HD.out.2.1.later HB.out)))
   have q1 := Q.out.2.1
   have q2 := Q.out.2.2.1
   clear hHeld
   by_cases y0 : y < 0
   ·have hRR : R = (43, d) := by rw [HRR.out, if_pos (.inl y0)]
    subst hRR
    go_simp
    go_step
    go_wp2
    go_ret
    exact ⟨rfl, O, DZ.out.1, Go4.of_below BZ.out⟩
   by_cases y1 : (nb : Int) < y
   ·have hRR : R = (43, d) := by rw [HRR.out, if_pos (.inr y1)]
    subst hRR
    go_simp
    go_step
    go_wp2
    go_ret
    exact ⟨rfl, O, DZ.out.1, Go4.of_below BZ.out⟩
   have hRR := HRR.out
   rw [if_neg (fun z => z.elim y0 y1)] at hRR
   have HRR := Lib.hid hRR
   clear hRR
   go_simp
   go_step
   go_upto_region 8 with fail
   clear q1 q2
   have hT : ∃ T : Int, T = d.cap - (totP d.fs : Int) := ⟨_, rfl⟩
   obtain ⟨T, hT⟩ := hT
   rw [← hT] at HRR
   have htot : (totP (fl.map FE.pf) : Int) ≤ d.cap := by rw [HM.out.2.1]; exact HOKH.out.tot
   have HFR := Lib.hid (fun Z (hz : Below Z0.heap.size Z0 Z) => free_any (DZ.out.2.1.below hz) HOKH.out.cap0 HOKH.out.cap1 htot)
   rw [HM.out.2.1, ← hT] at HFR
   have HT := Lib.hid (And.intro hT htot)
   have LQ := Q.out.2.2.2
   clear hT htot HB
   obtain ⟨Y0, hY0⟩ : ∃ Y0, Y0 = Z0 := ⟨_, rfl⟩
   rw [← hY0] at Q BZ DZ HFR LQ ⊢
   clear hY0 Z0
   have BD : Below Y0.heap.size Y0 Y0.drew := (Below.refl _ _).drew
   refine wp_region_noPanic ?_
   refine wp_region_anyE (S := fun wx => Below Y0.heap.size Y0 wx) (E := fun j => true) (by kernel_rfl) ?_
   have hHeld : Below Y0.heap.size Y0 Y0.drew := BD
   have HB := Lib.hid BD
   have hZ0 : ∃ z, z = Y0.drew := ⟨_, rfl⟩
   obtain ⟨Z0, hZ0⟩ := hZ0
   rw [← hZ0] at HB hHeld ⊢
   clear hZ0 BD
   refine AnyE.take (i := 0) (.pointer (some ⟨q, 1, none⟩)) rfl (by kernel_rfl) (by kernel_rfl) (by kernel_rfl) (by kernel_rfl) (fun _ _ _ h => h) (.inl ⟨by kernel_rfl, fun wy hy => by (go_simp; done)⟩) hHeld ?_
   try simp only [Act.put, List.setIfInBounds_toArray, List.set_cons_zero, List.set_cons_succ]
   refine AnyE.take (i := 1) (.slice ab nb kb) rfl (by kernel_rfl) (by kernel_rfl) (by kernel_rfl) (by kernel_rfl) (fun _ _ _ h => h) (.inl ⟨by kernel_rfl, fun wy hy => by (have q0 := (hy.cell (p := ⟨q, 1, none⟩) LQ).trans Q.out.2.1; go_simp; done)⟩) hHeld ?_
   try simp only [Act.put, List.setIfInBounds_toArray, List.set_cons_zero, List.set_cons_succ]
   refine AnyE.take (i := 2) (.int .i64 (nb : Int)) rfl (by kernel_rfl) (by kernel_rfl) (by kernel_rfl) (by kernel_rfl) (fun _ _ _ h => h) (.inl ⟨by kernel_rfl, fun wy hy => by (cases ab <;> go_simp; done)⟩) hHeld ?_
   try simp only [Act.put, List.setIfInBounds_toArray, List.set_cons_zero, List.set_cons_succ]
   refine AnyE.take (i := 3) (.pointer (some ⟨dB, 0, none⟩)) rfl (by kernel_rfl) (by kernel_rfl) (by kernel_rfl) (by kernel_rfl) (fun _ _ _ h => h) (.inl ⟨by kernel_rfl, fun wy hy => by (go_simp; done)⟩) hHeld ?_
   try simp only [Act.put, List.setIfInBounds_toArray, List.set_cons_zero, List.set_cons_succ]
   refine AnyE.one (i := 4) rfl (by kernel_rfl) (by kernel_rfl) (fun KK hK => ?_)
   go_simp
   go_at_call 12
   refine (HFR.out Z0 HB.out).mono ?_
   rintro e9 Z2 ⟨rfl, b1⟩
   have HB := Lib.hid (HB.out.trans (b1.mono HB.out.size))
   clear b1
   go_wp2_with fail
   refine hK.out _ _ ⟨fun _ => HB.out, ?_⟩
   have hHeld := HB.out
   clear hK
   try simp only [Act.put, List.setIfInBounds_toArray, List.set_cons_zero, List.set_cons_succ]
   by_cases hfull : T < (nb : Int)
   ·have hRR : R = (4, d) := by rw [HRR.out, if_pos hfull]
    subst hRR
    refine AnyE.take (i := 5) (.bool true) rfl (by kernel_rfl) (by kernel_rfl) (by kernel_rfl) (by kernel_rfl) (fun _ _ _ h => h) (.inl ⟨by kernel_rfl, fun wy hy => by (go_simp; done)⟩) hHeld ?_
    try simp only [Act.put, List.setIfInBounds_toArray, List.set_cons_zero, List.set_cons_succ]
    refine AnyE.done (by kernel_rfl) (NoPanic.normal ?_) _
    go_simp
    go_step
    go_wp2
    go_ret
    exact ⟨rfl, O, DZ.out.1.below HB.out, Go4.of_below (BZ.out.trans (HB.out.mono BZ.out.size))⟩
   ·have hRR : R = (0, ⟨setP d.fs (s, bs, y.toNat), d.cap, d.arm, d.down, d.c⟩) := by rw [HRR.out, if_neg hfull]
    subst hRR
    have HFULL := Lib.hid hfull
    have HY := Lib.hid (And.intro y0 y1)
    refine AnyE.take (i := 5) (.bool false) rfl (by kernel_rfl) (by kernel_rfl) (by kernel_rfl) (by kernel_rfl) (fun _ _ _ h => h) (.inl ⟨by kernel_rfl, fun wy hy => by (go_simp; done)⟩) hHeld ?_
    try simp only [Act.put, List.setIfInBounds_toArray, List.set_cons_zero, List.set_cons_succ]
    refine AnyE.done (by kernel_rfl) (NoPanic.normal ?_) _
    clear hfull y0 y1
    go_simp
    go_step
    go_upto_region 10 with fail
    have hB8 := HB.out
    have Q : Hid (Z2.cell? ⟨q, 0, none⟩ = some (.string s) ∧ Z2.cell? ⟨q, 1, none⟩ = some (.slice ab nb kb) ∧ Z2.cell? ⟨q, 2, none⟩ = some (.int .i64 y) ∧ q < Z2.heap.size) := ⟨(hB8.cell (p := ⟨q, 0, none⟩) LQ).trans Q.out.1, (hB8.cell (p := ⟨q, 1, none⟩) LQ).trans Q.out.2.1, (hB8.cell (p := ⟨q, 2, none⟩) LQ).trans Q.out.2.2.1, Nat.lt_of_lt_of_le LQ hB8.size⟩
    have LQ := Q.out.2.2.2
    have BZ := Lib.hid (BZ.out.trans (hB8.mono BZ.out.size))
    have DZ := Lib.hid (And.intro (DZ.out.2.1.below hB8) (DZ.out.2.2.later hB8))
    obtain ⟨Y2, hY2⟩ : ∃ Y2, Y2 = Z2 := ⟨_, rfl⟩
    rw [← hY2] at Q BZ DZ LQ ⊢
    clear hY2 hB8 HB hHeld HFR Z2
    have QMB : Hid (q ≠ mb) := by
     intro e
     obtain ⟨es2, ck2, hm2⟩ := DZ.out.1.map
     have h1 := Q.out.1
     unfold World.cell? at h1
     rw [e, hm2.blk] at h1
     cases h1
    have BD : Below Y2.heap.size Y2 Y2.drew := (Below.refl _ _).drew
    refine wp_region_noPanic ?_
    refine wp_region_anyE (S := fun wx => Go4 Y2 wx (fun i => i = mb) (fun i => i = mb)) (E := fun j => true) (by kernel_rfl) ?_
    have hHeld : Go4 Y2 Y2.drew (fun i => i = mb) (fun i => i = mb) := Go4.of_below BD
    have HB := Lib.hid BD
    have hZ0 : ∃ z, z = Y2.drew := ⟨_, rfl⟩
    obtain ⟨Z0, hZ0⟩ := hZ0
    rw [← hZ0] at HB hHeld ⊢
    clear hZ0 BD
    refine AnyE.take (i := 0) (.pointer (some ⟨dB, 0, none⟩)) rfl (by kernel_rfl) (by kernel_rfl) (by kernel_rfl) (by kernel_rfl) (fun _ _ _ h => h) (.inl ⟨by kernel_rfl, fun wy hy => by (go_simp; done)⟩) hHeld ?_
    try simp only [Act.put, List.setIfInBounds_toArray, List.set_cons_zero, List.set_cons_succ]
    refine AnyE.take (i := 1) (.pointer (some ⟨q, 0, none⟩)) rfl (by kernel_rfl) (by kernel_rfl) (by kernel_rfl) (by kernel_rfl) (fun _ _ _ h => h) (.inl ⟨by kernel_rfl, fun wy hy => by (go_simp; done)⟩) hHeld ?_
    try simp only [Act.put, List.setIfInBounds_toArray, List.set_cons_zero, List.set_cons_succ]
    refine AnyE.take (i := 2) (.string s) rfl (by kernel_rfl) (by kernel_rfl) (by kernel_rfl) (by kernel_rfl) (fun _ _ _ h => h) (.inl ⟨by kernel_rfl, fun wy hy => by (have q0 := (World.cell?_of_block (a := ⟨q, 0, none⟩) (hy.block q LQ QMB.out)).trans Q.out.1; go_simp; done)⟩) hHeld ?_
    try simp only [Act.put, List.setIfInBounds_toArray, List.set_cons_zero, List.set_cons_succ]
    refine AnyE.take (i := 3) (.pointer (some ⟨q, 1, none⟩)) rfl (by kernel_rfl) (by kernel_rfl) (by kernel_rfl) (by kernel_rfl) (fun _ _ _ h => h) (.inl ⟨by kernel_rfl, fun wy hy => by (go_simp; done)⟩) hHeld ?_
    try simp only [Act.put, List.setIfInBounds_toArray, List.set_cons_zero, List.set_cons_succ]
    refine AnyE.take (i := 4) (.slice ab nb kb) rfl (by kernel_rfl) (by kernel_rfl) (by kernel_rfl) (by kernel_rfl) (fun _ _ _ h => h) (.inl ⟨by kernel_rfl, fun wy hy => by (have q0 := (World.cell?_of_block (a := ⟨q, 1, none⟩) (hy.block q LQ QMB.out)).trans Q.out.2.1; go_simp; done)⟩) hHeld ?_
    try simp only [Act.put, List.setIfInBounds_toArray, List.set_cons_zero, List.set_cons_succ]
    refine AnyE.take (i := 6) (.pointer (some ⟨q, 2, none⟩)) rfl (by kernel_rfl) (by kernel_rfl) (by kernel_rfl) (by kernel_rfl) (fun _ _ _ h => h) (.inl ⟨by kernel_rfl, fun wy hy => by (go_simp; done)⟩) hHeld ?_
    try simp only [Act.put, List.setIfInBounds_toArray, List.set_cons_zero, List.set_cons_succ]
    refine AnyE.take (i := 7) (.int .i64 y) rfl (by kernel_rfl) (by kernel_rfl) (by kernel_rfl) (by kernel_rfl) (fun _ _ _ h => h) (.inl ⟨by kernel_rfl, fun wy hy => by (have q0 := (World.cell?_of_block (a := ⟨q, 2, none⟩) (hy.block q LQ QMB.out)).trans Q.out.2.2.1; go_simp; done)⟩) hHeld ?_
    try simp only [Act.put, List.setIfInBounds_toArray, List.set_cons_zero, List.set_cons_succ]
    refine AnyE.one (i := 5) rfl (by kernel_rfl) (by kernel_rfl) (fun KK hK => ?_)
    go_simp
    go_at_call 34
    refine (bclone_any (DZ.out.2.later HB.out) (by have h1 := HFULL.out; have h2 := HT.out.1; have h3 := HOKH.out.cap1; have h4 := HNB.out; omega)).mono ?_
    rintro e9 Z2 ⟨v, rfl, hv, b1⟩
    have hf := (OwnO.of_row hv HRDB.out).form
    rw [← HNB.out] at hf
    obtain ⟨va, vc, rfl⟩ := hf
    have HV := Lib.hid (And.intro (OwnO.of_row hv HRDB.out) (And.intro HB.out.size b1))
    have HB := Lib.hid (HB.out.trans (b1.mono HB.out.size))
    clear b1 hv
    go_wp2_with fail
    have hHeld := (Go4.of_below HB.out : Go4 Y2 Z2 (fun i => i = mb) (fun i => i = mb))
    refine hK.out _ _ ⟨fun _ => hHeld, ?_⟩
    clear hK
    try simp only [Act.put, List.setIfInBounds_toArray, List.set_cons_zero, List.set_cons_succ]
    refine AnyE.take (i := 8) (.agg #[.slice va nb vc, .int .i64 y]) rfl (by kernel_rfl) (by kernel_rfl) (by kernel_rfl) (by kernel_rfl) (fun _ _ _ h => h) (.inl ⟨by kernel_rfl, fun wy hy => by (go_simp; done)⟩) hHeld ?_
    try simp only [Act.put, List.setIfInBounds_toArray, List.set_cons_zero, List.set_cons_succ]
    refine AnyE.one (i := 9) rfl (by kernel_rfl) (by kernel_rfl) (fun KK hK => ?_)
    go_simp
    have sZ : (Z2.alloc (.cells #[.slice va nb vc, .int .i64 y] 81)).heap.size = Z2.heap.size + 1 := by simp
    have fA : Hid (FBox (Z2.alloc (.cells #[.slice va nb vc, .int .i64 y] 81)) Z2.heap.size (.slice va nb vc) y.toNat) := by
     have := FBox.new Z2 (.slice va nb vc) y.toNat
     rw [Int.toNat_of_nonneg (by have := HY.out.1; omega)] at this
     exact this
    have bA : Below Z2.heap.size Z2 (Z2.alloc (.cells #[.slice va nb vc, .int .i64 y] 81)) := (Below.refl _ _).alloc (Nat.le_refl _) _
    have HB := Lib.hid (HB.out.trans (bA.mono HB.out.size))
    have hV : ∃ V, V = Z2.alloc (.cells #[.slice va nb vc, .int .i64 y] 81) := ⟨_, rfl⟩
    obtain ⟨V, hV⟩ := hV
    rw [← hV] at sZ fA bA HB ⊢
    have hHeld := (Go4.of_below HB.out : Go4 Y2 V (fun i => i = mb) (fun i => i = mb))
    refine hK.out _ _ ⟨fun _ => hHeld, ?_⟩
    clear hK
    try simp only [Act.put, List.setIfInBounds_toArray, List.set_cons_zero, List.set_cons_succ]
    have HSZ := Lib.hid (And.intro sZ bA)
    clear hV sZ bA
    refine AnyE.one (i := 10) rfl (by kernel_rfl) (by kernel_rfl) (fun KK hK => ?_)
    go_simp
    go_at_call 47
    have ho : OwnO V (fun i => O i ∨ (Y2.heap.size ≤ i ∧ i < V.heap.size)) (.slice va nb vc) bs := HV.out.1.kept (fun g hg => by
     have := HV.out.1.blk g hg
     have h2 := HV.out.2.1
     have h3 := HSZ.out.2.size
     exact ⟨HSZ.out.2.block g this.2, .inr ⟨by omega, by omega⟩⟩)
    refine (hold_dsk (O' := fun i => O i ∨ (Y2.heap.size ≤ i ∧ i < V.heap.size)) (f := ⟨s, Z2.heap.size, .slice va nb vc, bs, y.toNat⟩) (DZ.out.1.below HB.out) fA.out ho (.inr ⟨by have := HV.out.2.1; have := HV.out.2.2.size; simp only; omega, by have := HSZ.out.1; simp only; omega⟩) (fun i h => .inl h) (fun i h => h.elim (fun h => by have := DZ.out.1.lt i h; have := HB.out.size; omega) (fun h => h.2)) (fun g hg _ => ?_) (by have := HNM.out.2.1; simp only; omega)).mono ?_
    ·have h1 := DZ.out.1.lt _ (DZ.out.1.fil g hg).2.2
     refine ⟨fun e => by have := HV.out.2.1; have := HV.out.2.2.size; simp only at e; omega, fun k hk e => ?_⟩
     have h2 := DZ.out.1.lt _ ((DZ.out.1.fil g hg).2.1.blk k hk)
     have h3 := (HV.out.1.blk k e).1
     have h4 := HV.out.2.1
     omega
    rintro e9 Z3 ⟨rfl, d3, g3⟩
    have HD3 := Lib.hid d3
    have HG3 := Lib.hid g3
    clear d3 g3 ho
    go_wp2_with fail
    refine hK.out _ _ ⟨fun _ => (Go4.of_below HB.out).trans HG3.out, ?_⟩
    clear hK
    try simp only [Act.put, List.setIfInBounds_toArray, List.set_cons_zero, List.set_cons_succ]
    refine AnyE.done (by kernel_rfl) (NoPanic.normal ?_) _
    obtain ⟨Z4, hZ4⟩ : ∃ z, z = Z3 := ⟨_, rfl⟩
    rw [← hZ4] at HD3 HG3 ⊢
    clear hZ4 hHeld
    go_simp
    go_step
    go_wp2
    go_ret
    have hpf := setF_pf ⟨s, Z2.heap.size, .slice va nb vc, bs, y.toNat⟩ fl
    have hfs := fsOk_take (bs := bs) (y := y) HOKH.out HNM.out HF.out.2 HCNT.out (by rw [← HNB.out]; have h1 := HY.out.1; have h2 := HY.out.2; omega) (by rw [← HNB.out, ← HT.out.1]; have h1 := HFULL.out; omega)
    refine ⟨rfl, (fun i => O i ∨ (Y2.heap.size ≤ i ∧ i < V.heap.size)), ⟨HOKH.out.mk2 hfs HOKH.out.arm0 HOKH.out.arm1 d.down d.c, mb, _, HD3.out, ?_⟩, ?_⟩
    ·rw [hpf, HM.out.2.1]; rfl
    ·have g := (Go4.of_below (O := O) BZ.out).trans ((Go4.of_below (O := O) HB.out).trans (HG3.out.wide (O1 := O) (O2 := O) (fun i h => by rw [h]; exact DZ.out.1.omb) (fun i h => .inr h)))
     exact ⟨g.os, g.tape, g.output, g.size, g.block, fun i hi => hi.elim .inl (fun h => .inr (Nat.le_trans BZ.out.size h.1))⟩
 ·have hnn : ¬ DkName s := fun z => h0 (HK.out.1.2 z)
  have hRR : R = (kk, d) := by rw [HR.out, if_pos hnn, HK.out.2 hnn]
  subst hRR
  have h0n : (kk != 0) = true := by simp [h0]
  go_wp2
  go_ret
  exact ⟨rfl, O, HD.out.1, Go4.of_below HD.out.2.2⟩
end Go.Proofs.Ytlkhphhmhffdjaa
