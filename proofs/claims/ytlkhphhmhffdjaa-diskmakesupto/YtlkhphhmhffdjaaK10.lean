import Derived.Test.YtlkhphhmhffdjaaK09
set_option linter.unusedSimpArgs false
set_option linter.unusedVariables false
namespace Go.Proofs.Ytlkhphhmhffdjaa
open Go.RowKit Go.MapKept Go.Sort
variable {w w' W X : World} {O O' : Nat → Prop} {dB rB : Nat} {d : Dk4}
theorem cells3 (w : World) (x y z : Value) : ∀ j u, [x, y, z][j]? = some u → (w.alloc (.cells #[x, y, z] 60)).cell? ⟨w.heap.size, 0 + j, none⟩ = some u := by
 intro j u hj
 have e2 : (w.alloc (.cells #[x, y, z] 60)).heap[w.heap.size]? = some (.cells #[x, y, z] 60 (0, 0)) := heap_alloc_new _ _
 simp only [World.cell?, e2, Nat.zero_add]
 simpa using hj
theorem wpl_frow1 {w : World} {ops : Array Oper} {rest : List Oper} {o : Oper} {a : Act} {Q : Exit → Act → World → Prop} (hgd : o.guard = none) (s x : Operand)
  (ho : o.op = .call { callee := .builtin .append, args := #[s, x], argTypes := #[22, 22] })
  {B n : Nat} {v : Value} {l : List (PF × Value)} (hs : a.eval s = v) (hown : FRow w B v n l) (nm : ByteArray) (vd : Value) (y : Nat) (dt : List Nat) (hv : ∃ a n c, vd = .slice a n c) (hx : a.eval x = .slice (some ⟨w.heap.size, 0, none⟩) 1 1) (hn : n ≤ 500000) (hB : B ≤ w.heap.size)
  (h : ∀ a' c' w', FRow w' B (.slice a' (n + 1) c') (n + 1) (l ++ [((nm, dt, y), vd)]) → Below B w w' → wpList Try.prog ops Q rest (a.put o.dst (.slice a' (n + 1) c')) w') :
  wpList Try.prog ops Q (o :: rest) a (w.alloc (.cells #[.string nm, vd, .int .i64 (y : Int)] 60)) := by
 refine wpList_plain hgd fun K hK => ?_
 have bA : Below w.heap.size w (w.alloc (.cells #[.string nm, vd, .int .i64 (y : Int)] 60)) := (Below.refl _ _).alloc (Nat.le_refl _) _
 refine frow_append s x ho (l2 := [((nm, dt, y), vd)]) hs (hown.later bA) hx rfl (fun j u hj => cells3 w _ _ _ j u (by simpa [fCells] using hj)) (fun z hz => by simp at hz; subst hz; exact hv) (by omega) (Nat.le_trans hB bA.size) (fun v' w' h1 h2 _ => ?_)
 obtain ⟨a', c', rfl⟩ := h1.form
 exact hK _ _ (h a' c' w' h1 ((bA.mono hB).trans h2))
theorem wpl_frows {w : World} {ops : Array Oper} {rest : List Oper} {o : Oper} {a : Act} {Q : Exit → Act → World → Prop} (hgd : o.guard = none) (s x : Operand)
  (ho : o.op = .call { callee := .builtin .append, args := #[s, x], argTypes := #[22, 22] })
  {B n m cp g off : Nat} {v : Value} {l l2 : List (PF × Value)} (hs : a.eval s = v) (hown : FRow w B v n l) (hx : a.eval x = .slice (some ⟨g, off, none⟩) m cp) (hm : m = l2.length) (hf : ∀ j u, (fCells l2)[j]? = some u → w.cell? ⟨g, off + j, none⟩ = some u)
  (hsh : Shp l2) (hn : n + m ≤ 1000000) (hB : B ≤ w.heap.size)
  (h : ∀ a' c' w', FRow w' B (.slice a' (n + m) c') (n + m) (l ++ l2) → Below B w w' → wpList Try.prog ops Q rest (a.put o.dst (.slice a' (n + m) c')) w') :
  wpList Try.prog ops Q (o :: rest) a w := by
 refine wpList_plain hgd fun K hK => ?_
 refine frow_append s x ho (l2 := l2) hs hown hx hm hf hsh hn hB (fun v' w' h1 h2 _ => ?_)
 obtain ⟨a', c', rfl⟩ := h1.form
 exact hK _ _ (h a' c' w' h1 h2)
theorem wpl_frow0 {w : World} {ops : Array Oper} {rest : List Oper} {o : Oper} {a : Act} {Q : Exit → Act → World → Prop} (hgd : o.guard = none) (s x : Operand)
  (ho : o.op = .call { callee := .builtin .append, args := #[s, x], argTypes := #[22, 22] })
  {B n : Nat} {v : Value} {l : List (PF × Value)} (hs : a.eval s = v) (hown : FRow w B v n l) (hx : a.eval x = .slice none 0 0) (hB : B ≤ w.heap.size)
  (h : ∀ a' c' w', FRow w' B (.slice a' n c') n l → Below B w w' → wpList Try.prog ops Q rest (a.put o.dst (.slice a' n c')) w') :
  wpList Try.prog ops Q (o :: rest) a w := by
 refine wpList_plain hgd fun K hK => ?_
 obtain ⟨i0, hi, hz0, hz1, hz2⟩ := info_parts info_file4
 have hr := run_append_owned_none (P := Try.prog) (w := w) B 22 o.type 60 i0 3 und_files4 hi v n (fCells l) hown.row
 obtain ⟨a', c', rfl⟩ := hown.form
 unfold Oper.wp execOp
 rw [ho]
 simp only [resolve, invoke, builtin, Sem.run_bind, Sem.run_pure, Result.andThen_ok, List.map_toArray, List.map_cons, List.map_nil, hs, hx, hr]
 exact hK _ _ (h a' c' w hown (Below.refl _ _))
theorem fCells_drop : ∀ (l : List (PF × Value)) (i : Nat), fCells (l.drop i) = (fCells l).drop (i * 3)
 | l, 0 => by simp
 | [], i + 1 => by simp [fCells]
 | x :: xs, i + 1 => by
  have : (i + 1) * 3 = i * 3 + 1 + 1 + 1 := by omega
  rw [List.drop_succ_cons, fCells_drop xs i, this]
  simp [fCells]
variable {a : Option Addr} {n k : Nat} {l : List (PF × Value)} {cap arm : Int} {off : Bool} {c : Nat → Int}
theorem map_take1 {l : List (PF × Value)} {t : Nat} {x : PF × Value} (h : l[t]? = some x) : l.take (t + 1) = l.take t ++ [x] := by rw [List.take_add_one, h]; rfl
theorem pair_ins {α : Type} {R : α → α → Prop} (hs : ∀ x y, R x y → R y x) {l : List α} {z : α} (h : l.Pairwise R) (hz : ∀ x ∈ l, R x z) (t : Nat) : (l.take t ++ z :: l.drop t).Pairwise R := by
 rw [List.pairwise_append]
 have h2 : (l.take t ++ l.drop t).Pairwise R := by rw [List.take_append_drop]; exact h
 rw [List.pairwise_append] at h2
 refine ⟨h2.1, List.pairwise_cons.2 ⟨fun x hx => hs _ _ (hz x (List.mem_of_mem_drop hx)), h2.2.1⟩, fun x hx y hy => ?_⟩
 rcases List.mem_cons.1 hy with rfl | hy
 ·exact hz x (List.mem_of_mem_take hx)
 ·exact h2.2.2 x hx y hy
theorem put_dsk {N : Nat} {s : ByteArray} {va : Option Addr} {vn vk y : Nat} {bs : List Nat} {a6 : Option Addr} {c6 : Nat} (h : RDM w O rB a n k l cap off arm c) (hv : OwnO w O (.slice va vn vk) bs) (hap : ∀ x ∈ l, ∀ g, x.2.ownBlock = some g → (Value.slice va vn vk).ownBlock ≠ some g)
  (b : Below w.heap.size w W) (t : Nat) (r : FRow W w.heap.size (.slice a6 N c6) N (l.take t ++ ((s, bs, y), .slice va vn vk) :: l.drop t)) :
  RDM (W.setCell ⟨rB, 1, none⟩ (.slice a6 N c6)) (fun i => O i ∨ (w.heap.size ≤ i ∧ i < W.heap.size)) rB a6 N c6 (l.take t ++ ((s, bs, y), .slice va vn vk) :: l.drop t) cap off arm c ∧ Go4 w (W.setCell ⟨rB, 1, none⟩ (.slice a6 N c6)) O (fun i => O i ∨ (w.heap.size ≤ i ∧ i < W.heap.size)) := by
 have hb := h.below b
 have lr := h.lt _ h.orb
 have hvb : ∀ g, (Value.slice va vn vk).ownBlock = some g → g ≠ rB := fun g hg e => by
  obtain ⟨cur2, h2⟩ := hv.typ hg
  have h1 := h.box
  unfold RBox at h1
  rw [e, h1] at h2
  simp only [Option.some.injEq, Obj.cells.injEq] at h2
  exact absurd h2.2.1 (by decide)
 refine ⟨hb.setRow (r.mono (Nat.zero_le _)) (fun i hi => .inl hi) (fun g hg => ?_) (fun x hx => ?_) (pair_ins (fun x y q g hg hy => q g hy hg) h.nod (fun x hx g hg => hap x hx g hg) t) (fun i hi => hi.elim (fun z => hb.lt i z) (fun z => z.2)), ?_⟩
 ·have := r.row.lt g hg
  exact ⟨.inr this, by omega⟩
 ·have key : x ∈ l ∨ x = ((s, bs, y), .slice va vn vk) := by
   rcases List.mem_append.1 hx with hx | hx
   ·exact .inl (List.mem_of_mem_take hx)
   ·rcases List.mem_cons.1 hx with hx | hx
    ·exact .inr hx
    ·exact .inl (List.mem_of_mem_drop hx)
  rcases key with hx | rfl
  ·exact ⟨(hb.dat x hx).kept (fun g hg => ⟨rfl, .inl ((hb.dat x hx).blk g hg)⟩), fun g hg => hb.neDat hx hg⟩
  ·exact ⟨hv.kept (fun g hg => ⟨b.block g (h.lt g (hv.blk g hg)), .inl (hv.blk g hg)⟩), hvb⟩
 ·have g1 := (Go4.of_below (O := O) b).trans (Go4.of_set (a := ⟨rB, 1, none⟩) h.orb (.slice a6 N c6))
  exact ⟨g1.os, g1.tape, g1.output, g1.size, g1.block, fun i hi => hi.elim .inl (fun z => .inr z.1)⟩
set_option maxRecDepth 100000 in
set_option maxHeartbeats 8000000 in
theorem rPut_any (h : RDM w O rB a n k l cap off arm c) (hl : n ≤ 1000) {s : ByteArray} {va : Option Addr} {vn vk y : Nat} {bs : List Nat} (hv : OwnO w O (.slice va vn vk) bs) (hap : ∀ x ∈ l, ∀ g, x.2.ownBlock = some g → (Value.slice va vn vk).ownBlock ≠ some g) :
  Calls Try.prog 42 #[.pointer (some ⟨rB, 0, none⟩), .agg #[.string s, .slice va vn vk, .int .i64 (y : Int)]] w fun e w' => e = .returned (.tuple #[]) ∧ ∃ O2 a2 n2 k2 l2, RDM w' O2 rB a2 n2 k2 l2 cap off arm c ∧ l2.map (·.1) = insP (l.map (·.1)) (s, bs, y) ∧ Go4 w w' O O2 := by
 have hb0 : Below w.heap.size w (w.alloc (.cells #[.string s, .slice va vn vk, .int .i64 (y : Int)] 60)) := (Below.refl _ _).alloc (Nat.le_refl _) _
 have hc0 : (w.alloc (.cells #[.string s, .slice va vn vk, .int .i64 (y : Int)] 60)).heap[w.heap.size]? = some (.cells #[.string s, .slice va vn vk, .int .i64 (y : Int)] 60) := heap_alloc_new _ _
 have hW : ∃ W, W = w.alloc (.cells #[.string s, .slice va vn vk, .int .i64 (y : Int)] 60) := ⟨_, rfl⟩
 obtain ⟨W, hW⟩ := hW
 have hxb : ∃ xb, xb = w.heap.size := ⟨_, rfl⟩
 obtain ⟨xb, hxb⟩ := hxb
 rw [← hW] at hb0 hc0
 rw [← hxb] at hc0
 have hn := h.row.len
 have hcap := h.row.capn
 have hk : n ≤ 9223372036854775807 := by omega
 have hA : ∃ A, A = aheadP (l.map (·.1)) (s, bs, y) := ⟨_, rfl⟩
 obtain ⟨A, hA⟩ := hA
 have hAn : A ≤ n := by have := aheadP_le (s, bs, y) (l.map (·.1)); rw [List.length_map] at this; omega
 have HH := Lib.hid (h.below hb0)
 have H0 := Lib.hid h
 have HW := Lib.hid (And.intro hW hxb)
 have HB := Lib.hid hb0
 have HC := Lib.hid hc0
 have HN := Lib.hid (And.intro hn (And.intro hl hcap))
 have HA := Lib.hid (And.intro hA hAn)
 have HV := Lib.hid (And.intro hv hap)
 have lxb : xb < W.heap.size := (Array.getElem?_eq_some_iff.1 hc0).1
 have lrb := HH.out.box.lt
 clear h hW hxb hb0 hc0 hn hl hcap hA hAn hv hap
 go_enter Try.func42, Try.ntmps42
 go_upto_region 1 with fail
 rw [← HW.out.1, ← HW.out.2]
 go_wp2_with fail
 go_loopw [4, 5] (fun v i wr => ∃ (t : Nat) (av : Option Addr) (kv : Nat), t ≤ A ∧ i = .int .i64 (t : Int) ∧ v = .slice av t kv ∧ FRow wr W.heap.size (.slice av t kv) t (l.take t) ∧ Below W.heap.size W wr) (fun _ i _ => n - (intOf i).toNat)
 case atStart => exact ⟨0, none, 0, Nat.zero_le _, rfl, rfl, FRow.nil _ _, Below.refl _ _⟩
 case round =>
  obtain ⟨t, av, kv, ht, rfl, rfl, hrow, hbw⟩ := hrel
  have HR := Lib.hid (And.intro hrow hbw)
  have HT := Lib.hid ht
  have htn : t ≤ n := Nat.le_trans ht HA.out.2
  clear hrow hbw ht
  by_cases hlt : t < n
  ·have j1 : (t : Int) < (n : Int) := by omega
   have j2 : (0 : Int) ≤ (t : Int) := by omega
   have j3 : ¬ (n : Int) ≤ (t : Int) := by omega
   have hx : ∃ x, l[t]? = some x := ⟨_, List.getElem?_eq_getElem (by rw [← HN.out.1]; exact hlt)⟩
   obtain ⟨x, hx⟩ := hx
   have hat := HH.out.row.at_ hx
   obtain ⟨g, hag, _, q0, q1, q2⟩ := hat
   subst hag
   have lg := World.block_lt_of_cell? _ _ q0
   simp only at lg
   have hfx := (HH.out.dat x (List.mem_of_getElem? hx)).form
   obtain ⟨xa, xc, hxv⟩ := hfx
   rw [hxv] at q1
   have hnx : ∃ nx, nx = x.1.2.1.length := ⟨_, rfl⟩
   obtain ⟨nx, hnx⟩ := hnx
   rw [← hnx] at q1 hxv
   have CX := Lib.hid (And.intro q0 (And.intro q1 q2))
   have HX := Lib.hid (And.intro hx hxv)
   have hls := less_nm x.1.1 s
   clear q0 q1 q2 hnx hx hxv
   go_upto_region 3 with fail
   have BD : Below wr.heap.size wr wr.drew := (Below.refl _ _).drew
   refine wp_region_noPanic ?_
   refine wp_region_anyE (S := fun wx => Below W.heap.size W wx) (E := fun j => true) (by kernel_rfl) ?_
   have hHeld : Below W.heap.size W wr.drew := HR.out.2.trans (BD.mono HR.out.2.size)
   have HB2 := Lib.hid BD
   have hZ0 : ∃ z, z = wr.drew := ⟨_, rfl⟩
   obtain ⟨Z0, hZ0⟩ := hZ0
   rw [← hZ0] at HB2 hHeld ⊢
   clear hZ0 BD
   refine AnyE.take (i := 0) (.int .i64 (t : Int)) rfl (by kernel_rfl) (by kernel_rfl) (by kernel_rfl) (by kernel_rfl) (fun _ _ _ h => h) (.inl ⟨by kernel_rfl, fun wy hy => by (go_simp; done)⟩) hHeld ?_
   try simp only [Act.put, List.setIfInBounds_toArray, List.set_cons_zero, List.set_cons_succ]
   refine AnyE.take (i := 1) (.pointer (some ⟨rB, 0, none⟩)) rfl (by kernel_rfl) (by kernel_rfl) (by kernel_rfl) (by kernel_rfl) (fun _ _ _ h => h) (.inl ⟨by kernel_rfl, fun wy hy => by (go_simp; done)⟩) hHeld ?_
   try simp only [Act.put, List.setIfInBounds_toArray, List.set_cons_zero, List.set_cons_succ]
   refine AnyE.take (i := 2) (.pointer (some ⟨rB, 0, none⟩)) rfl (by kernel_rfl) (by kernel_rfl) (by kernel_rfl) (by kernel_rfl) (fun _ _ _ h => h) (.inl ⟨by kernel_rfl, fun wy hy => by (go_simp; done)⟩) hHeld ?_
   try simp only [Act.put, List.setIfInBounds_toArray, List.set_cons_zero, List.set_cons_succ]
   refine AnyE.take (i := 3) (.pointer (some ⟨rB, 1, none⟩)) rfl (by kernel_rfl) (by kernel_rfl) (by kernel_rfl) (by kernel_rfl) (fun _ _ _ h => h) (.inl ⟨by kernel_rfl, fun wy hy => by (go_simp; done)⟩) hHeld ?_
   try simp only [Act.put, List.setIfInBounds_toArray, List.set_cons_zero, List.set_cons_succ]
   refine AnyE.take (i := 4) (.slice (some ⟨g, 0, none⟩) n k) rfl (by kernel_rfl) (by kernel_rfl) (by kernel_rfl) (by kernel_rfl) (fun _ _ _ h => h) (.inl ⟨by kernel_rfl, fun wy hy => by (have qf := (HH.out.below hy).box.cells.2.1; go_simp; done)⟩) hHeld ?_
   try simp only [Act.put, List.setIfInBounds_toArray, List.set_cons_zero, List.set_cons_succ]
   refine AnyE.take (i := 5) (.int .i64 (n : Int)) rfl (by kernel_rfl) (by kernel_rfl) (by kernel_rfl) (by kernel_rfl) (fun _ _ _ h => h) (.inl ⟨by kernel_rfl, fun wy hy => by (go_simp; done)⟩) hHeld ?_
   try simp only [Act.put, List.setIfInBounds_toArray, List.set_cons_zero, List.set_cons_succ]
   refine AnyE.take (i := 6) (.bool true) rfl (by kernel_rfl) (by kernel_rfl) (by kernel_rfl) (by kernel_rfl) (fun _ _ _ h => h) (.inl ⟨by kernel_rfl, fun wy hy => by (go_simp; done)⟩) hHeld ?_
   try simp only [Act.put, List.setIfInBounds_toArray, List.set_cons_zero, List.set_cons_succ]
   refine AnyE.take (i := 7) (.bool true) rfl (by kernel_rfl) (by kernel_rfl) (by kernel_rfl) (by kernel_rfl) (fun _ _ _ h => h) (.inl ⟨by kernel_rfl, fun wy hy => by (go_simp; done)⟩) hHeld ?_
   try simp only [Act.put, List.setIfInBounds_toArray, List.set_cons_zero, List.set_cons_succ]
   refine AnyE.take (i := 8) (.pointer (some ⟨rB, 0, none⟩)) rfl (by kernel_rfl) (by kernel_rfl) (by kernel_rfl) (by kernel_rfl) (fun _ _ _ h => h) (.inl ⟨by kernel_rfl, fun wy hy => by (go_simp; done)⟩) hHeld ?_
   try simp only [Act.put, List.setIfInBounds_toArray, List.set_cons_zero, List.set_cons_succ]
   refine AnyE.take (i := 9) (.pointer (some ⟨rB, 0, none⟩)) rfl (by kernel_rfl) (by kernel_rfl) (by kernel_rfl) (by kernel_rfl) (fun _ _ _ h => h) (.inl ⟨by kernel_rfl, fun wy hy => by (go_simp; done)⟩) hHeld ?_
   try simp only [Act.put, List.setIfInBounds_toArray, List.set_cons_zero, List.set_cons_succ]
   refine AnyE.take (i := 10) (.pointer (some ⟨rB, 1, none⟩)) rfl (by kernel_rfl) (by kernel_rfl) (by kernel_rfl) (by kernel_rfl) (fun _ _ _ h => h) (.inl ⟨by kernel_rfl, fun wy hy => by (go_simp; done)⟩) hHeld ?_
   try simp only [Act.put, List.setIfInBounds_toArray, List.set_cons_zero, List.set_cons_succ]
   refine AnyE.take (i := 11) (.slice (some ⟨g, 0, none⟩) n k) rfl (by kernel_rfl) (by kernel_rfl) (by kernel_rfl) (by kernel_rfl) (fun _ _ _ h => h) (.inl ⟨by kernel_rfl, fun wy hy => by (have qf := (HH.out.below hy).box.cells.2.1; go_simp; done)⟩) hHeld ?_
   try simp only [Act.put, List.setIfInBounds_toArray, List.set_cons_zero, List.set_cons_succ]
   refine AnyE.take (i := 12) (.int .i64 (t : Int)) rfl (by kernel_rfl) (by kernel_rfl) (by kernel_rfl) (by kernel_rfl) (fun _ _ _ h => h) (.inl ⟨by kernel_rfl, fun wy hy => by (go_simp; done)⟩) hHeld ?_
   try simp only [Act.put, List.setIfInBounds_toArray, List.set_cons_zero, List.set_cons_succ]
   refine AnyE.take (i := 13) (.pointer (some ⟨g, t * 3, none⟩)) rfl (by kernel_rfl) (by kernel_rfl) (by kernel_rfl) (by kernel_rfl) (fun _ _ _ h => h) (.inl ⟨by kernel_rfl, fun wy hy => by (go_simp; done)⟩) hHeld ?_
   try simp only [Act.put, List.setIfInBounds_toArray, List.set_cons_zero, List.set_cons_succ]
   refine AnyE.take (i := 14) (.pointer (some ⟨g, t * 3, none⟩)) rfl (by kernel_rfl) (by kernel_rfl) (by kernel_rfl) (by kernel_rfl) (fun _ _ _ h => h) (.inl ⟨by kernel_rfl, fun wy hy => by (go_simp; done)⟩) hHeld ?_
   try simp only [Act.put, List.setIfInBounds_toArray, List.set_cons_zero, List.set_cons_succ]
   refine AnyE.take (i := 15) (.string x.1.1) rfl (by kernel_rfl) (by kernel_rfl) (by kernel_rfl) (by kernel_rfl) (fun _ _ _ h => h) (.inl ⟨by kernel_rfl, fun wy hy => by (have q0 := (hy.cell (p := ⟨g, t * 3, none⟩) lg).trans CX.out.1; go_simp; done)⟩) hHeld ?_
   try simp only [Act.put, List.setIfInBounds_toArray, List.set_cons_zero, List.set_cons_succ]
   refine AnyE.take (i := 16) (.pointer (some ⟨xb, 0, none⟩)) rfl (by kernel_rfl) (by kernel_rfl) (by kernel_rfl) (by kernel_rfl) (fun _ _ _ h => h) (.inl ⟨by kernel_rfl, fun wy hy => by (go_simp; done)⟩) hHeld ?_
   try simp only [Act.put, List.setIfInBounds_toArray, List.set_cons_zero, List.set_cons_succ]
   refine AnyE.take (i := 17) (.string s) rfl (by kernel_rfl) (by kernel_rfl) (by kernel_rfl) (by kernel_rfl) (fun _ _ _ h => h) (.inl ⟨by kernel_rfl, fun wy hy => by (have q0 : wy.cell? ⟨xb, 0, none⟩ = some (.string s) := (hy.cell (p := ⟨xb, 0, none⟩) lxb).trans (by simp [World.cell?, HC.out]); go_simp; done)⟩) hHeld ?_
   try simp only [Act.put, List.setIfInBounds_toArray, List.set_cons_zero, List.set_cons_succ]
   by_cases htA : t < A
   ·have hlt2 : nmL x.1.1 < nmL s := by
     have := aheadP_lt (s, bs, y) (l.map (·.1)) t x.1 (by rw [← HA.out.1]; exact htA) (by rw [List.getElem?_map, HX.out.1]; rfl)
     exact this
    rw [decide_eq_true hlt2] at hls
    have HLS := Lib.hid hls
    clear hls hlt2
    refine AnyE.take (i := 18) (.bool true) rfl (by kernel_rfl) (by kernel_rfl) (by kernel_rfl) (by kernel_rfl) (fun _ _ _ h => h) (.inl ⟨by kernel_rfl, fun wy hy => by (have q0 := HLS.out; go_simp; done)⟩) hHeld ?_
    try simp only [Act.put, List.setIfInBounds_toArray, List.set_cons_zero, List.set_cons_succ]
    refine AnyE.take (i := 19) (.bool true) rfl (by kernel_rfl) (by kernel_rfl) (by kernel_rfl) (by kernel_rfl) (fun _ _ _ h => h) (.inl ⟨by kernel_rfl, fun wy hy => by (go_simp; done)⟩) hHeld ?_
    try simp only [Act.put, List.setIfInBounds_toArray, List.set_cons_zero, List.set_cons_succ]
    refine AnyE.done (by kernel_rfl) (NoPanic.normal ?_) _
    clear hHeld
    go_simp
    go_step
    have HR := Lib.hid (And.intro (HR.out.1.later HB2.out) (HR.out.2.trans (HB2.out.mono HR.out.2.size)))
    obtain ⟨Z9, hZ9⟩ : ∃ z, z = Z0 := ⟨_, rfl⟩
    rw [← hZ9] at HR ⊢
    clear hZ9 HB2
    have q0 := (HR.out.2.cell (p := ⟨g, t * 3, none⟩) lg).trans CX.out.1
    have q1 := (HR.out.2.cell (p := ⟨g, t * 3 + 1, none⟩) lg).trans CX.out.2.1
    have q2 := (HR.out.2.cell (p := ⟨g, t * 3 + 2, none⟩) lg).trans CX.out.2.2
    have qf := (HH.out.below HR.out.2).box.cells.2.1
    go_wp2_with (at_builtin; refine wpl_frow1 rfl _ _ rfl (B := W.heap.size) (n := t) (v := .slice av t kv) (l := l.take t) rfl HR.out.1 x.1.1 (.slice xa nx xc) x.1.2.2 x.1.2.1 ⟨_, _, _, rfl⟩ rfl (by have := HN.out.2.1; omega) HR.out.2.size ?_; intro a5 c5 w5 r5 b5; refine Hid.out ?_)
    refine Lib.hid ?_
    have HR5 := Lib.hid (And.intro r5 (HR.out.2.trans b5))
    clear r5 b5 q0 q1 q2 qf
    go_wp2
    go_roundw
    case rel => exact ⟨t + 1, a5, c5, by have := HT.out; omega, by go_num, rfl, by rw [map_take1 HX.out.1]; have := HR5.out.1; rw [← HX.out.2] at this; exact this, HR5.out.2⟩
    case measure => simp [intOf]; omega
   ·have hlt2 : ¬ nmL x.1.1 < nmL s := by
     have htA2 : t = A := by have := HT.out; omega
     have := aheadP_ge (s, bs, y) (l.map (·.1)) x.1 (by rw [← HA.out.1, ← htA2, List.getElem?_map, HX.out.1]; rfl)
     exact this
    rw [decide_eq_false hlt2] at hls
    have HLS := Lib.hid hls
    clear hls hlt2
    refine AnyE.take (i := 18) (.bool false) rfl (by kernel_rfl) (by kernel_rfl) (by kernel_rfl) (by kernel_rfl) (fun _ _ _ h => h) (.inl ⟨by kernel_rfl, fun wy hy => by (have q0 := HLS.out; go_simp; done)⟩) hHeld ?_
    try simp only [Act.put, List.setIfInBounds_toArray, List.set_cons_zero, List.set_cons_succ]
    refine AnyE.take (i := 19) (.bool false) rfl (by kernel_rfl) (by kernel_rfl) (by kernel_rfl) (by kernel_rfl) (fun _ _ _ h => h) (.inl ⟨by kernel_rfl, fun wy hy => by (go_simp; done)⟩) hHeld ?_
    try simp only [Act.put, List.setIfInBounds_toArray, List.set_cons_zero, List.set_cons_succ]
    refine AnyE.done (by kernel_rfl) (NoPanic.normal ?_) _
    clear hHeld
    go_simp
    go_step
    have HR := Lib.hid (And.intro (HR.out.1.later HB2.out) (HR.out.2.trans (HB2.out.mono HR.out.2.size)))
    obtain ⟨Z9, hZ9⟩ : ∃ z, z = Z0 := ⟨_, rfl⟩
    rw [← hZ9] at HR ⊢
    clear hZ9 HB2
    have HTA : Hid (t = A) := by have := HT.out; unfold Hid; omega
    have u0 : Z9.cell? ⟨xb, 0, none⟩ = some (.string s) := (HR.out.2.cell (p := ⟨xb, 0, none⟩) lxb).trans (by simp [World.cell?, HC.out])
    have u1 : Z9.cell? ⟨xb, 1, none⟩ = some (.slice va vn vk) := (HR.out.2.cell (p := ⟨xb, 1, none⟩) lxb).trans (by simp [World.cell?, HC.out])
    have u2 : Z9.cell? ⟨xb, 2, none⟩ = some (.int .i64 (y : Int)) := (HR.out.2.cell (p := ⟨xb, 2, none⟩) lxb).trans (by simp [World.cell?, HC.out])
    go_wp2_with (at_builtin; refine wpl_frow1 rfl _ _ rfl (B := W.heap.size) (n := t) (v := .slice av t kv) (l := l.take t) rfl HR.out.1 s (.slice va vn vk) y bs ⟨_, _, _, rfl⟩ rfl (by have := HN.out.2.1; omega) HR.out.2.size ?_; intro a5 c5 w5 r5 b5; refine Hid.out ?_)
    refine Lib.hid ?_
    have HR5 := Lib.hid (And.intro r5 (HR.out.2.trans b5))
    clear r5 b5 u0 u1 u2
    have h5 := HH.out.below HR5.out.2
    have H5 := Lib.hid h5
    have q1 := h5.box.cells.2.1
    have z1 := h5.box.fz 1
    have i1 : (0 : Int) ≤ (t : Int) := by omega
    have i2 : (t : Int) ≤ (n : Int) := by omega
    have hnk := HN.out.2.2.1
    have i3 : (n : Int) ≤ (k : Int) := by omega
    have i4 : (t : Int) ≤ (k : Int) := by omega
    clear h5
    have hcl : ∀ j u, (fCells (l.drop t))[j]? = some u → w5.cell? ⟨g, t * 3 + j, none⟩ = some u := fun j u hu => by
     rw [fCells_drop, List.getElem?_drop] at hu
     obtain ⟨g2, e2, _, hc, _⟩ := H5.out.row.key hu
     cases e2
     exact hc
    have hdl : n - t = (l.drop t).length := by rw [List.length_drop, ← HN.out.1]
    have HCL := Lib.hid (And.intro hcl hdl)
    clear hcl hdl
    have hkt2 : ¬ ((k : Int) = (t : Int)) := by omega
    have hkt3 : ¬ (k = t) := by omega
    go_wp2_with (at_builtin; refine wpl_frows rfl _ _ rfl (B := W.heap.size) (n := t + 1) (m := n - t) (cp := k - t) (g := g) (off := t * 3) (v := .slice a5 (t + 1) c5) (l2 := l.drop t) rfl HR5.out.1 rfl HCL.out.2 HCL.out.1 (fun x hx => H0.out.shp x (List.mem_of_mem_drop hx)) (by have := HN.out.2.1; omega) HR5.out.2.size ?_; intro a6 c6 w6 r6 b6; refine Hid.out ?_)
    refine Lib.hid ?_
    have b6' := b6
    have b7 := HB.out.trans ((HR5.out.2.trans b6).mono HB.out.size)
    have hmap : (l.take t ++ ((s, bs, y), Value.slice va vn vk) :: l.drop t).map (·.1) = insP (l.map (·.1)) (s, bs, y) := by
     rw [insP_eq, ← HA.out.1, ← HTA.out, List.map_append, List.map_cons, List.map_take, List.map_drop]
    have hl2 : ((l.take t ++ [((s, bs, y), Value.slice va vn vk)]) ++ l.drop t) = l.take t ++ ((s, bs, y), .slice va vn vk) :: l.drop t := by simp
    simp only [List.append_assoc, List.singleton_append] at r6
    have D6 := put_dsk H0.out HV.out.1 HV.out.2 b7 t (r6.mono HB.out.size)
    have HD6 := Lib.hid D6
    have HMAP := Lib.hid hmap
    have z6 : w6.frozen? ⟨rB, 1, none⟩ = false := ((HH.out.below (HR5.out.2.trans b6)).box.fz 1)
    have q6 := (HH.out.below (HR5.out.2.trans b6)).box.cells.2.1
    clear r6 b6 b6' D6 hmap hl2 b7 z1 q1
    go_wp2
    go_end0
    exact ⟨rfl, _, _, _, _, _, HD6.out.1, HMAP.out, HD6.out.2⟩
  ·have j1 : ¬ (t : Int) < (n : Int) := by omega
   have j3 : (n : Int) ≤ (t : Int) := by omega
   have htA : ¬ t < A := by have := HA.out.2; omega
   go_upto_region 3 with fail
   have BD : Below wr.heap.size wr wr.drew := (Below.refl _ _).drew
   refine wp_region_noPanic ?_
   refine wp_region_anyE (S := fun wx => Below W.heap.size W wx) (E := fun j => true) (by kernel_rfl) ?_
   have hHeld : Below W.heap.size W wr.drew := HR.out.2.trans (BD.mono HR.out.2.size)
   have HB2 := Lib.hid BD
   have hZ0 : ∃ z, z = wr.drew := ⟨_, rfl⟩
   obtain ⟨Z0, hZ0⟩ := hZ0
   rw [← hZ0] at HB2 hHeld ⊢
   clear hZ0 BD
   refine AnyE.take (i := 0) (.int .i64 (t : Int)) rfl (by kernel_rfl) (by kernel_rfl) (by kernel_rfl) (by kernel_rfl) (fun _ _ _ h => h) (.inl ⟨by kernel_rfl, fun wy hy => by (go_simp; done)⟩) hHeld ?_
   try simp only [Act.put, List.setIfInBounds_toArray, List.set_cons_zero, List.set_cons_succ]
   refine AnyE.take (i := 1) (.pointer (some ⟨rB, 0, none⟩)) rfl (by kernel_rfl) (by kernel_rfl) (by kernel_rfl) (by kernel_rfl) (fun _ _ _ h => h) (.inl ⟨by kernel_rfl, fun wy hy => by (go_simp; done)⟩) hHeld ?_
   try simp only [Act.put, List.setIfInBounds_toArray, List.set_cons_zero, List.set_cons_succ]
   refine AnyE.take (i := 2) (.pointer (some ⟨rB, 0, none⟩)) rfl (by kernel_rfl) (by kernel_rfl) (by kernel_rfl) (by kernel_rfl) (fun _ _ _ h => h) (.inl ⟨by kernel_rfl, fun wy hy => by (go_simp; done)⟩) hHeld ?_
   try simp only [Act.put, List.setIfInBounds_toArray, List.set_cons_zero, List.set_cons_succ]
   refine AnyE.take (i := 3) (.pointer (some ⟨rB, 1, none⟩)) rfl (by kernel_rfl) (by kernel_rfl) (by kernel_rfl) (by kernel_rfl) (fun _ _ _ h => h) (.inl ⟨by kernel_rfl, fun wy hy => by (go_simp; done)⟩) hHeld ?_
   try simp only [Act.put, List.setIfInBounds_toArray, List.set_cons_zero, List.set_cons_succ]
   refine AnyE.take (i := 4) (.slice a n k) rfl (by kernel_rfl) (by kernel_rfl) (by kernel_rfl) (by kernel_rfl) (fun _ _ _ h => h) (.inl ⟨by kernel_rfl, fun wy hy => by (have qf := (HH.out.below hy).box.cells.2.1; go_simp; done)⟩) hHeld ?_
   try simp only [Act.put, List.setIfInBounds_toArray, List.set_cons_zero, List.set_cons_succ]
   refine AnyE.take (i := 5) (.int .i64 (n : Int)) rfl (by kernel_rfl) (by kernel_rfl) (by kernel_rfl) (by kernel_rfl) (fun _ _ _ h => h) (.inl ⟨by kernel_rfl, fun wy hy => by (cases a <;> go_simp; done)⟩) hHeld ?_
   try simp only [Act.put, List.setIfInBounds_toArray, List.set_cons_zero, List.set_cons_succ]
   refine AnyE.take (i := 6) (.bool false) rfl (by kernel_rfl) (by kernel_rfl) (by kernel_rfl) (by kernel_rfl) (fun _ _ _ h => h) (.inl ⟨by kernel_rfl, fun wy hy => by (go_simp; done)⟩) hHeld ?_
   try simp only [Act.put, List.setIfInBounds_toArray, List.set_cons_zero, List.set_cons_succ]
   refine AnyE.take (i := 7) (.bool false) rfl (by kernel_rfl) (by kernel_rfl) (by kernel_rfl) (by kernel_rfl) (fun _ _ _ h => h) (.inl ⟨by kernel_rfl, fun wy hy => by (go_simp; done)⟩) hHeld ?_
   try simp only [Act.put, List.setIfInBounds_toArray, List.set_cons_zero, List.set_cons_succ]
   refine AnyE.take (i := 8) undef rfl (by kernel_rfl) (by kernel_rfl) (by kernel_rfl) (by kernel_rfl) (fun _ _ _ h => h) (.inr ⟨by kernel_rfl, rfl⟩) hHeld ?_
   try simp only [Act.put, List.setIfInBounds_toArray, List.set_cons_zero, List.set_cons_succ]
   refine AnyE.take (i := 9) undef rfl (by kernel_rfl) (by kernel_rfl) (by kernel_rfl) (by kernel_rfl) (fun _ _ _ h => h) (.inr ⟨by kernel_rfl, rfl⟩) hHeld ?_
   try simp only [Act.put, List.setIfInBounds_toArray, List.set_cons_zero, List.set_cons_succ]
   refine AnyE.take (i := 10) undef rfl (by kernel_rfl) (by kernel_rfl) (by kernel_rfl) (by kernel_rfl) (fun _ _ _ h => h) (.inr ⟨by kernel_rfl, rfl⟩) hHeld ?_
   try simp only [Act.put, List.setIfInBounds_toArray, List.set_cons_zero, List.set_cons_succ]
   refine AnyE.take (i := 11) undef rfl (by kernel_rfl) (by kernel_rfl) (by kernel_rfl) (by kernel_rfl) (fun _ _ _ h => h) (.inr ⟨by kernel_rfl, rfl⟩) hHeld ?_
   try simp only [Act.put, List.setIfInBounds_toArray, List.set_cons_zero, List.set_cons_succ]
   refine AnyE.take (i := 12) undef rfl (by kernel_rfl) (by kernel_rfl) (by kernel_rfl) (by kernel_rfl) (fun _ _ _ h => h) (.inr ⟨by kernel_rfl, rfl⟩) hHeld ?_
   try simp only [Act.put, List.setIfInBounds_toArray, List.set_cons_zero, List.set_cons_succ]
   refine AnyE.take (i := 13) undef rfl (by kernel_rfl) (by kernel_rfl) (by kernel_rfl) (by kernel_rfl) (fun _ _ _ h => h) (.inr ⟨by kernel_rfl, rfl⟩) hHeld ?_
   try simp only [Act.put, List.setIfInBounds_toArray, List.set_cons_zero, List.set_cons_succ]
   refine AnyE.take (i := 14) undef rfl (by kernel_rfl) (by kernel_rfl) (by kernel_rfl) (by kernel_rfl) (fun _ _ _ h => h) (.inr ⟨by kernel_rfl, rfl⟩) hHeld ?_
   try simp only [Act.put, List.setIfInBounds_toArray, List.set_cons_zero, List.set_cons_succ]
   refine AnyE.take (i := 15) undef rfl (by kernel_rfl) (by kernel_rfl) (by kernel_rfl) (by kernel_rfl) (fun _ _ _ h => h) (.inr ⟨by kernel_rfl, rfl⟩) hHeld ?_
   try simp only [Act.put, List.setIfInBounds_toArray, List.set_cons_zero, List.set_cons_succ]
   refine AnyE.take (i := 16) undef rfl (by kernel_rfl) (by kernel_rfl) (by kernel_rfl) (by kernel_rfl) (fun _ _ _ h => h) (.inr ⟨by kernel_rfl, rfl⟩) hHeld ?_
   try simp only [Act.put, List.setIfInBounds_toArray, List.set_cons_zero, List.set_cons_succ]
   refine AnyE.take (i := 17) undef rfl (by kernel_rfl) (by kernel_rfl) (by kernel_rfl) (by kernel_rfl) (fun _ _ _ h => h) (.inr ⟨by kernel_rfl, rfl⟩) hHeld ?_
   try simp only [Act.put, List.setIfInBounds_toArray, List.set_cons_zero, List.set_cons_succ]
   refine AnyE.take (i := 18) undef rfl (by kernel_rfl) (by kernel_rfl) (by kernel_rfl) (by kernel_rfl) (fun _ _ _ h => h) (.inr ⟨by kernel_rfl, rfl⟩) hHeld ?_
   try simp only [Act.put, List.setIfInBounds_toArray, List.set_cons_zero, List.set_cons_succ]
   refine AnyE.take (i := 19) (.bool false) rfl (by kernel_rfl) (by kernel_rfl) (by kernel_rfl) (by kernel_rfl) (fun _ _ _ h => h) (.inl ⟨by kernel_rfl, fun wy hy => by (go_simp; done)⟩) hHeld ?_
   try simp only [Act.put, List.setIfInBounds_toArray, List.set_cons_zero, List.set_cons_succ]
   refine AnyE.done (by kernel_rfl) (NoPanic.normal ?_) _
   clear hHeld
   go_simp
   go_step
   have HR := Lib.hid (And.intro (HR.out.1.later HB2.out) (HR.out.2.trans (HB2.out.mono HR.out.2.size)))
   obtain ⟨Z9, hZ9⟩ : ∃ z, z = Z0 := ⟨_, rfl⟩
   rw [← hZ9] at HR ⊢
   clear hZ9 HB2
   have HTA : Hid (t = A) := by have := HT.out; unfold Hid; omega
   have u0 : Z9.cell? ⟨xb, 0, none⟩ = some (.string s) := (HR.out.2.cell (p := ⟨xb, 0, none⟩) lxb).trans (by simp [World.cell?, HC.out])
   have u1 : Z9.cell? ⟨xb, 1, none⟩ = some (.slice va vn vk) := (HR.out.2.cell (p := ⟨xb, 1, none⟩) lxb).trans (by simp [World.cell?, HC.out])
   have u2 : Z9.cell? ⟨xb, 2, none⟩ = some (.int .i64 (y : Int)) := (HR.out.2.cell (p := ⟨xb, 2, none⟩) lxb).trans (by simp [World.cell?, HC.out])
   go_wp2_with (at_builtin; refine wpl_frow1 rfl _ _ rfl (B := W.heap.size) (n := t) (v := .slice av t kv) (l := l.take t) rfl HR.out.1 s (.slice va vn vk) y bs ⟨_, _, _, rfl⟩ rfl (by have := HN.out.2.1; omega) HR.out.2.size ?_; intro a5 c5 w5 r5 b5; refine Hid.out ?_)
   refine Lib.hid ?_
   have HR5 := Lib.hid (And.intro r5 (HR.out.2.trans b5))
   clear r5 b5 u0 u1 u2
   have h5 := HH.out.below HR5.out.2
   have H5 := Lib.hid h5
   have q1 := h5.box.cells.2.1
   have z1 := h5.box.fz 1
   have i1 : (0 : Int) ≤ (t : Int) := by omega
   have i2 : (t : Int) ≤ (n : Int) := by omega
   have hnk := HN.out.2.2.1
   have i3 : (n : Int) ≤ (k : Int) := by omega
   have i4 : (t : Int) ≤ (k : Int) := by omega
   clear h5
   have htn2 : t = n := by omega
   subst htn2
   have hform := H5.out.row.row.2
   rcases hform with ⟨e, e0⟩ | ⟨g, cap2, cur, e, _, _, _⟩
   ·simp only [Value.slice.injEq] at e
    obtain ⟨rfl, rfl, rfl⟩ := e
    have hdn : l.drop 0 = [] := List.drop_eq_nil_of_le (by rw [← HN.out.1]; omega)
    have HDN := Lib.hid hdn
    clear hdn
    go_wp2_with (at_builtin; refine wpl_frow0 rfl _ _ rfl (B := W.heap.size) (n := 0 + 1) (v := .slice a5 (0 + 1) c5) rfl HR5.out.1 rfl HR5.out.2.size ?_; intro a6 c6 w6 r6 b6; refine Hid.out ?_)
    refine Lib.hid ?_
    have b6' := b6
    have b7 := HB.out.trans ((HR5.out.2.trans b6).mono HB.out.size)
    have hmap : (l.take 0 ++ ((s, bs, y), Value.slice va vn vk) :: l.drop 0).map (·.1) = insP (l.map (·.1)) (s, bs, y) := by
     rw [insP_eq, ← HA.out.1, ← HTA.out, List.map_append, List.map_cons, List.map_take, List.map_drop]
    have hl2 : ((l.take 0 ++ [((s, bs, y), Value.slice va vn vk)]) ++ l.drop 0) = l.take 0 ++ ((s, bs, y), .slice va vn vk) :: l.drop 0 := by simp
    rw [show l.take 0 ++ [((s, bs, y), Value.slice va vn vk)] = l.take 0 ++ ((s, bs, y), .slice va vn vk) :: l.drop 0 by rw [HDN.out]] at r6
    have D6 := put_dsk H0.out HV.out.1 HV.out.2 b7 0 (r6.mono HB.out.size)
    have HD6 := Lib.hid D6
    have HMAP := Lib.hid hmap
    have z6 : w6.frozen? ⟨rB, 1, none⟩ = false := ((HH.out.below (HR5.out.2.trans b6)).box.fz 1)
    have q6 := (HH.out.below (HR5.out.2.trans b6)).box.cells.2.1
    clear r6 b6 b6' D6 hmap hl2 b7 z1 q1
    go_wp2
    go_end0
    exact ⟨rfl, _, _, _, _, _, HD6.out.1, HMAP.out, HD6.out.2⟩
   ·simp only [Value.slice.injEq] at e
    obtain ⟨rfl, _, rfl⟩ := e
    have hcl : ∀ j u, (fCells (l.drop t))[j]? = some u → w5.cell? ⟨g, 0 + j, none⟩ = some u := fun j u hu => by
     rw [List.drop_eq_nil_of_le (by rw [← HN.out.1]; omega)] at hu
     simp [fCells] at hu
    have hcl2 : ∀ j u, (fCells (l.drop t))[j]? = some u → w5.cell? ⟨g, t * 3 + j, none⟩ = some u := fun j u hu => by
     rw [List.drop_eq_nil_of_le (by rw [← HN.out.1]; omega)] at hu
     simp [fCells] at hu
    have hdl : t - t = (l.drop t).length := by rw [List.length_drop, ← HN.out.1]
    by_cases hkt : k = t
    ·have HCL := Lib.hid (And.intro hcl hdl)
     clear hcl hcl2 hdl
     subst hkt
     go_wp2_with (at_builtin; refine wpl_frows rfl _ _ rfl (B := W.heap.size) (n := k + 1) (m := 0) (cp := 0) (g := g) (off := 0) (v := .slice a5 (k + 1) c5) (l2 := l.drop k) rfl HR5.out.1 rfl (by have := HCL.out.2; omega) HCL.out.1 (fun x hx => H0.out.shp x (List.mem_of_mem_drop hx)) (by have := HN.out.2.1; omega) HR5.out.2.size ?_; intro a6 c6 w6 r6 b6; refine Hid.out ?_)
     refine Lib.hid ?_
     have b6' := b6
     have b7 := HB.out.trans ((HR5.out.2.trans b6).mono HB.out.size)
     have hmap : (l.take k ++ ((s, bs, y), Value.slice va vn vk) :: l.drop k).map (·.1) = insP (l.map (·.1)) (s, bs, y) := by
      rw [insP_eq, ← HA.out.1, ← HTA.out, List.map_append, List.map_cons, List.map_take, List.map_drop]
     have hl2 : ((l.take k ++ [((s, bs, y), Value.slice va vn vk)]) ++ l.drop k) = l.take k ++ ((s, bs, y), .slice va vn vk) :: l.drop k := by simp
     simp only [List.append_assoc, List.singleton_append] at r6
     have D6 := put_dsk H0.out HV.out.1 HV.out.2 b7 k (r6.mono HB.out.size)
     have HD6 := Lib.hid D6
     have HMAP := Lib.hid hmap
     have z6 : w6.frozen? ⟨rB, 1, none⟩ = false := ((HH.out.below (HR5.out.2.trans b6)).box.fz 1)
     have q6 := (HH.out.below (HR5.out.2.trans b6)).box.cells.2.1
     clear r6 b6 b6' D6 hmap hl2 b7 z1 q1
     go_wp2
     go_end0
     exact ⟨rfl, _, _, _, _, _, HD6.out.1, HMAP.out, HD6.out.2⟩
    ·have HCL := Lib.hid (And.intro hcl2 hdl)
     clear hcl hcl2 hdl
     have hkt2 : ¬ ((k : Int) = (t : Int)) := by omega
     go_wp2_with (at_builtin; refine wpl_frows rfl _ _ rfl (B := W.heap.size) (n := t + 1) (m := 0) (cp := k - t) (g := g) (off := t * 3) (v := .slice a5 (t + 1) c5) (l2 := l.drop t) rfl HR5.out.1 rfl (by have := HCL.out.2; omega) HCL.out.1 (fun x hx => H0.out.shp x (List.mem_of_mem_drop hx)) (by have := HN.out.2.1; omega) HR5.out.2.size ?_; intro a6 c6 w6 r6 b6; refine Hid.out ?_)
     refine Lib.hid ?_
     have b6' := b6
     have b7 := HB.out.trans ((HR5.out.2.trans b6).mono HB.out.size)
     have hmap : (l.take t ++ ((s, bs, y), Value.slice va vn vk) :: l.drop t).map (·.1) = insP (l.map (·.1)) (s, bs, y) := by
      rw [insP_eq, ← HA.out.1, ← HTA.out, List.map_append, List.map_cons, List.map_take, List.map_drop]
     have hl2 : ((l.take t ++ [((s, bs, y), Value.slice va vn vk)]) ++ l.drop t) = l.take t ++ ((s, bs, y), .slice va vn vk) :: l.drop t := by simp
     simp only [List.append_assoc, List.singleton_append] at r6
     have D6 := put_dsk H0.out HV.out.1 HV.out.2 b7 t (r6.mono HB.out.size)
     have HD6 := Lib.hid D6
     have HMAP := Lib.hid hmap
     have z6 : w6.frozen? ⟨rB, 1, none⟩ = false := ((HH.out.below (HR5.out.2.trans b6)).box.fz 1)
     have q6 := (HH.out.below (HR5.out.2.trans b6)).box.cells.2.1
     clear r6 b6 b6' D6 hmap hl2 b7 z1 q1
     go_wp2
     go_end0
     exact ⟨rfl, _, _, _, _, _, HD6.out.1, HMAP.out, HD6.out.2⟩
end Go.Proofs.Ytlkhphhmhffdjaa

namespace Go.Proofs.Ytlkhphhmhffdjaa
open Go.RowKit Go.MapKept Go.Sort
variable {w w' W X : World} {O O' : Nat → Prop} {dB rB : Nat} {d : Dk4}
variable {a : Option Addr} {n k : Nat} {l : List (PF × Value)} {cap arm : Int} {off : Bool} {c : Nat → Int}
def dropR (l : List (PF × Value)) (s : ByteArray) : List (PF × Value) := l.filter (fun x => decide (x.1.1 ≠ s))
theorem dropR_map (l : List (PF × Value)) (s : ByteArray) : (dropR l s).map (·.1) = (l.map (·.1)).filter (fun p => decide (p.1 ≠ s)) := by
 unfold dropR
 rw [List.filter_map]
 rfl
theorem drop_dsk {a6 : Option Addr} {n6 c6 : Nat} {s : ByteArray} (h : RDM w O rB a n k l cap off arm c) (b : Below w.heap.size w W) (r : FRow W w.heap.size (.slice a6 n6 c6) n6 (dropR l s)) :
  RDM (W.setCell ⟨rB, 1, none⟩ (.slice a6 n6 c6)) (fun i => O i ∨ (w.heap.size ≤ i ∧ i < W.heap.size)) rB a6 n6 c6 (dropR l s) cap off arm c ∧ Go4 w (W.setCell ⟨rB, 1, none⟩ (.slice a6 n6 c6)) O (fun i => O i ∨ (w.heap.size ≤ i ∧ i < W.heap.size)) ∧ (∀ i, i < w.heap.size → i ≠ rB → (W.setCell ⟨rB, 1, none⟩ (.slice a6 n6 c6)).heap[i]? = w.heap[i]?) := by
 have hb := h.below b
 have lr := h.lt _ h.orb
 refine ⟨hb.setRow (r.mono (Nat.zero_le _)) (fun i hi => .inl hi) (fun g hg => ?_) (fun x hx => ?_) (h.nod.sublist List.filter_sublist) (fun i hi => hi.elim (fun z => hb.lt i z) (fun z => z.2)), ?_, fun i hi hne => ?_⟩
 ·have := r.row.lt g hg
  exact ⟨.inr this, by omega⟩
 ·have hx := (List.mem_filter.1 hx).1
  exact ⟨(hb.dat x hx).kept (fun g hg => ⟨rfl, .inl ((hb.dat x hx).blk g hg)⟩), fun g hg => hb.neDat hx hg⟩
 ·have g1 := (Go4.of_below (O := O) b).trans (Go4.of_set (a := ⟨rB, 1, none⟩) h.orb (.slice a6 n6 c6))
  exact ⟨g1.os, g1.tape, g1.output, g1.size, g1.block, fun i hi => hi.elim .inl (fun z => .inr z.1)⟩
 ·rw [heap_setCell_other _ _ _ _ hne]
  exact b.block i hi
set_option maxRecDepth 100000 in
set_option maxHeartbeats 8000000 in
theorem rDrop_any (h : RDM w O rB a n k l cap off arm c) (hl : n ≤ 1000) (s : ByteArray) :
  Calls Try.prog 52 #[.pointer (some ⟨rB, 0, none⟩), .string s] w fun e w' => e = .returned (.tuple #[]) ∧ ∃ O2 a2 n2 k2, (RDM w' O2 rB a2 n2 k2 (dropR l s) cap off arm c ∧ Go4 w w' O O2) ∧ (∀ i, O i → O2 i) ∧ (∀ i, i < w.heap.size → i ≠ rB → w'.heap[i]? = w.heap[i]?) := by
 have hn := h.row.len
 have hk : n ≤ 9223372036854775807 := by omega
 have H0 := Lib.hid h
 have HN := Lib.hid (And.intro hn hl)
 have c1 := h.box.cells.2.1
 clear h hn hl
 go_enter Try.func52, Try.ntmps52
 go_wp2
 go_loopw [4, 5] (fun v i wr => ∃ (t m : Nat) (av : Option Addr) (kv : Nat), t ≤ n ∧ m ≤ t ∧ i = .int .i64 (t : Int) ∧ v = .slice av m kv ∧ FRow wr w.heap.size (.slice av m kv) m (dropR (l.take t) s) ∧ Below w.heap.size w wr) (fun _ i _ => n - (intOf i).toNat)
 case atStart => exact ⟨0, 0, none, 0, Nat.zero_le _, Nat.le_refl _, rfl, rfl, FRow.nil _ _, Below.refl _ _⟩
 case round =>
  clear c1
  obtain ⟨t, m, av, kv, ht, hmt, rfl, rfl, hrow, hbw⟩ := hrel
  have HR := Lib.hid (And.intro hrow hbw)
  have c1 := (H0.out.below hbw).box.cells.2.1
  have z1 := (H0.out.below hbw).box.fz 1
  clear hrow hbw
  by_cases hlt : t < n
  ·have j1 : (t : Int) < (n : Int) := by omega
   have j2 : (0 : Int) ≤ (t : Int) := by omega
   have hx : ∃ x, l[t]? = some x := ⟨_, List.getElem?_eq_getElem (by rw [← HN.out.1]; exact hlt)⟩
   obtain ⟨x, hx⟩ := hx
   obtain ⟨g, hag, _, q0, q1, q2⟩ := (H0.out.below HR.out.2).row.at_ hx
   subst hag
   obtain ⟨xa, xc, hxv⟩ := (H0.out.dat x (List.mem_of_getElem? hx)).form
   rw [hxv] at q1
   have hnx : ∃ nx, nx = x.1.2.1.length := ⟨_, rfl⟩
   obtain ⟨nx, hnx⟩ := hnx
   rw [← hnx] at q1 hxv
   have HX := Lib.hid (And.intro hx hxv)
   have he := eq_str (a := x.1.1) (b := s)
   have hstep : dropR (l.take (t + 1)) s = dropR (l.take t) s ++ (if x.1.1 ≠ s then [x] else []) := by
    unfold dropR
    rw [map_take1 hx, List.filter_append]
    congr 1
    by_cases e : x.1.1 = s <;> simp [e]
   clear hx hxv hnx
   by_cases hs : x.1.1 = s
   ·rw [decide_eq_true hs] at he
    rw [if_neg (fun z => z hs), List.append_nil] at hstep
    have HST := Lib.hid hstep
    have HS := Lib.hid hs
    clear hs hstep
    go_wp2
    go_roundw
    case rel => exact ⟨t + 1, m, av, kv, by omega, by omega, by go_num, rfl, by rw [HST.out]; exact HR.out.1, HR.out.2⟩
    case measure => simp [intOf]; omega
   ·rw [decide_eq_false hs] at he
    rw [if_pos hs] at hstep
    have HST := Lib.hid hstep
    have HS := Lib.hid hs
    clear hs hstep
    go_wp2_with (at_builtin; refine wpl_frow1 rfl _ _ rfl (B := w.heap.size) (n := m) (v := .slice av m kv) (l := dropR (l.take t) s) rfl HR.out.1 x.1.1 (.slice xa nx xc) x.1.2.2 x.1.2.1 ⟨_, _, _, rfl⟩ rfl (by have := HN.out.2; omega) HR.out.2.size ?_; intro a5 c5 w5 r5 b5; refine Hid.out ?_)
    refine Lib.hid ?_
    have HR5 := Lib.hid (And.intro r5 (HR.out.2.trans b5))
    clear r5 b5 q0 q1 q2 c1 z1
    go_wp2
    go_roundw
    case rel => exact ⟨t + 1, m + 1, a5, c5, by omega, by omega, by go_num, rfl, by rw [HST.out]; have := HR5.out.1; rw [← HX.out.2] at this; exact this, HR5.out.2⟩
    case measure => simp [intOf]; omega
  ·have j1 : (n : Int) ≤ (t : Int) := by omega
   have hall : l.take t = l := List.take_of_length_le (by rw [← HN.out.1]; omega)
   have r := HR.out.1
   rw [hall] at r
   have D6 := Lib.hid (drop_dsk H0.out HR.out.2 r)
   clear r hall hlt
   go_wp2
   go_end0
   exact ⟨rfl, _, _, _, _, ⟨D6.out.1, D6.out.2.1⟩, fun i hi => .inl hi, D6.out.2.2⟩
end Go.Proofs.Ytlkhphhmhffdjaa

namespace Go.Proofs.Ytlkhphhmhffdjaa
open Go.RowKit Go.MapKept Go.Sort
variable {w w' W X : World} {O O' : Nat → Prop} {dB rB : Nat} {d r : Dk4}
theorem FsOk.perm {cap : Int} {l m : List PF} (h : FsOk cap l) (p : l.Perm m) : FsOk cap m :=
 ⟨by rw [← totP_perm p]; exact h.tot, fun x hx => h.nam x (p.mem_iff.2 hx), by rw [← p.length_eq]; exact h.cnt, fun x hx => h.syn x (p.mem_iff.2 hx), nod_perm p h.nod⟩
def RD (w : World) (O : Nat → Prop) (rB : Nat) (r : Dk4) : Prop := (r.Ok ∧ Srt r.fs) ∧ ∃ a n k l, RDM w O rB a n k l r.cap r.down r.arm r.c ∧ l.map (·.1) = r.fs
theorem RD.kept (h : RD w O rB r) (q : ∀ i, O i → w'.heap[i]? = w.heap[i]?) (hs : w.heap.size ≤ w'.heap.size) : RD w' O rB r := by
 obtain ⟨ok, a, n, k, l, hm, hl⟩ := h
 exact ⟨ok, a, n, k, l, hm.kept q hs, hl⟩
theorem RD.below (h : RD w O rB r) (b : Below w.heap.size w w') : RD w' O rB r := by
 obtain ⟨ok, a, n, k, l, hm, hl⟩ := h
 exact ⟨ok, a, n, k, l, hm.below b, hl⟩
theorem RD.lt (h : RD w O rB r) : ∀ i, O i → i < w.heap.size := by
 obtain ⟨ok, a, n, k, l, hm, hl⟩ := h
 exact hm.lt
def AnsR (w : World) (O : Nat → Prop) (rB : Nat) (q : Int × Dk4) (e : Ending) (w' : World) : Prop := e = .returned (.int .i64 q.1) ∧ ∃ O2, RD w' O2 rB q.2 ∧ Go4 w w' O O2
theorem rdy_dn {down : Bool} {ss : List ByteArray} (h : rdyN down ss = 0) : down = false := by
 unfold rdyN at h
 cases down with
 | true => cases h
 | false => rfl
theorem actP_1 {torn : Bool} {f : List PF} {x : Nat → Int} (h : r.arm = 1) : actP r torn f x = (3, if torn = true then ⟨f, r.cap, 0, true, setCt x 0 (wrap64 (x 0 + 1))⟩ else ⟨r.fs, r.cap, 0, true, r.c⟩) := by
 unfold actP
 rw [if_pos h]
theorem actP_n {torn : Bool} {f : List PF} {x : Nat → Int} (h : ¬ r.arm = 1) (h0 : 0 ≤ r.arm) (hd : r.down = false) : lastP r.down r.arm = (false, false, if 0 < r.arm then r.arm - 1 else 0) ∧ actP r torn f x = (0, ⟨f, r.cap, if 0 < r.arm then r.arm - 1 else 0, false, setCt x 0 (wrap64 (x 0 + 1))⟩) := by
 constructor
 ·unfold lastP
  rw [hd]
  by_cases h0' : r.arm = 0
  ·rw [if_pos h0', h0']; rfl
  ·rw [if_neg h0', if_neg h, if_pos (by omega)]
 ·unfold actP
  rw [if_neg h, hd]
theorem lastP_1 {off : Bool} : lastP off 1 = (true, true, 0) := rfl
def createR (r : Dk4) (s : ByteArray) : Int × Dk4 :=
 if rdyN r.down [s] ≠ 0 then (rdyN r.down [s], r)
 else if (atP r.fs s).isSome then (41, r)
 else if 256 ≤ r.fs.length then (44, r)
 else actP r false (insP r.fs (s, [], 0)) r.c
theorem ok_ins {f : PF} (ok : r.Ok) (h : FsOk r.cap (setP r.fs f)) (hn : atP r.fs f.1 = none) : FsOk r.cap (insP r.fs f) := by
 refine h.perm ?_
 rw [setP_new (atP_none hn)]
 exact (List.perm_append_comm).trans (insP_perm f r.fs).symm
set_option maxRecDepth 100000 in
set_option maxHeartbeats 4000000 in
theorem rCreate_any {s : ByteArray} (h : RD w O rB r) : Calls Try.prog 23 #[.pointer (some ⟨rB, 0, none⟩), .string s] w (AnsR w O rB (createR r s)) := by
 have h9 := h
 obtain ⟨⟨ok, srt⟩, a, n, k, l, hm, hl⟩ := h
 obtain ⟨R, hR⟩ : ∃ R, R = createR r s := ⟨_, rfl⟩
 rw [← hR]
 unfold createR at hR
 have HASK := Lib.hid (rAsked_any hm s)
 have HAT := Lib.hid (rAt_any hm s)
 have HLAST := Lib.hid (rLast_any hm ok.arm0 ok.arm1)
 have hn : n = r.fs.length := by rw [← hl, List.length_map]; exact hm.row.len
 have c1 := hm.box.cells.2.1
 have z1 := hm.box.fz 1
 obtain ⟨kk, hk⟩ : ∃ kk, kk = rdyN r.down [s] := ⟨_, rfl⟩
 rw [← hk] at HASK hR
 have HM := Lib.hid (And.intro hm (And.intro hl hn))
 have HOK := Lib.hid (And.intro ok srt)
 have HR := Lib.hid hR
 have HK := Lib.hid hk
 have H9 := Lib.hid h9
 clear ok srt hm hl hn hk hR h9
 by_cases h0 : kk = 0
 ·subst h0
  have hdn := rdy_dn HK.out.symm
  cases hi : idxP (l.map (·.1)) s with
  | some i =>
   have e2 : idxI (l.map (·.1)) s = (i : Int) := by unfold idxI; rw [hi]
   rw [e2] at HAT
   obtain ⟨v, h1, h2, h3⟩ := idxP_some hi
   have hRR : R = (41, r) := by rw [HR.out, if_neg (by simp), if_pos (by rw [← HM.out.2.1, h2]; rfl)]
   subst hRR
   have i0 : (0 : Int) ≤ (i : Int) := by omega
   clear e2 hi h1 h2 h3 hdn
   go_enter Try.func23, Try.ntmps23
   go_wp2_with fail
   refine HASK.out.mono ?_
   rintro e w2 ⟨rfl, rfl⟩
   go_wp2_with fail
   refine HAT.out.mono ?_
   rintro e w2 ⟨rfl, rfl⟩
   go_wp2
   go_ret
   exact ⟨rfl, O, H9.out, Go4.refl _ _⟩
  | none =>
   have e2 : idxI (l.map (·.1)) s = -1 := by unfold idxI; rw [hi]
   rw [e2] at HAT
   have hno : atP r.fs s = none := by rw [← HM.out.2.1]; exact (idxP_none hi).1
   have HNO := Lib.hid hno
   clear e2 hi
   by_cases h256 : 256 ≤ n
   ·have i1 : (256 : Int) ≤ (n : Int) := by omega
    have hRR : R = (44, r) := by rw [HR.out, if_neg (by simp), hno, if_neg (by simp), if_pos (by rw [← HM.out.2.2]; exact h256)]
    subst hRR
    clear h256 hno hdn
    go_enter Try.func23, Try.ntmps23
    go_wp2_with fail
    refine HASK.out.mono ?_
    rintro e w2 ⟨rfl, rfl⟩
    go_wp2_with fail
    refine HAT.out.mono ?_
    rintro e w2 ⟨rfl, rfl⟩
    go_wp2
    go_ret
    exact ⟨rfl, O, H9.out, Go4.refl _ _⟩
   ·have i1 : ¬ (256 : Int) ≤ (n : Int) := by omega
    have hRR : R = actP r false (insP r.fs (s, [], 0)) r.c := by rw [HR.out, if_neg (by simp), hno, if_neg (by simp), if_neg (by rw [← HM.out.2.2]; exact h256)]
    have HDN := Lib.hid hdn
    have H256 := Lib.hid h256
    clear h256 hno hdn
    by_cases ha : r.arm = 1
    ·rw [actP_1 ha] at hRR
     rw [ha, lastP_1] at HLAST
     simp only [Bool.false_eq_true, if_false] at hRR
     subst hRR
     have HAR := Lib.hid ha
     clear ha
     go_enter Try.func23, Try.ntmps23
     go_wp2_with fail
     refine HASK.out.mono ?_
     rintro e w2 ⟨rfl, rfl⟩
     go_wp2_with fail
     refine HAT.out.mono ?_
     rintro e w2 ⟨rfl, rfl⟩
     go_wp2_with fail
     refine HLAST.out.mono ?_
     rintro e w3 ⟨rfl, h3, g3⟩
     have H3 := Lib.hid (And.intro h3 g3)
     clear h3 g3
     go_wp2
     go_ret
     exact ⟨rfl, O, ⟨⟨HOK.out.1.mk2 HOK.out.1.fs (by decide) (by decide) true r.c, HOK.out.2⟩, a, n, k, l, H3.out.1, HM.out.2.1⟩, H3.out.2⟩
    ·have hl2 := actP_n (torn := false) (f := insP r.fs (s, [], 0)) (x := r.c) ha HOK.out.1.arm0 HDN.out
     rw [hl2.2] at hRR
     rw [hl2.1] at HLAST
     obtain ⟨A1, hA1⟩ : ∃ A1, A1 = if 0 < r.arm then r.arm - 1 else 0 := ⟨_, rfl⟩
     rw [← hA1] at hRR HLAST
     have HA1 : Hid (0 ≤ A1 ∧ A1 ≤ 9223372036854775807) := by
      have h0 := HOK.out.1.arm0
      have h1 := HOK.out.1.arm1
      rw [hA1]
      unfold Hid
      split <;> omega
     clear hA1
     subst hRR
     have HAR := Lib.hid ha
     clear ha hl2
     go_enter Try.func23, Try.ntmps23
     go_wp2_with fail
     refine HASK.out.mono ?_
     rintro e w2 ⟨rfl, rfl⟩
     go_wp2_with fail
     refine HAT.out.mono ?_
     rintro e w2 ⟨rfl, rfl⟩
     go_wp2_with fail
     refine HLAST.out.mono ?_
     rintro e w3 ⟨rfl, h3, g3⟩
     have H3 := Lib.hid (And.intro h3 g3)
     clear h3 g3 c1 z1
     go_wp2_with fail
     refine (rPut_any (s := s) (y := 0) (bs := []) H3.out.1 (by have := H256.out; omega) (OwnO.nil w3 O) (fun x hx g hg e => by cases e)).mono ?_
     rintro e w4 ⟨rfl, O4, a4, n4, k4, l4, h4, hl4, g4⟩
     have H4 := Lib.hid (And.intro h4 (And.intro hl4 (H3.out.2.trans g4)))
     have c4 := h4.box.cells.2.2.2.2.1
     have z4 := h4.box.fz 4
     have HO := Lib.hid h4.orb
     clear h4 hl4 g4
     go_wp2
     go_ret
     refine ⟨rfl, O4, ⟨⟨HOK.out.1.mk2 (ok_ins HOK.out.1 (fsOk_create HOK.out.1 (rdy_name HK.out.symm s (by simp)) HNO.out (by rw [← HM.out.2.2]; exact H256.out)) HNO.out) HA1.out.1 HA1.out.2 false _, insP_srt HOK.out.2 (atP_none HNO.out)⟩, a4, n4, k4, l4, H4.out.1.setCt 0 (by decide) _, by rw [H4.out.2.1, HM.out.2.1]⟩, H4.out.2.2.trans (Go4.of_set (a := ⟨rB, 4, none⟩) HO.out _)⟩
 ·have h0n : (kk != 0) = true := by simp [h0]
  have hRR : R = (kk, r) := by rw [HR.out, if_pos h0]
  subst hRR
  go_enter Try.func23, Try.ntmps23
  go_wp2_with fail
  refine HASK.out.mono ?_
  rintro e w2 ⟨rfl, rfl⟩
  go_wp2
  go_ret
  exact ⟨rfl, O, H9.out, Go4.refl _ _⟩
end Go.Proofs.Ytlkhphhmhffdjaa

namespace Go.Proofs.Ytlkhphhmhffdjaa
open Go.RowKit Go.MapKept Go.Sort
variable {w w' W X : World} {O O' : Nat → Prop} {dB rB : Nat} {d r : Dk4}
variable {a : Option Addr} {n k : Nat} {l : List (PF × Value)} {cap arm : Int} {off : Bool} {c : Nat → Int}
theorem ct_swap {c : Nat → Int} {k : Nat} {x y : Int} (hk : k ≠ 0) : setCt (setCt c 0 x) k y = setCt (setCt c k y) 0 x := by
 funext i
 unfold setCt
 by_cases h1 : i = k
 ·subst h1; simp [hk]
 ·by_cases h2 : i = 0
  ·subst h2; simp [Ne.symm hk]
  ·simp [h1, h2]
theorem ct_0 {c : Nat → Int} {k : Nat} {y : Int} (hk : k ≠ 0) : setCt c k y 0 = c 0 := by
 unfold setCt
 rw [if_neg (Ne.symm hk)]
theorem srt_names {l m : List PF} (h : Srt l) (e : m.map (·.1) = l.map (·.1)) : Srt m := by
 unfold Srt at *
 have h1 : (l.map (·.1)).Pairwise (fun p q => nmL p < nmL q) := by rw [List.pairwise_map]; exact h
 rw [← e, List.pairwise_map] at h1
 exact h1
theorem setP_idx {s : ByteArray} {v : List Nat × Nat} : ∀ {l : List PF} {i : Nat}, idxP l s = some i → setP l (s, v) = l.set i (s, v)
 | x :: xs, i, h => by
  by_cases e : x.1 = s
  ·rw [idxP, if_pos e] at h
   cases h
   simp [setP, e]
  ·rw [idxP, if_neg e] at h
   obtain ⟨j, hj, rfl⟩ := Option.map_eq_some_iff.1 h
   simp [setP, e, setP_idx hj]
theorem fCells_setS {x : PF × Value} {y : Nat} : ∀ {l : List (PF × Value)} {i : Nat}, l[i]? = some x → fCells (l.set i ((x.1.1, x.1.2.1, y), x.2)) = (fCells l).set (i * 3 + 2) (.int .i64 (y : Int))
 | z :: zs, 0, h => by simp at h; subst h; simp [fCells]
 | z :: zs, i + 1, h => by
  have e : (i + 1) * 3 + 2 = (i * 3 + 2) + 1 + 1 + 1 := by omega
  rw [e]
  simp only [List.set_cons_succ, fCells, fCells_setS (l := zs) (by simpa using h)]
theorem fCells_setV {x : PF × Value} {v : Value} {bs : List Nat} : ∀ {l : List (PF × Value)} {i : Nat}, l[i]? = some x → fCells (l.set i ((x.1.1, bs, x.1.2.2), v)) = (fCells l).set (i * 3 + 1) v
 | z :: zs, 0, h => by simp at h; subst h; simp [fCells]
 | z :: zs, i + 1, h => by
  have e : (i + 1) * 3 + 1 = (i * 3 + 1) + 1 + 1 + 1 := by omega
  rw [e]
  simp only [List.set_cons_succ, fCells, fCells_setV (l := zs) (by simpa using h)]
theorem row_set4 {B sz n c g j : Nat} {e : TypeId} {vs : List Value} (h : w.ownsRow B e sz (.slice (some ⟨g, 0, none⟩) n c) n vs) (hk : j < vs.length) (u : Value) : (w.setCell ⟨g, j, none⟩ u).ownsRow B e sz (.slice (some ⟨g, 0, none⟩) n c) n (vs.set j u) := by
 rcases h.2 with ⟨h1, _⟩ | ⟨g', cap, cur, h1, h2, h3, h4, h5, h6, h7⟩
 ·cases h1
 ·simp only [Value.slice.injEq, Option.some.injEq, Addr.mk.injEq] at h1
  obtain ⟨⟨rfl, -, -⟩, -, rfl⟩ := h1
  refine ⟨by have := h.1; simpa using this, .inr ⟨g, c, cur.setIfInBounds j u, rfl, h2, ?_, h4, h5, by simp [h6], ?_⟩⟩
  ·simp [World.setCell, Array.getElem?_modify, h3]
  ·rw [Array.toList_setIfInBounds, List.take_set, h7]
theorem pair_set {α : Type} {R : α → α → Prop} {l : List α} {i : Nat} {x x' : α} (hs : ∀ a b, R a b → R b a) (h : l.Pairwise R) (hx : l[i]? = some x) (hr : ∀ y, R y x → R y x') : (l.set i x').Pairwise R := by
 rw [List.pairwise_iff_getElem] at h ⊢
 obtain ⟨hi, ex⟩ := List.getElem?_eq_some_iff.1 hx
 intro p q hp hq hpq
 rw [List.length_set] at hp hq
 have h1 := h p q hp hq hpq
 rw [List.getElem_set, List.getElem_set]
 by_cases e1 : i = p
 ·subst e1
  rw [if_pos rfl, if_neg (by omega)]
  rw [ex] at h1
  exact hs _ _ (hr _ (hs _ _ h1))
 ·rw [if_neg e1]
  by_cases e2 : i = q
  ·subst e2
   rw [if_pos rfl]
   rw [ex] at h1
   exact hr _ h1
  ·rw [if_neg e2]; exact h1
theorem RDM.setSyn {g i : Nat} {x : PF × Value} (h : RDM w O rB (some ⟨g, 0, none⟩) n k l cap off arm c) (hx : l[i]? = some x) (y : Nat) : RDM (w.setCell ⟨g, i * 3 + 2, none⟩ (.int .i64 (y : Int))) O rB (some ⟨g, 0, none⟩) n k (l.set i ((x.1.1, x.1.2.1, y), x.2)) cap off arm c ∧ O g := by
 have hg := h.neRow (g := g) rfl
 have hi := (List.getElem?_eq_some_iff.1 hx).1
 have hxm := List.mem_of_getElem? hx
 refine ⟨⟨h.box.kept (heap_setCell_other _ _ _ _ (Ne.symm hg.1)), ⟨by rw [List.length_set]; exact h.row.len, ?_⟩, h.rowO, fun z hz => ?_, pair_set (fun a b q g ha hb => q g hb ha) h.nod hx (fun y q => q), h.orb, fun j hj => by simp [World.setCell]; exact h.lt j hj⟩, h.rowO g rfl⟩
 ·rw [fCells_setS hx]
  exact row_set4 h.row.row (by rw [fCells_len]; omega) _
 ·rcases List.mem_or_eq_of_mem_set hz with hz | rfl
  ·exact (h.dat z hz).kept (fun q hq => ⟨heap_setCell_other _ _ _ _ (fun e => hg.2 z hz (by have e2 : q = g := e; rw [← e2]; exact hq)), (h.dat z hz).blk q hq⟩)
  ·exact (h.dat x hxm).kept (fun q hq => ⟨heap_setCell_other _ _ _ _ (fun e => hg.2 x hxm (by have e2 : q = g := e; rw [← e2]; exact hq)), (h.dat x hxm).blk q hq⟩)
theorem RDM.setDat {g i : Nat} {x : PF × Value} {v : Value} {bs : List Nat} (h : RDM w O rB (some ⟨g, 0, none⟩) n k l cap off arm c) (hx : l[i]? = some x) (gr : w.grownBy W x.2.ownBlock) (ho : OwnO W (fun j => O j ∨ (w.heap.size ≤ j ∧ j < W.heap.size)) v bs) (hv : ∀ q, v.ownBlock = some q → x.2.ownBlock = some q ∨ w.heap.size ≤ q) (hs : w.heap.size ≤ W.heap.size) :
  RDM (W.setCell ⟨g, i * 3 + 1, none⟩ v) (fun j => O j ∨ (w.heap.size ≤ j ∧ j < W.heap.size)) rB (some ⟨g, 0, none⟩) n k (l.set i ((x.1.1, bs, x.1.2.2), v)) cap off arm c ∧ O g ∧ Go4 w (W.setCell ⟨g, i * 3 + 1, none⟩ v) O (fun j => O j ∨ (w.heap.size ≤ j ∧ j < W.heap.size)) := by
 have hg := h.neRow (g := g) rfl
 have hi := (List.getElem?_eq_some_iff.1 hx).1
 have hxm := List.mem_of_getElem? hx
 have hsame : ∀ j, j < w.heap.size → x.2.ownBlock ≠ some j → W.heap[j]? = w.heap[j]? := fun j hj hne => gr.block j hj (Ne.symm hne)
 have oB : ∀ q, x.2.ownBlock = some q → O q := fun q hq => (h.dat x hxm).blk q hq
 have lg := h.lt g (h.rowO g rfl)
 have gW : W.heap[g]? = w.heap[g]? := hsame g lg (hg.2 x hxm)
 have rW : W.heap[rB]? = w.heap[rB]? := hsame rB (h.lt rB h.orb) (fun e => h.neDat hxm e rfl)
 have hrowW : FRow W 0 (.slice (some ⟨g, 0, none⟩) n k) n l := h.row.kept (fun q hq => by simp only [Value.ownBlock, Option.some.injEq] at hq; subst hq; exact gW)
 have hvg : ∀ q, v.ownBlock = some q → q ≠ g := fun q hq e => by
  rcases hv q hq with z | z
  ·exact hg.2 x hxm (by rw [← e]; exact z)
  ·omega
 refine ⟨⟨h.box.kept ((heap_setCell_other _ _ _ _ (Ne.symm hg.1)).trans rW), ⟨by rw [List.length_set]; exact h.row.len, ?_⟩, fun q hq => .inl (h.rowO q hq), fun z hz => ?_, ?_, .inl h.orb, fun j hj => ?_⟩, h.rowO g rfl, ?_⟩
 ·rw [fCells_setV hx]
  exact row_set4 hrowW.row (by rw [fCells_len]; omega) _
 ·obtain ⟨j, hj⟩ := List.getElem?_of_mem hz
  by_cases e : i = j
  ·subst e
   rw [List.getElem?_set_self hi] at hj
   cases hj
   exact ho.kept (fun q hq => ⟨heap_setCell_other _ _ _ _ (hvg q hq), ho.blk q hq⟩)
  ·rw [List.getElem?_set_ne e] at hj
   have hzm := List.mem_of_getElem? hj
   refine (h.dat z hzm).kept (fun q hq => ⟨?_, .inl ((h.dat z hzm).blk q hq)⟩)
   rw [heap_setCell_other _ _ _ _ (fun e => hg.2 z hzm (by have e2 : q = g := e; rw [← e2]; exact hq))]
   refine hsame q (h.lt q ((h.dat z hzm).blk q hq)) (fun hxq => ?_)
   obtain ⟨hj2, ej⟩ := List.getElem?_eq_some_iff.1 hj
   obtain ⟨hi2, ei⟩ := List.getElem?_eq_some_iff.1 hx
   have pw := List.pairwise_iff_getElem.1 h.nod
   rcases Nat.lt_or_gt_of_ne e with y | y
   ·have := pw i j hi2 hj2 y
    rw [ei, ej] at this
    exact this q hxq hq
   ·have := pw j i hj2 hi2 y
    rw [ei, ej] at this
    exact this q hq hxq
 ·refine List.pairwise_iff_getElem.2 (fun p q hp hq hpq => ?_)
  rw [List.length_set] at hp hq
  have pw := List.pairwise_iff_getElem.1 h.nod p q hp hq hpq
  obtain ⟨hi2, ei⟩ := List.getElem?_eq_some_iff.1 hx
  rw [List.getElem_set, List.getElem_set]
  by_cases e1 : i = p
  ·subst e1
   rw [if_pos rfl, if_neg (by omega)]
   intro b hb hb2
   simp only at hb
   rw [ei] at pw
   rcases hv b hb with z | z
   ·exact pw b z hb2
   ·have := h.lt b ((h.dat _ (List.getElem_mem hq)).blk b hb2)
    omega
  ·rw [if_neg e1]
   by_cases e2 : i = q
   ·subst e2
    rw [if_pos rfl]
    intro b hb hb2
    simp only at hb2
    rw [ei] at pw
    rcases hv b hb2 with z | z
    ·exact pw b hb z
    ·have := h.lt b ((h.dat _ (List.getElem_mem hp)).blk b hb)
     omega
   ·rw [if_neg e2]; exact pw
 ·have e : (W.setCell ⟨g, i * 3 + 1, none⟩ v).heap.size = W.heap.size := by simp [World.setCell]
  rw [e]
  exact hj.elim (fun z => Nat.lt_of_lt_of_le (h.lt j z) hs) (fun z => z.2)
 ·have e : (W.setCell ⟨g, i * 3 + 1, none⟩ v).heap.size = W.heap.size := by simp [World.setCell]
  refine ⟨gr.os, gr.tape, gr.output, by rw [e]; exact hs, fun j hj hno => ?_, fun j hj => hj.elim .inl (fun z => .inr z.1)⟩
  rw [heap_setCell_other _ _ _ _ (fun e => hno (by rw [e]; exact h.rowO g rfl))]
  exact hsame j hj (fun z => hno (oB j z))
end Go.Proofs.Ytlkhphhmhffdjaa
