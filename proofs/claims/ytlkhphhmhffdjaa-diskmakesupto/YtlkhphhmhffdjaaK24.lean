import Derived.Test.YtlkhphhmhffdjaaK23
set_option linter.unusedSimpArgs false
set_option linter.unusedVariables false
namespace Go.Proofs.Ytlkhphhmhffdjaa
open Go.RowKit Go.MapKept Go.Sort
variable {w w' W X : World} {O O' U U' : Nat → Prop}
abbrev LF := GF × Nat × Nat
def vW (x : LF) : Value := .slice (some ⟨x.2.1, 0, none⟩) (x.1.2.1.length + 5) x.2.2
def vN (x : LF) : Value := .slice (some ⟨x.2.1, 0, none⟩) x.1.2.1.length x.2.2
def gV (x : LF) : GF × Value := (x.1, vN x)
theorem rows_ne {B1 s1 n1 B2 s2 n2 : Nat} {e1 e2 : TypeId} {v1 v2 : Value} {xs ys : List Value} (h1 : w.ownsRow B1 e1 s1 v1 n1 xs) (h2 : w.ownsRow B2 e2 s2 v2 n2 ys) (hne : e1 ≠ e2) : ∀ g, v1.ownBlock = some g → v2.ownBlock ≠ some g := by
 intro g hg hg2
 rcases h1.2 with ⟨r, _⟩ | ⟨q, cap, cur, r, _, k, _⟩
 ·rw [r] at hg; cases hg
 ·rw [r] at hg
  simp only [Value.ownBlock, Option.some.injEq] at hg
  subst hg
  exact row_ty h2 k (fun e => hne e.symm) hg2
theorem RowS.keep4 {B n : Nat} {v : Value} {vs : List Value} (h : RowS w B v n vs) (k : ∀ g, v.ownBlock = some g → w'.heap[g]? = w.heap[g]?) : RowS w' B v n vs := ⟨h.1, h.2.1, row_keep h.2.2 k⟩
structure LdS (w : World) (B : Nat) (al : Option Addr) (kl : Nat) (aw : Option Addr) (kw : Nat) (n : Nat) (ws : List LF) : Prop where
 len : n = ws.length
 row : w.ownsRow B 60 3 (.slice al n kl) n (gCells (ws.map gV))
 rw_ : RowS w B (.slice aw n kw) n (ws.map vW)
 own : ∀ x ∈ ws, Own w B (vW x) (x.1.2.1.length + 5) (x.1.2.1 ++ mk5)
 apt : ws.Pairwise (fun x y => x.2.1 ≠ y.2.1)
variable {B kl kw n : Nat} {al aw : Option Addr} {ws : List LF}
theorem LdS.nil (w : World) (B : Nat) : LdS w B none 0 none 0 0 [] := ⟨rfl, World.ownsRow_nil _ _ _ _, ⟨rfl, fun u hu => (by cases hu), World.ownsRow_nil _ _ _ _⟩, fun x hx => (by cases hx), List.Pairwise.nil⟩
theorem LdS.blk (h : LdS w B al kl aw kw n ws) {x : LF} (hx : x ∈ ws) : B ≤ x.2.1 ∧ x.2.1 < w.heap.size := ⟨row_lt2 (h.own x hx).2 rfl, row_lt (h.own x hx).2 rfl⟩
theorem LdS.later (h : LdS w B al kl aw kw n ws) (b : Below w.heap.size w w') : LdS w' B al kl aw kw n ws :=
 ⟨h.len, row_keep h.row (fun g e => b.block g (row_lt h.row e)), h.rw_.keep4 (fun g e => b.block g (row_lt h.rw_.2.2 e)), fun x hx => (h.own x hx).later b, h.apt⟩
theorem LdS.snoc {aw2 : Option Addr} {kw2 gw cw : Nat} {f : GF} (h : LdS w B al kl aw kw n ws) (hn : Own w B (vW (f, gw, cw)) (f.2.1.length + 5) (f.2.1 ++ mk5)) (hnew : ∀ x ∈ ws, x.2.1 ≠ gw) (gr : w.grownBy w' (Value.slice aw n kw).ownBlock) (hr : RowS w' B (.slice aw2 (n + 1) kw2) (n + 1) (ws.map vW ++ [vW (f, gw, cw)])) :
  w'.ownsRow B 60 3 (.slice al n kl) n (gCells (ws.map gV)) ∧ RowS w' B (.slice aw2 (n + 1) kw2) (n + 1) ((ws ++ [(f, gw, cw)]).map vW) ∧ (∀ x ∈ ws ++ [(f, gw, cw)], Own w' B (vW x) (x.1.2.1.length + 5) (x.1.2.1 ++ mk5)) ∧ (ws ++ [(f, gw, cw)]).Pairwise (fun x y => x.2.1 ≠ y.2.1) := by
 refine ⟨row_far h.row gr (fun g e e2 => rows_ne h.row h.rw_.2.2 (by decide) g e2 e), by rw [List.map_append]; exact hr, fun x hx => ?_, List.pairwise_append.2 ⟨h.apt, List.pairwise_singleton _ _, fun x hx y hy => by rw [List.mem_singleton] at hy; subst hy; exact hnew x hx⟩⟩
 have far : ∀ {v : Value} {m : Nat} {xs : List Nat}, Own w B v m xs → Own w' B v m xs := fun o => o.far gr (fun g e e2 => rows_ne o.2 h.rw_.2.2 (by decide) g e2 e)
 rcases List.mem_append.1 hx with hx | hx
 ·exact far (h.own x hx)
 ·rw [List.mem_singleton] at hx
  subst hx
  exact far hn
theorem wpl_file_appendG {w : World} {ops : Array Oper} {rest : List Oper} {o : Oper} {a : Act} {Q : Exit → Act → World → Prop} (hgd : o.guard = none) (s x : Operand)
  (ho : o.op = .call { callee := .builtin .append, args := #[s, x], argTypes := #[22, 22] })
  {B n blk : Nat} {v c0 c1 c2 : Value} {cs : List Value} (hs : a.eval s = v) (hown : w.ownsRow B 60 3 v n cs) (hx : a.eval x = .slice (some ⟨blk, 0, none⟩) 1 1) (hf : w.cell? ⟨blk, 0, none⟩ = some c0 ∧ w.cell? ⟨blk, 1, none⟩ = some c1 ∧ w.cell? ⟨blk, 2, none⟩ = some c2)
  (h1 : c0.oneCell' = true ∧ c1.oneCell' = true ∧ c2.oneCell' = true) (hn : n ≤ 1000000) (hB : B ≤ w.heap.size)
  (h : ∀ a' c' w', w'.ownsRow B 60 3 (.slice a' (n + 1) c') (n + 1) (cs ++ [c0, c1, c2]) → Below B w w' → w.grownBy w' v.ownBlock → ((Value.slice a' (n + 1) c').ownBlock = v.ownBlock ∨ (Value.slice a' (n + 1) c').ownBlock = some w.heap.size) → wpList Try.prog ops Q rest (a.put o.dst (.slice a' (n + 1) c')) w') :
  wpList Try.prog ops Q (o :: rest) a w := wpList_plain hgd fun K hK => file_appendG s x ho hs hown hx hf h1 hn hB (fun a' c' w' q1 q2 q3 q4 => hK _ _ (h a' c' w' q1 q2 q3 q4))
def LaidP (w : World) (n : Nat) (fs : List GF) (e : Ending) (w' : World) : Prop := ∃ (gl kl : Nat) (aw : Option Addr) (kw : Nat) (ws : List LF), e = .returned (.tuple #[.slice (some ⟨gl, 0, none⟩) n kl, .slice aw n kw]) ∧ ws.map (·.1) = fs ∧ n = ws.length ∧ n + 1 ≤ kl ∧ kl ≤ maxLen ∧ w'.ownsRow w.heap.size 60 3 (.slice (some ⟨gl, 0, none⟩) (n + 1) kl) (n + 1) (gCells (ws.map gV) ++ [.string { data := #[109, 97, 114, 107] }, .slice none 0 0, .int .i64 0]) ∧ RowS w' w.heap.size (.slice aw n kw) n (ws.map vW) ∧ (∀ x ∈ ws, Own w' w.heap.size (vW x) (x.1.2.1.length + 5) (x.1.2.1 ++ mk5)) ∧ ws.Pairwise (fun x y => x.2.1 ≠ y.2.1) ∧ Below w.heap.size w w'
set_option maxRecDepth 100000 in
set_option maxHeartbeats 4000000 in
theorem laid_any {aF : Option Addr} {nF kF : Nat} {fs : List (GF × Value)} (hr : RdG4 w aF kF fs) (hn : nF = fs.length) (hlf : fs.length ≤ 300000) (hld : ∀ x ∈ fs, x.1.2.1.length ≤ 1048576) :
  Calls Try.prog 30 #[.slice aF nF kF] w (LaidP w nF (fs.map (·.1))) := by
 have hnb : nF ≤ 300000 := by omega
 have HR := Lib.hid hr
 have HN := Lib.hid hn
 have HLD := Lib.hid hld
 clear hr hn hlf hld
 go_enter Try.func30, Try.ntmps30
 go_wp2_with fail
 go_loopw [4, 5, 6, 7] (fun vl vw i _ wr => ∃ (t : Nat) (al : Option Addr) (kl : Nat) (aw : Option Addr) (kw : Nat) (ws : List LF), t ≤ nF ∧ vl = .slice al t kl ∧ vw = .slice aw t kw ∧ i = .int .i64 (t : Int) ∧ LdS wr w.heap.size al kl aw kw t ws ∧ ws.map (·.1) = (fs.map (·.1)).take t ∧ Below w.heap.size w wr) (fun _ _ i _ _ => nF - (intOf i).toNat)
 case atStart => exact ⟨0, none, 0, none, 0, [], Nat.zero_le _, rfl, rfl, rfl, LdS.nil _ _, by simp, Below.refl _ _⟩
 case round =>
  obtain ⟨t, al, kl, aw, kw, ws, ht, rfl, rfl, rfl, ls, hws, bw⟩ := hrel
  have LS := Lib.hid ls
  have HWS := Lib.hid hws
  have BW := Lib.hid bw
  clear ls hws bw
  by_cases hlt : t < nF
  ·have j1 : (t : Int) < (nF : Int) := by omega
   have j2 : (0 : Int) ≤ (t : Int) := by omega
   have hx : ∃ x, fs[t]? = some x := ⟨_, List.getElem?_eq_getElem (by rw [← HN.out]; exact hlt)⟩
   obtain ⟨x, hx⟩ := hx
   have hcx := HR.out.cel t x hx
   obtain ⟨gF, hcx⟩ := hcx
   obtain ⟨oF, hcx⟩ := hcx
   have hca := hcx.1
   subst hca
   have hdx := HR.out.dat x (List.mem_of_getElem? hx)
   obtain ⟨ax, hdx⟩ := hdx
   obtain ⟨cx, hdx⟩ := hdx
   have hbl := HLD.out x (List.mem_of_getElem? hx)
   obtain ⟨⟨xn, xd, xs⟩, xv⟩ := x
   simp only at hcx hdx hbl
   have hnx : ∃ nx, nx = xd.length := ⟨_, rfl⟩
   obtain ⟨nx, hnx⟩ := hnx
   rw [← hnx] at hdx hbl
   have hxv := hdx.1
   subst hxv
   have lgf := World.block_lt_of_cell? _ _ hcx.2.1
   simp only at lgf
   have CF := Lib.hid hcx.2
   have c1 := (BW.out.cell (p := ⟨gF, oF + t * 3 + 1, none⟩) lgf).trans CF.out.2.1
   have RX := Lib.hid hdx.2
   have HXX := Lib.hid hx
   have HNX := Lib.hid hnx
   clear hcx hdx hx hnx
   go_wp2_with fail
   refine (roomy4_any (RX.out.later BW.out) (by have := HNX.out; omega)).mono ?_
   rintro e1 X1 ⟨a1, cw, he1, own1, b1⟩
   subst he1
   rw [← HNX.out] at own1 ⊢
   have hnw : ∃ nw, nw = nx + 5 := ⟨_, rfl⟩
   obtain ⟨nw, hnw⟩ := hnw
   rw [← hnw] at own1 ⊢
   have hga := own_addr own1 (by omega)
   obtain ⟨gw, hga⟩ := hga
   have hga1 := hga.1
   subst hga1
   have j3 : (nx : Int) ≤ (cw : Int) := by have := hga.2.2.2; omega
   have j4 : (0 : Int) ≤ (nx : Int) := by omega
   have LS1 := Lib.hid (LS.out.later b1)
   have BW1 := Lib.hid (BW.out.trans (b1.mono BW.out.size))
   have HGW := Lib.hid (And.intro hga.2 hnw)
   have own2 : Own X1 w.heap.size (vW ((xn, xd, xs), gw, cw)) (xd.length + 5) (xd ++ mk5) := by
    have := own1.mono BW.out.size
    rw [HGW.out.2, HNX.out] at this
    exact this
   have OW1 := Lib.hid own2
   have NEW : Hid (∀ y ∈ ws, y.2.1 ≠ gw) := fun y hy e => by have := (LS.out.blk hy).2; have := HGW.out.1.1; omega
   have evw : (.slice (some ⟨gw, 0, none⟩) nw cw : Value) = vW ((xn, xd, xs), gw, cw) := by rw [HGW.out.2, HNX.out]; rfl
   have EVW := Lib.hid evw
   clear own1 own2 hga hnw b1 evw c1
   go_wp2_with (at_builtin; refine wpList_append_one rfl _ _ rfl w.heap.size aw t kw (ws.map vW) rfl LS1.out.rw_ (.slice (some ⟨gw, 0, none⟩) nw cw) rfl rfl (by omega) BW1.out.size ?_; intro aw2 kw2 X2 row2 gr2 nr2; refine Hid.out ?_)
   refine Lib.hid ?_
   rw [EVW.out] at row2
   have L2 := Lib.hid (LS1.out.snoc OW1.out NEW.out gr2 row2)
   have b2 : Below w.heap.size w X2 := BW1.out.grown gr2 BW1.out.size (fun k hk => row_lt2 LS1.out.rw_.2.2 hk)
   have BW2 := Lib.hid b2
   clear row2 gr2 nr2 b2
   go_upto_region 8 with fail
   have BD : Below X2.heap.size X2 X2.drew := (Below.refl _ _).drew
   refine wp_region_noPanic ?_
   refine wp_region_anyE (S := fun wx => Below w.heap.size w wx) (E := fun j => true) (by kernel_rfl) ?_
   have hHeld : Below w.heap.size w X2.drew := BW2.out.trans (BD.mono BW2.out.size)
   have HBD := Lib.hid BD
   have hZ0 : ∃ z, z = X2.drew := ⟨_, rfl⟩
   obtain ⟨Z0, hZ0⟩ := hZ0
   rw [← hZ0] at HBD hHeld ⊢
   clear hZ0 BD
   refine AnyE.take (i := 0) (.slice al t kl) rfl (by kernel_rfl) (by kernel_rfl) (by kernel_rfl) (by kernel_rfl) (fun _ _ _ h => h) (.inl ⟨by kernel_rfl, fun wy hy => by (go_simp; done)⟩) hHeld ?_
   try simp only [Act.put, List.setIfInBounds_toArray, List.set_cons_zero, List.set_cons_succ]
   refine AnyE.take (i := 1) (.slice (some ⟨gF, oF, none⟩) nF kF) rfl (by kernel_rfl) (by kernel_rfl) (by kernel_rfl) (by kernel_rfl) (fun _ _ _ h => h) (.inl ⟨by kernel_rfl, fun wy hy => by (go_simp; done)⟩) hHeld ?_
   try simp only [Act.put, List.setIfInBounds_toArray, List.set_cons_zero, List.set_cons_succ]
   refine AnyE.take (i := 2) (.int .i64 (t : Int)) rfl (by kernel_rfl) (by kernel_rfl) (by kernel_rfl) (by kernel_rfl) (fun _ _ _ h => h) (.inl ⟨by kernel_rfl, fun wy hy => by (go_simp; done)⟩) hHeld ?_
   try simp only [Act.put, List.setIfInBounds_toArray, List.set_cons_zero, List.set_cons_succ]
   refine AnyE.take (i := 3) (.pointer (some ⟨gF, oF + t * 3, none⟩)) rfl (by kernel_rfl) (by kernel_rfl) (by kernel_rfl) (by kernel_rfl) (fun _ _ _ h => h) (.inl ⟨by kernel_rfl, fun wy hy => by (go_simp; done)⟩) hHeld ?_
   try simp only [Act.put, List.setIfInBounds_toArray, List.set_cons_zero, List.set_cons_succ]
   refine AnyE.take (i := 4) (.pointer (some ⟨gF, oF + t * 3, none⟩)) rfl (by kernel_rfl) (by kernel_rfl) (by kernel_rfl) (by kernel_rfl) (fun _ _ _ h => h) (.inl ⟨by kernel_rfl, fun wy hy => by (go_simp; done)⟩) hHeld ?_
   try simp only [Act.put, List.setIfInBounds_toArray, List.set_cons_zero, List.set_cons_succ]
   refine AnyE.take (i := 5) (.string xn) rfl (by kernel_rfl) (by kernel_rfl) (by kernel_rfl) (by kernel_rfl) (fun _ _ _ h => h) (.inl ⟨by kernel_rfl, fun wy hy => by (have q0 := (hy.cell lgf).trans CF.out.1; go_simp; done)⟩) hHeld ?_
   try simp only [Act.put, List.setIfInBounds_toArray, List.set_cons_zero, List.set_cons_succ]
   refine AnyE.take (i := 6) (.slice (some ⟨gw, 0, none⟩) nw cw) rfl (by kernel_rfl) (by kernel_rfl) (by kernel_rfl) (by kernel_rfl) (fun _ _ _ h => h) (.inl ⟨by kernel_rfl, fun wy hy => by (go_simp; done)⟩) hHeld ?_
   try simp only [Act.put, List.setIfInBounds_toArray, List.set_cons_zero, List.set_cons_succ]
   refine AnyE.take (i := 7) (.slice (some ⟨gF, oF, none⟩) nF kF) rfl (by kernel_rfl) (by kernel_rfl) (by kernel_rfl) (by kernel_rfl) (fun _ _ _ h => h) (.inl ⟨by kernel_rfl, fun wy hy => by (go_simp; done)⟩) hHeld ?_
   try simp only [Act.put, List.setIfInBounds_toArray, List.set_cons_zero, List.set_cons_succ]
   refine AnyE.take (i := 8) (.int .i64 (t : Int)) rfl (by kernel_rfl) (by kernel_rfl) (by kernel_rfl) (by kernel_rfl) (fun _ _ _ h => h) (.inl ⟨by kernel_rfl, fun wy hy => by (go_simp; done)⟩) hHeld ?_
   try simp only [Act.put, List.setIfInBounds_toArray, List.set_cons_zero, List.set_cons_succ]
   refine AnyE.take (i := 9) (.pointer (some ⟨gF, oF + t * 3, none⟩)) rfl (by kernel_rfl) (by kernel_rfl) (by kernel_rfl) (by kernel_rfl) (fun _ _ _ h => h) (.inl ⟨by kernel_rfl, fun wy hy => by (go_simp; done)⟩) hHeld ?_
   try simp only [Act.put, List.setIfInBounds_toArray, List.set_cons_zero, List.set_cons_succ]
   refine AnyE.take (i := 10) (.pointer (some ⟨gF, oF + t * 3 + 1, none⟩)) rfl (by kernel_rfl) (by kernel_rfl) (by kernel_rfl) (by kernel_rfl) (fun _ _ _ h => h) (.inl ⟨by kernel_rfl, fun wy hy => by (go_simp; done)⟩) hHeld ?_
   try simp only [Act.put, List.setIfInBounds_toArray, List.set_cons_zero, List.set_cons_succ]
   refine AnyE.take (i := 11) (.slice ax nx cx) rfl (by kernel_rfl) (by kernel_rfl) (by kernel_rfl) (by kernel_rfl) (fun _ _ _ h => h) (.inl ⟨by kernel_rfl, fun wy hy => by (have q0 := (hy.cell (p := ⟨gF, oF + t * 3 + 1, none⟩) lgf).trans CF.out.2.1; go_simp; done)⟩) hHeld ?_
   try simp only [Act.put, List.setIfInBounds_toArray, List.set_cons_zero, List.set_cons_succ]
   refine AnyE.take (i := 12) (.int .i64 (nx : Int)) rfl (by kernel_rfl) (by kernel_rfl) (by kernel_rfl) (by kernel_rfl) (fun _ _ _ h => h) (.inl ⟨by kernel_rfl, fun wy hy => by (cases ax <;> go_simp; done)⟩) hHeld ?_
   try simp only [Act.put, List.setIfInBounds_toArray, List.set_cons_zero, List.set_cons_succ]
   refine AnyE.take (i := 13) (.slice (some ⟨gw, 0, none⟩) nx cw) rfl (by kernel_rfl) (by kernel_rfl) (by kernel_rfl) (by kernel_rfl) (fun _ _ _ h => h) (.inl ⟨by kernel_rfl, fun wy hy => by (go_simp; done)⟩) hHeld ?_
   try simp only [Act.put, List.setIfInBounds_toArray, List.set_cons_zero, List.set_cons_succ]
   refine AnyE.take (i := 14) (.slice (some ⟨gF, oF, none⟩) nF kF) rfl (by kernel_rfl) (by kernel_rfl) (by kernel_rfl) (by kernel_rfl) (fun _ _ _ h => h) (.inl ⟨by kernel_rfl, fun wy hy => by (go_simp; done)⟩) hHeld ?_
   try simp only [Act.put, List.setIfInBounds_toArray, List.set_cons_zero, List.set_cons_succ]
   refine AnyE.take (i := 15) (.int .i64 (t : Int)) rfl (by kernel_rfl) (by kernel_rfl) (by kernel_rfl) (by kernel_rfl) (fun _ _ _ h => h) (.inl ⟨by kernel_rfl, fun wy hy => by (go_simp; done)⟩) hHeld ?_
   try simp only [Act.put, List.setIfInBounds_toArray, List.set_cons_zero, List.set_cons_succ]
   refine AnyE.take (i := 16) (.pointer (some ⟨gF, oF + t * 3, none⟩)) rfl (by kernel_rfl) (by kernel_rfl) (by kernel_rfl) (by kernel_rfl) (fun _ _ _ h => h) (.inl ⟨by kernel_rfl, fun wy hy => by (go_simp; done)⟩) hHeld ?_
   try simp only [Act.put, List.setIfInBounds_toArray, List.set_cons_zero, List.set_cons_succ]
   refine AnyE.take (i := 17) (.pointer (some ⟨gF, oF + t * 3 + 2, none⟩)) rfl (by kernel_rfl) (by kernel_rfl) (by kernel_rfl) (by kernel_rfl) (fun _ _ _ h => h) (.inl ⟨by kernel_rfl, fun wy hy => by (go_simp; done)⟩) hHeld ?_
   try simp only [Act.put, List.setIfInBounds_toArray, List.set_cons_zero, List.set_cons_succ]
   refine AnyE.take (i := 18) (.int .i64 xs) rfl (by kernel_rfl) (by kernel_rfl) (by kernel_rfl) (by kernel_rfl) (fun _ _ _ h => h) (.inl ⟨by kernel_rfl, fun wy hy => by (have q0 := (hy.cell (p := ⟨gF, oF + t * 3 + 2, none⟩) lgf).trans CF.out.2.2; go_simp; done)⟩) hHeld ?_
   try simp only [Act.put, List.setIfInBounds_toArray, List.set_cons_zero, List.set_cons_succ]
   refine AnyE.take (i := 19) (.agg #[.string xn, .slice (some ⟨gw, 0, none⟩) nx cw, .int .i64 xs]) rfl (by kernel_rfl) (by kernel_rfl) (by kernel_rfl) (by kernel_rfl) (fun _ _ _ h => h) (.inl ⟨by kernel_rfl, fun wy hy => by (go_simp; done)⟩) hHeld ?_
   try simp only [Act.put, List.setIfInBounds_toArray, List.set_cons_zero, List.set_cons_succ]
   refine AnyE.one (i := 20) rfl (by kernel_rfl) (by kernel_rfl) (fun KK hK => ?_)
   go_simp
   have bA := (Below.refl Z0.heap.size Z0).alloc (Nat.le_refl _) (.cells #[.string xn, .slice (some ⟨gw, 0, none⟩) nx cw, .int .i64 xs] 60)
   have cA : (Z0.alloc (.cells #[.string xn, .slice (some ⟨gw, 0, none⟩) nx cw, .int .i64 xs] 60)).cell? ⟨Z0.heap.size, 0, none⟩ = some (.string xn) ∧ (Z0.alloc (.cells #[.string xn, .slice (some ⟨gw, 0, none⟩) nx cw, .int .i64 xs] 60)).cell? ⟨Z0.heap.size, 1, none⟩ = some (.slice (some ⟨gw, 0, none⟩) nx cw) ∧ (Z0.alloc (.cells #[.string xn, .slice (some ⟨gw, 0, none⟩) nx cw, .int .i64 xs] 60)).cell? ⟨Z0.heap.size, 2, none⟩ = some (.int .i64 xs) := by
    refine ⟨?_, ?_, ?_⟩ <;> simp [go_sem]
   have hZ3 : ∃ z, z = Z0.alloc (.cells #[.string xn, .slice (some ⟨gw, 0, none⟩) nx cw, .int .i64 xs] 60) := ⟨_, rfl⟩
   obtain ⟨Z3, hZ3⟩ := hZ3
   rw [← hZ3] at bA cA ⊢
   clear hZ3
   have hHeld1 := hHeld
   have hHeld : Below w.heap.size w Z3 := hHeld1.trans (bA.mono hHeld1.size)
   have HCA := Lib.hid (And.intro (HBD.out.trans (bA.mono HBD.out.size)) cA)
   clear bA cA hHeld1
   refine hK.out _ _ ⟨fun _ => hHeld, ?_⟩
   clear hK
   try simp only [Act.put, List.setIfInBounds_toArray, List.set_cons_zero, List.set_cons_succ]
   refine AnyE.one (i := 21) rfl (by kernel_rfl) (by kernel_rfl) (fun KK hK => ?_)
   refine file_appendG _ _ rfl (B := w.heap.size) (n := t) (blk := Z0.heap.size) (v := .slice al t kl) (cs := gCells (ws.map gV)) rfl (row_keep L2.out.1 (fun g e => HCA.out.1.block g (row_lt L2.out.1 e))) rfl HCA.out.2 ⟨rfl, rfl, rfl⟩ (by omega) hHeld.size (fun a9 k9 Z4 own9 b9 g9 n9 => ?_)
   have hHeld1 := hHeld
   have hHeld : Below w.heap.size w Z4 := hHeld1.trans b9
   have far : ∀ {v : Value} {m : Nat} {ys : List Nat}, Own X2 w.heap.size v m ys → Own Z4 w.heap.size v m ys := fun o => (o.later HCA.out.1).far g9 (fun g e e2 => rows_ne (o.later HCA.out.1).2 (row_keep L2.out.1 (fun g e => HCA.out.1.block g (row_lt L2.out.1 e))) (by decide) g e2 e)
   have farw : RowS Z4 w.heap.size (.slice aw2 (t + 1) kw2) (t + 1) ((ws ++ [((xn, xd, xs), gw, cw)]).map vW) := by
    have k1 : RowS Z3 w.heap.size (.slice aw2 (t + 1) kw2) (t + 1) ((ws ++ [((xn, xd, xs), gw, cw)]).map vW) := L2.out.2.1.keep4 (fun g e => HCA.out.1.block g (row_lt L2.out.2.1.2.2 e))
    exact k1.far g9 (fun g e e2 => rows_ne k1.2.2 (row_keep (w' := Z3) L2.out.1 (fun g e => HCA.out.1.block g (row_lt L2.out.1 e))) (by decide) g e2 e)
   have lds : LdS Z4 w.heap.size a9 k9 aw2 kw2 (t + 1) (ws ++ [((xn, xd, xs), gw, cw)]) := by
    refine ⟨by rw [List.length_append, ← LS.out.len]; rfl, ?_, farw, fun y hy => far (L2.out.2.2.1 y hy), L2.out.2.2.2⟩
    rw [List.map_append, gCells_append]
    have : vN ((xn, xd, xs), gw, cw) = .slice (some ⟨gw, 0, none⟩) nx cw := by rw [HNX.out]; rfl
    simp only [List.map_cons, List.map_nil, gV, gCells, this]
    exact own9
   have LD4 := Lib.hid (And.intro lds hHeld)
   clear own9 b9 g9 n9 far farw lds hHeld1
   refine hK.out _ _ ⟨fun _ => hHeld, ?_⟩
   clear hK
   try simp only [Act.put, List.setIfInBounds_toArray, List.set_cons_zero, List.set_cons_succ]
   refine AnyE.one (i := 22) rfl (by kernel_rfl) (by kernel_rfl) (fun KK hK => ?_)
   go_simp
   refine hK.out _ _ ⟨fun _ => hHeld, ?_⟩
   clear hK
   try simp only [Act.put, List.setIfInBounds_toArray, List.set_cons_zero, List.set_cons_succ]
   refine AnyE.done (by kernel_rfl) (NoPanic.normal ?_) _
   clear hHeld
   go_simp
   go_step
   go_wp2
   go_roundw
   case rel =>
    refine ⟨t + 1, a9, k9, aw2, kw2, _, by omega, rfl, rfl, by go_num, LD4.out.1, ?_, LD4.out.2⟩
    rw [List.map_append, HWS.out, List.take_add_one, List.getElem?_map, HXX.out]
    rfl
   case measure => simp [intOf]; omega
  ·have j1 : (nF : Int) ≤ (t : Int) := by omega
   have htn : t = nF := by omega
   subst htn
   clear hlt
   have ce : (wr.alloc (.cells #[.string { data := #[109, 97, 114, 107] }, .slice none 0 0, .int .i64 0] 60)).cell? ⟨wr.heap.size, 0, none⟩ = some (.string { data := #[109, 97, 114, 107] }) ∧ (wr.alloc (.cells #[.string { data := #[109, 97, 114, 107] }, .slice none 0 0, .int .i64 0] 60)).cell? ⟨wr.heap.size, 1, none⟩ = some (.slice none 0 0) ∧ (wr.alloc (.cells #[.string { data := #[109, 97, 114, 107] }, .slice none 0 0, .int .i64 0] 60)).cell? ⟨wr.heap.size, 2, none⟩ = some (.int .i64 0) := by
    refine ⟨?_, ?_, ?_⟩ <;> simp [go_sem]
   have bal := (Below.refl wr.heap.size wr).alloc (Nat.le_refl _) (.cells #[.string { data := #[109, 97, 114, 107] }, .slice none 0 0, .int .i64 0] 60)
   have L3 := Lib.hid (LS.out.later bal)
   have BW3 := Lib.hid (BW.out.trans (bal.mono BW.out.size))
   have CE := Lib.hid ce
   clear ce bal
   go_wp2_with (at_builtin; refine wpl_file_appendG rfl _ _ rfl (B := w.heap.size) (n := t) (blk := wr.heap.size) (v := .slice al t kl) (cs := gCells (ws.map gV)) rfl L3.out.row rfl CE.out ⟨rfl, rfl, rfl⟩ (by omega) BW3.out.size ?_; intro a9 k9 X9 own9 b9 g9 n9; refine Hid.out ?_)
   refine Lib.hid ?_
   have hm9 : ∃ m9, m9 = t + 1 := ⟨_, rfl⟩
   obtain ⟨m9, hm9⟩ := hm9
   rw [← hm9] at own9 n9 ⊢
   have hga := row_addr own9 (by omega)
   obtain ⟨gl, hga⟩ := hga
   have hga1 := hga.1
   subst hga1
   have j5 : (t : Int) ≤ (k9 : Int) := by have := hga.2.2.2.1; omega
   have far : ∀ {v : Value} {m : Nat} {ys : List Nat}, Own (wr.alloc (.cells #[.string { data := #[109, 97, 114, 107] }, .slice none 0 0, .int .i64 0] 60)) w.heap.size v m ys → Own X9 w.heap.size v m ys := fun o => o.far g9 (fun g e e2 => rows_ne o.2 L3.out.row (by decide) g e2 e)
   have farw := L3.out.rw_.far g9 (fun g e e2 => rows_ne L3.out.rw_.2.2 L3.out.row (by decide) g e2 e)
   have FIN := Lib.hid (And.intro own9 (And.intro farw (And.intro (fun y hy => far (L3.out.own y hy)) (And.intro (BW3.out.trans b9) (And.intro hga.2 hm9)))))
   clear own9 b9 g9 n9 far farw hga hm9
   go_wp2
   go_ret2
   have hm9 := FIN.out.2.2.2.2.2
   have own9 := FIN.out.1
   rw [hm9] at own9
   exact ⟨gl, k9, aw, kw, ws, rfl, by rw [HWS.out, List.take_of_length_le (by rw [List.length_map, ← HN.out]; exact Nat.le_refl _)], LS.out.len, by have := FIN.out.2.2.2.2.1.2.2.1; omega, FIN.out.2.2.2.2.1.2.2.2, own9, FIN.out.2.1, FIN.out.2.2.1, LS.out.apt, FIN.out.2.2.2.1⟩
end Go.Proofs.Ytlkhphhmhffdjaa

namespace Go.Proofs.Ytlkhphhmhffdjaa
open Go.RowKit Go.MapKept Go.Sort
variable {w w' W X : World} {O O' U U' : Nat → Prop} {wB i : Nat} {z : Int} {qs : List Pr4} {o : OpD} {p : Pr4}
theorem take_down (d : Dk4) (s : ByteArray) (bs : List Nat) (y : Int) : (takeD d s bs y).2.down = d.down := by
 unfold takeD
 split
 ·rfl
 ·split
  ·rfl
  ·split
   ·rfl
   ·split <;> rfl
theorem loadL_down : ∀ (l : List GF) (d : Dk4), (loadL d l).2.down = d.down
 | [], d => rfl
 | x :: xs, d => by
  unfold loadL
  split
  ·exact take_down _ _ _ _
  ·rw [loadL_down xs, take_down]
theorem load_down (n : Int) (l : List GF) : (loadD n l).2.down = false := by
 unfold loadD
 split
 ·rfl
 ·split
  ·rfl
  ·rw [loadL_down]; rfl
def NewD (w : World) (ee : Int) (pd pr : Value) (d1 r1 : Dk4) (m : Nat) (U : Nat → Prop) : Prop :=
 (ee ≠ 0 ∧ pd = .pointer none ∧ pr = .pointer none) ∨ (ee = 0 ∧ ∃ p : Pr4, pd = .pointer (some ⟨p.dB, 0, none⟩) ∧ pr = .pointer (some ⟨p.rB, 0, none⟩) ∧ p.d = d1 ∧ p.r = r1 ∧ p.T w ∧ ∀ i, p.In i → m ≤ i ∧ ¬ U i)
variable {ee : Int} {pd pr : Value} {d1 r1 : Dk4} {m : Nat}
theorem NewD.far (h : NewD w ee pd pr d1 r1 m U) (g : Go4 w w' O O') (hO : ∀ i, O i → U i ∨ i < m) (hU : ∀ i, U' i → U i ∨ O' i) : NewD w' ee pd pr d1 r1 m U' := by
 rcases h with h | ⟨h0, p, h1, h2, h3, h4, h5, h6⟩
 ·exact .inl h
 ·have hn : ∀ i, p.In i → ¬ O i := fun i hi q => (hO i q).elim (h6 i hi).2 (fun e => by have := (h6 i hi).1; omega)
  refine .inr ⟨h0, p, h1, h2, h3, h4, T5.kept h5 (fun i hi => g.block i (T5.lt h5 i hi) (hn i hi)) g.size, fun i hi => ⟨(h6 i hi).1, fun q => (hU i q).elim (h6 i hi).2 (fun q => (g.new i q).elim (hn i hi) (fun e => by have := T5.lt h5 i hi; omega))⟩⟩
theorem NewD.later (h : NewD w ee pd pr d1 r1 m U) (b : Below w.heap.size w w') : NewD w' ee pd pr d1 r1 m U := h.far (Go4.of_below (O := fun _ => False) b) (fun i q => q.elim) (fun i q => .inl q)
theorem NewD.of {w0 w1 w2 : World} (h1 : ee ≠ 0 → pd = .pointer none) (h2 : ee = 0 → ∃ A dB, pd = .pointer (some ⟨dB, 0, none⟩) ∧ Dsk w1 A dB d1 ∧ ∀ i, A i → w0.heap.size ≤ i) (k1 : ee ≠ 0 → pr = .pointer none) (k2 : ee = 0 → ∃ B rB, pr = .pointer (some ⟨rB, 0, none⟩) ∧ RD w2 B rB r1 ∧ ∀ i, B i → w1.heap.size ≤ i) (b1 : w0.heap.size ≤ w1.heap.size) (b : Below w1.heap.size w1 w2) (hU : ∀ i, U i → i < w0.heap.size) : NewD w2 ee pd pr d1 r1 w0.heap.size U := by
 by_cases e : ee = 0
 ·obtain ⟨A, dB, hp, hd, ha⟩ := h2 e
  obtain ⟨B, rB, hq, hr, hb⟩ := k2 e
  refine .inr ⟨e, ⟨A, B, dB, rB, d1, r1⟩, hp, hq, rfl, rfl, ⟨hd.below b, hr, fun i hi hi2 => by have := hd.lt4 i hi; have := hb i hi2; omega⟩, fun i hi => ?_⟩
  have hge : w0.heap.size ≤ i := hi.elim (ha i) (fun q => Nat.le_trans b1 (hb i q))
  exact ⟨hge, fun q => by have := hU i q; omega⟩
 ·exact .inl ⟨e, h1 e, k1 e⟩
theorem Ws.joinN (h : Ws w wB U z qs) (k : NewD w ee pd pr d1 r1 m U) (h4 : qs.length ≤ 4) :
  Calls Try.prog 27 #[.pointer (some ⟨wB, 0, none⟩), pd, .int .i64 ee, pr, .int .i64 ee] w fun e w' => e = .returned (.bool true) ∧ ∃ U' qs', Ws w' wB U' z qs' ∧ (qs' = qs ∨ ∃ p' : Pr4, qs' = qs ++ [p'] ∧ p'.d = d1 ∧ p'.r = r1) ∧ Go4 w w' (fun i => U i ∨ m ≤ i) U' := by
 rcases k with ⟨h0, rfl, rfl⟩ | ⟨rfl, p, rfl, rfl, h3, h4b, h5, h6⟩
 ·refine (joins_nil h0 w).mono ?_
  rintro e w' ⟨rfl, rfl⟩
  exact ⟨rfl, U, qs, h, .inl rfl, (Go4.refl _ _).less (fun i hi => .inl hi)⟩
 ·refine (h.joined h5 (fun i hi => (h6 i hi).2) h4).mono ?_
  rintro e w' ⟨rfl, U2, s, g⟩
  exact ⟨rfl, U2, _, s, .inr ⟨p, rfl, h3, h4b⟩, g.wide (fun i hi => hi.imp id (fun q => (h6 i q).1)) (fun i hi => .inl hi)⟩
theorem Go4.trans9 {a b c : World} {U1 U2 : Nat → Prop} (h : Go4 a b U U1) (k : Go4 b c (fun i => U1 i ∨ m ≤ i) U2) (hm : a.heap.size ≤ m) : Go4 a c U U2 := (h.more (Q := fun i => m ≤ i) (fun i q => Nat.le_trans hm q)).trans k
def MakesP (w : World) (wB : Nat) (U : Nat → Prop) (z : Int) (qs : List Pr4) (e : Ending) (w' : World) : Prop := e = .returned (.bool true) ∧ ∃ (U' : Nat → Prop) (z' : Int) (qs' : List Pr4), Ws w' wB U' z' qs' ∧ Lks qs' ∧ Go4 w w' U U' ∧ z' ≤ z + 1000000000000 ∧ (qs' = qs ∨ ∃ p' : Pr4, qs' = qs ++ [p'] ∧ p'.d.down = false)
theorem makesP_of {U1 U2 : Nat → Prop} {z1 : Int} {qs' : List Pr4} (hl : Lks qs) (lk : Lk d1 r1) (hd : d1.down = false) (s : Ws w' wB U2 z1 qs') (hq : qs' = qs ∨ ∃ p' : Pr4, qs' = qs ++ [p'] ∧ p'.d = d1 ∧ p'.r = r1) (g : Go4 w w' U U2) (hz : z1 ≤ z + 1000000000000) : MakesP w wB U z qs (.returned (.bool true)) w' := by
 refine ⟨rfl, U2, z1, qs', s, ?_, g, hz, ?_⟩
 ·rcases hq with rfl | ⟨p, rfl, e1, e2⟩
  ·exact hl
  ·intro q hq
   rcases List.mem_append.1 hq with hq | hq
   ·exact hl q hq
   ·rw [List.mem_singleton] at hq
    subst hq
    rw [e1, e2]
    exact lk
 ·rcases hq with rfl | ⟨p, rfl, e1, e2⟩
  ·exact .inl rfl
  ·exact .inr ⟨p, rfl, by rw [e1]; exact hd⟩
set_option maxRecDepth 100000 in
set_option maxHeartbeats 4000000 in
theorem makes_new {ii : Int} (hk : o.kind = 17) (h : Ws w wB U z qs) (hl : Lks qs) (ho : RdOp w U o) (h4 : qs.length ≤ 4) : Calls Try.prog 7 #[.pointer (some ⟨wB, 0, none⟩), o.val, .int .i64 ii] w (MakesP w wB U z qs) := by
 have nb : ¬ U w.heap.size := fun q => Nat.lt_irrefl _ (h.lt _ q)
 have NB := Lib.hid nb
 clear nb
 have HK := Lib.hid hk
 have HW := Lib.hid h
 have HLK := Lib.hid hl
 have HO := Lib.hid ho
 have hr0 := h.rows
 obtain ⟨aD, cD, aR, cR, hr0⟩ := hr0
 have HROW := Lib.hid hr0
 have hqn : ∃ qn, qn = qs.length := ⟨_, rfl⟩
 obtain ⟨qn, hqn⟩ := hqn
 rw [← hqn] at h4 HROW
 have HQN := Lib.hid hqn
 clear h hl ho hk hr0 hqn
 unfold OpD.val
 go_enter Try.func7, Try.ntmps7
 go_upto_region 1 with fail
 have hX : ∃ X, X = w.alloc (.cells #[.int .i64 o.kind, .int .i64 o.obj, .string o.nm, .string o.nt, .slice o.aB o.nB o.kB, .int .i64 o.pos, .int .i64 o.num, .slice o.aC o.nC o.kC, .slice o.aF o.nF o.kF] 30) := ⟨_, rfl⟩
 obtain ⟨X, hX⟩ := hX
 have bx : OBox X w.heap.size o := by rw [hX]; exact heap_new _ _
 have bA : Below w.heap.size w X := by rw [hX]; exact (Below.refl _ _).alloc (Nat.le_refl _) _
 rw [← hX]
 clear hX
 have hbo : ∃ bo, bo = w.heap.size := ⟨_, rfl⟩
 obtain ⟨bo, hbo⟩ := hbo
 rw [← hbo] at bx ⊢
 rw [← hbo] at NB
 have HX := Lib.hid (And.intro bx (And.intro bA hbo))
 have W1 := Lib.hid (HW.out.later bA)
 have c0 := bx.cells.1
 rw [HK.out] at c0
 have d0 := (bA.cell (World.block_lt_of_cell? _ _ HROW.out.1)).trans HROW.out.1
 have jq : (qn : Int) ≤ 4 := by omega
 clear bx bA hbo
 go_upto_region 5 with fail
 clear c0 d0
 have q6 := HX.out.1.cells.2.2.2.2.2.2.1
 by_cases hN : o.num < 0 ∨ 67108864 < o.num
 ·go_wp2_with fail
  refine (new4_bad hN _).mono ?_
  rintro e1 Z1 ⟨he1, hz1⟩
  subst he1
  rw [hz1]
  clear hz1
  go_wp2_with fail
  refine (rNew_bad hN _).mono ?_
  rintro e2 Z2 ⟨he2, hz2⟩
  subst he2
  rw [hz2]
  clear hz2
  go_wp2_with fail
  refine (joins_nil (by decide) X).mono ?_
  rintro e3 Z3 ⟨he3, hz3⟩
  subst he3
  rw [hz3]
  clear hz3
  go_wp2
  go_ret
  exact ⟨rfl, U, z, qs, W1.out, HLK.out, Go4.of_below HX.out.2.1, by omega, .inl rfl⟩
 ·have HNN := Lib.hid hN
  clear hN
  go_wp2_with fail
  refine (new4_any (by have := HNN.out; omega) (by have := HNN.out; omega) _).mono ?_
  rintro e1 Z1 ⟨A1, dB1, he1, k1, b1, a1⟩
  subst he1
  have D1 := Lib.hid (And.intro k1 (And.intro b1 a1))
  have q6b := (HX.out.1.later b1).cells.2.2.2.2.2.2.1
  clear k1 b1 a1 q6
  go_wp2_with fail
  refine (rNew_any (by have := HNN.out; omega) (by have := HNN.out; omega) _).mono ?_
  rintro e2 Z2 ⟨B1, rB1, he2, k2, b2, a2⟩
  subst he2
  have BF := Lib.hid (HX.out.2.1.trans ((D1.out.2.1.trans (b2.mono D1.out.2.1.size)).mono HX.out.2.1.size))
  have W3 := Lib.hid ((W1.out.later D1.out.2.1).later b2)
  have tk : T5 Z2 A1 B1 dB1 rB1 (newD o.num) (newD o.num) := ⟨D1.out.1.below b2, k2, fun i hi hi2 => by have := D1.out.1.lt4 i hi; have := a2 i hi2; omega⟩
  have TK := Lib.hid tk
  have hge : ∀ i, (A1 i ∨ B1 i) → X.heap.size ≤ i := fun i hi => hi.elim (D1.out.2.2 i) (fun q => Nat.le_trans D1.out.2.1.size (a2 i q))
  have HGE := Lib.hid hge
  clear k2 b2 a2 tk hge q6b
  go_wp2_with fail
  refine (W3.out.joined (p := ⟨A1, B1, dB1, rB1, newD o.num, newD o.num⟩) TK.out (fun i hi q => by have := HGE.out i hi; have := W1.out.lt i q; omega) (by have := HQN.out; omega)).mono ?_
  rintro e3 Z3 ⟨he3, U3, w3, g3⟩
  subst he3
  have W4 := Lib.hid w3
  have G4 := Lib.hid (((Go4.of_below (O := U) BF.out).more (Q := fun i => A1 i ∨ B1 i) (fun i hi => Nat.le_trans HX.out.2.1.size (HGE.out i hi))).trans g3)
  clear w3 g3
  go_wp2
  go_ret
  exact makesP_of (U1 := U) HLK.out (Lk.new o.num) rfl W4.out (.inr ⟨_, rfl, rfl, rfl⟩) G4.out (by omega)
set_option maxRecDepth 100000 in
set_option maxHeartbeats 4000000 in
theorem makes_full {ii : Int} (h : Ws w wB U z qs) (hl : Lks qs) (h5 : 5 ≤ qs.length) : Calls Try.prog 7 #[.pointer (some ⟨wB, 0, none⟩), o.val, .int .i64 ii] w (MakesP w wB U z qs) := by
 have HW := Lib.hid h
 have HLK := Lib.hid hl
 have hr0 := h.rows
 obtain ⟨aD, cD, aR, cR, hr0⟩ := hr0
 have HROW := Lib.hid hr0
 have hqn : ∃ qn, qn = qs.length := ⟨_, rfl⟩
 obtain ⟨qn, hqn⟩ := hqn
 rw [← hqn] at h5 HROW
 clear h hl hr0 hqn
 unfold OpD.val
 go_enter Try.func7, Try.ntmps7
 go_upto_region 1 with fail
 have hX : ∃ X, X = w.alloc (.cells #[.int .i64 o.kind, .int .i64 o.obj, .string o.nm, .string o.nt, .slice o.aB o.nB o.kB, .int .i64 o.pos, .int .i64 o.num, .slice o.aC o.nC o.kC, .slice o.aF o.nF o.kF] 30) := ⟨_, rfl⟩
 obtain ⟨X, hX⟩ := hX
 have bA : Below w.heap.size w X := by rw [hX]; exact (Below.refl _ _).alloc (Nat.le_refl _) _
 rw [← hX]
 clear hX
 have W1 := Lib.hid (HW.out.later bA)
 have d0 := (bA.cell (World.block_lt_of_cell? _ _ HROW.out.1)).trans HROW.out.1
 have HB := Lib.hid bA
 have jq : (5 : Int) ≤ (qn : Int) := by omega
 clear bA
 go_wp2
 go_ret
 exact ⟨rfl, U, z, qs, W1.out, HLK.out, Go4.of_below HB.out, by omega, .inl rfl⟩
end Go.Proofs.Ytlkhphhmhffdjaa
