import Derived.Test.YtchebhafabhabaaGreatDoorK20
namespace Go.Proofs.YtchebhafabhabaaGreatDoor
open Go.RowKit Go.Shelf
set_option linter.unusedVariables false
attribute [local go_sem] Oper.semAt_some

def xbE (D : EntD) (k : Nat) : Prop := D.vr.ownBlock = some k ∨ D.vq.ownBlock = some k ∨ D.vv.ownBlock = some k
def YGF (l : List (List Nat × List Nat)) (B0 : Nat) (C : Nat → Prop) (pre : List EntD) (x : EntD) (W : World) : Prop :=
 YG l pre x W ∧ ∃ Bq, B0 ≤ Bq ∧ (∀ k, C k → k < Bq) ∧ Own W Bq x.vr x.row.length x.row ∧ Own W Bq x.vq x.qual.length x.qual ∧ Own W Bq x.vv x.val.length x.val ∧ (∀ k, x.vr.ownBlock = some k → x.vq.ownBlock ≠ some k) ∧ (∀ k, x.vr.ownBlock = some k → x.vv.ownBlock ≠ some k) ∧ (∀ k, x.vq.ownBlock = some k → x.vv.ownBlock ≠ some k)
theorem YGF.xb {l : List (List Nat × List Nat)} {B0 : Nat} {C : Nat → Prop} {pre : List EntD} {x : EntD} {W : World} (h : YGF l B0 C pre x W) {k : Nat} (hk : xbE x k) : B0 ≤ k ∧ ¬ C k ∧ k < W.heap.size := by
 obtain ⟨-, Bq, h1, h2, h3, h4, h5, -⟩ := h
 have hb : Bq ≤ k ∧ k < W.heap.size := by
  rcases hk with hk | hk | hk
  ·exact h3.2.lt k hk
  ·exact h4.2.lt k hk
  ·exact h5.2.lt k hk
 exact ⟨by omega, fun c => by have := h2 k c; omega, hb.2⟩
theorem YGF.sub {l : List (List Nat × List Nat)} {B0 : Nat} {C C' : Nat → Prop} {pre : List EntD} {x : EntD} {W : World} (h : YGF l B0 C pre x W) (k : ∀ i, C' i → C i) : YGF l B0 C' pre x W := by
 obtain ⟨h0, Bq, h1, h2, h3⟩ := h
 exact ⟨h0, Bq, h1, fun i hi => h2 i (k i hi), h3⟩
theorem Fb.trans' {w w' w2 : World} {O O' : Nat → Prop} (h : Fb w w' O) (k : Fb w' w2 O') (hs : w.heap.size ≤ w'.heap.size) (m : ∀ i, i < w.heap.size → O' i → O i) : Fb w w2 O :=
 ⟨k.os.trans h.os, k.tape.trans h.tape, k.output.trans h.output, Nat.le_trans h.size k.size, fun i hi ho => (k.block i (by omega) (fun z => ho (m i hi z))).trans (h.block i hi ho)⟩
structure YIF {M : Type} (gy B0 ly q : Nat) (J Jx : List EntD × M → World → Prop) (O : List EntD × M → Nat → Prop) (st : Nat × (List EntD × M)) (w : World) : Prop where
 c : (st.1 ≤ q ∧ st.2.1.length = st.1 ∧ J st.2 w) ∨ (st.1 = q + 1 ∧ st.2.1.length = q + 1 ∧ Jx st.2 w)
 y : Cell1B w gy (.func (.yield ly) #[] #[]) 112
 ny : ¬ O st.2 gy
 lt : ∀ k, O st.2 k → k < w.heap.size
 sz : B0 ≤ w.heap.size
set_option maxRecDepth 100000 in
set_option maxHeartbeats 4000000 in
theorem all2_asksF {M : Type} {gy B0 ly q Bs : Nat} {J Jx : List EntD × M → World → Prop} {O : List EntD × M → Nat → Prop} {l : List (List Nat × List Nat)} (hJ : StF Bs J O) (hlt : ∀ st X k, J st X → O st k → k < X.heap.size) (hltx : ∀ st X k, Jx st X → O st k → k < X.heap.size) (hkeys : ∀ kv ∈ l, okIt kv.1 kv.2)
  (hY : ∀ m pre mm x W1, J (pre, mm) W1 → YGF l B0 (O (pre, mm)) pre x W1 → YieldAt Fence.wide m Tryz.prog ly #[.agg x.cells] W1 fun e W' => (pre.length ≠ q ∧ e = .returned (.bool true) ∧ RdF J O xbE (O (pre, mm)) pre x W1 W') ∨ (pre.length = q ∧ e = .returned (.bool false) ∧ RdF Jx O xbE (O (pre, mm)) pre x W1 W'))
  (st : Nat × (List EntD × M)) (w : World) (it : It) (ak av : Option Addr) (kc vc kn vn : Nat) (hok : st.1 ≤ q ∧ l[st.1]? = some (it.key, it.val)) (hI : YIF gy B0 ly q J Jx O st w) (hk : Rd w (.slice ak kn kc) it.key) (hv : Rd w (.slice av vn vc) it.val) (hkl : kn ≤ 131072) (hvl : vn ≤ 131072) :
  Calls Tryz.prog 75 (#[.agg #[.int .i64 (it.number : Int), .int .i64 (it.place : Int), .int .i64 (it.shared : Int), .slice ak kn kc, .slice av vn vc]] ++ #[.pointer (some ⟨gy, 0, none⟩)]) w fun e w' => e = .returned (.bool (AQ q st.1 it).1) ∧ ∃ mm, YIF gy B0 ly q J Jx O ((AQ q st.1 it).2, mm) w' ∧ Fb w w' (O st.2) ∧ ∀ k, O mm k → O st.2 k ∨ w.heap.size ≤ k := by
 obtain ⟨nu, pl, sh, K, V⟩ := it
 obtain ⟨s0, pre, mm⟩ := st
 simp only [AQ] at *
 obtain ⟨bb, hbb⟩ : ∃ bb, bb = decide (s0 ≠ q) := ⟨_, rfl⟩
 rw [← hbb]
 obtain ⟨hlen, hj⟩ : pre.length = s0 ∧ J (pre, mm) w := by
  rcases hI.c with h | h
  ·exact ⟨h.2.1, h.2.2⟩
  ·have := hok.1; have := h.1; simp only at this; omega
 have A1 := (Below.refl w.heap.size w).alloc (Nat.le_refl _) (.cells #[.int .i64 nu, .int .i64 pl, .int .i64 sh, .slice ak kn kc, .slice av vn vc] 116)
 have ib := IBox.new w nu pl sh (.slice ak kn kc) (.slice av vn vc)
 obtain ⟨X, hX⟩ : ∃ X, X = w.alloc (.cells #[.int .i64 nu, .int .i64 pl, .int .i64 sh, .slice ak kn kc, .slice av vn vc] 116) := ⟨_, rfl⟩
 have hXs : X.heap.size = w.heap.size + 1 := by rw [hX]; simp
 rw [← hX] at A1 ib
 have HX := Lib.hid hX
 have HA1 := Lib.hid A1
 have hy1 := (hI.y.later A1).cell
 have HYc : Hid (∀ Z, Below X.heap.size X Z → Z.cell? ⟨gy, 0, none⟩ = some (.func (.yield ly) #[] #[])) := fun Z b => ((hI.y.later A1).later b).cell
 have D0 : Below X.heap.size X X.drew := (Below.refl _ _).drew
 have HEn := Lib.hid (fun (Z : World) (b : Below X.heap.size X Z) => entry_ap (nu : Int) (pl : Int) (sh : Int) ((hk.later A1).later b) ((hv.later A1).later b) hkl hvl)
 have hmem : (K, V) ∈ l := List.mem_of_getElem? hok.2
 have HYY : Hid (∀ (Z Z0 : World) (e : EntD), Below X.heap.size X Z0 → Below Z0.heap.size Z0 Z → EntD.Ok Z e → (checkS e = 0 ↔ okIt K V) → (IsKey K → keyL e = K ∧ e.val = V) → (Own Z Z0.heap.size e.vr e.row.length e.row ∧ Own Z Z0.heap.size e.vq e.qual.length e.qual ∧ Own Z Z0.heap.size e.vv e.val.length e.val) → ((∀ k, e.vr.ownBlock = some k → e.vq.ownBlock ≠ some k) ∧ (∀ k, e.vr.ownBlock = some k → e.vv.ownBlock ≠ some k) ∧ (∀ k, e.vq.ownBlock = some k → e.vv.ownBlock ≠ some k)) → YieldAt Fence.wide 1 Tryz.prog ly #[.agg #[e.vr, .int .i64 e.fam, e.vq, .int .i64 e.ts, .int .i64 e.seq, .int .i64 e.kind, e.vv]] Z fun z W' => z = .returned (.bool bb) ∧ Hid (∃ mm', YIF gy B0 ly q J Jx O (s0 + 1, mm') W' ∧ Fb w W' (O (pre, mm)) ∧ ∀ k, O mm' k → O (pre, mm) k ∨ w.heap.size ≤ k)) := fun Z Z0 e b0 b1 he hc hke ho ha => by
  have hkv := hkeys _ hmem
  have bZ : Below X.heap.size X Z := b0.trans (b1.mono b0.size)
  have hb : Below w.heap.size w Z := HA1.out.trans (bZ.mono HA1.out.size)
  have hsz0 : w.heap.size < Z0.heap.size := by have := b0.size; omega
  have hgyl : gy < w.heap.size := hI.y.lt
  have hg : YGF l B0 (O (pre, mm)) pre e Z := ⟨⟨⟨(K, V), by rw [hlen]; exact hok.2, (hke hkv.1).1, (hke hkv.1).2⟩, he, hc.2 hkv⟩, Z0.heap.size, by have := hI.sz; omega, fun k hk => by have := hlt _ _ k hj hk; omega, ho.1, ho.2.1, ho.2.2, ha.1, ha.2.1, ha.2.2⟩
  have hxlo : ∀ k, xbE e k → w.heap.size < k := fun k hk => by
   have h3 : Z0.heap.size ≤ k := by
    rcases hk with hk | hk | hk
    ·exact (ho.1.2.lt k hk).1
    ·exact (ho.2.1.2.lt k hk).1
    ·exact (ho.2.2.2.lt k hk).1
   omega
  have hjZ : J (pre, mm) Z := hJ _ _ _ (fun _ => False) hj (Fb.of_below hb) (fun _ _ _ h => h) (fun _ h => h.elim)
  have core : ∀ (Jy : List EntD × M → World → Prop) (W' : World), (∀ st X k, Jy st X → O st k → k < X.heap.size) → (∀ mm', Jy (pre ++ [e], mm') W' → ((s0 + 1 ≤ q ∧ (pre ++ [e]).length = s0 + 1 ∧ J (pre ++ [e], mm') W') ∨ (s0 + 1 = q + 1 ∧ (pre ++ [e]).length = q + 1 ∧ Jx (pre ++ [e], mm') W'))) → RdF Jy O xbE (O (pre, mm)) pre e Z W' → ∃ mm', YIF gy B0 ly q J Jx O (s0 + 1, mm') W' ∧ Fb w W' (O (pre, mm)) ∧ ∀ k, O mm' k → O (pre, mm) k ∨ w.heap.size ≤ k := fun Jy W' hjl hjc ⟨mm', hj', f, hn⟩ => by
   have hn2 : ∀ k, O (pre ++ [e], mm') k → O (pre, mm) k ∨ w.heap.size ≤ k := fun k hk => by
    rcases hn k hk with h | h | h
    ·exact .inl h
    ·have := hxlo k h; exact .inr (by omega)
    ·have := hb.size; exact .inr (by omega)
   have fw : Fb w W' (O (pre, mm)) := (Fb.of_below (O := O (pre, mm)) hb).trans' f hb.size (fun k hk h => by rcases h with h | h; exact h; have := hxlo k h; omega)
   refine ⟨(pre ++ [e], mm'), ⟨hjc mm' hj', hI.y.fb fw hI.ny, fun h => ?_, fun k hk => hjl _ _ k hj' hk, Nat.le_trans hI.sz fw.size⟩, fw, hn2⟩
   rcases hn2 gy h with h | h
   ·exact hI.ny h
   ·omega
  refine YieldAt.mono (hY 1 pre mm e Z hjZ hg) ?_
  rintro z W' (⟨hq, rfl, hr⟩ | ⟨hq, rfl, hr⟩)
  ·refine ⟨by rw [hbb, decide_eq_true (by omega)], core J W' hlt (fun mm' h => .inl ⟨by have := hok.1; omega, by simp [hlen], h⟩) hr⟩
  ·refine ⟨by rw [hbb, decide_eq_false (by omega)], core Jx W' hltx (fun mm' h => .inr ⟨by omega, by simp; omega, h⟩) hr⟩
 obtain ⟨c0, c1, c2, c3, c4⟩ := ib.cells
 have hdd : ∀ k : Nat, (Fence.wide.depth.isSome = true → 1 ≤ k) := fun k h => by cases h
 have hmx : Tryz.prog.follows .mixedOrders = true := by kernel_rfl
 clear hX A1 ib hI hk hv hok hmem hY hJ hkeys hlt hltx hj hlen hbb hXs
 refine (callsIn_wide (n := 1)).1 ?_
 refine callsIn_of_wp Tryz.func75 rfl trivial ?_ rfl
 simp only [Tryz.ntmps75, List.size_toArray, List.length_cons, List.length_nil, Nat.reduceAdd, Nat.reduceSub, Array.replicate_succ, Array.replicate_zero, List.push_toArray, List.append_toArray, List.nil_append, List.cons_append]
 gi_wp2
 rw [← HX.out]
 clear HX
 unfold EnA EntD.cells at HEn
 gi_region_with_o (first
  | ((first | refine ⟨trivial, hdd _, ?_⟩ | refine ⟨trivial, ?_⟩ | refine ⟨hdd _, ?_⟩); gi_at_call 76; refine (callsIn_wide.2 (HEn.out _ D0)).mono ?_; rintro z w1 ⟨e, rfl, hok, hchk, hkey, b1, hown, hap⟩; have yc1 := HYc.out _ (D0.trans (b1.mono D0.size)); obtain ⟨fn, tmps, assign, body, hy, hR⟩ := HYY.out w1 _ e D0 b1 hok hchk hkey hown hap)
  | ((first | refine ⟨hdd _, ?_⟩ | skip); refine (roundIn_anyDepthB hR).mono ?_; rintro z W3 ⟨rfl, hr⟩))
 all_goals
  gi_wp2
  go_ret
  exact ⟨rfl, hr.out⟩
end Go.Proofs.YtchebhafabhabaaGreatDoor

namespace Go.Proofs.YtchebhafabhabaaGreatDoor
open Go.RowKit Go.Shelf
set_option linter.unusedVariables false
attribute [local go_sem] Oper.semAt_some

theorem ask_all (p r : Nat) : ∀ (l : List (List Nat × List Nat)) (s : Bs) (k : Nat), (askB (fun (k : Nat) (_ : It) => (true, k + 1)) p (itemsB r s l) k).2.2 = k + l.length
 | [], s, k => rfl
 | kv :: t, s, k => by
  simp only [itemsB, askB, if_true]
  rw [ask_all p r t]
  simp; omega
theorem all_seq {w : World} {g r b ne ce np cp B0 gc i0 : Nat} {E P : List Nat} {l : List (List Nat × List Nat)} (hL : Blad r l E P) (hk : Lk w B0 g r l.length b ne ce E P np cp) (hc : Cell1B w gc (.pointer (some ⟨g, 0, none⟩)) 58) (hi : i0 < w.heap.size) (hig : i0 ≠ g) (hib : i0 ≠ b) :
  SeqT Tryz.prog 73 #[.pointer (some ⟨gc, 0, none⟩)] (fun x : EntD => #[.agg x.cells]) (fun _ => YG l) (fun _ A C => Fb A C (fun k => k = i0 ∨ k = w.heap.size + 1)) (fun xs => xs.length = l.length) (fun _ => True) w := by
 intro ly n J Jx W hF hW2 hW hJs hJ hJx hY h0
 have hgl : g < w.heap.size := (Array.getElem?_eq_some_iff.1 hk.box).1
 have hsz := hL.size
 have hne : E ≠ [] := by
  intro h
  have := hL.few
  rw [h] at this
  exact hL.some_ (List.eq_nil_of_length_eq_zero (by simpa using this))
 have hbl : b < w.heap.size := World.block_lt_of_cell? _ _ (rd_cell hk.ents 0 (by rw [(rd_lens hk.ents).1]; exact List.length_pos_iff.2 hne)).1
 have bW : Below w.heap.size w W := hW
 have A1 := (Below.refl W.heap.size W).alloc (Nat.le_refl _) (.cells #[.func (.yield ly) #[] #[]] 112)
 have B1 : Cell1B (W.alloc (.cells #[.func (.yield ly) #[] #[]] 112)) W.heap.size (.func (.yield ly) #[] #[]) 112 := heap_alloc_new W _
 have hsX : (W.alloc (.cells #[.func (.yield ly) #[] #[]] 112)).heap.size = W.heap.size + 1 := by simp
 obtain ⟨X, hX⟩ : ∃ X, X = W.alloc (.cells #[.func (.yield ly) #[] #[]] 112) := ⟨_, rfl⟩
 rw [← hX] at A1 B1 hsX
 have bX : Below w.heap.size w X := bW.trans (A1.mono bW.size)
 have hY2 : ∀ m pre x W1, J pre W1 → YG l pre x W1 → YieldAt Fence.wide m Tryz.prog ly #[.agg x.cells] W1 fun e W' => e = .returned (.bool true) ∧ J (pre ++ [x]) W' ∧ Fb W1 W' (fun k => k = i0 ∨ k = w.heap.size + 1) := fun m pre x W1 hj hg => by
  refine YieldAt.mono (hY m pre x W1 hj hg) ?_
  rintro e W' (h | h)
  ·exact h
  ·exact absurd h.2.1 (hF _ _)
 have hask := all2_asker (gy := W.heap.size) (N := l.length) (Lo := W.heap.size + 1) hJ hJs (by rintro k (rfl | rfl) <;> omega) (by omega) hL.ok hY2
 have hwk := ok_lay l r l Bs.zero [] 0 E hL.es (.inr rfl) (Nat.le_refl _) (by omega) (by simp)
 have hres := walk_lay (fun (k : Nat) (_ : It) => (true, k + 1)) r l Bs.zero [] 0 E hL.es (.inr rfl) (Nat.le_refl _) (by omega)
 have hst := ask_all E.length r l Bs.zero 0
 rw [← hres] at hst
 have HWk := Lib.hid (walk_ok (W := X) (st := (0, [])) hask 0 0 (hk.box.later bX) (hk.ents.later bX) (by omega) ⟨rfl, hJ _ _ _ (Nat.le_refl _) h0 A1, B1, Nat.le_refl _⟩ (by rintro (h | h) <;> omega) (by rintro (h | h) <;> omega) (by have := bX.size; omega) (by have := bX.size; omega) (by omega) (by have := hL.few; omega) (by omega) (Nat.zero_le _) hwk)
 have HSt : Hid ((walkS E (fun (k : Nat) (_ : It) => (true, k + 1)) (l.length - 0) 0 0 [] 0).2.2 = l.length) := by
  unfold Hid
  have : (walkS E (fun (k : Nat) (_ : It) => (true, k + 1)) (l.length - 0) 0 0 [] 0).2.2 = 0 + l.length := hst
  rw [this]; omega
 have d0 := (hc.later bX).cell
 have HX := Lib.hid hX
 refine callsIn_wide.2 ?_
 obtain ⟨res, hres⟩ : ∃ res, walkS E (fun (k : Nat) (_ : It) => (true, k + 1)) (l.length - 0) 0 0 [] 0 = res := ⟨_, rfl⟩
 unfold WaP at HWk
 simp only [hres] at HWk HSt
 clear hY hY2 hask hwk hst hJs hJ hJx hk hc hL hX A1 B1 bX bW hW hres hF h0
 go_enter Tryz.func73, Tryz.ntmps73
 go_upto_region 1 with fail
 rw [← HX.out]
 clear HX
 go_wp2_with fail
 refine Calls.mono HWk.out ?_
 rintro z Y ⟨rfl, mm, hI, -⟩
 rw [HSt.out] at hI
 have HE : Hid (mm.length = l.length ∧ J mm Y) := ⟨hI.len, hI.j⟩
 clear HWk HSt hI
 go_wp2
 refine bodyPost_end (results_none rfl _ _ _) rfl ?_
 exact ⟨⟨_, rfl⟩, .inl ⟨mm, HE.out.1, HE.out.2⟩⟩
end Go.Proofs.YtchebhafabhabaaGreatDoor

namespace Go.Proofs.YtchebhafabhabaaGreatDoor
open Go.RowKit Go.Shelf
set_option linter.unusedVariables false
attribute [local go_sem] Oper.semAt_some

theorem all2_askerF {M : Type} {gy B0 ly q N Lo Bs : Nat} {J Jx : List EntD × M → World → Prop} {O : List EntD × M → Nat → Prop} {l : List (List Nat × List Nat)} (hJ : StF Bs J O) (hJx : StF Bs Jx O) (hBs : Bs ≤ Lo) (hlt : ∀ st X k, J st X → O st k → k < X.heap.size) (hltx : ∀ st X k, Jx st X → O st k → k < X.heap.size) (hLo : gy < Lo) (hkeys : ∀ kv ∈ l, okIt kv.1 kv.2)
  (hY : ∀ m pre mm x W1, J (pre, mm) W1 → YGF l B0 (O (pre, mm)) pre x W1 → YieldAt Fence.wide m Tryz.prog ly #[.agg x.cells] W1 fun e W' => (pre.length ≠ q ∧ e = .returned (.bool true) ∧ RdF J O xbE (O (pre, mm)) pre x W1 W') ∨ (pre.length = q ∧ e = .returned (.bool false) ∧ RdF Jx O xbE (O (pre, mm)) pre x W1 W')) :
  AskerO Nat (List EntD × M) 75 #[.pointer (some ⟨gy, 0, none⟩)] N Lo (YIF gy B0 ly q J Jx O) (fun st => O st.2) (AQ q) (fun k it => k ≤ q ∧ l[k]? = some (it.key, it.val)) where
 enters := enters_of Tryz.func75 (by kernel_rfl) rfl
 lt := fun st w k h ho => h.lt k ho
 stays := fun st w w' O' h f hk hL => ⟨by
  rcases h.c with c | c
  ·exact .inl ⟨c.1, c.2.1, hJ _ _ _ _ c.2.2 f hk (fun k o => Nat.le_trans hBs (hL k o))⟩
  ·exact .inr ⟨c.1, c.2.1, hJx _ _ _ _ c.2.2 f hk (fun k o => Nat.le_trans hBs (hL k o))⟩, h.y.fb f (fun o => by have := hL _ o; omega), h.ny, fun k hk' => Nat.lt_of_lt_of_le (h.lt k hk') f.size, Nat.le_trans h.sz f.size⟩
 asks := fun st w it ak av kc vc kn vn hok hI hnu hkn hvn hk hv hkl hvl hst => all2_asksF hJ hlt hltx hkeys hY st w it ak av kc vc kn vn hok hI hk hv hkl hvl
theorem all_seqF {M : Type} {w : World} {q g r b ne ce np cp B0 gc : Nat} {E P : List Nat} {l : List (List Nat × List Nat)} (hL : Blad r l E P) (hk : Lk w B0 g r l.length b ne ce E P np cp) (hc : Cell1B w gc (.pointer (some ⟨g, 0, none⟩)) 58) :
  SeqF M q Tryz.prog 73 #[.pointer (some ⟨gc, 0, none⟩)] (fun x : EntD => #[.agg x.cells]) (YGF l (w.heap.size + 2)) xbE (fun k => k = g ∨ k = b) (fun xs => xs.length = l.length ∧ l.length ≤ q) (fun pre => pre.length = q + 1 ∧ q < l.length) w := by
 intro ly n J Jx O W m0 hW hW2 hJs hJl hJlx hJst hJxst hY h0
 have hgl : g < w.heap.size := (Array.getElem?_eq_some_iff.1 hk.box).1
 have hsz := hL.size
 have hne : E ≠ [] := by
  intro h
  have := hL.few
  rw [h] at this
  exact hL.some_ (List.eq_nil_of_length_eq_zero (by simpa using this))
 have hbl : b < w.heap.size := World.block_lt_of_cell? _ _ (rd_cell hk.ents 0 (by rw [(rd_lens hk.ents).1]; exact List.length_pos_iff.2 hne)).1
 have bW : Below w.heap.size w W := hW
 have A1 := (Below.refl W.heap.size W).alloc (Nat.le_refl _) (.cells #[.func (.yield ly) #[] #[]] 112)
 have B1 : Cell1B (W.alloc (.cells #[.func (.yield ly) #[] #[]] 112)) W.heap.size (.func (.yield ly) #[] #[]) 112 := heap_alloc_new W _
 have hsX : (W.alloc (.cells #[.func (.yield ly) #[] #[]] 112)).heap.size = W.heap.size + 1 := by simp
 obtain ⟨X, hX⟩ : ∃ X, X = W.alloc (.cells #[.func (.yield ly) #[] #[]] 112) := ⟨_, rfl⟩
 rw [← hX] at A1 B1 hsX
 have bX : Below w.heap.size w X := bW.trans (A1.mono bW.size)
 have hask := all2_askerF (gy := W.heap.size) (N := l.length) (Lo := W.heap.size + 1) hJst hJxst (by have := bW.size; omega) (fun st X k h o => (hJl st X k h o).1) hJlx (by omega) hL.ok hY
 have hwk := ok_layQ q l r l Bs.zero [] 0 E hL.es (.inr rfl) (Nat.le_refl _) (by omega) (by simp) (Nat.zero_le _)
 have hres := walk_lay (AQ q) r l Bs.zero [] 0 E hL.es (.inr rfl) (Nat.le_refl _) (by omega)
 have hst := ask_allQ q E.length r l Bs.zero 0 (Nat.zero_le _)
 rw [← hres] at hst
 have hI0 : YIF W.heap.size (w.heap.size + 2) ly q J Jx O (0, ([], m0)) X := ⟨.inl ⟨Nat.zero_le _, rfl, hJst _ _ _ (fun _ => False) h0 (Fb.of_below A1) (fun _ _ _ h => h) (fun _ h => h.elim)⟩, B1, fun h => by have := (hJl _ _ _ h0 h).1; omega, fun k hk' => by have := (hJl _ _ _ h0 hk').1; omega, by omega⟩
 have HWk := Lib.hid (walk_ok (W := X) (st := (0, ([], m0))) hask 0 0 (hk.box.later bX) (hk.ents.later bX) (by omega) hI0 (fun h => (hJl _ _ _ h0 h).2 (.inl rfl)) (fun h => (hJl _ _ _ h0 h).2 (.inr rfl)) (by have := bX.size; omega) (by have := bX.size; omega) (by omega) (by have := hL.few; omega) (by omega) (Nat.zero_le _) hwk)
 have HSt : Hid ((walkS E (AQ q) (l.length - 0) 0 0 [] 0).2.2 = if q < l.length then q + 1 else l.length) := by
  unfold Hid
  have : (walkS E (AQ q) (l.length - 0) 0 0 [] 0).2.2 = if q < 0 + l.length then q + 1 else 0 + l.length := hst
  rw [this, Nat.zero_add]
 have d0 := (hc.later bX).cell
 have HX := Lib.hid hX
 refine callsIn_wide.2 ?_
 obtain ⟨res, hres⟩ : ∃ res, walkS E (AQ q) (l.length - 0) 0 0 [] 0 = res := ⟨_, rfl⟩
 unfold WaP at HWk
 simp only [hres] at HWk HSt
 clear hY hask hwk hst hJs hJl hJlx hJst hJxst hk hc hL hX A1 B1 bX bW hW hres h0 hI0
 go_enter Tryz.func73, Tryz.ntmps73
 go_upto_region 1 with fail
 rw [← HX.out]
 clear HX
 go_wp2_with fail
 refine Calls.mono HWk.out ?_
 rintro z Y ⟨rfl, mm, hI, -⟩
 have HE : Hid ((∃ xs m', (xs.length = l.length ∧ l.length ≤ q) ∧ J (xs, m') Y) ∨ (∃ pre m', (pre.length = q + 1 ∧ q < l.length) ∧ Jx (pre, m') Y)) := by
  have hs := HSt.out
  by_cases hq : q < l.length
  ·rw [if_pos hq] at hs
   rcases hI.c with c | c
   ·have := c.1; simp only at this; omega
   ·exact .inr ⟨mm.1, mm.2, ⟨c.2.1, hq⟩, c.2.2⟩
  ·rw [if_neg hq] at hs
   rcases hI.c with c | c
   ·exact .inl ⟨mm.1, mm.2, ⟨by have := c.2.1; simp only at this; omega, by omega⟩, c.2.2⟩
   ·have := c.1; simp only at this; omega
 clear HWk HSt hI
 go_wp2
 refine bodyPost_end (results_none rfl _ _ _) rfl ?_
 exact ⟨⟨_, rfl⟩, HE.out⟩
end Go.Proofs.YtchebhafabhabaaGreatDoor

namespace Go.Proofs.YtchebhafabhabaaGreatDoor
open Go.RowKit Go.Shelf
set_option linter.unusedVariables false
attribute [local go_sem] Oper.semAt_some

end Go.Proofs.YtchebhafabhabaaGreatDoor

namespace Go.Proofs.YtchebhafabhabaaGreatDoor
open Go.RowKit Go.Shelf
set_option linter.unusedVariables false

theorem range_fb {α M : Type} {id q : Nat} {P : Program} {g : Operand} {ps : Array Tmp} {assign body : Code} {Q : Exit → Act → World → Prop} {a : Act} {w : World} {n : Nat} {gf : Nat} {lb : Array Value}
  (hg : a.eval g = .func (.func gf) #[] lb) (eg : ∀ args w, (callFunc gf args).run P w = .ok (.enter gf args) w)
  {encs : α → Array Value} {Gd : (Nat → Prop) → List α → α → World → Prop} {xb : α → Nat → Prop} {No : Nat → Prop} {S Sp : List α → Prop} (hseq : SeqF M q P gf lb encs Gd xb No S Sp w) (hps : ∀ x, (encs x).size = ps.size)
  (I Ie : List α × M → World → Prop) (O : List α × M → Nat → Prop) (m0 : M) (hNo : ∀ k, No k → k < w.heap.size)
  (hIs : ∀ st X, I st X → w.heap.size ≤ X.heap.size) (hO : ∀ st X k, I st X → O st k → k < X.heap.size ∧ ¬ No k ∧ k ≠ w.heap.size ∧ k ≠ w.heap.size + 1) (hI : StF w.heap.size I O) (hIe : StF w.heap.size Ie O) (hOe : ∀ st X k, Ie st X → O st k → k < X.heap.size ∧ k ≠ w.heap.size ∧ k ≠ w.heap.size + 1) (h0 : I ([], m0) w)
  (hGd : ∀ (C C' : Nat → Prop) pre x X, (∀ k, C' k → C k) → Gd C pre x X → Gd C' pre x X) (hxb : ∀ C pre x X k, Gd C pre x X → xb x k → w.heap.size + 2 ≤ k)
  (Ax : List α → M → α → Act → World → Prop) (hAx : ∀ pre mm x a' (W : World) (o o' : Obj), W.heap[w.heap.size + 1]? = some o → o.isCells = false → Ax pre mm x a' W → Ax pre mm x a' (W.putObj (w.heap.size + 1) o'))
  (hassign : ∀ (l : Nat) (pre : List α) (mm : M) (x : α) (W : World) (K : Act → World → Prop), I (pre, mm) W → w.heap.size + 2 ≤ W.heap.size → Gd (O (pre, mm)) pre x W → (∀ a' W', Below W.heap.size W W' → Ax pre mm x a' W' → K a' W') →
   assign.wpIn (Fence.wide.inRound l) n P (Exit.then K (fun _ _ _ => False)) { tmps := (ps.zip (encs x)).foldl (fun t (p, v) => t.setIfInBounds p v) a.tmps, defers := [] } W)
  (hbody : ∀ (l : Nat) (pre : List α) (mm : M) (x : α) (a' : Act) (W : World), l = w.heap.size + 1 → (∃ r, W.heap[l]? = some (.loop r)) → I (pre, mm) W → Ax pre mm x a' W → body.wpIn (Fence.wide.inRound l) n P (postF q I (fun c st X => c = .exit id ∧ Ie st X) O xb (O (pre, mm)) pre x W) a' W)
  (hend : ∀ (D : Nat) (xs : List α) (mm : M) (W : World), D = w.heap.size → (S xs ∧ I (xs, mm) W ∨ Sp xs ∧ Ie (xs, mm) W) → W.heap[D]? = some (.deferred (some [])) → Q .normal { a with defers := { target := .collected D, args := #[] } :: a.defers } W) :
  (Code.rangeFunc g ps assign body).wpIn Fence.wide n P (Exit.inBlock id Q) a w := by
 refine range_f hg eg hseq hps I (fun c st X => c = .exit id ∧ Ie st X) O m0 hNo hIs hO hI (fun c st X Y C ⟨h, k⟩ f hc hB => ⟨h, hIe st X Y C k f hc hB⟩) (fun c st X k ⟨h, hk⟩ ho => hOe st X k hk ho) h0 hGd hxb Ax hAx hassign hbody ?_ ?_
 ·intro D xs mm W hD hS hi hd
  exact hend D xs mm W hD (.inl ⟨hS, hi⟩) hd
 ·rintro D c pre mm W hD hSp ⟨rfl, hi⟩ hd
  refine wpIn_exit ?_
  simp only [Exit.inBlock, if_true]
  exact hend D pre mm W hD (.inr ⟨hSp, hi⟩) hd
end Go.Proofs.YtchebhafabhabaaGreatDoor

namespace Go.Proofs.YtchebhafabhabaaGreatDoor
open Go.RowKit Go.Shelf
set_option linter.unusedVariables false

theorem cell_putN {W : World} {r : Nat} {o : Obj} (o' : Obj) {p : Addr} {v : Value} (ho : W.heap[r]? = some o) (hc : o.isCells = false) (h : W.cell? p = some v) : (W.putObj r o').cell? p = some v := by
 by_cases k : p.block = r
 ·exfalso
  unfold World.cell? at h
  rw [k, ho] at h
  cases o <;> simp_all [Obj.isCells]
 ·have : (W.putObj r o').heap[p.block]? = W.heap[p.block]? := World.putObj_heap_other k
  unfold World.cell? at *
  rw [this]; exact h
theorem Rd.putN {W : World} {r : Nat} {o : Obj} (o' : Obj) {v : Value} {bs : List Nat} (ho : W.heap[r]? = some o) (hc : o.isCells = false) (h : Rd W v bs) : Rd (W.putObj r o') v bs := by
 obtain ⟨h1, a, cap, h2, h3, h4, h5, h6, h7⟩ := h
 refine ⟨h1, a, cap, h2, h3, h4, h5, h6, ?_⟩
 rcases h7 with h | ⟨b, off, rfl, hk⟩
 ·exact .inl h
 ·exact .inr ⟨b, off, rfl, fun i hi => cell_putN o' ho hc (hk i hi)⟩
theorem EntD.Ok.putN {W : World} {r : Nat} {o : Obj} (o' : Obj) {e : EntD} (ho : W.heap[r]? = some o) (hc : o.isCells = false) (h : EntD.Ok W e) : EntD.Ok (W.putObj r o') e := ⟨h.1.putN o' ho hc, h.2.1.putN o' ho hc, h.2.2.putN o' ho hc⟩
theorem EBox.putN {W : World} {r g : Nat} {o : Obj} (o' : Obj) {e : EntD} (ho : W.heap[r]? = some o) (hc : o.isCells = false) (h : EBox W g e) : EBox (W.putObj r o') g e := by
 unfold EBox at *
 have k : g ≠ r := fun k => by
  rw [k, ho] at h
  cases h
  simp [Obj.isCells] at hc
 rw [World.putObj_heap_other k]; exact h
theorem Cell1B.keepB {w w' : World} {B g t : Nat} {v : Value} (h : Cell1B w g v t) (b : Below B w w') (hg : g < B) : Cell1B w' g v t := (b.block g hg).trans h
theorem Fb.set1 {w : World} {O : Nat → Prop} {g : Nat} (h : O g) (x : Value) : Fb w (w.setCell ⟨g, 0, none⟩ x) O := have b := (Below.refl g w).setCell (p := ⟨g, 0, none⟩) (Nat.le_refl _) x
 ⟨b.os, b.tape, b.output, b.size, fun k _ ho => Below.heap_setCell _ _ _ _ (by rintro rfl; exact ho h)⟩
theorem wrapI5 (z : Int) (h0 : 0 ≤ z) (h1 : z < 9223372036854775808) : IntKind.i64.wrap z = z := by
 rw [IntKind.wrap_i64]
 omega
theorem wrap64I5 (z : Int) (h0 : 0 ≤ z) (h1 : z < 9223372036854775808) : wrap64 z = z := by unfold wrap64; omega
end Go.Proofs.YtchebhafabhabaaGreatDoor

namespace Go.Proofs.YtchebhafabhabaaGreatDoor
open Go.RowKit Go.Shelf
set_option linter.unusedVariables false

theorem Own.put2 {w : World} {B n i : Nat} {v : Value} {xs : List Nat} (h : Own w B v n xs) (hi : i < B) (o : Obj) : Own (w.putObj i o) B v n xs := h.fb (fb_put w i o) (fun k hk e => by have := (h.2.lt k hk).1; omega)
theorem YGF.put {l : List (List Nat × List Nat)} {B0 i : Nat} {C : Nat → Prop} {pre : List EntD} {x : EntD} {W : World} {o : Obj} (h : YGF l B0 C pre x W) (hi : i < B0) (ho : W.heap[i]? = some o) (hc : o.isCells = false) (o' : Obj) : YGF l B0 C pre x (W.putObj i o') := by
 obtain ⟨⟨h1, h2, h3⟩, Bq, k1, k2, k3, k4, k5, k6⟩ := h
 exact ⟨⟨h1, h2.putN o' ho hc, h3⟩, Bq, k1, k2, k3.put2 (by omega) o', k4.put2 (by omega) o', k5.put2 (by omega) o', k6⟩
theorem YGF.later {l : List (List Nat × List Nat)} {B0 : Nat} {C : Nat → Prop} {pre : List EntD} {x : EntD} {W W' : World} (h : YGF l B0 C pre x W) (b : Below W.heap.size W W') : YGF l B0 C pre x W' := by
 obtain ⟨⟨h1, h2, h3⟩, Bq, k1, k2, k3, k4, k5, k6⟩ := h
 exact ⟨⟨h1, h2.later b, h3⟩, Bq, k1, k2, k3.later b, k4.later b, k5.later b, k6⟩
theorem range_e {M : Type} {id q p sl n g r b ne ce np cp B0 gc : Nat} {E P : List Nat} {l : List (List Nat × List Nat)} {o : Operand} {assign body : Code} {Q : Exit → Act → World → Prop} {A : Array Value} {ds : List Deferred} {w : World}
  (hg : ({ tmps := A, defers := ds } : Act).eval o = .func (.func 73) #[] #[.pointer (some ⟨gc, 0, none⟩)])
  (hL : Blad r l E P) (hk : Lk w B0 g r l.length b ne ce E P np cp) (hc : Cell1B w gc (.pointer (some ⟨g, 0, none⟩)) 58) (hbl : b < w.heap.size)
  (I Ie : List EntD × M → World → Prop) (O : List EntD × M → Nat → Prop) (m0 : M)
  (hIs : ∀ st X, I st X → w.heap.size ≤ X.heap.size) (hO : ∀ st X k, I st X → O st k → k < X.heap.size ∧ (k ≠ g ∧ k ≠ b) ∧ k ≠ w.heap.size ∧ k ≠ w.heap.size + 1) (hI : StF w.heap.size I O) (hIe : StF w.heap.size Ie O) (hOe : ∀ st X k, Ie st X → O st k → k < X.heap.size ∧ k ≠ w.heap.size ∧ k ≠ w.heap.size + 1) (h0 : I ([], m0) w)
  (hassign : ∀ (l' : Nat) (x : EntD) (Z : World) (K : Act → World → Prop), EntD.Ok Z x → (∀ Z', Below Z.heap.size Z Z' → EBox Z' Z.heap.size x → K { tmps := (A.setIfInBounds p (.agg x.cells)).setIfInBounds sl (.pointer (some ⟨Z.heap.size, 0, none⟩)), defers := [] } Z') → assign.wpIn (Fence.wide.inRound l') n Tryz.prog (Exit.then K (fun _ _ _ => False)) { tmps := A.setIfInBounds p (.agg x.cells), defers := [] } Z)
  (hbody : ∀ (l' : Nat) (pre : List EntD) (mm : M) (x : EntD) (Bx : Nat) (X : World), (∃ rr, X.heap[l']? = some (.loop rr)) → l' = w.heap.size + 1 → I (pre, mm) X → w.heap.size + 2 ≤ Bx → EBox X Bx x → YGF l (w.heap.size + 2) (O (pre, mm)) pre x X → body.wpIn (Fence.wide.inRound l') n Tryz.prog (postF q I (fun c st X => c = .exit id ∧ Ie st X) O xbE (O (pre, mm)) pre x X) { tmps := (A.setIfInBounds p (.agg x.cells)).setIfInBounds sl (.pointer (some ⟨Bx, 0, none⟩)), defers := [] } X)
  (hend : ∀ (D : Nat) (xs : List EntD) (mm : M) (X : World), D = w.heap.size → ((xs.length = l.length ∧ l.length ≤ q) ∧ I (xs, mm) X ∨ (xs.length = q + 1 ∧ q < l.length) ∧ Ie (xs, mm) X) → X.heap[D]? = some (.deferred (some [])) → Q .normal { tmps := A, defers := { target := .collected D, args := #[] } :: ds } X) :
  (Code.rangeFunc o #[p] assign body).wpIn Fence.wide n Tryz.prog (Exit.inBlock id Q) { tmps := A, defers := ds } w := by
 have hgl : g < w.heap.size := (Array.getElem?_eq_some_iff.1 hk.box).1
 refine range_fb hg (enters_of Tryz.func73 (by kernel_rfl) rfl) (all_seqF (q := q) hL hk hc) (fun _ => rfl) I Ie O m0 (fun k h => by rcases h with h | h <;> omega) hIs (fun st X k h ho => ⟨(hO st X k h ho).1, fun e => by rcases e with e | e; exact (hO st X k h ho).2.1.1 e; exact (hO st X k h ho).2.1.2 e, (hO st X k h ho).2.2⟩) hI hIe hOe h0 (fun C C' pre x X h k => k.sub h) (fun C pre x X k h hx => (h.xb hx).1)
  (fun pre mm x a' X => ∃ Bx, w.heap.size + 2 ≤ Bx ∧ EBox X Bx x ∧ YGF l (w.heap.size + 2) (O (pre, mm)) pre x X ∧ a' = { tmps := (A.setIfInBounds p (.agg x.cells)).setIfInBounds sl (.pointer (some ⟨Bx, 0, none⟩)), defers := [] })
  (fun pre mm x a' X o o' ho hc ⟨Bx, k0, k1, k2, k3⟩ => ⟨Bx, k0, k1.putN o' ho hc, k2.put (by omega) ho hc o', k3⟩) ?_ ?_ hend
 ·intro l' pre mm x Z K hi hs hgd hK
  have h := hassign l' x Z K hgd.1.2.1 fun Z' bz bx => hK _ _ bz ⟨Z.heap.size, hs, bx, hgd.later bz, rfl⟩
  simpa using h
 ·rintro l' pre mm x a' X hl hr hi ⟨Bx, k0, k1, k2, rfl⟩
  exact hbody l' pre mm x Bx X hr hl hi k0 k1 k2
end Go.Proofs.YtchebhafabhabaaGreatDoor

namespace Go.Proofs.YtchebhafabhabaaGreatDoor
open Go.RowKit Go.Shelf
set_option linter.unusedVariables false

end Go.Proofs.YtchebhafabhabaaGreatDoor

namespace Go.Proofs.YtchebhafabhabaaGreatDoor
open Go.RowKit
set_option linter.unusedVariables false

def adB (a : Option Addr) (k : Nat) : Prop := ∃ ad, a = some ad ∧ ad.block = k
def EntD.adr (D : EntD) (k : Nat) : Prop := ∃ v, (v = D.vr ∨ v = D.vq ∨ v = D.vv) ∧ ∃ ad n c, v = .slice (some ad) n c ∧ ad.block = k
end Go.Proofs.YtchebhafabhabaaGreatDoor

namespace Go.Proofs.YtchebhafabhabaaGreatDoor
open Go.RowKit Go.Shelf
set_option linter.unusedVariables false

def RfR (E : List Nat) (p : Nat) (last key val : List Nat) (p' : Nat) : Prop :=
 ∃ sh r v, recordOf E p = some (sh, r, v) ∧ sh ≤ last.length ∧ key = last.take sh ++ (E.drop r.1).take r.2 ∧ val = (E.drop v.1).take v.2 ∧ p' = v.1 + v.2 ∧ IsKey key
structure OwnD (w : World) (B : Nat) (D : EntD) : Prop where
 r : Own w B D.vr D.row.length D.row
 q : Own w B D.vq D.qual.length D.qual
 v : Own w B D.vv D.val.length D.val
def REp (w : World) (E : List Nat) (p : Nat) (last : List Nat) (x : Ending) (w' : World) : Prop :=
 Below w.heap.size w w' ∧ (((∀ key val p', ¬ RfR E p last key val p') ∧ x = .returned (.tuple #[.agg #[.slice none 0 0, .int .i64 0, .slice none 0 0, .int .i64 0, .int .i64 0, .int .i64 0, .slice none 0 0], .slice none 0 0, .int .i64 0, .bool false])) ∨
  ∃ (D : EntD) (p' : Nat) (a : Option Addr) (m c : Nat), RfR E p last (keyL D) D.val p' ∧ (checkS D = 0 ↔ okIt (keyL D) D.val) ∧ x = .returned (.tuple #[.agg D.cells, .slice a m c, .int .i64 (p' : Int), .bool true]) ∧ Own w' w.heap.size (.slice a m c) m (keyL D) ∧ Bys (keyL D) ∧ EntD.Ok w' D ∧ OwnD w' w.heap.size D)
end Go.Proofs.YtchebhafabhabaaGreatDoor

namespace Go.Proofs.YtchebhafabhabaaGreatDoor
open Go.RowKit Go.Shelf
set_option linter.unusedVariables false

theorem skA_one {l : List (List Nat × List Nat)} {key : List Nat} {n m : Nat} (h : SkA l key n) (k : SkA l key m) : n = m := by
 have aux : ∀ {a b : Nat}, SkA l key a → SkA l key b → ¬ a < b := fun {a b} h k hlt => by
  have hl := k.le
  have hx : l[a]? = some l[a] := List.getElem?_eq_getElem (by omega)
  have h1 := h.hi a _ hx (Nat.le_refl _)
  have h2 := k.lo a _ hx hlt
  omega
 have := aux h k
 have := aux k h
 omega
set_option maxRecDepth 100000 in
set_option maxHeartbeats 2000000 in
theorem refSeek5_any {W : World} {a ak : Option Addr} {cap kn kc : Nat} {l : List EntD} {key : List Nat} (hr : RdL5 W a cap l) (hc : ∀ e ∈ l, checkS e = 0) (hup : Up [] (kvL l)) (hkey : Rd W (.slice ak kn kc) key) (hl : l.length ≤ 131072) :
  Calls Tryz.prog 31 #[.slice a l.length cap, .slice ak kn kc] W fun x w' => (∃ n : Nat, x = .returned (.int .i64 (n : Int)) ∧ SkA (kvL l) key n) ∧ Below W.heap.size W w' := by
 obtain ⟨N, hN⟩ : ∃ N, N = l.length := ⟨_, rfl⟩
 rw [← hN]
 have hN17 : N ≤ 131072 := by omega
 have HN := Lib.hid hN
 have HR := Lib.hid hr
 have HC := Lib.hid (And.intro hc hup)
 have HK := Lib.hid hkey
 clear hN hr hl hc hup hkey
 go_enter Tryz.func31, Tryz.ntmps31
 go_wp2
 go_loopw [5, 6, 7] (fun iv _ _ wr => ∃ (k : Nat), k ≤ N ∧ iv = .int .i64 (k : Int) ∧ Hid (Below W.heap.size W wr ∧ ∀ x kv, x < k → (kvL l)[x]? = some kv → ordC kv.1 key < 0)) (fun iv _ _ _ => N - (intOf iv).toNat)
 case atStart => exact ⟨0, Nat.zero_le _, rfl, Below.refl _ _, fun x kv hx => by omega⟩
 case round =>
  obtain ⟨k, hk, rfl, HU⟩ := hrel
  have k0 : (0 : Int) ≤ (k : Int) := by omega
  by_cases hlt : k < N
  ·have hlt2 : (k : Int) < (N : Int) := by omega
   have hl2 : k < l.length := by rw [← HN.out]; exact hlt
   obtain ⟨e, he⟩ : ∃ e, l[k]? = some e := ⟨l[k], List.getElem?_eq_getElem hl2⟩
   have hrd := HR.out.later HU.out.1
   have hem := List.mem_of_getElem? he
   have hok := hrd.ok e hem
   obtain ⟨b, off, rfl, d0, d1, d2, d3, d4, d5, d6⟩ := hrd.cel he
   have hce0 := HC.out.1 e hem
   obtain ⟨_, p1, q1, e1, -⟩ := hok.1
   obtain ⟨_, p2, q2, e2, -⟩ := hok.2.1
   obtain ⟨_, p3, q3, e3, -⟩ := hok.2.2
   have hce : e.cells = #[.slice p1 e.row.length q1, .int .i64 e.fam, .slice p2 e.qual.length q2, .int .i64 e.ts, .int .i64 e.seq, .int .i64 e.kind, .slice p3 e.val.length q3] := by unfold EntD.cells; rw [e1, e2, e3]
   obtain ⟨z1, hz1⟩ : ∃ z, z = e.row.length := ⟨_, rfl⟩
   obtain ⟨z2, hz2⟩ : ∃ z, z = e.qual.length := ⟨_, rfl⟩
   obtain ⟨z3, hz3⟩ : ∃ z, z = e.val.length := ⟨_, rfl⟩
   rw [e1, ← hz1] at d0
   rw [e2, ← hz2] at d2
   rw [e3, ← hz3] at d6
   rw [← hz1, ← hz2, ← hz3] at hce
   obtain ⟨K, hKK⟩ : ∃ K, keyL e = K := ⟨_, rfl⟩
   have HKy : Hid (Calls Tryz.prog 35 #[.agg #[.slice p1 z1 q1, .int .i64 e.fam, .slice p2 z2 q2, .int .i64 e.ts, .int .i64 e.seq, .int .i64 e.kind, .slice p3 z3 q3]] wr fun r w' => ∃ a m c, r = .returned (.tuple #[.slice a m c, .int .i64 0]) ∧ Own w' wr.heap.size (.slice a m c) m K ∧ Below wr.heap.size wr w') := by
    have h := refKey_ok hok hce0
    rw [hce, hKK] at h
    exact h
   have hKb : Bys (keyL e) := keyL_bys hok.1.1 hok.2.1.1 hce0
   have hKl := keyL_len hce0
   rw [hKK] at hKb hKl
   have hkv : (kvL l)[k]? = some (K, e.val) := by rw [← hKK]; unfold kvL; rw [List.getElem?_map, he]; rfl
   have HKv := Lib.hid (And.intro hkv (And.intro hKb hKl))
   clear hrd hok hem he hce0 e1 e2 e3 hz1 hz2 hz3 hce hKK hKb hKl hkv hl2
   go_wp2_with fail
   refine HKy.out.mono ?_
   rintro z X1 ⟨a1, m1, c1, rfl, own1, b1⟩
   have HB1 := Lib.hid (HU.out.1.trans (b1.mono HU.out.1.size))
   have HCm : Hid (Calls Tryz.prog 72 #[.slice a1 m1 c1, .slice ak kn kc] X1 fun e w' => e = .returned (.int .i64 (ordC K key)) ∧ Below X1.heap.size X1 w') := refBytesOrd_any (own1.rd HKv.out.2.1 (by have := own1.1; have := HKv.out.2.2; omega)) (HK.out.later HB1.out)
   clear own1 b1 HKy d0 d1 d2 d3 d4 d5 d6
   go_wp2_with fail
   refine HCm.out.mono ?_
   rintro z X2 ⟨rfl, b2⟩
   have HB2 := Lib.hid (HB1.out.trans (b2.mono HB1.out.size))
   clear b2 HCm HB1
   by_cases ho : 0 ≤ ordC K key
   ·have HEnd : Hid (SkA (kvL l) key k) := ⟨by rw [kvL_len, ← HN.out]; exact hk, fun x kv hx hlt => HU.out.2 x kv hlt hx, fun x kv hx hge => up_hi HC.out.2 HKv.out.1 ho x kv hx hge⟩
    have ho1 : (0 : Int) ≤ ordC K key := ho
    go_wp2
    go_ret
    exact ⟨⟨k, rfl, HEnd.out⟩, HB2.out⟩
   ·have ho1 : ¬ (0 : Int) ≤ ordC K key := ho
    have HNx : Hid (∀ x kv, x < k + 1 → (kvL l)[x]? = some kv → ordC kv.1 key < 0) := fun x kv hx hkv => by
     by_cases hxk : x = k
     ·subst hxk
      rw [HKv.out.1] at hkv
      cases hkv
      show ordC K key < 0
      omega
     ·exact HU.out.2 x kv (by omega) hkv
    go_wp2
    go_roundw
    case rel => exact ⟨k + 1, by omega, by go_num, HB2.out, HNx.out⟩
    case measure => simp [intOf]; omega
  ·have hge : ¬ (k : Int) < (N : Int) := by omega
   obtain rfl : k = N := by omega
   have HEnd : Hid (SkA (kvL l) key k) := ⟨by rw [kvL_len, ← HN.out]; exact Nat.le_refl _, fun x kv hx hlt => HU.out.2 x kv hlt hx, fun x kv hx hge => by have := (List.getElem?_eq_some_iff.1 hx).1; rw [kvL_len] at this; have := HN.out; omega⟩
   go_wp2
   go_ret
   exact ⟨⟨k, rfl, HEnd.out⟩, HU.out.1⟩
end Go.Proofs.YtchebhafabhabaaGreatDoor

namespace Go.Proofs.YtchebhafabhabaaGreatDoor
open Go.RowKit Go.Shelf
set_option linter.unusedVariables false

theorem row_same5 {w w' : World} {B ty n k : Nat} {v : Value} {xs : List Value} (h : w.ownsRow B ty k v n xs) (hs : ∀ g, v.ownBlock = some g → w'.heap[g]? = w.heap[g]?) : w'.ownsRow B ty k v n xs := by
 refine ⟨h.1, ?_⟩
 rcases h.2 with h2 | ⟨g, cap, cur, h3, h4, h5, h6⟩
 ·exact .inl h2
 ·exact .inr ⟨g, cap, cur, h3, h4, by rw [hs g (by rw [h3]; rfl)]; exact h5, h6⟩
structure WantL (w : World) (B : Nat) (a : Option Addr) (cap : Nat) (xs : List EntD) : Prop where
 rd : RdL5 w a cap xs
 ck : ∀ e ∈ xs, checkS e = 0
 ad : ∀ k, adB a k → B ≤ k ∧ k < w.heap.size
 es : ∀ e ∈ xs, ∀ k, e.adr k → B ≤ k ∧ k < w.heap.size
structure Oz (W wr : World) (bs E : List Nat) (i p : Nat) (xs : List EntD) (vm vl : Value) (la : List Nat) : Prop where
 row : wr.ownsRow W.heap.size 40 7 vm xs.length (evals5 xs)
 ok : ∀ x ∈ xs, EntD.Ok wr x
 own : ∀ x ∈ xs, OwnD wr W.heap.size x
 len : xs.length = i
 last : Own wr W.heap.size vl la.length la
 bys : Bys la
 lap : la.length ≤ p
 le : p ≤ E.length
 bel : Below W.heap.size W wr
 fact : opE bs = 0 → (∀ x ∈ xs, checkS x = 0) ∧ ∃ kv, Blad (rstOf bs) kv E (placesOf5 bs) ∧ kv.length = cntOf bs ∧ kvL xs = kv.take i ∧ la = (foldB (rstOf bs) Bs.zero (kv.take i)).la ∧ p = (foldB (rstOf bs) Bs.zero (kv.take i)).es.length
end Go.Proofs.YtchebhafabhabaaGreatDoor

namespace Go.Proofs.YtchebhafabhabaaGreatDoor
open Go.RowKit
set_option linter.unusedVariables false

def MkL (w : World) (O : Nat → Prop) (v : Value) (m : Nat) : Prop :=
 ∃ a n c, v = .slice a n c ∧ n ≤ 140737488355328 ∧ (n = 0 ∨ ∃ b, a = some ⟨b, 0, none⟩ ∧ O b ∧ ∀ i, i < n → w.cell? ⟨b, i, none⟩ = some (.int .u8 (m : Int)))
structure Fu (w : World) (g : Nat) (O : Nat → Prop) (aL : Option Addr) (nL cL : Nat) (aM : Option Addr) (cM N : Nat) (vs : List Value) (ms : List Nat) : Prop where
 box : w.heap[g]? = some (.cells #[.slice aL nL cL, .slice aM nL cM, .int .i64 (N : Int)] 38 (0, 0))
 row : w.ownsRow 0 36 1 (.slice aL nL cL) nL vs
 own : Own w 0 (.slice aM nL cM) nL ms
 len : vs.length = nL
 bys : Bys ms
 marks : ∀ (i : Nat) v m, vs[i]? = some v → ms[i]? = some m → MkL w O v m
 few : nL * 50 ≤ N ∧ N ≤ 4000000
 lo : ∀ k, O k → k < w.heap.size
 ng : ¬ O g
 nL_ : ∀ k, (Value.slice aL nL cL).ownBlock = some k → ¬ O k ∧ k ≠ g
 nM : ∀ k, (Value.slice aM nL cM).ownBlock = some k → ¬ O k ∧ k ≠ g ∧ (Value.slice aL nL cL).ownBlock ≠ some k
def FuB (w : World) (g : Nat) (FO : Nat → Prop) : Prop := ∃ O aL nL cL aM cM N vs ms, Fu w g O aL nL cL aM cM N vs ms ∧ (∀ k, FO k → k < w.heap.size) ∧ FO g ∧ (∀ k, O k → FO k) ∧ (∀ k, (Value.slice aL nL cL).ownBlock = some k → FO k) ∧ (∀ k, (Value.slice aM nL cM).ownBlock = some k → FO k)
theorem row_same {w w' : World} {B ty n k : Nat} {v : Value} {xs : List Value} (h : w.ownsRow B ty k v n xs) (hs : ∀ g, v.ownBlock = some g → w'.heap[g]? = w.heap[g]?) : w'.ownsRow B ty k v n xs := by
 refine ⟨h.1, ?_⟩
 rcases h.2 with h2 | ⟨g, cap, cur, h3, h4, h5, h6⟩
 ·exact .inl h2
 ·exact .inr ⟨g, cap, cur, h3, h4, by rw [hs g (by rw [h3]; rfl)]; exact h5, h6⟩
end Go.Proofs.YtchebhafabhabaaGreatDoor

namespace Go.Proofs.YtchebhafabhabaaGreatDoor
open Go.RowKit
set_option linter.unusedVariables false

def mkF (n : Nat) : Nat := n / 4 % 200 + 20
section
variable {P : Program} {ops : Array Oper} {Q : Exit → Act → World → Prop} {md : Region.Mode} {S : World → Prop} {E : Nat → Bool}
end
def TwoF (W : World) (k mk : Nat) : Prop := W.cell? ⟨k, 0, none⟩ = some (.int .u8 (mk : Int)) ∧ W.cell? ⟨k, 1, none⟩ = some (.int .u8 (mk : Int))
theorem keepF {W W' : World} {k : Nat} {o : Obj} (b : Below W.heap.size W W') (h : W.heap[k]? = some o) : W'.heap[k]? = some o := (b.block k (Array.getElem?_eq_some_iff.1 h).1).trans h
end Go.Proofs.YtchebhafabhabaaGreatDoor

namespace Go.Proofs.YtchebhafabhabaaGreatDoor
open Go.RowKit
set_option linter.unusedVariables false

end Go.Proofs.YtchebhafabhabaaGreatDoor

namespace Go.Proofs.YtchebhafabhabaaGreatDoor
open Go.RowKit
set_option linter.unusedVariables false
set_option linter.unusedSimpArgs false

end Go.Proofs.YtchebhafabhabaaGreatDoor

namespace Go.Proofs.YtchebhafabhabaaGreatDoor
open Go.RowKit
set_option linter.unusedVariables false

structure E3 (w : World) (D : EntD) : Prop where
 r : ∃ a n c xs, D.vr = .slice a n c ∧ n ≤ 200000 ∧ Own w 0 (.slice a n c) n xs
 q : ∃ a n c xs, D.vq = .slice a n c ∧ n ≤ 200000 ∧ Own w 0 (.slice a n c) n xs
 v : ∃ a n c xs, D.vv = .slice a n c ∧ n ≤ 200000 ∧ Own w 0 (.slice a n c) n xs
 rq : ∀ k, D.vr.ownBlock = some k → D.vq.ownBlock ≠ some k
 rv : ∀ k, D.vr.ownBlock = some k → D.vv.ownBlock ≠ some k
 qv : ∀ k, D.vq.ownBlock = some k → D.vv.ownBlock ≠ some k
def EntD.blk (D : EntD) (k : Nat) : Prop := D.vr.ownBlock = some k ∨ D.vq.ownBlock = some k ∨ D.vv.ownBlock = some k
theorem Own.fbF {w w' : World} {B m : Nat} {u : Value} {xs : List Nat} {X : Nat → Prop} (ho : Own w B u m xs) (f : Fb w w' X) (h : ∀ k, u.ownBlock = some k → ¬ X k) : Own w' B u m xs := ⟨ho.1, row_same ho.2 (fun k hk => f.block k (ho.2.lt k hk).2 (h k hk))⟩
theorem EBox.fbF {w w' : World} {g : Nat} {e : EntD} {X : Nat → Prop} (h : EBox w g e) (f : Fb w w' X) (k : ¬ X g) : EBox w' g e := (f.block g (Array.getElem?_eq_some_iff.1 h).1 k).trans h
end Go.Proofs.YtchebhafabhabaaGreatDoor
