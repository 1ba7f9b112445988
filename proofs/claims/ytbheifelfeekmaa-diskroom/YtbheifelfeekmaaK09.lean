import Derived.Test.YtbheifelfeekmaaK08
namespace Go.Proofs.Ytbheifelfeekmaa
open Go.RowKit Go.MapKept Go.Sort
set_option linter.unusedVariables false
set_option linter.unusedSimpArgs false
variable {w w' W X : World} {O O' : Nat → Prop} {dB : Nat} {d : Dk4}
set_option maxRecDepth 100000 in
set_option maxHeartbeats 4000000 in
theorem copied_any {a : Option Addr} {n k : Nat} {l : List (PF × Value)} (hr : RdF4 w a k l) (hn : n = l.length) (h256 : n ≤ 256) (hl : ∀ x ∈ l, x.1.2.1.length ≤ 67108864) :
    Calls Try.prog 26 #[.slice a n k] w fun e w' => ∃ a2 n2 k2 l2, e = .returned (.slice a2 n2 k2) ∧ FLs w' w.heap.size (.slice a2 n2 k2) n2 l2 ∧ l2.map (·.1) = l.map (·.1) ∧ Below w.heap.size w w' := by
  have HR := Lib.hid hr
  have HN := Lib.hid (And.intro hn hl)
  clear hr hn hl
  go_enter Try.func26, Try.ntmps26
  go_wp2_with fail
  go_loopw [3, 4] (fun v i wr => ∃ (t : Nat) (am : Option Addr) (m km : Nat) (l2 : List (PF × Value)), t ≤ n ∧ i = .int .i64 (t : Int) ∧ v = .slice am m km ∧ FLs wr w.heap.size (.slice am m km) m l2 ∧ l2.map (·.1) = (l.map (·.1)).take t ∧ Below w.heap.size w wr) (fun _ i _ => n - (intOf i).toNat)
  case atStart => exact ⟨0, none, 0, 0, [], Nat.zero_le _, rfl, rfl, FLs.nil _ _, by simp, Below.refl _ _⟩
  case round =>
    obtain ⟨t, am, m, km, l2, ht, rfl, rfl, hfl, hll, hbw⟩ := hrel
    have HFL := Lib.hid (And.intro hfl hll)
    have HBW := Lib.hid hbw
    clear hfl hll hbw
    by_cases hlt : t < n
    · have j1 : (t : Int) < (n : Int) := by omega
      have j2 : (0 : Int) ≤ (t : Int) := by omega
      have hx : ∃ x, l[t]? = some x := ⟨_, List.getElem?_eq_getElem (by rw [← HN.out.1]; exact hlt)⟩
      obtain ⟨x, hx⟩ := hx
      have hcx := HR.out.cel t x hx
      obtain ⟨g, hcx⟩ := hcx
      obtain ⟨off, hcx⟩ := hcx
      have ea := hcx.1
      subst ea
      have hdx := HR.out.dat x (List.mem_of_getElem? hx)
      obtain ⟨ax, hdx⟩ := hdx
      obtain ⟨cx, hdx⟩ := hdx
      have hlx := HN.out.2 x (List.mem_of_getElem? hx)
      obtain ⟨⟨xn, xd, xs⟩, xv⟩ := x
      simp only at hcx hdx hlx
      have hxv := hdx.1
      have hnx : ∃ nx, nx = xd.length := ⟨_, rfl⟩
      obtain ⟨nx, hnx⟩ := hnx
      rw [← hnx] at hxv hlx
      subst hxv
      have c0 := hcx.2.1
      have c1 := hcx.2.2.1
      have c2 := hcx.2.2.2
      have lg := World.block_lt_of_cell? _ _ c0
      simp only at lg
      have HRD := Lib.hid hdx.2
      have HNX := Lib.hid hnx
      have hm256 : m ≤ 1000000 := by
        have h1 := HFL.out.1.len
        have h2 := congrArg List.length HFL.out.2
        rw [List.length_map, List.length_take] at h2
        omega
      have hxx : (l.map (·.1))[t]? = some (xn, xd, xs) := by rw [List.getElem?_map, hx]; rfl
      have HXX := Lib.hid hxx
      clear hx hcx hdx hnx hxx
      go_upto_region 5 with fail
      refine wp_region_noPanic ?_
      refine wp_region_anyE (S := fun wx => Below w.heap.size w wx) (E := fun j => true) (by kernel_rfl) ?_
      have hHeld : Below w.heap.size w wr.drew := HBW.out.drew
      have HZ := Lib.hid ((Below.refl wr.heap.size wr).drew)
      have hZ0 : ∃ z, z = wr.drew := ⟨_, rfl⟩
      obtain ⟨Z0, hZ0⟩ := hZ0
      rw [← hZ0] at HZ hHeld ⊢
      clear hZ0
      refine AnyE.take (i := 0) (.slice am m km) rfl (by kernel_rfl) (by kernel_rfl) (by kernel_rfl) (by kernel_rfl) (fun _ _ _ h => h) (.inl ⟨by kernel_rfl, fun wy hy => by (go_simp; done)⟩) hHeld ?_
      try simp only [Act.put, List.setIfInBounds_toArray, List.set_cons_zero, List.set_cons_succ]
      refine AnyE.take (i := 1) (.slice (some ⟨g, off, none⟩) n k) rfl (by kernel_rfl) (by kernel_rfl) (by kernel_rfl) (by kernel_rfl) (fun _ _ _ h => h) (.inl ⟨by kernel_rfl, fun wy hy => by (go_simp; done)⟩) hHeld ?_
      try simp only [Act.put, List.setIfInBounds_toArray, List.set_cons_zero, List.set_cons_succ]
      refine AnyE.take (i := 2) (.int .i64 (t : Int)) rfl (by kernel_rfl) (by kernel_rfl) (by kernel_rfl) (by kernel_rfl) (fun _ _ _ h => h) (.inl ⟨by kernel_rfl, fun wy hy => by (go_simp; done)⟩) hHeld ?_
      try simp only [Act.put, List.setIfInBounds_toArray, List.set_cons_zero, List.set_cons_succ]
      refine AnyE.take (i := 3) (.pointer (some ⟨g, off + t * 3, none⟩)) rfl (by kernel_rfl) (by kernel_rfl) (by kernel_rfl) (by kernel_rfl) (fun _ _ _ h => h) (.inl ⟨by kernel_rfl, fun wy hy => by (go_simp; done)⟩) hHeld ?_
      try simp only [Act.put, List.setIfInBounds_toArray, List.set_cons_zero, List.set_cons_succ]
      refine AnyE.take (i := 4) (.pointer (some ⟨g, off + t * 3, none⟩)) rfl (by kernel_rfl) (by kernel_rfl) (by kernel_rfl) (by kernel_rfl) (fun _ _ _ h => h) (.inl ⟨by kernel_rfl, fun wy hy => by (go_simp; done)⟩) hHeld ?_
      try simp only [Act.put, List.setIfInBounds_toArray, List.set_cons_zero, List.set_cons_succ]
      refine AnyE.take (i := 5) (.string xn) rfl (by kernel_rfl) (by kernel_rfl) (by kernel_rfl) (by kernel_rfl) (fun _ _ _ h => h) (.inl ⟨by kernel_rfl, fun wy hy => by (have q0 := (hy.cell (p := ⟨g, off + t * 3, none⟩) lg).trans c0; go_simp; done)⟩) hHeld ?_
      try simp only [Act.put, List.setIfInBounds_toArray, List.set_cons_zero, List.set_cons_succ]
      refine AnyE.take (i := 7) (.slice (some ⟨g, off, none⟩) n k) rfl (by kernel_rfl) (by kernel_rfl) (by kernel_rfl) (by kernel_rfl) (fun _ _ _ h => h) (.inl ⟨by kernel_rfl, fun wy hy => by (go_simp; done)⟩) hHeld ?_
      try simp only [Act.put, List.setIfInBounds_toArray, List.set_cons_zero, List.set_cons_succ]
      refine AnyE.take (i := 8) (.int .i64 (t : Int)) rfl (by kernel_rfl) (by kernel_rfl) (by kernel_rfl) (by kernel_rfl) (fun _ _ _ h => h) (.inl ⟨by kernel_rfl, fun wy hy => by (go_simp; done)⟩) hHeld ?_
      try simp only [Act.put, List.setIfInBounds_toArray, List.set_cons_zero, List.set_cons_succ]
      refine AnyE.take (i := 9) (.pointer (some ⟨g, off + t * 3, none⟩)) rfl (by kernel_rfl) (by kernel_rfl) (by kernel_rfl) (by kernel_rfl) (fun _ _ _ h => h) (.inl ⟨by kernel_rfl, fun wy hy => by (go_simp; done)⟩) hHeld ?_
      try simp only [Act.put, List.setIfInBounds_toArray, List.set_cons_zero, List.set_cons_succ]
      refine AnyE.take (i := 10) (.pointer (some ⟨g, off + t * 3 + 1, none⟩)) rfl (by kernel_rfl) (by kernel_rfl) (by kernel_rfl) (by kernel_rfl) (fun _ _ _ h => h) (.inl ⟨by kernel_rfl, fun wy hy => by (go_simp; done)⟩) hHeld ?_
      try simp only [Act.put, List.setIfInBounds_toArray, List.set_cons_zero, List.set_cons_succ]
      refine AnyE.take (i := 11) (.slice ax nx cx) rfl (by kernel_rfl) (by kernel_rfl) (by kernel_rfl) (by kernel_rfl) (fun _ _ _ h => h) (.inl ⟨by kernel_rfl, fun wy hy => by (have q0 := (hy.cell (p := ⟨g, off + t * 3 + 1, none⟩) lg).trans c1; go_simp; done)⟩) hHeld ?_
      try simp only [Act.put, List.setIfInBounds_toArray, List.set_cons_zero, List.set_cons_succ]
      refine AnyE.take (i := 13) (.slice (some ⟨g, off, none⟩) n k) rfl (by kernel_rfl) (by kernel_rfl) (by kernel_rfl) (by kernel_rfl) (fun _ _ _ h => h) (.inl ⟨by kernel_rfl, fun wy hy => by (go_simp; done)⟩) hHeld ?_
      try simp only [Act.put, List.setIfInBounds_toArray, List.set_cons_zero, List.set_cons_succ]
      refine AnyE.take (i := 14) (.int .i64 (t : Int)) rfl (by kernel_rfl) (by kernel_rfl) (by kernel_rfl) (by kernel_rfl) (fun _ _ _ h => h) (.inl ⟨by kernel_rfl, fun wy hy => by (go_simp; done)⟩) hHeld ?_
      try simp only [Act.put, List.setIfInBounds_toArray, List.set_cons_zero, List.set_cons_succ]
      refine AnyE.take (i := 15) (.pointer (some ⟨g, off + t * 3, none⟩)) rfl (by kernel_rfl) (by kernel_rfl) (by kernel_rfl) (by kernel_rfl) (fun _ _ _ h => h) (.inl ⟨by kernel_rfl, fun wy hy => by (go_simp; done)⟩) hHeld ?_
      try simp only [Act.put, List.setIfInBounds_toArray, List.set_cons_zero, List.set_cons_succ]
      refine AnyE.take (i := 16) (.pointer (some ⟨g, off + t * 3 + 2, none⟩)) rfl (by kernel_rfl) (by kernel_rfl) (by kernel_rfl) (by kernel_rfl) (fun _ _ _ h => h) (.inl ⟨by kernel_rfl, fun wy hy => by (go_simp; done)⟩) hHeld ?_
      try simp only [Act.put, List.setIfInBounds_toArray, List.set_cons_zero, List.set_cons_succ]
      refine AnyE.take (i := 17) (.int .i64 (xs : Int)) rfl (by kernel_rfl) (by kernel_rfl) (by kernel_rfl) (by kernel_rfl) (fun _ _ _ h => h) (.inl ⟨by kernel_rfl, fun wy hy => by (have q0 := (hy.cell (p := ⟨g, off + t * 3 + 2, none⟩) lg).trans c2; go_simp; done)⟩) hHeld ?_
      try simp only [Act.put, List.setIfInBounds_toArray, List.set_cons_zero, List.set_cons_succ]
      refine AnyE.one (i := 6) rfl (by kernel_rfl) (by kernel_rfl) (fun KK hK => ?_)
      go_simp
      have hzb : ∃ zb, zb = Z0.heap.size := ⟨_, rfl⟩
      obtain ⟨zb, hzb⟩ := hzb
      have hZ1 : ∃ z, z = Z0.alloc (.cells #[] 5) := ⟨_, rfl⟩
      obtain ⟨Z1, hZ1⟩ := hZ1
      have b1 : Below zb Z0 Z1 := by rw [hZ1, hzb]; exact (Below.refl _ _).alloc (Nat.le_refl _) _
      have ow1 : Own Z1 zb (.slice (some ⟨zb, 0, none⟩) 0 0) 0 [] := by rw [hZ1, hzb]; exact ⟨rfl, World.ownsRow_made Z0 #[] 0 (Nat.le_refl _) (Nat.zero_le _) rfl⟩
      have lz1 : zb ≤ Z1.heap.size := by rw [hZ1, hzb]; simp
      rw [← hZ1, ← hzb]
      have hzw : wr.heap.size ≤ zb := by rw [hzb]; exact HZ.out.size
      have HZB := Lib.hid (And.intro b1 (And.intro ow1 (And.intro lz1 (And.intro hzw hzb))))
      have hHeld : Below w.heap.size w Z1 := hHeld.trans (b1.mono (Nat.le_trans HBW.out.size hzw))
      clear b1 ow1 lz1 hzw hzb hZ1
      refine hK.out _ _ ⟨fun _ => hHeld, ?_⟩
      clear hK
      try simp only [Act.put, List.setIfInBounds_toArray, List.set_cons_zero, List.set_cons_succ]
      refine AnyE.one (i := 12) rfl (by kernel_rfl) (by kernel_rfl) (fun KK hK => ?_)
      refine dstep_append _ _ rfl (B := zb) (n := 0) (v := .slice (some ⟨zb, 0, none⟩) 0 0) (src := .slice ax nx cx) (xs := []) (bs := xd) rfl HZB.out.2.1 rfl (HRD.out.later hHeld) (by rw [← HNX.out]; omega) HZB.out.2.2.1 (fun a3 k3 X3 own3 gr3 lo3 => ?_)
      rw [Nat.zero_add, ← HNX.out] at own3 ⊢
      rw [List.nil_append] at own3
      have b3 : Below zb Z0 X3 := HZB.out.1.grown gr3 HZB.out.2.2.1 (fun k hk => by simp [Value.ownBlock] at hk; omega)
      have hHeld : Below w.heap.size w X3 := (HBW.out.trans (HZ.out.mono HBW.out.size)).trans (b3.mono (Nat.le_trans HBW.out.size HZB.out.2.2.2.1))
      have HX3 := Lib.hid (And.intro b3 own3)
      clear own3 gr3 lo3 b3
      refine hK.out _ _ ⟨fun _ => hHeld, ?_⟩
      clear hK
      try simp only [Act.put, List.setIfInBounds_toArray, List.set_cons_zero, List.set_cons_succ]
      refine AnyE.one (i := 18) rfl (by kernel_rfl) (by kernel_rfl) (fun KK hK => ?_)
      go_simp
      refine hK.out _ _ ⟨fun _ => hHeld, ?_⟩
      clear hK
      try simp only [Act.put, List.setIfInBounds_toArray, List.set_cons_zero, List.set_cons_succ]
      refine AnyE.one (i := 19) rfl (by kernel_rfl) (by kernel_rfl) (fun KK hK => ?_)
      go_simp
      have bA := (Below.refl X3.heap.size X3).alloc (Nat.le_refl _) (.cells #[.string xn, .slice a3 nx k3, .int .i64 (xs : Int)] 50)
      have cA : (X3.alloc (.cells #[.string xn, .slice a3 nx k3, .int .i64 (xs : Int)] 50)).cell? ⟨X3.heap.size, 0, none⟩ = some (.string xn) ∧ (X3.alloc (.cells #[.string xn, .slice a3 nx k3, .int .i64 (xs : Int)] 50)).cell? ⟨X3.heap.size, 1, none⟩ = some (.slice a3 nx k3) ∧ (X3.alloc (.cells #[.string xn, .slice a3 nx k3, .int .i64 (xs : Int)] 50)).cell? ⟨X3.heap.size, 2, none⟩ = some (.int .i64 (xs : Int)) := by
        refine ⟨?_, ?_, ?_⟩ <;> simp [go_sem]
      have hZ3 : ∃ z, z = X3.alloc (.cells #[.string xn, .slice a3 nx k3, .int .i64 (xs : Int)] 50) := ⟨_, rfl⟩
      obtain ⟨Z3, hZ3⟩ := hZ3
      rw [← hZ3] at bA cA ⊢
      clear hZ3
      have hHeld : Below w.heap.size w Z3 := hHeld.trans (bA.mono hHeld.size)
      have HCA := Lib.hid (And.intro bA cA)
      clear bA cA
      refine hK.out _ _ ⟨fun _ => hHeld, ?_⟩
      clear hK
      try simp only [Act.put, List.setIfInBounds_toArray, List.set_cons_zero, List.set_cons_succ]
      refine AnyE.one (i := 20) rfl (by kernel_rfl) (by kernel_rfl) (fun KK hK => ?_)
      have hwz : wr.heap.size ≤ Z3.heap.size := Nat.le_trans HZ.out.size (Nat.le_trans HX3.out.1.size HCA.out.1.size)
      have o2 : OwnO X3 (fun i => w.heap.size ≤ i) (.slice a3 nx k3) xd := by
        refine ⟨⟨by rw [← HNX.out]; exact HX3.out.2.2.1, ?_⟩, HRD.out.1, fun g hg => ?_⟩
        · rw [← HNX.out]
          rcases HX3.out.2.2.2 with h | ⟨g, cap, cur, h1, h2, h3⟩
          · exact .inl h
          · exact .inr ⟨g, cap, cur, h1, Nat.zero_le _, h3⟩
        · have := (HX3.out.2.2.lt g hg).1
          exact Nat.le_trans HBW.out.size (Nat.le_trans HZB.out.2.2.2.1 this)
      have o3 : OwnO Z3 (fun i => w.heap.size ≤ i) (.slice a3 nx k3) xd := o2.kept (fun g hg => ⟨HCA.out.1.block g (by obtain ⟨cur, ht⟩ := o2.typ hg; exact (Array.getElem?_eq_some_iff.1 ht).1), o2.blk g hg⟩)
      have HO3 := Lib.hid o3
      clear o2 o3
      have hfl3 : FLs Z3 w.heap.size (.slice am m km) m l2 := (((HFL.out.1.later HZ.out).later (HX3.out.1.mono (Nat.le_of_eq HZB.out.2.2.2.2.symm))).later HCA.out.1)
      have HF3 := Lib.hid hfl3
      clear hfl3
      refine file_append _ _ rfl (B := w.heap.size) (n := m) (blk := X3.heap.size) (v := .slice am m km) (l := l2) (f := ((xn, xd, xs), .slice a3 nx k3)) rfl HF3.out rfl HCA.out.2 HO3.out hm256 (Nat.le_trans HBW.out.size hwz) (fun a9 k9 Z4 own9 b9 g9 => ?_)
      have hHeld : Below w.heap.size w Z4 := hHeld.trans b9
      have HF4 := Lib.hid (And.intro own9 hHeld)
      clear own9 b9 g9
      refine hK.out _ _ ⟨fun _ => hHeld, ?_⟩
      clear hK
      try simp only [Act.put, List.setIfInBounds_toArray, List.set_cons_zero, List.set_cons_succ]
      refine AnyE.one (i := 21) rfl (by kernel_rfl) (by kernel_rfl) (fun KK hK => ?_)
      go_simp
      refine hK.out _ _ ⟨fun _ => hHeld, ?_⟩
      clear hK hHeld
      try simp only [Act.put, List.setIfInBounds_toArray, List.set_cons_zero, List.set_cons_succ]
      refine AnyE.done (by kernel_rfl) (NoPanic.normal ?_) _
      go_simp
      go_step
      go_wp2
      go_roundw
      case rel =>
        refine ⟨t + 1, a9, m + 1, k9, l2 ++ [((xn, xd, xs), .slice a3 nx k3)], by omega, by go_num, rfl, HF4.out.1, ?_, HF4.out.2⟩
        rw [List.map_append, HFL.out.2, List.take_add_one, HXX.out]
        rfl
      case measure => simp [intOf]; omega
    · have j1 : (n : Int) ≤ (t : Int) := by omega
      have hall : (l.map (·.1)).take t = l.map (·.1) := List.take_of_length_le (by rw [List.length_map, ← HN.out.1]; omega)
      have HALL := Lib.hid hall
      clear hall hlt
      go_wp2
      go_ret
      first
        | exact ⟨am, m, km, l2, rfl, HFL.out.1, by rw [HFL.out.2, HALL.out], HBW.out⟩
        | exact ⟨am, m, km, rfl, l2, HFL.out.1, by rw [HFL.out.2, HALL.out], HBW.out⟩
end Go.Proofs.Ytbheifelfeekmaa

namespace Go.Proofs.Ytbheifelfeekmaa
open Go.RowKit Go.MapKept
set_option linter.unusedVariables false
set_option linter.unusedSimpArgs false
variable {w w' W X : World} {O O' : Nat → Prop} {dB : Nat} {d : Dk4}
theorem AnsD.before {r : Int × Dk4} {e : Ending} (b : Below w.heap.size w W) (h : AnsD W O dB r e w') : AnsD w O dB r e w' := by
  obtain ⟨h1, O2, h2, h3⟩ := h
  exact ⟨h1, O2, h2, (Go4.of_below b).trans h3⟩
def nameK (k : Nat) : ByteArray := ⟨#[102, 47]⟩ ++ str [97 + k]
def nameN (n : Int) : ByteArray := nameK (n % 8).toNat
theorem nameK_name : ∀ k, k < 8 → DkName (nameK k)
  | 0, _ => of_decide_eq_true (by kernel_rfl)
  | 1, _ => of_decide_eq_true (by kernel_rfl)
  | 2, _ => of_decide_eq_true (by kernel_rfl)
  | 3, _ => of_decide_eq_true (by kernel_rfl)
  | 4, _ => of_decide_eq_true (by kernel_rfl)
  | 5, _ => of_decide_eq_true (by kernel_rfl)
  | 6, _ => of_decide_eq_true (by kernel_rfl)
  | 7, _ => of_decide_eq_true (by kernel_rfl)
  | k + 8, h => by omega
set_option maxRecDepth 100000 in
set_option maxHeartbeats 2000000 in
theorem name4_any (n : Int) (w : World) : Calls Try.prog 28 #[.int .i64 n] w fun e w' => e = .returned (.string (nameN n)) ∧ Below w.heap.size w w' := by
  obtain ⟨k, hk⟩ : ∃ k, k = (n % 8).toNat := ⟨_, rfl⟩
  unfold nameN
  rw [← hk]
  have hk8 : k < 8 := by omega
  obtain ⟨q, hq⟩ : ∃ q, q = 97 + k := ⟨_, rfl⟩
  unfold nameK
  rw [← hq]
  have HK := Lib.hid (And.intro hk hk8)
  have hrd : ∀ W : World, Rd (W.alloc (.cells #[.int .u8 (q : Int)] 5)) (.slice (some ⟨W.heap.size, 0, none⟩) 1 1) [q] := fun W => by
    refine ⟨by intro x hx; simp at hx; omega, _, 1, rfl, Nat.le_refl _, by decide, by simp, .inr ⟨_, _, rfl⟩, .inr ⟨_, 0, rfl, fun i hi => ?_⟩⟩
    simp at hi
    subst hi
    simp [go_sem]
  have hcv := fun W => conv_str (hrd W)
  have htm := Int.tmod_eq_emod (a := n) (b := 8)
  have hb : -8 < n.tmod 8 ∧ n.tmod 8 < 8 := by
    split at htm <;> (simp at htm; omega)
  by_cases hneg : n.tmod 8 < 0
  · have e1 : n.tmod 8 + 8 = (k : Int) := by
      split at htm <;> (simp at htm; omega)
    have h97 : (97 + (n.tmod 8 + 8)) = (q : Int) := by omega
    have hcw := hcv w
    rw [← h97] at hcw
    clear hrd hcv hk e1 htm h97 hq
    go_enter Try.func28, Try.ntmps28
    go_wp2
    go_ret
    exact ⟨rfl, (Below.refl _ _).alloc (Nat.le_refl _) _⟩
  · have e1 : n.tmod 8 = (k : Int) := by
      split at htm <;> (simp at htm; omega)
    have h97 : (97 + n.tmod 8) = (q : Int) := by omega
    have hcw := hcv w
    rw [← h97] at hcw
    clear hrd hcv hk e1 htm h97 hq
    go_enter Try.func28, Try.ntmps28
    go_wp2
    go_ret
    exact ⟨rfl, (Below.refl _ _).alloc (Nat.le_refl _) _⟩
end Go.Proofs.Ytbheifelfeekmaa

namespace Go.Proofs.Ytbheifelfeekmaa
open Go.RowKit Go.MapKept
set_option linter.unusedVariables false
set_option linter.unusedSimpArgs false
variable {w w' W X : World} {O O' : Nat → Prop} {dB : Nat} {d : Dk4}
def armD (d : Dk4) (n : Int) : Dk4 := if d.down = true then d else { d with arm := max n 0 }
set_option maxRecDepth 100000 in
theorem arm_any (hD : Dsk w O dB d) (n : Int) (hn : n ≤ 9223372036854775807) : Calls Try.prog 20 #[.pointer (some ⟨dB, 0, none⟩), .int .i64 n] w fun e w' => e = .returned (.tuple #[]) ∧ Dsk w' O dB (armD d n) ∧ Go4 w w' O O := by
  obtain ⟨ok, mb, fl, hM, hfl⟩ := hD
  have c3 := hM.box.cells.2.2.2.1
  have c2 := hM.box.cells.2.2.1
  have z2 := hM.box.fz 2
  have HM := Lib.hid (And.intro hM (And.intro hfl ok))
  clear hM hfl ok
  unfold armD
  cases hd : d.down with
  | true =>
    rw [hd] at c3
    rw [if_pos rfl]
    clear hd c2 z2
    go_enter Try.func20, Try.ntmps20
    go_wp2
    go_end0
    exact ⟨rfl, ⟨HM.out.2.2, mb, fl, HM.out.1, HM.out.2.1⟩, Go4.refl _ _⟩
  | false =>
    rw [hd] at c3
    rw [if_neg (by simp)]
    have HDD := Lib.hid hd
    clear hd
    have fin : ∀ x : Int, 0 ≤ x → x ≤ 9223372036854775807 → Dsk (w.setCell ⟨dB, 2, none⟩ (.int .i64 x)) O dB { d with arm := x } ∧ Go4 w (w.setCell ⟨dB, 2, none⟩ (.int .i64 x)) O O := fun x h0 h1 => ⟨⟨HM.out.2.2.mk2 HM.out.2.2.fs h0 h1 _ _, mb, fl, HM.out.1.setArm x, HM.out.2.1⟩, Go4.of_set (a := ⟨dB, 2, none⟩) HM.out.1.odb _⟩
    have HF := Lib.hid fin
    clear fin
    by_cases h0 : n < 0
    · have hmx : max n 0 = 0 := by omega
      rw [hmx]
      go_enter Try.func20, Try.ntmps20
      go_wp2
      go_end0
      have := HF.out 0 (by omega) (by omega)
      rw [HDD.out] at this
      exact ⟨rfl, this⟩
    · have hmx : max n 0 = n := by omega
      rw [hmx]
      go_enter Try.func20, Try.ntmps20
      go_wp2
      go_end0
      have := HF.out n (by omega) hn
      rw [HDD.out] at this
      exact ⟨rfl, this⟩
set_option maxRecDepth 100000 in
theorem down_any (hD : Dsk w O dB d) : Calls Try.prog 24 #[.pointer (some ⟨dB, 0, none⟩)] w fun e w' => e = .returned (.bool d.down) ∧ w' = w := by
  obtain ⟨ok, mb, fl, hM, hfl⟩ := hD
  have c3 := hM.box.cells.2.2.2.1
  clear hM hfl ok
  go_enter Try.func24, Try.ntmps24
  go_wp2
  go_ret
  exact ⟨rfl, rfl⟩
set_option maxRecDepth 100000 in
theorem cap_any (hD : Dsk w O dB d) : Calls Try.prog 30 #[.pointer (some ⟨dB, 0, none⟩)] w fun e w' => e = .returned (.int .i64 d.cap) ∧ w' = w := by
  obtain ⟨ok, mb, fl, hM, hfl⟩ := hD
  have c3 := hM.box.cells.2.1
  clear hM hfl ok
  go_enter Try.func30, Try.ntmps30
  go_wp2
  go_ret
  exact ⟨rfl, rfl⟩
def actD (d : Dk4) (kind file too : Int) (bs : List Nat) : Int × Dk4 :=
  if kind = 1 then createD d (nameN file) else if kind = 2 then appendD d (nameN file) bs else if kind = 3 then syncD d (nameN file) else if kind = 4 then renameD d (nameN file) (nameN too) else if kind = 5 then deleteD d (nameN file) else (0, d)
set_option maxRecDepth 100000 in
set_option maxHeartbeats 4000000 in
theorem act_any {kind file too : Int} {ab : Option Addr} {nb kb : Nat} {bs : List Nat} (hD : Dsk w O dB d) (hrd : RdA w O (.slice ab nb kb) bs) :
    Calls Try.prog 21 #[.pointer (some ⟨dB, 0, none⟩), .agg #[.int .i64 kind, .int .i64 file, .int .i64 too, .slice ab nb kb]] w (AnsD w O dB (actD d kind file too bs)) := by
  obtain ⟨R, hR⟩ : ∃ R, R = actD d kind file too bs := ⟨_, rfl⟩
  rw [← hR]
  have HR := Lib.hid hR
  have HD := Lib.hid hD
  have HRD := Lib.hid hrd
  clear hR hD hrd
  go_enter Try.func21, Try.ntmps21
  go_upto_region 1 with fail
  have b0 := (Below.refl w.heap.size w).alloc (Nat.le_refl _) (.cells #[.int .i64 kind, .int .i64 file, .int .i64 too, .slice ab nb kb] 44)
  have cs : (w.alloc (.cells #[.int .i64 kind, .int .i64 file, .int .i64 too, .slice ab nb kb] 44)).cell? ⟨w.heap.size, 0, none⟩ = some (.int .i64 kind) ∧ (w.alloc (.cells #[.int .i64 kind, .int .i64 file, .int .i64 too, .slice ab nb kb] 44)).cell? ⟨w.heap.size, 1, none⟩ = some (.int .i64 file) ∧ (w.alloc (.cells #[.int .i64 kind, .int .i64 file, .int .i64 too, .slice ab nb kb] 44)).cell? ⟨w.heap.size, 2, none⟩ = some (.int .i64 too) ∧ (w.alloc (.cells #[.int .i64 kind, .int .i64 file, .int .i64 too, .slice ab nb kb] 44)).cell? ⟨w.heap.size, 3, none⟩ = some (.slice ab nb kb) ∧ w.heap.size < (w.alloc (.cells #[.int .i64 kind, .int .i64 file, .int .i64 too, .slice ab nb kb] 44)).heap.size := by
    refine ⟨?_, ?_, ?_, ?_, ?_⟩ <;> simp [go_sem]
  obtain ⟨W, hW⟩ : ∃ W, W = w.alloc (.cells #[.int .i64 kind, .int .i64 file, .int .i64 too, .slice ab nb kb] 44) := ⟨_, rfl⟩
  rw [← hW] at b0 cs ⊢
  obtain ⟨xb, hxb⟩ : ∃ xb, xb = w.heap.size := ⟨_, rfl⟩
  rw [← hxb] at cs ⊢
  obtain ⟨ck, cf, ct, cb, lx⟩ := cs
  have HB := Lib.hid b0
  have HDW := Lib.hid (HD.out.below b0)
  have hra : RdA W O (.slice ab nb kb) bs := ⟨HRD.out.1.later b0, HRD.out.2⟩
  have HRA := Lib.hid hra
  have HNF := fun X => Lib.hid (name4_any file X)
  have HNT := fun X => Lib.hid (name4_any too X)
  have HX := Lib.hid hxb
  clear hW b0 hra hxb
  by_cases k1 : kind = 1
  · subst k1
    have hRR : R = createD d (nameN file) := by rw [HR.out, actD, if_pos rfl]
    subst hRR
    go_wp2_with fail
    refine (HNF W).out.mono ?_
    rintro e X ⟨rfl, bx⟩
    have HBX := Lib.hid bx
    clear bx
    go_wp2_with fail
    refine (create_any (HDW.out.below HBX.out)).mono ?_
    intro e w2 ha
    have ha2 := AnsD.before (HB.out.trans (HBX.out.mono HB.out.size)) ha
    obtain ⟨rfl, hq⟩ := ha2
    have HQ := Lib.hid hq
    clear ha hq
    go_wp2
    go_ret
    exact ⟨rfl, HQ.out⟩
  have q1 : (kind == 1) = false := by simpa using k1
  by_cases k2 : kind = 2
  · subst k2
    have hRR : R = appendD d (nameN file) bs := by rw [HR.out, actD, if_neg (by decide), if_pos rfl]
    subst hRR
    go_upto_region 5 with fail
    refine wp_region_noPanic ?_
    refine wp_region_anyE (S := fun wx => wx.cell? ⟨xb, 1, none⟩ = some (.int .i64 file) ∧ wx.cell? ⟨xb, 2, none⟩ = some (.int .i64 too) ∧ wx.cell? ⟨xb, 3, none⟩ = some (.slice ab nb kb)) (E := fun j => decide (j < 7)) (by kernel_rfl) ?_
    have HBY := Lib.hid ((Below.refl W.heap.size W).drew)
    have hS : ∀ wx : World, Below W.heap.size W wx → wx.cell? ⟨xb, 1, none⟩ = some (.int .i64 file) ∧ wx.cell? ⟨xb, 2, none⟩ = some (.int .i64 too) ∧ wx.cell? ⟨xb, 3, none⟩ = some (.slice ab nb kb) := fun wx hb => ⟨(hb.cell (p := ⟨xb, 1, none⟩) lx).trans cf, (hb.cell (p := ⟨xb, 2, none⟩) lx).trans ct, (hb.cell (p := ⟨xb, 3, none⟩) lx).trans cb⟩
    have HSS := Lib.hid hS
    clear hS
    have hZ0 : ∃ z, z = W.drew := ⟨_, rfl⟩
    obtain ⟨Z0, hZ0⟩ := hZ0
    rw [← hZ0] at HBY ⊢
    have hHeld := HSS.out Z0 HBY.out
    clear hZ0
    refine AnyE.take (i := 0) (.pointer (some ⟨dB, 0, none⟩)) rfl (by kernel_rfl) (by kernel_rfl) (by kernel_rfl) (by kernel_rfl) (fun _ _ _ h => h) (.inl ⟨by kernel_rfl, fun wy hy => by (go_simp; done)⟩) hHeld ?_
    try simp only [Act.put, List.setIfInBounds_toArray, List.set_cons_zero, List.set_cons_succ]
    refine AnyE.take (i := 1) (.pointer (some ⟨xb, 1, none⟩)) rfl (by kernel_rfl) (by kernel_rfl) (by kernel_rfl) (by kernel_rfl) (fun _ _ _ h => h) (.inl ⟨by kernel_rfl, fun wy hy => by (go_simp; done)⟩) hHeld ?_
    try simp only [Act.put, List.setIfInBounds_toArray, List.set_cons_zero, List.set_cons_succ]
    refine AnyE.take (i := 2) (.int .i64 file) rfl (by kernel_rfl) (by kernel_rfl) (by kernel_rfl) (by kernel_rfl) (fun _ _ _ h => h) (.inl ⟨by kernel_rfl, fun wy hy => by (have q0 := hy.1; go_simp; done)⟩) hHeld ?_
    try simp only [Act.put, List.setIfInBounds_toArray, List.set_cons_zero, List.set_cons_succ]
    refine AnyE.take (i := 4) (.pointer (some ⟨xb, 3, none⟩)) rfl (by kernel_rfl) (by kernel_rfl) (by kernel_rfl) (by kernel_rfl) (fun _ _ _ h => h) (.inl ⟨by kernel_rfl, fun wy hy => by (go_simp; done)⟩) hHeld ?_
    try simp only [Act.put, List.setIfInBounds_toArray, List.set_cons_zero, List.set_cons_succ]
    refine AnyE.take (i := 5) (.slice ab nb kb) rfl (by kernel_rfl) (by kernel_rfl) (by kernel_rfl) (by kernel_rfl) (fun _ _ _ h => h) (.inl ⟨by kernel_rfl, fun wy hy => by (have q0 := hy.2.2; go_simp; done)⟩) hHeld ?_
    try simp only [Act.put, List.setIfInBounds_toArray, List.set_cons_zero, List.set_cons_succ]
    refine AnyE.one (i := 3) rfl (by kernel_rfl) (by kernel_rfl) (fun KK hK => ?_)
    go_simp
    go_at_call 28
    refine (HNF _).out.mono ?_
    rintro e9 Z3 ⟨rfl, b1⟩
    have HBY := Lib.hid (HBY.out.trans (b1.mono HBY.out.size))
    clear b1
    go_wp2_with fail
    have hHeld := HSS.out _ HBY.out
    refine hK.out _ _ ⟨fun _ => hHeld, ?_⟩
    clear hK
    try simp only [Act.put, List.setIfInBounds_toArray, List.set_cons_zero, List.set_cons_succ]
    refine AnyE.one (i := 6) rfl (by kernel_rfl) (by kernel_rfl) (fun KK hK => ?_)
    go_simp
    go_at_call 15
    refine (append_any (HDW.out.below HBY.out) ⟨HRA.out.1.later HBY.out, HRA.out.2⟩).mono ?_
    intro e w2 ha
    have hS2 : w2.cell? ⟨xb, 1, none⟩ = some (.int .i64 file) ∧ w2.cell? ⟨xb, 2, none⟩ = some (.int .i64 too) ∧ w2.cell? ⟨xb, 3, none⟩ = some (.slice ab nb kb) := by
      obtain ⟨_, O2, _, g2⟩ := ha
      have hn : ¬ O xb := fun h => by have := HD.out.lt xb h; have := HX.out; omega
      have hk := g2.block xb (Nat.lt_of_lt_of_le lx HBY.out.size) hn
      exact ⟨(World.cell?_of_block (a := ⟨xb, 1, none⟩) hk).trans hHeld.1, (World.cell?_of_block (a := ⟨xb, 2, none⟩) hk).trans hHeld.2.1, (World.cell?_of_block (a := ⟨xb, 3, none⟩) hk).trans hHeld.2.2⟩
    have ha2 := AnsD.before (HB.out.trans (HBY.out.mono HB.out.size)) ha
    obtain ⟨rfl, hq⟩ := ha2
    have HQ := Lib.hid hq
    clear ha hq
    go_wp2_with fail
    refine hK.out _ _ ⟨fun _ => hS2, ?_⟩
    clear hK hHeld
    try simp only [Act.put, List.setIfInBounds_toArray, List.set_cons_zero, List.set_cons_succ]
    refine AnyE.one (i := 7) rfl (by kernel_rfl) (by kernel_rfl) (fun KK hK => ?_)
    go_simp
    refine hK.out _ _ ⟨fun h => (by cases h), ?_⟩
    clear hK
    try simp only [Act.put, List.setIfInBounds_toArray, List.set_cons_zero, List.set_cons_succ]
    refine AnyE.done (by kernel_rfl) (NoPanic.normal ?_) _
    go_wp2
    go_ret
    exact ⟨rfl, HQ.out⟩
  have q2 : (kind == 2) = false := by simpa using k2
  by_cases k3 : kind = 3
  · subst k3
    have hRR : R = syncD d (nameN file) := by rw [HR.out, actD, if_neg (by decide), if_neg (by decide), if_pos rfl]
    subst hRR
    go_wp2_with fail
    refine (HNF W).out.mono ?_
    rintro e X ⟨rfl, bx⟩
    have HBX := Lib.hid bx
    clear bx
    go_wp2_with fail
    refine (sync_any (HDW.out.below HBX.out)).mono ?_
    intro e w2 ha
    have ha2 := AnsD.before (HB.out.trans (HBX.out.mono HB.out.size)) ha
    obtain ⟨rfl, hq⟩ := ha2
    have HQ := Lib.hid hq
    clear ha hq
    go_wp2
    go_ret
    exact ⟨rfl, HQ.out⟩
  have q3 : (kind == 3) = false := by simpa using k3
  by_cases k4 : kind = 4
  · subst k4
    have hRR : R = renameD d (nameN file) (nameN too) := by rw [HR.out, actD, if_neg (by decide), if_neg (by decide), if_neg (by decide), if_pos rfl]
    subst hRR
    go_upto_region 9 with fail
    refine wp_region_noPanic ?_
    refine wp_region_anyE (S := fun wx => wx.cell? ⟨xb, 1, none⟩ = some (.int .i64 file) ∧ wx.cell? ⟨xb, 2, none⟩ = some (.int .i64 too) ∧ wx.cell? ⟨xb, 3, none⟩ = some (.slice ab nb kb)) (E := fun j => decide (j < 8)) (by kernel_rfl) ?_
    have HBY := Lib.hid ((Below.refl W.heap.size W).drew)
    have hS : ∀ wx : World, Below W.heap.size W wx → wx.cell? ⟨xb, 1, none⟩ = some (.int .i64 file) ∧ wx.cell? ⟨xb, 2, none⟩ = some (.int .i64 too) ∧ wx.cell? ⟨xb, 3, none⟩ = some (.slice ab nb kb) := fun wx hb => ⟨(hb.cell (p := ⟨xb, 1, none⟩) lx).trans cf, (hb.cell (p := ⟨xb, 2, none⟩) lx).trans ct, (hb.cell (p := ⟨xb, 3, none⟩) lx).trans cb⟩
    have HSS := Lib.hid hS
    clear hS
    have hZ0 : ∃ z, z = W.drew := ⟨_, rfl⟩
    obtain ⟨Z0, hZ0⟩ := hZ0
    rw [← hZ0] at HBY ⊢
    have hHeld := HSS.out Z0 HBY.out
    clear hZ0
    refine AnyE.take (i := 0) (.pointer (some ⟨dB, 0, none⟩)) rfl (by kernel_rfl) (by kernel_rfl) (by kernel_rfl) (by kernel_rfl) (fun _ _ _ h => h) (.inl ⟨by kernel_rfl, fun wy hy => by (go_simp; done)⟩) hHeld ?_
    try simp only [Act.put, List.setIfInBounds_toArray, List.set_cons_zero, List.set_cons_succ]
    refine AnyE.take (i := 1) (.pointer (some ⟨xb, 1, none⟩)) rfl (by kernel_rfl) (by kernel_rfl) (by kernel_rfl) (by kernel_rfl) (fun _ _ _ h => h) (.inl ⟨by kernel_rfl, fun wy hy => by (go_simp; done)⟩) hHeld ?_
    try simp only [Act.put, List.setIfInBounds_toArray, List.set_cons_zero, List.set_cons_succ]
    refine AnyE.take (i := 2) (.int .i64 file) rfl (by kernel_rfl) (by kernel_rfl) (by kernel_rfl) (by kernel_rfl) (fun _ _ _ h => h) (.inl ⟨by kernel_rfl, fun wy hy => by (have q0 := hy.1; go_simp; done)⟩) hHeld ?_
    try simp only [Act.put, List.setIfInBounds_toArray, List.set_cons_zero, List.set_cons_succ]
    refine AnyE.take (i := 4) (.pointer (some ⟨xb, 2, none⟩)) rfl (by kernel_rfl) (by kernel_rfl) (by kernel_rfl) (by kernel_rfl) (fun _ _ _ h => h) (.inl ⟨by kernel_rfl, fun wy hy => by (go_simp; done)⟩) hHeld ?_
    try simp only [Act.put, List.setIfInBounds_toArray, List.set_cons_zero, List.set_cons_succ]
    refine AnyE.take (i := 5) (.int .i64 too) rfl (by kernel_rfl) (by kernel_rfl) (by kernel_rfl) (by kernel_rfl) (fun _ _ _ h => h) (.inl ⟨by kernel_rfl, fun wy hy => by (have q0 := hy.2.1; go_simp; done)⟩) hHeld ?_
    try simp only [Act.put, List.setIfInBounds_toArray, List.set_cons_zero, List.set_cons_succ]
    refine AnyE.one (i := 3) rfl (by kernel_rfl) (by kernel_rfl) (fun KK hK => ?_)
    go_simp
    go_at_call 28
    refine (HNF _).out.mono ?_
    rintro e9 Z3 ⟨rfl, b1⟩
    have HBY := Lib.hid (HBY.out.trans (b1.mono HBY.out.size))
    clear b1
    go_wp2_with fail
    have hHeld := HSS.out _ HBY.out
    refine hK.out _ _ ⟨fun _ => hHeld, ?_⟩
    clear hK
    try simp only [Act.put, List.setIfInBounds_toArray, List.set_cons_zero, List.set_cons_succ]
    refine AnyE.one (i := 6) rfl (by kernel_rfl) (by kernel_rfl) (fun KK hK => ?_)
    go_simp
    go_at_call 28
    refine (HNT _).out.mono ?_
    rintro e9 Z6 ⟨rfl, b1⟩
    have HBY := Lib.hid (HBY.out.trans (b1.mono HBY.out.size))
    clear b1
    go_wp2_with fail
    have hHeld := HSS.out _ HBY.out
    refine hK.out _ _ ⟨fun _ => hHeld, ?_⟩
    clear hK
    try simp only [Act.put, List.setIfInBounds_toArray, List.set_cons_zero, List.set_cons_succ]
    refine AnyE.one (i := 7) rfl (by kernel_rfl) (by kernel_rfl) (fun KK hK => ?_)
    go_simp
    go_at_call 17
    refine (rename_any (HDW.out.below HBY.out)).mono ?_
    intro e w2 ha
    have hS2 : w2.cell? ⟨xb, 1, none⟩ = some (.int .i64 file) ∧ w2.cell? ⟨xb, 2, none⟩ = some (.int .i64 too) ∧ w2.cell? ⟨xb, 3, none⟩ = some (.slice ab nb kb) := by
      obtain ⟨_, O2, _, g2⟩ := ha
      have hn : ¬ O xb := fun h => by have := HD.out.lt xb h; have := HX.out; omega
      have hk := g2.block xb (Nat.lt_of_lt_of_le lx HBY.out.size) hn
      exact ⟨(World.cell?_of_block (a := ⟨xb, 1, none⟩) hk).trans hHeld.1, (World.cell?_of_block (a := ⟨xb, 2, none⟩) hk).trans hHeld.2.1, (World.cell?_of_block (a := ⟨xb, 3, none⟩) hk).trans hHeld.2.2⟩
    have ha2 := AnsD.before (HB.out.trans (HBY.out.mono HB.out.size)) ha
    obtain ⟨rfl, hq⟩ := ha2
    have HQ := Lib.hid hq
    clear ha hq
    go_wp2_with fail
    refine hK.out _ _ ⟨fun _ => hS2, ?_⟩
    clear hK hHeld
    try simp only [Act.put, List.setIfInBounds_toArray, List.set_cons_zero, List.set_cons_succ]
    refine AnyE.one (i := 8) rfl (by kernel_rfl) (by kernel_rfl) (fun KK hK => ?_)
    go_simp
    refine hK.out _ _ ⟨fun h => (by cases h), ?_⟩
    clear hK
    try simp only [Act.put, List.setIfInBounds_toArray, List.set_cons_zero, List.set_cons_succ]
    refine AnyE.done (by kernel_rfl) (NoPanic.normal ?_) _
    go_wp2
    go_ret
    exact ⟨rfl, HQ.out⟩
  have q4 : (kind == 4) = false := by simpa using k4
  by_cases k5 : kind = 5
  · subst k5
    have hRR : R = deleteD d (nameN file) := by rw [HR.out, actD, if_neg (by decide), if_neg (by decide), if_neg (by decide), if_neg (by decide), if_pos rfl]
    subst hRR
    go_wp2_with fail
    refine (HNF W).out.mono ?_
    rintro e X ⟨rfl, bx⟩
    have HBX := Lib.hid bx
    clear bx
    go_wp2_with fail
    refine (delete_any (HDW.out.below HBX.out)).mono ?_
    intro e w2 ha
    have ha2 := AnsD.before (HB.out.trans (HBX.out.mono HB.out.size)) ha
    obtain ⟨rfl, hq⟩ := ha2
    have HQ := Lib.hid hq
    clear ha hq
    go_wp2
    go_ret
    exact ⟨rfl, HQ.out⟩
  have q5 : (kind == 5) = false := by simpa using k5
  have hRR : R = (0, d) := by rw [HR.out, actD, if_neg k1, if_neg k2, if_neg k3, if_neg k4, if_neg k5]
  subst hRR
  go_wp2
  go_ret
  exact ⟨rfl, O, HDW.out, Go4.of_below HB.out⟩
end Go.Proofs.Ytbheifelfeekmaa

namespace Go.Proofs.Ytbheifelfeekmaa
open Go.RowKit Go.MapKept Go.Sort
set_option linter.unusedVariables false
set_option linter.unusedSimpArgs false
variable {w w' W X : World} {O O' : Nat → Prop} {dB : Nat} {d : Dk4}
theorem Mad.go {d' : Dk4} {O2 : Nat → Prop} (h : Mad w X O dB d) (k : Dsk w' O2 dB d') (g : Go4 X w' O O2) : Mad w w' O2 dB d' :=
  ⟨k, h.bel.trans (g.below h.bel.size h.own), fun i hi => (g.new i hi).elim (h.own i) (fun q => Nat.le_trans h.bel.size q)⟩
theorem FLs.go {B n : Nat} {v : Value} {l : List (PF × Value)} (h : FLs w B v n l) (g : Go4 w w' O O') (hO : ∀ i, O i → i < B) : FLs w' B v n l := by
  refine ⟨h.len, ⟨h.row.1, ?_⟩, fun x hx => (h.dat x hx).kept (fun q hq => ⟨g.block q ?_ (fun z => by have := hO q z; have := (h.dat x hx).blk q hq; omega), (h.dat x hx).blk q hq⟩)⟩
  · rcases h.row.2 with h2 | ⟨q, cap, cur, h3, h4, h5, h6⟩
    · exact .inl h2
    · exact .inr ⟨q, cap, cur, h3, h4, by rw [g.block q (Array.getElem?_eq_some_iff.1 h5).1 (fun z => by have := hO q z; omega)]; exact h5, h6⟩
  · obtain ⟨cur, ht⟩ := (h.dat x hx).typ hq
    exact (Array.getElem?_eq_some_iff.1 ht).1
def crash1 (cuts : List Int) (t : Nat) (v : List Nat × Nat) : List Nat × Nat := if v.2 = v.1.length then v else (v.1.take (keepN v.2 v.1.length (cuts.getD t 0)), keepN v.2 v.1.length (cuts.getD t 0))
def tailsF (fs : List PF) (xs : List (List UInt8)) : Nat := (xs.filter (fun x => decide (((atP fs (ofL x)).getD ([], 0)).2 ≠ ((atP fs (ofL x)).getD ([], 0)).1.length))).length
theorem atP_set_eq {f : PF} : ∀ l : List PF, (∃ v, atP l f.1 = some v) → atP (setP l f) f.1 = some f.2
  | [], h => by obtain ⟨v, hv⟩ := h; cases hv
  | x :: xs, h => by
    by_cases e : x.1 = f.1
    · rw [setP, if_pos e, atP, if_pos rfl]
    · rw [atP, if_neg e] at h
      rw [setP, if_neg e, atP, if_neg e, atP_set_eq xs h]
theorem ofL_inj {a b : List UInt8} (h : ofL a = ofL b) : a = b := by rw [← nmL_ofL a, h, nmL_ofL]
theorem crashF_names (cuts : List Int) : ∀ (xs : List (List UInt8)) (t : Nat) (fs : List PF), (∀ x ∈ xs, ∃ v, atP fs (ofL x) = some v) → (crashF cuts xs t fs).2.map (·.1) = fs.map (·.1)
  | [], _, _, _ => rfl
  | x :: xs, t, fs, h => by
    obtain ⟨v, hv⟩ := h x (by simp)
    rw [crashF]
    split
    · exact crashF_names cuts xs t fs (fun y hy => h y (by simp [hy]))
    · rw [crashF_names cuts xs (t + 1) _ (fun y hy => atP_set_some _ ⟨_, hv⟩ (h y (by simp [hy])))]
      exact setP_names hv
theorem crashF_other (cuts : List Int) {s : ByteArray} : ∀ (xs : List (List UInt8)) (t : Nat) (fs : List PF), (∀ x ∈ xs, ∃ v, atP fs (ofL x) = some v) → (∀ x ∈ xs, ofL x ≠ s) → atP (crashF cuts xs t fs).2 s = atP fs s
  | [], _, _, _, _ => rfl
  | x :: xs, t, fs, h, hne => by
    obtain ⟨v, hv⟩ := h x (by simp)
    rw [crashF]
    split
    · exact crashF_other cuts xs t fs (fun y hy => h y (by simp [hy])) (fun y hy => hne y (by simp [hy]))
    · rw [crashF_other cuts xs (t + 1) _ (fun y hy => atP_set_some _ ⟨_, hv⟩ (h y (by simp [hy]))) (fun y hy => hne y (by simp [hy]))]
      exact atP_set_ne (hne x (by simp)) fs ⟨_, hv⟩
theorem tailsF_cons (fs : List PF) (x : List UInt8) (xs : List (List UInt8)) {v : List Nat × Nat} (hv : atP fs (ofL x) = some v) : tailsF fs (x :: xs) = (if v.2 = v.1.length then 0 else 1) + tailsF fs xs := by
  unfold tailsF
  rw [List.filter_cons, hv]
  by_cases h : v.2 = v.1.length
  · simp [h]
  · simp [h]
    omega
theorem tailsF_set {fs : List PF} {f : PF} (hf : ∃ v, atP fs f.1 = some v) : ∀ (xs : List (List UInt8)), (∀ x ∈ xs, f.1 ≠ ofL x) → tailsF (setP fs f) xs = tailsF fs xs := fun xs h => by
  unfold tailsF
  congr 1
  refine List.filter_congr (fun x hx => ?_)
  rw [atP_set_ne (h x hx) fs hf]
theorem crashF_at (cuts : List Int) : ∀ (xs : List (List UInt8)) (t : Nat) (fs : List PF), xs.Nodup → (∀ x ∈ xs, ∃ v, atP fs (ofL x) = some v) →
    (crashF cuts xs t fs).1 = t + tailsF fs xs ∧ ∀ i x v, xs[i]? = some x → atP fs (ofL x) = some v → atP (crashF cuts xs t fs).2 (ofL x) = some (crash1 cuts (t + tailsF fs (xs.take i)) v)
  | [], t, fs, _, _ => ⟨rfl, fun i x v h => by simp at h⟩
  | y :: ys, t, fs, hn, h => by
    rw [List.nodup_cons] at hn
    obtain ⟨u, hu⟩ := h y (by simp)
    have hys : ∀ x ∈ ys, ∃ v, atP fs (ofL x) = some v := fun x hx => h x (by simp [hx])
    have hne : ∀ x ∈ ys, ofL y ≠ ofL x := fun x hx e => hn.1 (by rw [ofL_inj e]; exact hx)
    have hcr : crashF cuts (y :: ys) t fs = if u.2 = u.1.length then crashF cuts ys t fs else crashF cuts ys (t + 1) (setP fs (ofL y, u.1.take (keepN u.2 u.1.length (cuts.getD t 0)), keepN u.2 u.1.length (cuts.getD t 0))) := by
      rw [crashF, hu]
      rfl
    rw [hcr, tailsF_cons fs y ys hu]
    by_cases he : u.2 = u.1.length
    · rw [if_pos he, if_pos he]
      have ih := crashF_at cuts ys t fs hn.2 hys
      refine ⟨by rw [ih.1]; omega, fun i x v hx hv => ?_⟩
      cases i with
      | zero =>
        simp at hx
        subst hx
        rw [hu] at hv
        cases hv
        rw [crashF_other cuts ys t fs hys (fun x hx => Ne.symm (hne x hx)), hu]
        simp [crash1, he]
      | succ i =>
        rw [ih.2 i x v (by simpa using hx) hv, List.take_succ_cons, tailsF_cons fs y _ hu, if_pos he]
        simp
    · rw [if_neg he, if_neg he]
      have hset : ∀ x ∈ ys, ∃ v, atP (setP fs (ofL y, u.1.take (keepN u.2 u.1.length (cuts.getD t 0)), keepN u.2 u.1.length (cuts.getD t 0))) (ofL x) = some v := fun x hx => atP_set_some _ ⟨_, hu⟩ (hys x hx)
      have ih := crashF_at cuts ys (t + 1) _ hn.2 hset
      refine ⟨by rw [ih.1, tailsF_set ⟨_, hu⟩ ys hne]; omega, fun i x v hx hv => ?_⟩
      cases i with
      | zero =>
        simp at hx
        subst hx
        rw [hu] at hv
        cases hv
        rw [crashF_other cuts ys _ _ hset (fun x hx => Ne.symm (hne x hx)), atP_set_eq fs ⟨_, hu⟩]
        have h0 : tailsF fs (List.take 0 (y :: ys)) = 0 := rfl
        rw [h0]
        simp [crash1, he]
      | succ i =>
        have hxi : ys[i]? = some x := by simpa using hx
        have hxm := List.mem_of_getElem? hxi
        rw [ih.2 i x v hxi (by rw [atP_set_ne (hne x hxm) fs ⟨_, hu⟩]; exact hv), List.take_succ_cons, tailsF_cons fs y _ hu, if_neg he, tailsF_set ⟨_, hu⟩ _ (fun z hz => hne z (List.mem_of_mem_take hz))]
        congr 2
        omega
end Go.Proofs.Ytbheifelfeekmaa

namespace Go.Proofs.Ytbheifelfeekmaa
open Go.RowKit Go.MapKept Go.Sort
set_option linter.unusedVariables false
set_option linter.unusedSimpArgs false
variable {w w' W X : World} {O O' : Nat → Prop} {dB : Nat} {d c : Dk4}
def Like (d c : Dk4) : Prop := d.fs = c.fs ∧ d.cap = c.cap ∧ d.down = false ∧ c.down = false ∧ c.arm = 0
def Out (torn : Bool) (d c : Dk4) (rd rc : Int × Dk4) : Prop :=
  (rc.1 ≠ 0 ∧ rd = (rc.1, d) ∧ rc = (rc.1, c)) ∨
  (rc.1 = 0 ∧ rc.2.arm = 0 ∧ rc.2.down = false ∧ rc.2.cap = c.cap ∧
    ((d.arm = 1 ∧ rd.1 = 3 ∧ rd.2.down = true ∧ rd.2.fs = (if torn = true then rc.2.fs else c.fs)) ∨
     (d.arm ≠ 1 ∧ rd.1 = 0 ∧ rd.2.down = false ∧ rd.2.fs = rc.2.fs ∧ rd.2.cap = c.cap ∧ rd.2.arm = if 0 < d.arm then d.arm - 1 else 0)))
theorem bad_out {e : Int} {torn : Bool} (h : e ≠ 0) : Out torn d c (e, d) (e, c) := .inl ⟨h, rfl, rfl⟩
theorem actP_out {torn : Bool} {fs : List PF} {x y : Nat → Int} (h : Like d c) : Out torn d c (actP d torn fs x) (actP c torn fs y) := by
  obtain ⟨hf, hc, h1, h2, h3⟩ := h
  have hc1 : ¬ c.arm = 1 := by omega
  have hc0 : ¬ 0 < c.arm := by omega
  refine .inr ?_
  unfold actP
  rw [if_neg hc1, if_neg hc0]
  refine ⟨rfl, rfl, h2, rfl, ?_⟩
  by_cases ha : d.arm = 1
  · rw [if_pos ha]
    refine .inl ⟨ha, rfl, ?_, ?_⟩
    · cases torn <;> rfl
    · cases torn
      · exact hf
      · rfl
  · rw [if_neg ha]
    exact .inr ⟨ha, rfl, h1, rfl, hc, rfl⟩
theorem create_out {s : ByteArray} (h : Like d c) : Out false d c (createD d s) (createD c s) := by
  have h9 := h
  obtain ⟨hf, hc, h1, h2, h3⟩ := h
  unfold createD
  rw [hf, h1, h2]
  by_cases a : rdyN false [s] ≠ 0
  · rw [if_pos a, if_pos a]
    exact bad_out a
  · rw [if_neg a, if_neg a]
    by_cases b : (atP c.fs s).isSome = true
    · rw [if_pos b, if_pos b]
      exact bad_out (by decide)
    · rw [if_neg b, if_neg b]
      by_cases e : 256 ≤ c.fs.length
      · rw [if_pos e, if_pos e]
        exact bad_out (by decide)
      · rw [if_neg e, if_neg e]
        exact actP_out h9
theorem append_out {s : ByteArray} {bs : List Nat} (h : Like d c) : Out true d c (appendD d s bs) (appendD c s bs) := by
  have h9 := h
  obtain ⟨hf, hc, h1, h2, h3⟩ := h
  unfold appendD
  rw [hf, h1, h2, hc]
  by_cases a : rdyN false [s] ≠ 0
  · rw [if_pos a, if_pos a]
    exact bad_out a
  · rw [if_neg a, if_neg a]
    by_cases b : 67108864 < bs.length
    · rw [if_pos b, if_pos b]
      exact bad_out (by decide)
    · rw [if_neg b, if_neg b]
      cases atP c.fs s with
      | none => exact bad_out (by decide)
      | some v =>
        simp only
        by_cases e : c.cap - (totP c.fs : Int) < (bs.length : Int)
        · rw [if_pos e, if_pos e]
          exact bad_out (by decide)
        · rw [if_neg e, if_neg e]
          exact actP_out h9
theorem reaE_like {s : ByteArray} (h : Like d c) : reaE d s = reaE c s := by
  obtain ⟨hf, hc, h1, h2, h3⟩ := h
  unfold reaE
  rw [hf, h1, h2]
theorem sync_out {s : ByteArray} (h : Like d c) : Out false d c (syncD d s) (syncD c s) := by
  unfold syncD
  rw [reaE_like h, h.1]
  by_cases a : reaE c s ≠ 0
  · rw [if_pos a, if_pos a]
    exact bad_out a
  · rw [if_neg a, if_neg a]
    exact actP_out h
theorem delete_out {s : ByteArray} (h : Like d c) : Out false d c (deleteD d s) (deleteD c s) := by
  unfold deleteD
  rw [reaE_like h, h.1]
  by_cases a : reaE c s ≠ 0
  · rw [if_pos a, if_pos a]
    exact bad_out a
  · rw [if_neg a, if_neg a]
    exact actP_out h
theorem rename_out {s t : ByteArray} (h : Like d c) : Out false d c (renameD d s t) (renameD c s t) := by
  have h9 := h
  obtain ⟨hf, hc, h1, h2, h3⟩ := h
  unfold renameD
  rw [hf, h1, h2]
  by_cases a : rdyN false [s, t] ≠ 0
  · rw [if_pos a, if_pos a]
    exact bad_out a
  · rw [if_neg a, if_neg a]
    cases atP c.fs s with
    | none => exact bad_out (by decide)
    | some v => exact actP_out h9
theorem act_out {kind file too : Int} {bs : List Nat} (h : Like d c) (hk : 1 ≤ kind ∧ kind ≤ 5) : Out (decide (kind = 2)) d c (actD d kind file too bs) (actD c kind file too bs) := by
  unfold actD
  by_cases k1 : kind = 1
  · subst k1; exact create_out h
  rw [if_neg k1, if_neg k1]
  by_cases k2 : kind = 2
  · subst k2; exact append_out h
  rw [if_neg k2, if_neg k2]
  have e : decide (kind = 2) = false := by simp [k2]
  rw [e]
  by_cases k3 : kind = 3
  · subst k3; exact sync_out h
  rw [if_neg k3, if_neg k3]
  by_cases k4 : kind = 4
  · subst k4; exact rename_out h
  rw [if_neg k4, if_neg k4]
  have k5 : kind = 5 := by omega
  subst k5
  exact delete_out h
theorem act_none {kind file too : Int} {bs : List Nat} (hk : ¬ (1 ≤ kind ∧ kind ≤ 5)) : actD d kind file too bs = (0, d) := by
  unfold actD
  rw [if_neg (by omega), if_neg (by omega), if_neg (by omega), if_neg (by omega), if_neg (by omega)]
theorem act_down {kind file too : Int} {bs : List Nat} (hd : d.down = true) : (actD d kind file too bs).2 = d ∧ (1 ≤ kind ∧ kind ≤ 5 → (actD d kind file too bs).1 = 3) := by
  have r : ∀ ss, rdyN d.down ss = 3 := fun ss => by rw [hd]; rfl
  have e : ∀ s, reaE d s = 3 := fun s => by unfold reaE; rw [r, if_neg (by decide)]
  by_cases hk : 1 ≤ kind ∧ kind ≤ 5
  · have : actD d kind file too bs = (3, d) := by
      unfold actD createD appendD syncD renameD deleteD
      simp only [r, e]
      by_cases k1 : kind = 1
      · simp [k1]
      by_cases k2 : kind = 2
      · simp [k2]
      by_cases k3 : kind = 3
      · simp [k3]
      by_cases k4 : kind = 4
      · simp [k4]
      have k5 : kind = 5 := by omega
      simp [k5]
    rw [this]
    exact ⟨rfl, fun _ => rfl⟩
  · rw [act_none hk]
    exact ⟨rfl, fun h => absurd h hk⟩
theorem filesP_small (ok : d.Ok) : (∀ p ∈ filesP d, p.2.1.length ≤ 67108864) ∧ (filesP d).length ≤ 256 := by
  refine ⟨fun p hp => ?_, ?_⟩
  · unfold filesP at hp
    obtain ⟨x, hx, rfl⟩ := List.mem_map.1 hp
    obtain ⟨v, hv⟩ := lsP_at hx
    have h1 := totP_mem hv
    have h2 := ok.tot
    have h3 := ok.cap1
    unfold fileP
    rw [hv]
    simp only [Option.getD_some]
    omega
  · unfold filesP lsP
    rw [List.length_map, List.length_mergeSort, List.length_map]
    refine Nat.le_trans (List.length_filter_le _ _) ?_
    rw [List.length_map]
    exact ok.cnt
theorem filesP_eq {d c : Dk4} (h : d.fs = c.fs) : filesP d = filesP c := by
  unfold filesP fileP
  rw [h]
end Go.Proofs.Ytbheifelfeekmaa

namespace Go.Proofs.Ytbheifelfeekmaa
open Go.RowKit Go.MapKept Go.Sort
set_option linter.unusedVariables false
set_option linter.unusedSimpArgs false
variable {w w' W X : World} {O O' : Nat → Prop} {dB : Nat} {d t : Dk4}
theorem atP_mem4 {s : ByteArray} {v : List Nat × Nat} : ∀ {l : List PF}, atP l s = some v → (s, v) ∈ l
  | x :: xs, h => by
    by_cases e : x.1 = s
    · rw [atP, if_pos e] at h
      cases h
      rw [← e]
      exact List.mem_cons_self
    · rw [atP, if_neg e] at h
      exact List.mem_cons_of_mem _ (atP_mem4 h)
theorem atP_of_mem {s : ByteArray} {v : List Nat × Nat} : ∀ {l : List PF}, (l.map (·.1)).Nodup → (s, v) ∈ l → atP l s = some v
  | x :: xs, hn, h => by
    rw [List.map_cons, List.nodup_cons] at hn
    rcases List.mem_cons.1 h with e | h
    · subst e; rw [atP, if_pos rfl]
    · rw [atP, if_neg (fun e => hn.1 (by rw [e]; exact List.mem_map.2 ⟨_, h, rfl⟩))]
      exact atP_of_mem hn.2 h
theorem nod_perm {l1 l2 : List PF} (p : l1.Perm l2) (hn : (l1.map (·.1)).Nodup) : (l2.map (·.1)).Nodup := (p.map _).nodup_iff.1 hn
theorem atP_perm {l1 l2 : List PF} (p : l1.Perm l2) (hn : (l1.map (·.1)).Nodup) (s : ByteArray) : atP l1 s = atP l2 s := by
  have h2 := nod_perm p hn
  cases h : atP l1 s with
  | some v => exact (atP_of_mem h2 (p.mem_iff.1 (atP_mem4 h))).symm
  | none =>
    cases k : atP l2 s with
    | none => rfl
    | some v => rw [atP_of_mem hn (p.mem_iff.2 (atP_mem4 k))] at h; cases h
theorem totP_perm {l1 l2 : List PF} (p : l1.Perm l2) : totP l1 = totP l2 := (p.map _).sum_nat
theorem setP_perm {f : PF} : ∀ {l : List PF}, (l.map (·.1)).Nodup → (setP l f).Perm (f :: l.filter (fun p => decide (p.1 ≠ f.1)))
  | [], _ => List.Perm.refl _
  | x :: xs, hn => by
    rw [List.map_cons, List.nodup_cons] at hn
    by_cases e : x.1 = f.1
    · rw [setP, if_pos e, List.filter_cons, if_neg (by simp [e])]
      refine List.Perm.cons _ (List.Perm.of_eq (List.filter_eq_self.2 (fun p hp => ?_)).symm)
      simp only [decide_eq_true_eq]
      exact fun e2 => hn.1 (by rw [e, ← e2]; exact List.mem_map.2 ⟨_, hp, rfl⟩)
    · rw [setP, if_neg e, List.filter_cons, if_pos (by simp [e])]
      exact ((setP_perm hn.2).cons x).trans (List.Perm.swap f x _)
theorem delP_filter {s : ByteArray} : ∀ {l : List PF}, (l.map (·.1)).Nodup → delP l s = l.filter (fun p => decide (p.1 ≠ s))
  | [], _ => rfl
  | x :: xs, hn => by
    rw [List.map_cons, List.nodup_cons] at hn
    by_cases e : x.1 = s
    · rw [delP, if_pos e, List.filter_cons, if_neg (by simp [e])]
      refine (List.filter_eq_self.2 (fun p hp => ?_)).symm
      simp only [decide_eq_true_eq]
      exact fun e2 => hn.1 (by rw [e, ← e2]; exact List.mem_map.2 ⟨_, hp, rfl⟩)
    · rw [delP, if_neg e, List.filter_cons, if_pos (by simp [e]), delP_filter hn.2]
theorem setP_perm2 {f : PF} {l1 l2 : List PF} (p : l1.Perm l2) (hn : (l1.map (·.1)).Nodup) : (setP l1 f).Perm (setP l2 f) :=
  (setP_perm hn).trans (((p.filter _).cons f).trans (setP_perm (nod_perm p hn)).symm)
theorem delP_perm2 {s : ByteArray} {l1 l2 : List PF} (p : l1.Perm l2) (hn : (l1.map (·.1)).Nodup) : (delP l1 s).Perm (delP l2 s) := by
  rw [delP_filter hn, delP_filter (nod_perm p hn)]
  exact p.filter _
theorem delP_nod {s : ByteArray} {l : List PF} (hn : (l.map (·.1)).Nodup) : ((delP l s).map (·.1)).Nodup := by
  rw [delP_filter hn]
  exact hn.sublist (List.filter_sublist.map _)
theorem lsP_perm {l1 l2 : List PF} (p : l1.Perm l2) (pre : ByteArray) : lsP l1 pre = lsP l2 pre := by
  unfold lsP
  exact mergeSort_of_perm (((p.map _).filter _).map _)
theorem filesP_perm2 (p : d.fs.Perm t.fs) (hn : (d.fs.map (·.1)).Nodup) : filesP d = filesP t := by
  unfold filesP
  rw [lsP_perm p]
  refine List.map_congr_left (fun x _ => ?_)
  unfold fileP
  rw [atP_perm p hn]
theorem filesP_perm (hn : (d.fs.map (·.1)).Nodup) : (filesP d).Perm d.fs := by
  have p : (lsP d.fs ⟨#[]⟩).Perm ((d.fs.map (·.1)).map nmL) := by
    have e : (d.fs.map (·.1)).filter (preB ⟨#[]⟩) = d.fs.map (·.1) := List.filter_eq_self.2 (fun a _ => preB_nil a)
    have := List.mergeSort_perm (((d.fs.map (·.1)).filter (preB ⟨#[]⟩)).map nmL) leB
    rw [e] at this
    unfold lsP
    rw [e]
    exact this
  refine (p.map (fileP d)).trans (List.Perm.of_eq ?_)
  rw [List.map_map, List.map_map]
  conv => rhs; rw [← List.map_id d.fs]
  refine List.map_congr_left (fun x hx => ?_)
  simp only [Function.comp, fileP, ofL_nmL, id]
  rw [atP_of_mem hn (show (x.1, x.2) ∈ d.fs from hx)]
  rfl
structure Twin (d t : Dk4) : Prop where
  fs : d.fs.Perm t.fs
  nod : (d.fs.map (·.1)).Nodup
  cap : d.cap = t.cap
  dn : d.down = false
  tn : t.down = false
  da : d.arm = 0
  ta : t.arm = 0
theorem actP_twin {torn : Bool} {f g : List PF} {x y : Nat → Int} (h : Twin d t) (p : f.Perm g) (hn : (f.map (·.1)).Nodup) : (actP d torn f x).1 = (actP t torn g y).1 ∧ Twin (actP d torn f x).2 (actP t torn g y).2 := by
  have e1 : actP d torn f x = (0, ⟨f, d.cap, 0, d.down, setCt x 0 (wrap64 (x 0 + 1))⟩) := by
    unfold actP
    rw [if_neg (by rw [h.da]; decide), if_neg (by rw [h.da]; decide)]
  have e2 : actP t torn g y = (0, ⟨g, t.cap, 0, t.down, setCt y 0 (wrap64 (y 0 + 1))⟩) := by
    unfold actP
    rw [if_neg (by rw [h.ta]; decide), if_neg (by rw [h.ta]; decide)]
  rw [e1, e2]
  exact ⟨rfl, p, hn, h.cap, h.dn, h.tn, rfl, rfl⟩
theorem reaE_twin (h : Twin d t) (s : ByteArray) : reaE d s = reaE t s := by
  unfold reaE
  rw [h.dn, h.tn, atP_perm h.fs h.nod]
theorem setP_nod {f : PF} {l : List PF} (hn : (l.map (·.1)).Nodup) : ((setP l f).map (·.1)).Nodup := by
  refine nod_perm (setP_perm hn).symm ?_
  rw [List.map_cons, List.nodup_cons]
  refine ⟨fun h => ?_, hn.sublist (List.filter_sublist.map _)⟩
  obtain ⟨p, hp, e⟩ := List.mem_map.1 h
  have := (List.mem_filter.1 hp).2
  simp only [decide_eq_true_eq] at this
  exact this e
theorem act_twin {kind file too : Int} {bs : List Nat} (h : Twin d t) : (actD d kind file too bs).1 = (actD t kind file too bs).1 ∧ Twin (actD d kind file too bs).2 (actD t kind file too bs).2 := by
  unfold actD
  have ht := totP_perm h.fs
  have hl := h.fs.length_eq
  by_cases k1 : kind = 1
  · rw [if_pos k1, if_pos k1]
    unfold createD
    rw [h.dn, h.tn, atP_perm h.fs h.nod, hl]
    split
    · exact ⟨rfl, h⟩
    · split
      · exact ⟨rfl, h⟩
      · split
        · exact ⟨rfl, h⟩
        · exact actP_twin h (setP_perm2 h.fs h.nod) (setP_nod h.nod)
  rw [if_neg k1, if_neg k1]
  by_cases k2 : kind = 2
  · rw [if_pos k2, if_pos k2]
    unfold appendD
    rw [h.dn, h.tn, atP_perm h.fs h.nod, ht, h.cap]
    split
    · exact ⟨rfl, h⟩
    · split
      · exact ⟨rfl, h⟩
      · split
        · exact ⟨rfl, h⟩
        · split
          · exact ⟨rfl, h⟩
          · exact actP_twin h (setP_perm2 h.fs h.nod) (setP_nod h.nod)
  rw [if_neg k2, if_neg k2]
  by_cases k3 : kind = 3
  · rw [if_pos k3, if_pos k3]
    unfold syncD
    rw [reaE_twin h, atP_perm h.fs h.nod]
    split
    · exact ⟨rfl, h⟩
    · exact actP_twin h (setP_perm2 h.fs h.nod) (setP_nod h.nod)
  rw [if_neg k3, if_neg k3]
  by_cases k4 : kind = 4
  · rw [if_pos k4, if_pos k4]
    unfold renameD
    rw [h.dn, h.tn, atP_perm h.fs h.nod]
    split
    · exact ⟨rfl, h⟩
    · split
      · exact ⟨rfl, h⟩
      · exact actP_twin h (setP_perm2 (delP_perm2 h.fs h.nod) (delP_nod h.nod)) (setP_nod (delP_nod h.nod))
  rw [if_neg k4, if_neg k4]
  by_cases k5 : kind = 5
  · rw [if_pos k5, if_pos k5]
    unfold deleteD
    rw [reaE_twin h]
    split
    · exact ⟨rfl, h⟩
    · exact actP_twin h (delP_perm2 h.fs h.nod) (delP_nod h.nod)
  rw [if_neg k5, if_neg k5]
  exact ⟨rfl, h⟩
def PF.g (p : PF) : GF := (p.1, p.2.1, (p.2.2 : Int))
theorem loadL_all : ∀ (l : List PF) (d : Dk4), (∀ p ∈ l, DkName p.1) → ((d.fs ++ l).map (·.1)).Nodup → (∀ p ∈ l, p.2.2 ≤ p.2.1.length) → ((totP d.fs + totP l : Nat) : Int) ≤ d.cap → loadL d (l.map PF.g) = (0, ⟨d.fs ++ l, d.cap, d.arm, d.down, d.c⟩)
  | [], d, _, _, _, _ => by simp [loadL]
  | x :: xs, d, hn, hd, hs, ht => by
    have htx : totP (x :: xs) = x.2.1.length + totP xs := by simp [totP]
    have hnone : atP d.fs x.1 = none := by
      cases h : atP d.fs x.1 with
      | none => rfl
      | some v =>
        rw [List.map_append, List.nodup_append] at hd
        exact absurd rfl (hd.2.2 x.1 (List.mem_map.2 ⟨_, atP_mem4 h, rfl⟩) x.1 (by simp))
    have hx := hs x (by simp)
    have htk : takeD d x.1 x.2.1 (x.2.2 : Int) = (0, ⟨d.fs ++ [x], d.cap, d.arm, d.down, d.c⟩) := by
      unfold takeD
      rw [if_neg (fun h => h (hn x (by simp))), if_neg (by rw [hnone]; simp), if_neg (by omega), if_neg (by rw [htx] at ht; omega)]
      have e := setP_new (f := (x.1, x.2.1, x.2.2)) (atP_none hnone)
      simp only [Int.toNat_natCast]
      rw [e]
    have hst : loadL d ((x :: xs).map PF.g) = loadL ⟨d.fs ++ [x], d.cap, d.arm, d.down, d.c⟩ (xs.map PF.g) := by
      rw [List.map_cons, loadL]
      have e0 : takeD d x.g.1 x.g.2.1 x.g.2.2 = (0, ⟨d.fs ++ [x], d.cap, d.arm, d.down, d.c⟩) := htk
      simp only [e0, ne_eq, not_true_eq_false, if_false]
    rw [hst]
    have ih := loadL_all xs ⟨d.fs ++ [x], d.cap, d.arm, d.down, d.c⟩ (fun p hp => hn p (by simp [hp])) (by simpa using hd) (fun p hp => hs p (by simp [hp])) (by
      simp only
      rw [totP_append]
      have : totP [x] = x.2.1.length := by simp [totP]
      rw [this]
      rw [htx] at ht
      omega)
    simp only [List.append_assoc, List.singleton_append] at ih
    exact ih
theorem load_twin (ok : d.Ok) (hdn : d.down = false) (hda : d.arm = 0) : ∃ t, loadD d.cap ((filesP d).map PF.g) = (0, t) ∧ Twin d t := by
  have p := filesP_perm ok.nod
  have hnd : ((filesP d).map (·.1)).Nodup := nod_perm p.symm ok.nod
  refine ⟨⟨filesP d, d.cap, 0, false, fun _ => 0⟩, ?_, ⟨p.symm, ok.nod, rfl, hdn, rfl, hda, rfl⟩⟩
  unfold loadD
  rw [if_neg (by have := ok.cap0; have := ok.cap1; omega), List.length_map, p.length_eq, if_neg (by have := ok.cnt; omega)]
  have := loadL_all (filesP d) (newD d.cap) (fun q hq => ok.nam q (p.mem_iff.1 hq)) (by simpa [newD] using hnd) (fun q hq => ok.syn q (p.mem_iff.1 hq)) (by
    have h := totP_perm p
    have h2 := ok.tot
    simp only [newD]
    have : totP [] = 0 := rfl
    omega)
  rw [this]
  simp [newD]
theorem RdF4.g {a : Option Addr} {k : Nat} {l : List (PF × Value)} (h : RdF4 w a k l) : RdG4 w a k (l.map fun x => (x.1.g, x.2)) := by
  refine ⟨by rw [List.length_map]; exact h.cap, fun i x hx => ?_, fun x hx => ?_⟩
  · rw [List.getElem?_map] at hx
    obtain ⟨y, hy, rfl⟩ := Option.map_eq_some_iff.1 hx
    exact h.cel i y hy
  · obtain ⟨y, hy, rfl⟩ := List.mem_map.1 hx
    exact h.dat y hy
end Go.Proofs.Ytbheifelfeekmaa
