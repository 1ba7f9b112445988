import Derived.Test.YtbheifelfeekmaaK07
namespace Go.Proofs.Ytbheifelfeekmaa
open Go.RowKit Go.MapKept Go.Sort
set_option linter.unusedVariables false
set_option linter.unusedSimpArgs false
variable {w w' W X : World} {O O' : Nat → Prop} {dB : Nat} {d : Dk4}
set_option maxRecDepth 100000 in
set_option maxHeartbeats 4000000 in
theorem copied_any {a : Option Addr} {n k : Nat} {l : List (PF × Value)} (hr : RdF4 w a k l) (hn : n = l.length) (h256 : n ≤ 256) (hl : ∀ x ∈ l, x.1.2.1.length ≤ 67108864) :
    Calls Try.prog 26 #[.slice a n k] w fun e w' => ∃ a2 n2 k2 l2, e = .returned (.slice a2 n2 k2) ∧ FLs w' w.heap.size (.slice a2 n2 k2) n2 l2 ∧ l2.map (·.1) = l.map (·.1) ∧ Below w.heap.size w w' := by
  have HR := Lib.hid hr
  have HN := Lib.hid (And.intro hn hl)
  clear hr hn hl
  go_enter Try.func26, Try.ntmps26
  go_wp2_with fail
  go_loopw [3, 4] (fun v i wr => ∃ (t : Nat) (am : Option Addr) (m km : Nat) (l2 : List (PF × Value)), t ≤ n ∧ i = .int .i64 (t : Int) ∧ v = .slice am m km ∧ FLs wr w.heap.size (.slice am m km) m l2 ∧ l2.map (·.1) = (l.map (·.1)).take t ∧ Below w.heap.size w wr) (fun _ i _ => n - (intOf i).toNat)
  case atStart => exact ⟨0, none, 0, 0, [], Nat.zero_le _, rfl, rfl, FLs.nil _ _, by simp, Below.refl _ _⟩
  case round =>
    obtain ⟨t, am, m, km, l2, ht, rfl, rfl, hfl, hll, hbw⟩ := hrel
    have HFL := Lib.hid (And.intro hfl hll)
    have HBW := Lib.hid hbw
    clear hfl hll hbw
    by_cases hlt : t < n
    · have j1 : (t : Int) < (n : Int) := by omega
      have j2 : (0 : Int) ≤ (t : Int) := by omega
      have hx : ∃ x, l[t]? = some x := ⟨_, List.getElem?_eq_getElem (by rw [← HN.out.1]; exact hlt)⟩
      obtain ⟨x, hx⟩ := hx
      have hcx := HR.out.cel t x hx
      obtain ⟨g, hcx⟩ := hcx
      obtain ⟨off, hcx⟩ := hcx
      have ea := hcx.1
      subst ea
      have hdx := HR.out.dat x (List.mem_of_getElem? hx)
      obtain ⟨ax, hdx⟩ := hdx
      obtain ⟨cx, hdx⟩ := hdx
      have hlx := HN.out.2 x (List.mem_of_getElem? hx)
      obtain ⟨⟨xn, xd, xs⟩, xv⟩ := x
      simp only at hcx hdx hlx
      have hxv := hdx.1
      have hnx : ∃ nx, nx = xd.length := ⟨_, rfl⟩
      obtain ⟨nx, hnx⟩ := hnx
      rw [← hnx] at hxv hlx
      subst hxv
      have c0 := hcx.2.1
      have c1 := hcx.2.2.1
      have c2 := hcx.2.2.2
      have lg := World.block_lt_of_cell? _ _ c0
      simp only at lg
      have HRD := Lib.hid hdx.2
      have HNX := Lib.hid hnx
      have hm256 : m ≤ 1000000 := by
        have h1 := HFL.out.1.len
        have h2 := congrArg List.length HFL.out.2
        rw [List.length_map, List.length_take] at h2
        omega
      have hxx : (l.map (·.1))[t]? = some (xn, xd, xs) := by rw [List.getElem?_map, hx]; rfl
      have HXX := Lib.hid hxx
      clear hx hcx hdx hnx hxx
      go_upto_region 5 with fail
      refine wp_region_noPanic ?_
      refine wp_region_anyE (S := fun wx => Below w.heap.size w wx) (E := fun j => true) (by kernel_rfl) ?_
      have hHeld : Below w.heap.size w wr.drew := HBW.out.drew
      have HZ := Lib.hid ((Below.refl wr.heap.size wr).drew)
      have hZ0 : ∃ z, z = wr.drew := ⟨_, rfl⟩
      obtain ⟨Z0, hZ0⟩ := hZ0
      rw [← hZ0] at HZ hHeld ⊢
      clear hZ0
      refine AnyE.take (i := 0) (.slice am m km) rfl (by kernel_rfl) (by kernel_rfl) (by kernel_rfl) (by kernel_rfl) (fun _ _ _ h => h) (.inl ⟨by kernel_rfl, fun wy hy => by (go_simp; done)⟩) hHeld ?_
      try simp only [Act.put, List.setIfInBounds_toArray, List.set_cons_zero, List.set_cons_succ]
      refine AnyE.take (i := 1) (.slice (some ⟨g, off, none⟩) n k) rfl (by kernel_rfl) (by kernel_rfl) (by kernel_rfl) (by kernel_rfl) (fun _ _ _ h => h) (.inl ⟨by kernel_rfl, fun wy hy => by (go_simp; done)⟩) hHeld ?_
      try simp only [Act.put, List.setIfInBounds_toArray, List.set_cons_zero, List.set_cons_succ]
      refine AnyE.take (i := 2) (.int .i64 (t : Int)) rfl (by kernel_rfl) (by kernel_rfl) (by kernel_rfl) (by kernel_rfl) (fun _ _ _ h => h) (.inl ⟨by kernel_rfl, fun wy hy => by (go_simp; done)⟩) hHeld ?_
      try simp only [Act.put, List.setIfInBounds_toArray, List.set_cons_zero, List.set_cons_succ]
      refine AnyE.take (i := 3) (.pointer (some ⟨g, off + t * 3, none⟩)) rfl (by kernel_rfl) (by kernel_rfl) (by kernel_rfl) (by kernel_rfl) (fun _ _ _ h => h) (.inl ⟨by kernel_rfl, fun wy hy => by (go_simp; done)⟩) hHeld ?_
      try simp only [Act.put, List.setIfInBounds_toArray, List.set_cons_zero, List.set_cons_succ]
      refine AnyE.take (i := 4) (.pointer (some ⟨g, off + t * 3, none⟩)) rfl (by kernel_rfl) (by kernel_rfl) (by kernel_rfl) (by kernel_rfl) (fun _ _ _ h => h) (.inl ⟨by kernel_rfl, fun wy hy => by (go_simp; done)⟩) hHeld ?_
      try simp only [Act.put, List.setIfInBounds_toArray, List.set_cons_zero, List.set_cons_succ]
      refine AnyE.take (i := 5) (.string xn) rfl (by kernel_rfl) (by kernel_rfl) (by kernel_rfl) (by kernel_rfl) (fun _ _ _ h => h) (.inl ⟨by kernel_rfl, fun wy hy => by (have q0 := (hy.cell (p := ⟨g, off + t * 3, none⟩) lg).trans c0; go_simp; done)⟩) hHeld ?_
      try simp only [Act.put, List.setIfInBounds_toArray, List.set_cons_zero, List.set_cons_succ]
      refine AnyE.take (i := 7) (.slice (some ⟨g, off, none⟩) n k) rfl (by kernel_rfl) (by kernel_rfl) (by kernel_rfl) (by kernel_rfl) (fun _ _ _ h => h) (.inl ⟨by kernel_rfl, fun wy hy => by (go_simp; done)⟩) hHeld ?_
      try simp only [Act.put, List.setIfInBounds_toArray, List.set_cons_zero, List.set_cons_succ]
      refine AnyE.take (i := 8) (.int .i64 (t : Int)) rfl (by kernel_rfl) (by kernel_rfl) (by kernel_rfl) (by kernel_rfl) (fun _ _ _ h => h) (.inl ⟨by kernel_rfl, fun wy hy => by (go_simp; done)⟩) hHeld ?_
      try simp only [Act.put, List.setIfInBounds_toArray, List.set_cons_zero, List.set_cons_succ]
      refine AnyE.take (i := 9) (.pointer (some ⟨g, off + t * 3, none⟩)) rfl (by kernel_rfl) (by kernel_rfl) (by kernel_rfl) (by kernel_rfl) (fun _ _ _ h => h) (.inl ⟨by kernel_rfl, fun wy hy => by (go_simp; done)⟩) hHeld ?_
      try simp only [Act.put, List.setIfInBounds_toArray, List.set_cons_zero, List.set_cons_succ]
      refine AnyE.take (i := 10) (.pointer (some ⟨g, off + t * 3 + 1, none⟩)) rfl (by kernel_rfl) (by kernel_rfl) (by kernel_rfl) (by kernel_rfl) (fun _ _ _ h => h) (.inl ⟨by kernel_rfl, fun wy hy => by (go_simp; done)⟩) hHeld ?_
      try simp only [Act.put, List.setIfInBounds_toArray, List.set_cons_zero, List.set_cons_succ]
      refine AnyE.take (i := 11) (.slice ax nx cx) rfl (by kernel_rfl) (by kernel_rfl) (by kernel_rfl) (by kernel_rfl) (fun _ _ _ h => h) (.inl ⟨by kernel_rfl, fun wy hy => by (have q0 := (hy.cell (p := ⟨g, off + t * 3 + 1, none⟩) lg).trans c1; go_simp; done)⟩) hHeld ?_
      try simp only [Act.put, List.setIfInBounds_toArray, List.set_cons_zero, List.set_cons_succ]
      refine AnyE.take (i := 13) (.slice (some ⟨g, off, none⟩) n k) rfl (by kernel_rfl) (by kernel_rfl) (by kernel_rfl) (by kernel_rfl) (fun _ _ _ h => h) (.inl ⟨by kernel_rfl, fun wy hy => by (go_simp; done)⟩) hHeld ?_
      try simp only [Act.put, List.setIfInBounds_toArray, List.set_cons_zero, List.set_cons_succ]
      refine AnyE.take (i := 14) (.int .i64 (t : Int)) rfl (by kernel_rfl) (by kernel_rfl) (by kernel_rfl) (by kernel_rfl) (fun _ _ _ h => h) (.inl ⟨by kernel_rfl, fun wy hy => by (go_simp; done)⟩) hHeld ?_
      try simp only [Act.put, List.setIfInBounds_toArray, List.set_cons_zero, List.set_cons_succ]
      refine AnyE.take (i := 15) (.pointer (some ⟨g, off + t * 3, none⟩)) rfl (by kernel_rfl) (by kernel_rfl) (by kernel_rfl) (by kernel_rfl) (fun _ _ _ h => h) (.inl ⟨by kernel_rfl, fun wy hy => by (go_simp; done)⟩) hHeld ?_
      try simp only [Act.put, List.setIfInBounds_toArray, List.set_cons_zero, List.set_cons_succ]
      refine AnyE.take (i := 16) (.pointer (some ⟨g, off + t * 3 + 2, none⟩)) rfl (by kernel_rfl) (by kernel_rfl) (by kernel_rfl) (by kernel_rfl) (fun _ _ _ h => h) (.inl ⟨by kernel_rfl, fun wy hy => by (go_simp; done)⟩) hHeld ?_
      try simp only [Act.put, List.setIfInBounds_toArray, List.set_cons_zero, List.set_cons_succ]
      refine AnyE.take (i := 17) (.int .i64 (xs : Int)) rfl (by kernel_rfl) (by kernel_rfl) (by kernel_rfl) (by kernel_rfl) (fun _ _ _ h => h) (.inl ⟨by kernel_rfl, fun wy hy => by (have q0 := (hy.cell (p := ⟨g, off + t * 3 + 2, none⟩) lg).trans c2; go_simp; done)⟩) hHeld ?_
      try simp only [Act.put, List.setIfInBounds_toArray, List.set_cons_zero, List.set_cons_succ]
      refine AnyE.one (i := 6) rfl (by kernel_rfl) (by kernel_rfl) (fun KK hK => ?_)
      go_simp
      have hzb : ∃ zb, zb = Z0.heap.size := ⟨_, rfl⟩
      obtain ⟨zb, hzb⟩ := hzb
      have hZ1 : ∃ z, z = Z0.alloc (.cells #[] 5) := ⟨_, rfl⟩
      obtain ⟨Z1, hZ1⟩ := hZ1
      have b1 : Below zb Z0 Z1 := by rw [hZ1, hzb]; exact (Below.refl _ _).alloc (Nat.le_refl _) _
      have ow1 : Own Z1 zb (.slice (some ⟨zb, 0, none⟩) 0 0) 0 [] := by rw [hZ1, hzb]; exact ⟨rfl, World.ownsRow_made Z0 #[] 0 (Nat.le_refl _) (Nat.zero_le _) rfl⟩
      have lz1 : zb ≤ Z1.heap.size := by rw [hZ1, hzb]; simp
      rw [← hZ1, ← hzb]
      have hzw : wr.heap.size ≤ zb := by rw [hzb]; exact HZ.out.size
      have HZB := Lib.hid (And.intro b1 (And.intro ow1 (And.intro lz1 (And.intro hzw hzb))))
      have hHeld : Below w.heap.size w Z1 := hHeld.trans (b1.mono (Nat.le_trans HBW.out.size hzw))
      clear b1 ow1 lz1 hzw hzb hZ1
      refine hK.out _ _ ⟨fun _ => hHeld, ?_⟩
      clear hK
      try simp only [Act.put, List.setIfInBounds_toArray, List.set_cons_zero, List.set_cons_succ]
      refine AnyE.one (i := 12) rfl (by kernel_rfl) (by kernel_rfl) (fun KK hK => ?_)
      refine dstep_append _ _ rfl (B := zb) (n := 0) (v := .slice (some ⟨zb, 0, none⟩) 0 0) (src := .slice ax nx cx) (xs := []) (bs := xd) rfl HZB.out.2.1 rfl (HRD.out.later hHeld) (by rw [← HNX.out]; omega) HZB.out.2.2.1 (fun a3 k3 X3 own3 gr3 lo3 => ?_)
      rw [Nat.zero_add, ← HNX.out] at own3 ⊢
      rw [List.nil_append] at own3
      have b3 : Below zb Z0 X3 := HZB.out.1.grown gr3 HZB.out.2.2.1 (fun k hk => by simp [Value.ownBlock] at hk; omega)
      have hHeld : Below w.heap.size w X3 := (HBW.out.trans (HZ.out.mono HBW.out.size)).trans (b3.mono (Nat.le_trans HBW.out.size HZB.out.2.2.2.1))
      have HX3 := Lib.hid (And.intro b3 own3)
      clear own3 gr3 lo3 b3
      refine hK.out _ _ ⟨fun _ => hHeld, ?_⟩
      clear hK
      try simp only [Act.put, List.setIfInBounds_toArray, List.set_cons_zero, List.set_cons_succ]
      refine AnyE.one (i := 18) rfl (by kernel_rfl) (by kernel_rfl) (fun KK hK => ?_)
      go_simp
      refine hK.out _ _ ⟨fun _ => hHeld, ?_⟩
      clear hK
      try simp only [Act.put, List.setIfInBounds_toArray, List.set_cons_zero, List.set_cons_succ]
      refine AnyE.one (i := 19) rfl (by kernel_rfl) (by kernel_rfl) (fun KK hK => ?_)
      go_simp
      have bA := (Below.refl X3.heap.size X3).alloc (Nat.le_refl _) (.cells #[.string xn, .slice a3 nx k3, .int .i64 (xs : Int)] 50)
      have cA : (X3.alloc (.cells #[.string xn, .slice a3 nx k3, .int .i64 (xs : Int)] 50)).cell? ⟨X3.heap.size, 0, none⟩ = some (.string xn) ∧ (X3.alloc (.cells #[.string xn, .slice a3 nx k3, .int .i64 (xs : Int)] 50)).cell? ⟨X3.heap.size, 1, none⟩ = some (.slice a3 nx k3) ∧ (X3.alloc (.cells #[.string xn, .slice a3 nx k3, .int .i64 (xs : Int)] 50)).cell? ⟨X3.heap.size, 2, none⟩ = some (.int .i64 (xs : Int)) := by
        refine ⟨?_, ?_, ?_⟩ <;> simp [go_sem]
      have hZ3 : ∃ z, z = X3.alloc (.cells #[.string xn, .slice a3 nx k3, .int .i64 (xs : Int)] 50) := ⟨_, rfl⟩
      obtain ⟨Z3, hZ3⟩ := hZ3
      rw [← hZ3] at bA cA ⊢
      clear hZ3
      have hHeld : Below w.heap.size w Z3 := hHeld.trans (bA.mono hHeld.size)
      have HCA := Lib.hid (And.intro bA cA)
      clear bA cA
      refine hK.out _ _ ⟨fun _ => hHeld, ?_⟩
      clear hK
      try simp only [Act.put, List.setIfInBounds_toArray, List.set_cons_zero, List.set_cons_succ]
      refine AnyE.one (i := 20) rfl (by kernel_rfl) (by kernel_rfl) (fun KK hK => ?_)
      have hwz : wr.heap.size ≤ Z3.heap.size := Nat.le_trans HZ.out.size (Nat.le_trans HX3.out.1.size HCA.out.1.size)
      have o2 : OwnO X3 (fun i => w.heap.size ≤ i) (.slice a3 nx k3) xd := by
        refine ⟨⟨by rw [← HNX.out]; exact HX3.out.2.2.1, ?_⟩, HRD.out.1, fun g hg => ?_⟩
        · rw [← HNX.out]
          rcases HX3.out.2.2.2 with h | ⟨g, cap, cur, h1, h2, h3⟩
          · exact .inl h
          · exact .inr ⟨g, cap, cur, h1, Nat.zero_le _, h3⟩
        · have := (HX3.out.2.2.lt g hg).1
          exact Nat.le_trans HBW.out.size (Nat.le_trans HZB.out.2.2.2.1 this)
      have o3 : OwnO Z3 (fun i => w.heap.size ≤ i) (.slice a3 nx k3) xd := o2.kept (fun g hg => ⟨HCA.out.1.block g (by obtain ⟨cur, ht⟩ := o2.typ hg; exact (Array.getElem?_eq_some_iff.1 ht).1), o2.blk g hg⟩)
      have HO3 := Lib.hid o3
      clear o2 o3
      have hfl3 : FLs Z3 w.heap.size (.slice am m km) m l2 := (((HFL.out.1.later HZ.out).later (HX3.out.1.mono (Nat.le_of_eq HZB.out.2.2.2.2.symm))).later HCA.out.1)
      have HF3 := Lib.hid hfl3
      clear hfl3
      refine file_append _ _ rfl (B := w.heap.size) (n := m) (blk := X3.heap.size) (v := .slice am m km) (l := l2) (f := ((xn, xd, xs), .slice a3 nx k3)) rfl HF3.out rfl HCA.out.2 HO3.out hm256 (Nat.le_trans HBW.out.size hwz) (fun a9 k9 Z4 own9 b9 g9 => ?_)
      have hHeld : Below w.heap.size w Z4 := hHeld.trans b9
      have HF4 := Lib.hid (And.intro own9 hHeld)
      clear own9 b9 g9
      refine hK.out _ _ ⟨fun _ => hHeld, ?_⟩
      clear hK
      try simp only [Act.put, List.setIfInBounds_toArray, List.set_cons_zero, List.set_cons_succ]
      refine AnyE.one (i := 21) rfl (by kernel_rfl) (by kernel_rfl) (fun KK hK => ?_)
      go_simp
      refine hK.out _ _ ⟨fun _ => hHeld, ?_⟩
      clear hK hHeld
      try simp only [Act.put, List.setIfInBounds_toArray, List.set_cons_zero, List.set_cons_succ]
      refine AnyE.done (by kernel_rfl) (NoPanic.normal ?_) _
      go_simp
      go_step
      go_wp2
      go_roundw
      case rel =>
        refine ⟨t + 1, a9, m + 1, k9, l2 ++ [((xn, xd, xs), .slice a3 nx k3)], by omega, by go_num, rfl, HF4.out.1, ?_, HF4.out.2⟩
        rw [List.map_append, HFL.out.2, List.take_add_one, HXX.out]
        rfl
      case measure => simp [intOf]; omega
    · have j1 : (n : Int) ≤ (t : Int) := by omega
      have hall : (l.map (·.1)).take t = l.map (·.1) := List.take_of_length_le (by rw [List.length_map, ← HN.out.1]; omega)
      have HALL := Lib.hid hall
      clear hall hlt
      go_wp2
      go_ret
      first
        | exact ⟨am, m, km, l2, rfl, HFL.out.1, by rw [HFL.out.2, HALL.out], HBW.out⟩
        | exact ⟨am, m, km, rfl, l2, HFL.out.1, by rw [HFL.out.2, HALL.out], HBW.out⟩
end Go.Proofs.Ytbheifelfeekmaa

namespace Go.Proofs.Ytbheifelfeekmaa
open Go.RowKit Go.MapKept
set_option linter.unusedVariables false
set_option linter.unusedSimpArgs false
variable {w w' W X : World} {O O' : Nat → Prop} {dB : Nat} {d : Dk4}
theorem AnsD.before {r : Int × Dk4} {e : Ending} (b : Below w.heap.size w W) (h : AnsD W O dB r e w') : AnsD w O dB r e w' := by
  obtain ⟨h1, O2, h2, h3⟩ := h
  exact ⟨h1, O2, h2, (Go4.of_below b).trans h3⟩
def nameK (k : Nat) : ByteArray := ⟨#[102, 47]⟩ ++ str [97 + k]
def nameN (n : Int) : ByteArray := nameK (n % 8).toNat
theorem nameK_name : ∀ k, k < 8 → DkName (nameK k)
  | 0, _ => of_decide_eq_true (by kernel_rfl)
  | 1, _ => of_decide_eq_true (by kernel_rfl)
  | 2, _ => of_decide_eq_true (by kernel_rfl)
  | 3, _ => of_decide_eq_true (by kernel_rfl)
  | 4, _ => of_decide_eq_true (by kernel_rfl)
  | 5, _ => of_decide_eq_true (by kernel_rfl)
  | 6, _ => of_decide_eq_true (by kernel_rfl)
  | 7, _ => of_decide_eq_true (by kernel_rfl)
  | k + 8, h => by omega
set_option maxRecDepth 100000 in
set_option maxHeartbeats 2000000 in
theorem name4_any (n : Int) (w : World) : Calls Try.prog 28 #[.int .i64 n] w fun e w' => e = .returned (.string (nameN n)) ∧ Below w.heap.size w w' := by
  obtain ⟨k, hk⟩ : ∃ k, k = (n % 8).toNat := ⟨_, rfl⟩
  unfold nameN
  rw [← hk]
  have hk8 : k < 8 := by omega
  obtain ⟨q, hq⟩ : ∃ q, q = 97 + k := ⟨_, rfl⟩
  unfold nameK
  rw [← hq]
  have HK := Lib.hid (And.intro hk hk8)
  have hrd : ∀ W : World, Rd (W.alloc (.cells #[.int .u8 (q : Int)] 5)) (.slice (some ⟨W.heap.size, 0, none⟩) 1 1) [q] := fun W => by
    refine ⟨by intro x hx; simp at hx; omega, _, 1, rfl, Nat.le_refl _, by decide, by simp, .inr ⟨_, _, rfl⟩, .inr ⟨_, 0, rfl, fun i hi => ?_⟩⟩
    simp at hi
    subst hi
    simp [go_sem]
  have hcv := fun W => conv_str (hrd W)
  have htm := Int.tmod_eq_emod (a := n) (b := 8)
  have hb : -8 < n.tmod 8 ∧ n.tmod 8 < 8 := by
    split at htm <;> (simp at htm; omega)
  by_cases hneg : n.tmod 8 < 0
  · have e1 : n.tmod 8 + 8 = (k : Int) := by
      split at htm <;> (simp at htm; omega)
    have h97 : (97 + (n.tmod 8 + 8)) = (q : Int) := by omega
    have hcw := hcv w
    rw [← h97] at hcw
    clear hrd hcv hk e1 htm h97 hq
    go_enter Try.func28, Try.ntmps28
    go_wp2
    go_ret
    exact ⟨rfl, (Below.refl _ _).alloc (Nat.le_refl _) _⟩
  · have e1 : n.tmod 8 = (k : Int) := by
      split at htm <;> (simp at htm; omega)
    have h97 : (97 + n.tmod 8) = (q : Int) := by omega
    have hcw := hcv w
    rw [← h97] at hcw
    clear hrd hcv hk e1 htm h97 hq
    go_enter Try.func28, Try.ntmps28
    go_wp2
    go_ret
    exact ⟨rfl, (Below.refl _ _).alloc (Nat.le_refl _) _⟩
end Go.Proofs.Ytbheifelfeekmaa

namespace Go.Proofs.Ytbheifelfeekmaa
open Go.RowKit Go.MapKept
set_option linter.unusedVariables false
set_option linter.unusedSimpArgs false
variable {w w' W X : World} {O O' : Nat → Prop} {dB : Nat} {d : Dk4}
def armD (d : Dk4) (n : Int) : Dk4 := if d.down = true then d else { d with arm := max n 0 }
set_option maxRecDepth 100000 in
theorem arm_any (hD : Dsk w O dB d) (n : Int) (hn : n ≤ 9223372036854775807) : Calls Try.prog 20 #[.pointer (some ⟨dB, 0, none⟩), .int .i64 n] w fun e w' => e = .returned (.tuple #[]) ∧ Dsk w' O dB (armD d n) ∧ Go4 w w' O O := by
  obtain ⟨ok, mb, fl, hM, hfl⟩ := hD
  have c3 := hM.box.cells.2.2.2.1
  have c2 := hM.box.cells.2.2.1
  have z2 := hM.box.fz 2
  have HM := Lib.hid (And.intro hM (And.intro hfl ok))
  clear hM hfl ok
  unfold armD
  cases hd : d.down with
  | true =>
    rw [hd] at c3
    rw [if_pos rfl]
    clear hd c2 z2
    go_enter Try.func20, Try.ntmps20
    go_wp2
    go_end0
    exact ⟨rfl, ⟨HM.out.2.2, mb, fl, HM.out.1, HM.out.2.1⟩, Go4.refl _ _⟩
  | false =>
    rw [hd] at c3
    rw [if_neg (by simp)]
    have HDD := Lib.hid hd
    clear hd
    have fin : ∀ x : Int, 0 ≤ x → x ≤ 9223372036854775807 → Dsk (w.setCell ⟨dB, 2, none⟩ (.int .i64 x)) O dB { d with arm := x } ∧ Go4 w (w.setCell ⟨dB, 2, none⟩ (.int .i64 x)) O O := fun x h0 h1 => ⟨⟨HM.out.2.2.mk2 HM.out.2.2.fs h0 h1 _ _, mb, fl, HM.out.1.setArm x, HM.out.2.1⟩, Go4.of_set (a := ⟨dB, 2, none⟩) HM.out.1.odb _⟩
    have HF := Lib.hid fin
    clear fin
    by_cases h0 : n < 0
    · have hmx : max n 0 = 0 := by omega
      rw [hmx]
      go_enter Try.func20, Try.ntmps20
      go_wp2
      go_end0
      have := HF.out 0 (by omega) (by omega)
      rw [HDD.out] at this
      exact ⟨rfl, this⟩
    · have hmx : max n 0 = n := by omega
      rw [hmx]
      go_enter Try.func20, Try.ntmps20
      go_wp2
      go_end0
      have := HF.out n (by omega) hn
      rw [HDD.out] at this
      exact ⟨rfl, this⟩
set_option maxRecDepth 100000 in
theorem down_any (hD : Dsk w O dB d) : Calls Try.prog 24 #[.pointer (some ⟨dB, 0, none⟩)] w fun e w' => e = .returned (.bool d.down) ∧ w' = w := by
  obtain ⟨ok, mb, fl, hM, hfl⟩ := hD
  have c3 := hM.box.cells.2.2.2.1
  clear hM hfl ok
  go_enter Try.func24, Try.ntmps24
  go_wp2
  go_ret
  exact ⟨rfl, rfl⟩
set_option maxRecDepth 100000 in
theorem cap_any (hD : Dsk w O dB d) : Calls Try.prog 30 #[.pointer (some ⟨dB, 0, none⟩)] w fun e w' => e = .returned (.int .i64 d.cap) ∧ w' = w := by
  obtain ⟨ok, mb, fl, hM, hfl⟩ := hD
  have c3 := hM.box.cells.2.1
  clear hM hfl ok
  go_enter Try.func30, Try.ntmps30
  go_wp2
  go_ret
  exact ⟨rfl, rfl⟩
def actD (d : Dk4) (kind file too : Int) (bs : List Nat) : Int × Dk4 :=
  if kind = 1 then createD d (nameN file) else if kind = 2 then appendD d (nameN file) bs else if kind = 3 then syncD d (nameN file) else if kind = 4 then renameD d (nameN file) (nameN too) else if kind = 5 then deleteD d (nameN file) else (0, d)
set_option maxRecDepth 100000 in
set_option maxHeartbeats 4000000 in
theorem act_any {kind file too : Int} {ab : Option Addr} {nb kb : Nat} {bs : List Nat} (hD : Dsk w O dB d) (hrd : RdA w O (.slice ab nb kb) bs) :
    Calls Try.prog 21 #[.pointer (some ⟨dB, 0, none⟩), .agg #[.int .i64 kind, .int .i64 file, .int .i64 too, .slice ab nb kb]] w (AnsD w O dB (actD d kind file too bs)) := by
  obtain ⟨R, hR⟩ : ∃ R, R = actD d kind file too bs := ⟨_, rfl⟩
  rw [← hR]
  have HR := Lib.hid hR
  have HD := Lib.hid hD
  have HRD := Lib.hid hrd
  clear hR hD hrd
  go_enter Try.func21, Try.ntmps21
  go_upto_region 1 with fail
  have b0 := (Below.refl w.heap.size w).alloc (Nat.le_refl _) (.cells #[.int .i64 kind, .int .i64 file, .int .i64 too, .slice ab nb kb] 44)
  have cs : (w.alloc (.cells #[.int .i64 kind, .int .i64 file, .int .i64 too, .slice ab nb kb] 44)).cell? ⟨w.heap.size, 0, none⟩ = some (.int .i64 kind) ∧ (w.alloc (.cells #[.int .i64 kind, .int .i64 file, .int .i64 too, .slice ab nb kb] 44)).cell? ⟨w.heap.size, 1, none⟩ = some (.int .i64 file) ∧ (w.alloc (.cells #[.int .i64 kind, .int .i64 file, .int .i64 too, .slice ab nb kb] 44)).cell? ⟨w.heap.size, 2, none⟩ = some (.int .i64 too) ∧ (w.alloc (.cells #[.int .i64 kind, .int .i64 file, .int .i64 too, .slice ab nb kb] 44)).cell? ⟨w.heap.size, 3, none⟩ = some (.slice ab nb kb) ∧ w.heap.size < (w.alloc (.cells #[.int .i64 kind, .int .i64 file, .int .i64 too, .slice ab nb kb] 44)).heap.size := by
    refine ⟨?_, ?_, ?_, ?_, ?_⟩ <;> simp [go_sem]
  obtain ⟨W, hW⟩ : ∃ W, W = w.alloc (.cells #[.int .i64 kind, .int .i64 file, .int .i64 too, .slice ab nb kb] 44) := ⟨_, rfl⟩
  rw [← hW] at b0 cs ⊢
  obtain ⟨xb, hxb⟩ : ∃ xb, xb = w.heap.size := ⟨_, rfl⟩
  rw [← hxb] at cs ⊢
  obtain ⟨ck, cf, ct, cb, lx⟩ := cs
  have HB := Lib.hid b0
  have HDW := Lib.hid (HD.out.below b0)
  have hra : RdA W O (.slice ab nb kb) bs := ⟨HRD.out.1.later b0, HRD.out.2⟩
  have HRA := Lib.hid hra
  have HNF := fun X => Lib.hid (name4_any file X)
  have HNT := fun X => Lib.hid (name4_any too X)
  have HX := Lib.hid hxb
  clear hW b0 hra hxb
  by_cases k1 : kind = 1
  · subst k1
    have hRR : R = createD d (nameN file) := by rw [HR.out, actD, if_pos rfl]
    subst hRR
    go_wp2_with fail
    refine (HNF W).out.mono ?_
    rintro e X ⟨rfl, bx⟩
    have HBX := Lib.hid bx
    clear bx
    go_wp2_with fail
    refine (create_any (HDW.out.below HBX.out)).mono ?_
    intro e w2 ha
    have ha2 := AnsD.before (HB.out.trans (HBX.out.mono HB.out.size)) ha
    obtain ⟨rfl, hq⟩ := ha2
    have HQ := Lib.hid hq
    clear ha hq
    go_wp2
    go_ret
    exact ⟨rfl, HQ.out⟩
  have q1 : (kind == 1) = false := by simpa using k1
  by_cases k2 : kind = 2
  · subst k2
    have hRR : R = appendD d (nameN file) bs := by rw [HR.out, actD, if_neg (by decide), if_pos rfl]
    subst hRR
    go_upto_region 5 with fail
    refine wp_region_noPanic ?_
    refine wp_region_anyE (S := fun wx => wx.cell? ⟨xb, 1, none⟩ = some (.int .i64 file) ∧ wx.cell? ⟨xb, 2, none⟩ = some (.int .i64 too) ∧ wx.cell? ⟨xb, 3, none⟩ = some (.slice ab nb kb)) (E := fun j => decide (j < 7)) (by kernel_rfl) ?_
    have HBY := Lib.hid ((Below.refl W.heap.size W).drew)
    have hS : ∀ wx : World, Below W.heap.size W wx → wx.cell? ⟨xb, 1, none⟩ = some (.int .i64 file) ∧ wx.cell? ⟨xb, 2, none⟩ = some (.int .i64 too) ∧ wx.cell? ⟨xb, 3, none⟩ = some (.slice ab nb kb) := fun wx hb => ⟨(hb.cell (p := ⟨xb, 1, none⟩) lx).trans cf, (hb.cell (p := ⟨xb, 2, none⟩) lx).trans ct, (hb.cell (p := ⟨xb, 3, none⟩) lx).trans cb⟩
    have HSS := Lib.hid hS
    clear hS
    have hZ0 : ∃ z, z = W.drew := ⟨_, rfl⟩
    obtain ⟨Z0, hZ0⟩ := hZ0
    rw [← hZ0] at HBY ⊢
    have hHeld := HSS.out Z0 HBY.out
    clear hZ0
    refine AnyE.take (i := 0) (.pointer (some ⟨dB, 0, none⟩)) rfl (by kernel_rfl) (by kernel_rfl) (by kernel_rfl) (by kernel_rfl) (fun _ _ _ h => h) (.inl ⟨by kernel_rfl, fun wy hy => by (go_simp; done)⟩) hHeld ?_
    try simp only [Act.put, List.setIfInBounds_toArray, List.set_cons_zero, List.set_cons_succ]
    refine AnyE.take (i := 1) (.pointer (some ⟨xb, 1, none⟩)) rfl (by kernel_rfl) (by kernel_rfl) (by kernel_rfl) (by kernel_rfl) (fun _ _ _ h => h) (.inl ⟨by kernel_rfl, fun wy hy => by (go_simp; done)⟩) hHeld ?_
    try simp only [Act.put, List.setIfInBounds_toArray, List.set_cons_zero, List.set_cons_succ]
    refine AnyE.take (i := 2) (.int .i64 file) rfl (by kernel_rfl) (by kernel_rfl) (by kernel_rfl) (by kernel_rfl) (fun _ _ _ h => h) (.inl ⟨by kernel_rfl, fun wy hy => by (have q0 := hy.1; go_simp; done)⟩) hHeld ?_
    try simp only [Act.put, List.setIfInBounds_toArray, List.set_cons_zero, List.set_cons_succ]
    refine AnyE.take (i := 4) (.pointer (some ⟨xb, 3, none⟩)) rfl (by kernel_rfl) (by kernel_rfl) (by kernel_rfl) (by kernel_rfl) (fun _ _ _ h => h) (.inl ⟨by kernel_rfl, fun wy hy => by (go_simp; done)⟩) hHeld ?_
    try simp only [Act.put, List.setIfInBounds_toArray, List.set_cons_zero, List.set_cons_succ]
    refine AnyE.take (i := 5) (.slice ab nb kb) rfl (by kernel_rfl) (by kernel_rfl) (by kernel_rfl) (by kernel_rfl) (fun _ _ _ h => h) (.inl ⟨by kernel_rfl, fun wy hy => by (have q0 := hy.2.2; go_simp; done)⟩) hHeld ?_
    try simp only [Act.put, List.setIfInBounds_toArray, List.set_cons_zero, List.set_cons_succ]
    refine AnyE.one (i := 3) rfl (by kernel_rfl) (by kernel_rfl) (fun KK hK => ?_)
    go_simp
    go_at_call 28
    refine (HNF _).out.mono ?_
    rintro e9 Z3 ⟨rfl, b1⟩
    have HBY := Lib.hid (HBY.out.trans (b1.mono HBY.out.size))
    clear b1
    go_wp2_with fail
    have hHeld := HSS.out _ HBY.out
    refine hK.out _ _ ⟨fun _ => hHeld, ?_⟩
    clear hK
    try simp only [Act.put, List.setIfInBounds_toArray, List.set_cons_zero, List.set_cons_succ]
    refine AnyE.one (i := 6) rfl (by kernel_rfl) (by kernel_rfl) (fun KK hK => ?_)
    go_simp
    go_at_call 15
    refine (append_any (HDW.out.below HBY.out) ⟨HRA.out.1.later HBY.out, HRA.out.2⟩).mono ?_
    intro e w2 ha
    have hS2 : w2.cell? ⟨xb, 1, none⟩ = some (.int .i64 file) ∧ w2.cell? ⟨xb, 2, none⟩ = some (.int .i64 too) ∧ w2.cell? ⟨xb, 3, none⟩ = some (.slice ab nb kb) := by
      obtain ⟨_, O2, _, g2⟩ := ha
      have hn : ¬ O xb := fun h => by have := HD.out.lt xb h; have := HX.out; omega
      have hk := g2.block xb (Nat.lt_of_lt_of_le lx HBY.out.size) hn
      exact ⟨(World.cell?_of_block (a := ⟨xb, 1, none⟩) hk).trans hHeld.1, (World.cell?_of_block (a := ⟨xb, 2, none⟩) hk).trans hHeld.2.1, (World.cell?_of_block (a := ⟨xb, 3, none⟩) hk).trans hHeld.2.2⟩
    have ha2 := AnsD.before (HB.out.trans (HBY.out.mono HB.out.size)) ha
    obtain ⟨rfl, hq⟩ := ha2
    have HQ := Lib.hid hq
    clear ha hq
    go_wp2_with fail
    refine hK.out _ _ ⟨fun _ => hS2, ?_⟩
    clear hK hHeld
    try simp only [Act.put, List.setIfInBounds_toArray, List.set_cons_zero, List.set_cons_succ]
    refine AnyE.one (i := 7) rfl (by kernel_rfl) (by kernel_rfl) (fun KK hK => ?_)
    go_simp
    refine hK.out _ _ ⟨fun h => (by cases h), ?_⟩
    clear hK
    try simp only [Act.put, List.setIfInBounds_toArray, List.set_cons_zero, List.set_cons_succ]
    refine AnyE.done (by kernel_rfl) (NoPanic.normal ?_) _
    go_wp2
    go_ret
    exact ⟨rfl, HQ.out⟩
  have q2 : (kind == 2) = false := by simpa using k2
  by_cases k3 : kind = 3
  · subst k3
    have hRR : R = syncD d (nameN file) := by rw [HR.out, actD, if_neg (by decide), if_neg (by decide), if_pos rfl]
    subst hRR
    go_wp2_with fail
    refine (HNF W).out.mono ?_
    rintro e X ⟨rfl, bx⟩
    have HBX := Lib.hid bx
    clear bx
    go_wp2_with fail
    refine (sync_any (HDW.out.below HBX.out)).mono ?_
    intro e w2 ha
    have ha2 := AnsD.before (HB.out.trans (HBX.out.mono HB.out.size)) ha
    obtain ⟨rfl, hq⟩ := ha2
    have HQ := Lib.hid hq
    clear ha hq
    go_wp2
    go_ret
    exact ⟨rfl, HQ.out⟩
  have q3 : (kind == 3) = false := by simpa using k3
  by_cases k4 : kind = 4
  · subst k4
    have hRR : R = renameD d (nameN file) (nameN too) := by rw [HR.out, actD, if_neg (by decide), if_neg (by decide), if_neg (by decide), if_pos rfl]
    subst hRR
    go_upto_region 9 with fail
    refine wp_region_noPanic ?_
    refine wp_region_anyE (S := fun wx => wx.cell? ⟨xb, 1, none⟩ = some (.int .i64 file) ∧ wx.cell? ⟨xb, 2, none⟩ = some (.int .i64 too) ∧ wx.cell? ⟨xb, 3, none⟩ = some (.slice ab nb kb)) (E := fun j => decide (j < 8)) (by kernel_rfl) ?_
    have HBY := Lib.hid ((Below.refl W.heap.size W).drew)
    have hS : ∀ wx : World, Below W.heap.size W wx → wx.cell? ⟨xb, 1, none⟩ = some (.int .i64 file) ∧ wx.cell? ⟨xb, 2, none⟩ = some (.int .i64 too) ∧ wx.cell? ⟨xb, 3, none⟩ = some (.slice ab nb kb) := fun wx hb => ⟨(hb.cell (p := ⟨xb, 1, none⟩) lx).trans cf, (hb.cell (p := ⟨xb, 2, none⟩) lx).trans ct, (hb.cell (p := ⟨xb, 3, none⟩) lx).trans cb⟩
    have HSS := Lib.hid hS
    clear hS
    have hZ0 : ∃ z, z = W.drew := ⟨_, rfl⟩
    obtain ⟨Z0, hZ0⟩ := hZ0
    rw [← hZ0] at HBY ⊢
    have hHeld := HSS.out Z0 HBY.out
    clear hZ0
    refine AnyE.take (i := 0) (.pointer (some ⟨dB, 0, none⟩)) rfl (by kernel_rfl) (by kernel_rfl) (by kernel_rfl) (by kernel_rfl) (fun _ _ _ h => h) (.inl ⟨by kernel_rfl, fun wy hy => by (go_simp; done)⟩) hHeld ?_
    try simp only [Act.put, List.setIfInBounds_toArray, List.set_cons_zero, List.set_cons_succ]
    refine AnyE.take (i := 1) (.pointer (some ⟨xb, 1, none⟩)) rfl (by kernel_rfl) (by kernel_rfl) (by kernel_rfl) (by kernel_rfl) (fun _ _ _ h => h) (.inl ⟨by kernel_rfl, fun wy hy => by (go_simp; done)⟩) hHeld ?_
    try simp only [Act.put, List.setIfInBounds_toArray, List.set_cons_zero, List.set_cons_succ]
    refine AnyE.take (i := 2) (.int .i64 file) rfl (by kernel_rfl) (by kernel_rfl) (by kernel_rfl) (by kernel_rfl) (fun _ _ _ h => h) (.inl ⟨by kernel_rfl, fun wy hy => by (have q0 := hy.1; go_simp; done)⟩) hHeld ?_
    try simp only [Act.put, List.setIfInBounds_toArray, List.set_cons_zero, List.set_cons_succ]
    refine AnyE.take (i := 4) (.pointer (some ⟨xb, 2, none⟩)) rfl (by kernel_rfl) (by kernel_rfl) (by kernel_rfl) (by kernel_rfl) (fun _ _ _ h => h) (.inl ⟨by kernel_rfl, fun wy hy => by (go_simp; done)⟩) hHeld ?_
    try simp only [Act.put, List.setIfInBounds_toArray, List.set_cons_zero, List.set_cons_succ]
    refine AnyE.take (i := 5) (.int .i64 too) rfl (by kernel_rfl) (by kernel_rfl) (by kernel_rfl) (by kernel_rfl) (fun _ _ _ h => h) (.inl ⟨by kernel_rfl, fun wy hy => by (have q0 := hy.2.1; go_simp; done)⟩) hHeld ?_
    try simp only [Act.put, List.setIfInBounds_toArray, List.set_cons_zero, List.set_cons_succ]
    refine AnyE.one (i := 3) rfl (by kernel_rfl) (by kernel_rfl) (fun KK hK => ?_)
    go_simp
    go_at_call 28
    refine (HNF _).out.mono ?_
    rintro e9 Z3 ⟨rfl, b1⟩
    have HBY := Lib.hid (HBY.out.trans (b1.mono HBY.out.size))
    clear b1
    go_wp2_with fail
    have hHeld := HSS.out _ HBY.out
    refine hK.out _ _ ⟨fun _ => hHeld, ?_⟩
    clear hK
    try simp only [Act.put, List.setIfInBounds_toArray, List.set_cons_zero, List.set_cons_succ]
    refine AnyE.one (i := 6) rfl (by kernel_rfl) (by kernel_rfl) (fun KK hK => ?_)
    go_simp
    go_at_call 28
    refine (HNT _).out.mono ?_
    rintro e9 Z6 ⟨rfl, b1⟩
    have HBY := Lib.hid (HBY.out.trans (b1.mono HBY.out.size))
    clear b1
    go_wp2_with fail
    have hHeld := HSS.out _ HBY.out
    refine hK.out _ _ ⟨fun _ => hHeld, ?_⟩
    clear hK
    try simp only [Act.put, List.setIfInBounds_toArray, List.set_cons_zero, List.set_cons_succ]
    refine AnyE.one (i := 7) rfl (by kernel_rfl) (by kernel_rfl) (fun KK hK => ?_)
    go_simp
    go_at_call 17
    refine (rename_any (HDW.out.below HBY.out)).mono ?_
    intro e w2 ha
    have hS2 : w2.cell? ⟨xb, 1, none⟩ = some (.int .i64 file) ∧ w2.cell? ⟨xb, 2, none⟩ = some (.int .i64 too) ∧ w2.cell? ⟨xb, 3, none⟩ = some (.slice ab nb kb) := by
      obtain ⟨_, O2, _, g2⟩ := ha
      have hn : ¬ O xb := fun h => by have := HD.out.lt xb h; have := HX.out; omega
      have hk := g2.block xb (Nat.lt_of_lt_of_le lx HBY.out.size) hn
      exact ⟨(World.cell?_of_block (a := ⟨xb, 1, none⟩) hk).trans hHeld.1, (World.cell?_of_block (a := ⟨xb, 2, none⟩) hk).trans hHeld.2.1, (World.cell?_of_block (a := ⟨xb, 3, none⟩) hk).trans hHeld.2.2⟩
    have ha2 := AnsD.before (HB.out.trans (HBY.out.mono HB.out.size)) ha
    obtain ⟨rfl, hq⟩ := ha2
    have HQ := Lib.hid hq
    clear ha hq
    go_wp2_with fail
    refine hK.out _ _ ⟨fun _ => hS2, ?_⟩
    clear hK hHeld
    try simp only [Act.put, List.setIfInBounds_toArray, List.set_cons_zero, List.set_cons_succ]
    refine AnyE.one (i := 8) rfl (by kernel_rfl) (by kernel_rfl) (fun KK hK => ?_)
    go_simp
    refine hK.out _ _ ⟨fun h => (by cases h), ?_⟩
    clear hK
    try simp only [Act.put, List.setIfInBounds_toArray, List.set_cons_zero, List.set_cons_succ]
    refine AnyE.done (by kernel_rfl) (NoPanic.normal ?_) _
    go_wp2
    go_ret
    exact ⟨rfl, HQ.out⟩
  have q4 : (kind == 4) = false := by simpa using k4
  by_cases k5 : kind = 5
  · subst k5
    have hRR : R = deleteD d (nameN file) := by rw [HR.out, actD, if_neg (by decide), if_neg (by decide), if_neg (by decide), if_neg (by decide), if_pos rfl]
    subst hRR
    go_wp2_with fail
    refine (HNF W).out.mono ?_
    rintro e X ⟨rfl, bx⟩
    have HBX := Lib.hid bx
    clear bx
    go_wp2_with fail
    refine (delete_any (HDW.out.below HBX.out)).mono ?_
    intro e w2 ha
    have ha2 := AnsD.before (HB.out.trans (HBX.out.mono HB.out.size)) ha
    obtain ⟨rfl, hq⟩ := ha2
    have HQ := Lib.hid hq
    clear ha hq
    go_wp2
    go_ret
    exact ⟨rfl, HQ.out⟩
  have q5 : (kind == 5) = false := by simpa using k5
  have hRR : R = (0, d) := by rw [HR.out, actD, if_neg k1, if_neg k2, if_neg k3, if_neg k4, if_neg k5]
  subst hRR
  go_wp2
  go_ret
  exact ⟨rfl, O, HDW.out, Go4.of_below HB.out⟩
end Go.Proofs.Ytbheifelfeekmaa

namespace Go.Proofs.Ytbheifelfeekmaa
open Go.RowKit Go.MapKept Go.Sort
set_option linter.unusedVariables false
set_option linter.unusedSimpArgs false
variable {w w' W X : World} {O O' : Nat → Prop} {dB : Nat} {d : Dk4}
theorem Mad.go {d' : Dk4} {O2 : Nat → Prop} (h : Mad w X O dB d) (k : Dsk w' O2 dB d') (g : Go4 X w' O O2) : Mad w w' O2 dB d' :=
  ⟨k, h.bel.trans (g.below h.bel.size h.own), fun i hi => (g.new i hi).elim (h.own i) (fun q => Nat.le_trans h.bel.size q)⟩
theorem FLs.go {B n : Nat} {v : Value} {l : List (PF × Value)} (h : FLs w B v n l) (g : Go4 w w' O O') (hO : ∀ i, O i → i < B) : FLs w' B v n l := by
  refine ⟨h.len, ⟨h.row.1, ?_⟩, fun x hx => (h.dat x hx).kept (fun q hq => ⟨g.block q ?_ (fun z => by have := hO q z; have := (h.dat x hx).blk q hq; omega), (h.dat x hx).blk q hq⟩)⟩
  · rcases h.row.2 with h2 | ⟨q, cap, cur, h3, h4, h5, h6⟩
    · exact .inl h2
    · exact .inr ⟨q, cap, cur, h3, h4, by rw [g.block q (Array.getElem?_eq_some_iff.1 h5).1 (fun z => by have := hO q z; omega)]; exact h5, h6⟩
  · obtain ⟨cur, ht⟩ := (h.dat x hx).typ hq
    exact (Array.getElem?_eq_some_iff.1 ht).1
def crash1 (cuts : List Int) (t : Nat) (v : List Nat × Nat) : List Nat × Nat := if v.2 = v.1.length then v else (v.1.take (keepN v.2 v.1.length (cuts.getD t 0)), keepN v.2 v.1.length (cuts.getD t 0))
def tailsF (fs : List PF) (xs : List (List UInt8)) : Nat := (xs.filter (fun x => decide (((atP fs (ofL x)).getD ([], 0)).2 ≠ ((atP fs (ofL x)).getD ([], 0)).1.length))).length
theorem atP_set_eq {f : PF} : ∀ l : List PF, (∃ v, atP l f.1 = some v) → atP (setP l f) f.1 = some f.2
  | [], h => by obtain ⟨v, hv⟩ := h; cases hv
  | x :: xs, h => by
    by_cases e : x.1 = f.1
    · rw [setP, if_pos e, atP, if_pos rfl]
    · rw [atP, if_neg e] at h
      rw [setP, if_neg e, atP, if_neg e, atP_set_eq xs h]
theorem ofL_inj {a b : List UInt8} (h : ofL a = ofL b) : a = b := by rw [← nmL_ofL a, h, nmL_ofL]
theorem crashF_names (cuts : List Int) : ∀ (xs : List (List UInt8)) (t : Nat) (fs : List PF), (∀ x ∈ xs, ∃ v, atP fs (ofL x) = some v) → (crashF cuts xs t fs).2.map (·.1) = fs.map (·.1)
  | [], _, _, _ => rfl
  | x :: xs, t, fs, h => by
    obtain ⟨v, hv⟩ := h x (by simp)
    rw [crashF]
    split
    · exact crashF_names cuts xs t fs (fun y hy => h y (by simp [hy]))
    · rw [crashF_names cuts xs (t + 1) _ (fun y hy => atP_set_some _ ⟨_, hv⟩ (h y (by simp [hy])))]
      exact setP_names hv
theorem crashF_other (cuts : List Int) {s : ByteArray} : ∀ (xs : List (List UInt8)) (t : Nat) (fs : List PF), (∀ x ∈ xs, ∃ v, atP fs (ofL x) = some v) → (∀ x ∈ xs, ofL x ≠ s) → atP (crashF cuts xs t fs).2 s = atP fs s
  | [], _, _, _, _ => rfl
  | x :: xs, t, fs, h, hne => by
    obtain ⟨v, hv⟩ := h x (by simp)
    rw [crashF]
    split
    · exact crashF_other cuts xs t fs (fun y hy => h y (by simp [hy])) (fun y hy => hne y (by simp [hy]))
    · rw [crashF_other cuts xs (t + 1) _ (fun y hy => atP_set_some _ ⟨_, hv⟩ (h y (by simp [hy]))) (fun y hy => hne y (by simp [hy]))]
      exact atP_set_ne (hne x (by simp)) fs ⟨_, hv⟩
theorem tailsF_cons (fs : List PF) (x : List UInt8) (xs : List (List UInt8)) {v : List Nat × Nat} (hv : atP fs (ofL x) = some v) : tailsF fs (x :: xs) = (if v.2 = v.1.length then 0 else 1) + tailsF fs xs := by
  unfold tailsF
  rw [List.filter_cons, hv]
  by_cases h : v.2 = v.1.length
  · simp [h]
  · simp [h]
    omega
theorem tailsF_set {fs : List PF} {f : PF} (hf : ∃ v, atP fs f.1 = some v) : ∀ (xs : List (List UInt8)), (∀ x ∈ xs, f.1 ≠ ofL x) → tailsF (setP fs f) xs = tailsF fs xs := fun xs h => by
  unfold tailsF
  congr 1
  refine List.filter_congr (fun x hx => ?_)
  rw [atP_set_ne (h x hx) fs hf]
theorem crashF_at (cuts : List Int) : ∀ (xs : List (List UInt8)) (t : Nat) (fs : List PF), xs.Nodup → (∀ x ∈ xs, ∃ v, atP fs (ofL x) = some v) →
    (crashF cuts xs t fs).1 = t + tailsF fs xs ∧ ∀ i x v, xs[i]? = some x → atP fs (ofL x) = some v → atP (crashF cuts xs t fs).2 (ofL x) = some (crash1 cuts (t + tailsF fs (xs.take i)) v)
  | [], t, fs, _, _ => ⟨rfl, fun i x v h => by simp at h⟩
  | y :: ys, t, fs, hn, h => by
    rw [List.nodup_cons] at hn
    obtain ⟨u, hu⟩ := h y (by simp)
    have hys : ∀ x ∈ ys, ∃ v, atP fs (ofL x) = some v := fun x hx => h x (by simp [hx])
    have hne : ∀ x ∈ ys, ofL y ≠ ofL x := fun x hx e => hn.1 (by rw [ofL_inj e]; exact hx)
    have hcr : crashF cuts (y :: ys) t fs = if u.2 = u.1.length then crashF cuts ys t fs else crashF cuts ys (t + 1) (setP fs (ofL y, u.1.take (keepN u.2 u.1.length (cuts.getD t 0)), keepN u.2 u.1.length (cuts.getD t 0))) := by
      rw [crashF, hu]
      rfl
    rw [hcr, tailsF_cons fs y ys hu]
    by_cases he : u.2 = u.1.length
    · rw [if_pos he, if_pos he]
      have ih := crashF_at cuts ys t fs hn.2 hys
      refine ⟨by rw [ih.1]; omega, fun i x v hx hv => ?_⟩
      cases i with
      | zero =>
        simp at hx
        subst hx
        rw [hu] at hv
        cases hv
        rw [crashF_other cuts ys t fs hys (fun x hx => Ne.symm (hne x hx)), hu]
        simp [crash1, he]
      | succ i =>
        rw [ih.2 i x v (by simpa using hx) hv, List.take_succ_cons, tailsF_cons fs y _ hu, if_pos he]
        simp
    · rw [if_neg he, if_neg he]
      have hset : ∀ x ∈ ys, ∃ v, atP (setP fs (ofL y, u.1.take (keepN u.2 u.1.length (cuts.getD t 0)), keepN u.2 u.1.length (cuts.getD t 0))) (ofL x) = some v := fun x hx => atP_set_some _ ⟨_, hu⟩ (hys x hx)
      have ih := crashF_at cuts ys (t + 1) _ hn.2 hset
      refine ⟨by rw [ih.1, tailsF_set ⟨_, hu⟩ ys hne]; omega, fun i x v hx hv => ?_⟩
      cases i with
      | zero =>
        simp at hx
        subst hx
        rw [hu] at hv
        cases hv
        rw [crashF_other cuts ys _ _ hset (fun x hx => Ne.symm (hne x hx)), atP_set_eq fs ⟨_, hu⟩]
        have h0 : tailsF fs (List.take 0 (y :: ys)) = 0 := rfl
        rw [h0]
        simp [crash1, he]
      | succ i =>
        have hxi : ys[i]? = some x := by simpa using hx
        have hxm := List.mem_of_getElem? hxi
        rw [ih.2 i x v hxi (by rw [atP_set_ne (hne x hxm) fs ⟨_, hu⟩]; exact hv), List.take_succ_cons, tailsF_cons fs y _ hu, if_neg he, tailsF_set ⟨_, hu⟩ _ (fun z hz => hne z (List.mem_of_mem_take hz))]
        congr 2
        omega
end Go.Proofs.Ytbheifelfeekmaa

namespace Go.Proofs.Ytbheifelfeekmaa
open Go.RowKit Go.MapKept Go.Sort
set_option linter.unusedVariables false
set_option linter.unusedSimpArgs false
variable {w w' W X : World} {O O' : Nat → Prop} {dB : Nat} {d c : Dk4}
def Like (d c : Dk4) : Prop := d.fs = c.fs ∧ d.cap = c.cap ∧ d.down = false ∧ c.down = false ∧ c.arm = 0
def Out (torn : Bool) (d c : Dk4) (rd rc : Int × Dk4) : Prop :=
  (rc.1 ≠ 0 ∧ rd = (rc.1, d) ∧ rc = (rc.1, c)) ∨
  (rc.1 = 0 ∧ rc.2.arm = 0 ∧ rc.2.down = false ∧ rc.2.cap = c.cap ∧
    ((d.arm = 1 ∧ rd.1 = 3 ∧ rd.2.down = true ∧ rd.2.fs = (if torn = true then rc.2.fs else c.fs)) ∨
     (d.arm ≠ 1 ∧ rd.1 = 0 ∧ rd.2.down = false ∧ rd.2.fs = rc.2.fs ∧ rd.2.cap = c.cap ∧ rd.2.arm = if 0 < d.arm then d.arm - 1 else 0)))
theorem bad_out {e : Int} {torn : Bool} (h : e ≠ 0) : Out torn d c (e, d) (e, c) := .inl ⟨h, rfl, rfl⟩
theorem actP_out {torn : Bool} {fs : List PF} {x y : Nat → Int} (h : Like d c) : Out torn d c (actP d torn fs x) (actP c torn fs y) := by
  obtain ⟨hf, hc, h1, h2, h3⟩ := h
  have hc1 : ¬ c.arm = 1 := by omega
  have hc0 : ¬ 0 < c.arm := by omega
  refine .inr ?_
  unfold actP
  rw [if_neg hc1, if_neg hc0]
  refine ⟨rfl, rfl, h2, rfl, ?_⟩
  by_cases ha : d.arm = 1
  · rw [if_pos ha]
    refine .inl ⟨ha, rfl, ?_, ?_⟩
    · cases torn <;> rfl
    · cases torn
      · exact hf
      · rfl
  · rw [if_neg ha]
    exact .inr ⟨ha, rfl, h1, rfl, hc, rfl⟩
theorem create_out {s : ByteArray} (h : Like d c) : Out false d c (createD d s) (createD c s) := by
  have h9 := h
  obtain ⟨hf, hc, h1, h2, h3⟩ := h
  unfold createD
  rw [hf, h1, h2]
  by_cases a : rdyN false [s] ≠ 0
  · rw [if_pos a, if_pos a]
    exact bad_out a
  · rw [if_neg a, if_neg a]
    by_cases b : (atP c.fs s).isSome = true
    · rw [if_pos b, if_pos b]
      exact bad_out (by decide)
    · rw [if_neg b, if_neg b]
      by_cases e : 256 ≤ c.fs.length
      · rw [if_pos e, if_pos e]
        exact bad_out (by decide)
      · rw [if_neg e, if_neg e]
        exact actP_out h9
theorem append_out {s : ByteArray} {bs : List Nat} (h : Like d c) : Out true d c (appendD d s bs) (appendD c s bs) := by
  have h9 := h
  obtain ⟨hf, hc, h1, h2, h3⟩ := h
  unfold appendD
  rw [hf, h1, h2, hc]
  by_cases a : rdyN false [s] ≠ 0
  · rw [if_pos a, if_pos a]
    exact bad_out a
  · rw [if_neg a, if_neg a]
    by_cases b : 67108864 < bs.length
    · rw [if_pos b, if_pos b]
      exact bad_out (by decide)
    · rw [if_neg b, if_neg b]
      cases atP c.fs s with
      | none => exact bad_out (by decide)
      | some v =>
        simp only
        by_cases e : c.cap - (totP c.fs : Int) < (bs.length : Int)
        · rw [if_pos e, if_pos e]
          exact bad_out (by decide)
        · rw [if_neg e, if_neg e]
          exact actP_out h9
theorem reaE_like {s : ByteArray} (h : Like d c) : reaE d s = reaE c s := by
  obtain ⟨hf, hc, h1, h2, h3⟩ := h
  unfold reaE
  rw [hf, h1, h2]
theorem sync_out {s : ByteArray} (h : Like d c) : Out false d c (syncD d s) (syncD c s) := by
  unfold syncD
  rw [reaE_like h, h.1]
  by_cases a : reaE c s ≠ 0
  · rw [if_pos a, if_pos a]
    exact bad_out a
  · rw [if_neg a, if_neg a]
    exact actP_out h
theorem delete_out {s : ByteArray} (h : Like d c) : Out false d c (deleteD d s) (deleteD c s) := by
  unfold deleteD
  rw [reaE_like h, h.1]
  by_cases a : reaE c s ≠ 0
  · rw [if_pos a, if_pos a]
    exact bad_out a
  · rw [if_neg a, if_neg a]
    exact actP_out h
theorem rename_out {s t : ByteArray} (h : Like d c) : Out false d c (renameD d s t) (renameD c s t) := by
  have h9 := h
  obtain ⟨hf, hc, h1, h2, h3⟩ := h
  unfold renameD
  rw [hf, h1, h2]
  by_cases a : rdyN false [s, t] ≠ 0
  · rw [if_pos a, if_pos a]
    exact bad_out a
  · rw [if_neg a, if_neg a]
    cases atP c.fs s with
    | none => exact bad_out (by decide)
    | some v => exact actP_out h9
theorem act_out {kind file too : Int} {bs : List Nat} (h : Like d c) (hk : 1 ≤ kind ∧ kind ≤ 5) : Out (decide (kind = 2)) d c (actD d kind file too bs) (actD c kind file too bs) := by
  unfold actD
  by_cases k1 : kind = 1
  · subst k1; exact create_out h
  rw [if_neg k1, if_neg k1]
  by_cases k2 : kind = 2
  · subst k2; exact append_out h
  rw [if_neg k2, if_neg k2]
  have e : decide (kind = 2) = false := by simp [k2]
  rw [e]
  by_cases k3 : kind = 3
  · subst k3; exact sync_out h
  rw [if_neg k3, if_neg k3]
  by_cases k4 : kind = 4
  · subst k4; exact rename_out h
  rw [if_neg k4, if_neg k4]
  have k5 : kind = 5 := by omega
  subst k5
  exact delete_out h
theorem act_none {kind file too : Int} {bs : List Nat} (hk : ¬ (1 ≤ kind ∧ kind ≤ 5)) : actD d kind file too bs = (0, d) := by
  unfold actD
  rw [if_neg (by omega), if_neg (by omega), if_neg (by omega), if_neg (by omega), if_neg (by omega)]
theorem act_down {kind file too : Int} {bs : List Nat} (hd : d.down = true) : (actD d kind file too bs).2 = d ∧ (1 ≤ kind ∧ kind ≤ 5 → (actD d kind file too bs).1 = 3) := by
  have r : ∀ ss, rdyN d.down ss = 3 := fun ss => by rw [hd]; rfl
  have e : ∀ s, reaE d s = 3 := fun s => by unfold reaE; rw [r, if_neg (by decide)]
  by_cases hk : 1 ≤ kind ∧ kind ≤ 5
  · have : actD d kind file too bs = (3, d) := by
      unfold actD createD appendD syncD renameD deleteD
      simp only [r, e]
      by_cases k1 : kind = 1
      · simp [k1]
      by_cases k2 : kind = 2
      · simp [k2]
      by_cases k3 : kind = 3
      · simp [k3]
      by_cases k4 : kind = 4
      · simp [k4]
      have k5 : kind = 5 := by omega
      simp [k5]
    rw [this]
    exact ⟨rfl, fun _ => rfl⟩
  · rw [act_none hk]
    exact ⟨rfl, fun h => absurd h hk⟩
theorem filesP_small (ok : d.Ok) : (∀ p ∈ filesP d, p.2.1.length ≤ 67108864) ∧ (filesP d).length ≤ 256 := by
  refine ⟨fun p hp => ?_, ?_⟩
  · unfold filesP at hp
    obtain ⟨x, hx, rfl⟩ := List.mem_map.1 hp
    obtain ⟨v, hv⟩ := lsP_at hx
    have h1 := totP_mem hv
    have h2 := ok.tot
    have h3 := ok.cap1
    unfold fileP
    rw [hv]
    simp only [Option.getD_some]
    omega
  · unfold filesP lsP
    rw [List.length_map, List.length_mergeSort, List.length_map]
    refine Nat.le_trans (List.length_filter_le _ _) ?_
    rw [List.length_map]
    exact ok.cnt
theorem filesP_eq {d c : Dk4} (h : d.fs = c.fs) : filesP d = filesP c := by
  unfold filesP fileP
  rw [h]
end Go.Proofs.Ytbheifelfeekmaa

namespace Go.Proofs.Ytbheifelfeekmaa
open Go.RowKit Go.MapKept Go.Sort
set_option linter.unusedVariables false
set_option linter.unusedSimpArgs false
variable {w w' W X : World} {O O' : Nat → Prop} {dB : Nat} {d : Dk4}
structure DidD where
  kind : Int
  file : Int
  too : Int
  a : Option Addr
  n : Nat
  k : Nat
  bs : List Nat
def DidD.act (d : Dk4) (x : DidD) : Int × Dk4 := actD d x.kind x.file x.too x.bs
structure RdDid (w : World) (a : Option Addr) (k : Nat) (xs : List DidD) : Prop where
  cap : xs.length ≤ k ∧ k ≤ maxLen
  cel : ∀ i x, xs[i]? = some x → ∃ g off, a = some ⟨g, off, none⟩ ∧ w.cell? ⟨g, off + i * 4, none⟩ = some (.int .i64 x.kind) ∧ w.cell? ⟨g, off + i * 4 + 1, none⟩ = some (.int .i64 x.file) ∧ w.cell? ⟨g, off + i * 4 + 2, none⟩ = some (.int .i64 x.too) ∧ w.cell? ⟨g, off + i * 4 + 3, none⟩ = some (.slice x.a x.n x.k)
  dat : ∀ x ∈ xs, RdA w (fun i => w.heap.size ≤ i) (.slice x.a x.n x.k) x.bs
theorem RdA.mad {v : Value} {bs : List Nat} (h : RdA w (fun i => w.heap.size ≤ i) v bs) (m : Mad w X O dB d) : RdA X O v bs := ⟨h.1.later m.bel, fun b off n c e n0 z => h.2 b off n c e n0 (m.own b z)⟩
theorem RdI4.mad {a : Option Addr} {k : Nat} {js : List Int} (h : RdI4 w (fun i => w.heap.size ≤ i) a k js) (m : Mad w X O dB d) : RdI4 X O a k js := by
  refine ⟨h.cap, fun i j hj => ?_⟩
  obtain ⟨b, off, e, hn, hc⟩ := h.cel i j hj
  exact ⟨b, off, e, fun z => hn (m.own b z), (m.bel.cell (p := ⟨b, off + i, none⟩) (World.block_lt_of_cell? _ _ hc)).trans hc⟩
theorem RdA.of_rd {v : Value} {bs : List Nat} (h : Rd w v bs) : RdA w (fun i => w.heap.size ≤ i) v bs := by
  refine ⟨h, fun b off n c hv n0 z => ?_⟩
  obtain ⟨_, a, cap, h2, _, _, _, _, h7⟩ := h
  rw [hv] at h2
  simp only [Value.slice.injEq] at h2
  obtain ⟨ha, hn, _⟩ := h2
  rcases h7 with rfl | ⟨b2, off2, h8, hc⟩
  · exact n0 hn
  · rw [h8] at ha
    simp only [Option.some.injEq, Addr.mk.injEq] at ha
    have hl := World.block_lt_of_cell? _ _ (hc 0 (by omega))
    simp only at hl
    omega
end Go.Proofs.Ytbheifelfeekmaa

namespace Go.Proofs.Ytbheifelfeekmaa
open Go.RowKit Go.MapKept Go.Sort
set_option linter.unusedVariables false
set_option linter.unusedSimpArgs false
variable {w w' W X X' : World} {O O' O1 O2 : Nat → Prop} {dB cB : Nat} {d c : Dk4}
structure Two (w X : World) (O1 O2 : Nat → Prop) (dB cB : Nat) (d c : Dk4) : Prop where
  l : Mad w X O1 dB d
  r : Mad w X O2 cB c
  ap : ∀ i, O1 i → ¬ O2 i
theorem Two.sym (h : Two w X O1 O2 dB cB d c) : Two w X O2 O1 cB dB c d := ⟨h.r, h.l, fun i a b => h.ap i b a⟩
theorem Two.later (h : Two w X O1 O2 dB cB d c) (b : Below X.heap.size X X') : Two w X' O1 O2 dB cB d c := ⟨h.l.later b, h.r.later b, h.ap⟩
theorem Two.goL {d' : Dk4} (h : Two w X O1 O2 dB cB d c) (k : Dsk X' O' dB d') (g : Go4 X X' O1 O') : Two w X' O' O2 dB cB d' c := by
  have hbel : Below w.heap.size w X' := h.l.bel.trans (g.below h.l.bel.size h.l.own)
  refine ⟨⟨k, hbel, fun i hi => (g.new i hi).elim (h.l.own i) (fun q => Nat.le_trans h.l.bel.size q)⟩, ⟨h.r.dsk.kept (fun i hi => g.block i (h.r.dsk.lt i hi) (fun z => h.ap i z hi)) g.size, hbel, h.r.own⟩, fun i hi h2 => ?_⟩
  rcases g.new i hi with z | z
  · exact h.ap i z h2
  · have := h.r.dsk.lt i h2
    omega
theorem Two.goR {c' : Dk4} (h : Two w X O1 O2 dB cB d c) (k : Dsk X' O' cB c') (g : Go4 X X' O2 O') : Two w X' O1 O' dB cB d c' := (h.sym.goL k g).sym
theorem Two.left {r : Int × Dk4} {e : Ending} (h : Two w X O1 O2 dB cB d c) (k : AnsD X O1 dB r e X') : e = .returned (.int .i64 r.1) ∧ ∃ O', Two w X' O' O2 dB cB r.2 c := by
  obtain ⟨h1, O', h2, h3⟩ := k
  exact ⟨h1, O', h.goL h2 h3⟩
theorem Two.right {r : Int × Dk4} {e : Ending} (h : Two w X O1 O2 dB cB d c) (k : AnsD X O2 cB r e X') : e = .returned (.int .i64 r.1) ∧ ∃ O', Two w X' O1 O' dB cB d r.2 ∧ Go4 X X' O2 O' := by
  obtain ⟨h1, O', h2, h3⟩ := k
  exact ⟨h1, O', h.goR h2 h3, h3⟩
theorem Two.new (h : Mad w X O1 dB d) (k : Mad X X' O2 cB c) : Two w X' O1 O2 dB cB d c := by
  refine ⟨h.later k.bel, ⟨k.dsk, h.bel.trans (k.bel.mono h.bel.size), fun i hi => Nat.le_trans h.bel.size (k.own i hi)⟩, fun i a b => ?_⟩
  have h1 := h.dsk.lt i a
  have h2 := k.own i b
  omega
theorem FLs.rdF {B n k : Nat} {a : Option Addr} {l : List (PF × Value)} {d : Dk4} (h : FLs w B (.slice a n k) n l) (hl : l.map (·.1) = filesP d) (ok : d.Ok) : n = l.length ∧ RdF4 w a k l ∧ n ≤ 256 ∧ ∀ x ∈ l, x.1.2.1.length ≤ 67108864 := by
  have hs := filesP_small ok
  have hx : ∀ x ∈ l, x.1.2.1.length ≤ 67108864 := fun x hx => hs.1 x.1 (by rw [← hl]; exact List.mem_map.2 ⟨x, hx, rfl⟩)
  have h1 := h.rd (fun x hx2 => by have := hx x hx2; omega)
  refine ⟨h1.1, h1.2, ?_, hx⟩
  have := congrArg List.length hl
  rw [List.length_map] at this
  have := hs.2
  omega
theorem reach_down {s : ByteArray} (hD : Dsk w O dB d) (hd : d.down = true) : Calls Try.prog 41 #[.pointer (some ⟨dB, 0, none⟩), .string s] w fun e w' => e = .returned (.tuple #[.pointer none, .int .i64 3]) ∧ Below w.heap.size w w' := by
  obtain ⟨ok, mb, fl, hM, hfl⟩ := hD
  obtain ⟨es, clock, hm⟩ := hM.map
  refine (reach_any hM.box hm s).mono ?_
  rintro e w' ⟨rfl, b⟩
  have : reaN d.down (fl.map (fun f => (f.nm, f.b))) s = (none, 3) := by
    unfold reaN rdyN
    rw [hd]
    rfl
  rw [this]
  exact ⟨rfl, b⟩
set_option maxRecDepth 100000 in
theorem read_down {s : ByteArray} (hD : Dsk w O dB d) (hd : d.down = true) (x y : Int) : Calls Try.prog 12 #[.pointer (some ⟨dB, 0, none⟩), .string s, .int .i64 x, .int .i64 y] w fun e w' => e = .returned (.tuple #[.slice none 0 0, .int .i64 3]) ∧ Below w.heap.size w w' := by
  have HC := Lib.hid (reach_down (s := s) hD hd)
  clear hD hd
  go_enter Try.func12, Try.ntmps12
  go_wp2_with fail
  refine HC.out.mono ?_
  rintro e w2 ⟨rfl, b⟩
  go_wp2
  go_ret2
  exact ⟨rfl, b⟩
end Go.Proofs.Ytbheifelfeekmaa
