import Derived.Test.YtbheifelfeekmaaK05
namespace Go.Proofs.Ytbheifelfeekmaa
open Go.RowKit Go.MapKept Go.Sort
set_option linter.unusedVariables false
set_option linter.unusedSimpArgs false
variable {w w' W X : World} {O O' : Nat → Prop} {dB : Nat} {d : Dk4}
def fileP (d : Dk4) (x : List UInt8) : PF := (ofL x, (atP d.fs (ofL x)).getD ([], 0))
def filesP (d : Dk4) : List PF := (lsP d.fs ⟨#[]⟩).map (fileP d)
theorem lsP_at {ps : List PF} {pre : ByteArray} {x : List UInt8} (h : x ∈ lsP ps pre) : ∃ v, atP ps (ofL x) = some v := by
  unfold lsP at h
  have h := (List.mergeSort_perm _ leB).mem_iff.1 h
  obtain ⟨s, hs, rfl⟩ := List.mem_map.1 h
  have hs := (List.mem_filter.1 hs).1
  obtain ⟨p, hp, rfl⟩ := List.mem_map.1 hs
  rw [ofL_nmL]
  cases h : atP ps p.1 with
  | some v => exact ⟨v, rfl⟩
  | none => exact absurd rfl (atP_none h p hp)
theorem OwnS.kept {B n : Nat} {v : Value} {ss : List (List UInt8)} {row : Option Nat} (h : OwnS w B v n ss) (hg : w.grownBy w' row) (hne : v.ownBlock = none ∨ v.ownBlock ≠ row) : OwnS w' B v n ss := ⟨h.1, h.2.kept hg hne⟩
theorem OwnS.later {B n : Nat} {v : Value} {ss : List (List UInt8)} (h : OwnS w B v n ss) (b : Below w.heap.size w w') : OwnS w' B v n ss := by
  refine ⟨h.1, h.2.1, ?_⟩
  rcases h.2.2 with h2 | ⟨g, cap, cur, h3, h4, h5, h6⟩
  · exact .inl h2
  · exact .inr ⟨g, cap, cur, h3, h4, by rw [b.block g (Array.getElem?_eq_some_iff.1 h5).1]; exact h5, h6⟩
theorem FLs.later {B n : Nat} {v : Value} {l : List (PF × Value)} (h : FLs w B v n l) (b : Below w.heap.size w w') : FLs w' B v n l := by
  refine ⟨h.len, ⟨h.row.1, ?_⟩, fun x hx => (h.dat x hx).kept (fun g hg => ⟨b.block g ?_, (h.dat x hx).blk g hg⟩)⟩
  · rcases h.row.2 with h2 | ⟨g, cap, cur, h3, h4, h5, h6⟩
    · exact .inl h2
    · exact .inr ⟨g, cap, cur, h3, h4, by rw [b.block g (Array.getElem?_eq_some_iff.1 h5).1]; exact h5, h6⟩
  · obtain ⟨cur, ht⟩ := (h.dat x hx).typ hg
    exact (Array.getElem?_eq_some_iff.1 ht).1
theorem FLs.nil (w : World) (B : Nat) : FLs w B (.slice none 0 0) 0 [] := ⟨rfl, World.ownsRow_nil _ _ _ _, fun x hx => by cases hx⟩
theorem row_ne {B B' n n' : Nat} {v v' : Value} {ss : List (List UInt8)} {l : List (PF × Value)} (h : OwnS w B v n ss) (k : FLs w B' v' n' l) : v.ownBlock = none ∨ v.ownBlock ≠ v'.ownBlock := by
  rcases h.2.2 with ⟨rfl, _⟩ | ⟨g, cap, cur, rfl, _, h5, _⟩
  · exact .inl rfl
  · right
    rcases k.row.2 with ⟨rfl, _⟩ | ⟨g2, cap2, cur2, rfl, _, h6, _⟩
    · intro e; cases e
    · intro e
      simp only [Value.ownBlock, Option.some.injEq] at e
      rw [e, h6] at h5
      simp only [Option.some.injEq, Obj.cells.injEq] at h5
      exact absurd h5.2.1 (by decide)
set_option maxRecDepth 100000 in
set_option maxHeartbeats 4000000 in
theorem files_any (hD : Dsk w O dB d) : Calls Try.prog 22 #[.pointer (some ⟨dB, 0, none⟩)] w fun e w' => ∃ a n k l, e = .returned (.slice a n k) ∧ FLs w' w.heap.size (.slice a n k) n l ∧ l.map (·.1) = filesP d ∧ Below w.heap.size w w' := by
  have HD := Lib.hid hD
  have HLIST := Lib.hid (list_dsk hD ⟨#[]⟩)
  obtain ⟨_, mb, fl, hM0, hfl0⟩ := id hD
  have HM0 := Lib.hid (And.intro hM0 hfl0)
  clear hM0 hfl0
  obtain ⟨L, hL⟩ : ∃ L, L = lsP d.fs ⟨#[]⟩ := ⟨_, rfl⟩
  have hF : filesP d = L.map (fileP d) := by rw [hL]; rfl
  rw [hF]
  rw [← hL] at HLIST
  have HL := Lib.hid hL
  have hlen : L.length ≤ 256 := by
    rw [hL]
    unfold lsP
    rw [List.length_mergeSort, List.length_map]
    refine Nat.le_trans (List.length_filter_le _ _) ?_
    rw [List.length_map]
    exact hD.1.cnt
  have HLEN := Lib.hid hlen
  clear hD hL hF hlen
  go_enter Try.func22, Try.ntmps22
  go_wp2_with fail
  refine HLIST.out.mono ?_
  rintro e w1 ⟨al, nl, kl, rfl, o1, b1⟩
  have HO1 := Lib.hid o1
  have HB1 := Lib.hid b1
  have hnl : nl ≤ 256 := by rw [o1.1]; exact HLEN.out
  clear o1 b1
  go_wp2_with fail
  go_loopw [3, 10] (fun v i wr => ∃ (t : Nat) (a : Option Addr) (n k : Nat) (l : List (PF × Value)), t ≤ nl ∧ i = .int .i64 (t : Int) ∧ v = .slice a n k ∧ FLs wr w.heap.size (.slice a n k) n l ∧ l.map (·.1) = (L.take t).map (fileP d) ∧ Below w.heap.size w wr ∧ OwnS wr w.heap.size (.slice al nl kl) nl L) (fun _ i _ => nl - (intOf i).toNat)
  case atStart => exact ⟨0, none, 0, 0, [], Nat.zero_le _, rfl, rfl, FLs.nil _ _, rfl, HB1.out, HO1.out⟩
  case round =>
    obtain ⟨t, a, n, k, l, ht, rfl, rfl, hfl, hll, hbw, hown⟩ := hrel
    have HFL := Lib.hid (And.intro hfl hll)
    have HBW := Lib.hid hbw
    have HOWN := Lib.hid hown
    clear hfl hll hbw hown
    by_cases hlt : t < nl
    · have j1 : (t : Int) < (nl : Int) := by omega
      have j2 : (0 : Int) ≤ (t : Int) := by omega
      have htL : t < L.length := by rw [← HOWN.out.1]; exact hlt
      have hx : ∃ x, L[t]? = some x := ⟨_, List.getElem?_eq_getElem htL⟩
      obtain ⟨x, hx⟩ := hx
      have hc := HOWN.out.rd.2.cel t (ofL x) (by rw [List.getElem?_map, hx]; rfl)
      obtain ⟨gl, hc⟩ := hc
      obtain ⟨ol, hc⟩ := hc
      have hal := hc.1
      have hcl := hc.2
      subst hal
      clear hc
      have hM := HM0.out.1.below HBW.out
      have hfl := HM0.out.2
      have hat : ∃ v, atP d.fs (ofL x) = some v := lsP_at (by rw [← HL.out]; exact List.mem_of_getElem? hx)
      have hatF : ∃ f, atF fl (ofL x) = some f ∧ atP d.fs (ofL x) = some (f.dat, f.syn) := by
        obtain ⟨v, hv⟩ := hat
        rw [← hfl, atF_pf] at hv ⊢
        cases h : atF fl (ofL x) with
        | none => rw [h] at hv; cases hv
        | some f => exact ⟨f, rfl, rfl⟩
      obtain ⟨f, hf⟩ := hatF
      have hf1 := hf.1
      have hf2 := hf.2
      have hmp := hM.map
      obtain ⟨es, hmp⟩ := hmp
      obtain ⟨ck, hmp⟩ := hmp
      have hlook := hmp.look (ofL x)
      have e1 : atN (fl.map fun f => (f.nm, f.b)) (ofL x) = some f.b := by
        have := atF_nb (ofL x) fl
        rw [hf1] at this
        exact this
      rw [e1] at hlook
      have hmem := atF_mem hf1
      have hfb := hM.fil f hmem.1
      have hform := hfb.2.1.form
      obtain ⟨af, hform⟩ := hform
      obtain ⟨kf, hform⟩ := hform
      have hbx := hfb.1
      have hrd := hfb.2.1.rd (by have := totP_mem hf2; simp only at this; have := HD.out.1.tot; have := HD.out.1.cap1; omega)
      rw [hform] at hbx hrd
      have hl47 : f.dat.length ≤ 140737488355328 := by have := totP_mem hf2; simp only at this; have := HD.out.1.tot; have := HD.out.1.cap1; omega
      have c0 := hM.box.cells.1
      have hn256 : n ≤ 1000000 := by
        have h1 := HFL.out.1.len
        have h2 := congrArg List.length HFL.out.2
        rw [List.length_map, List.length_map, List.length_take] at h2
        omega
      have hlook2 : (Instr.lookup 76 (.map (some mb)) (.string (ofL x)) false).run Try.prog wr = .ok (.pointer (some ⟨f.b, 0, none⟩)) wr := hlook
      have hbl : f.b < w.heap.size := by
        exact HM0.out.1.lt _ (HM0.out.1.fil f hmem.1).2.2
      have HX := Lib.hid (And.intro hx (And.intro hf2 (And.intro hbx (And.intro hrd hl47))))
      clear hM hfl hat hf hf1 hf2 hmp hlook e1 hmem hfb hform hbx hrd hl47 hx
      go_upto_region 6 with fail
      refine wp_region_noPanic ?_
      refine wp_region_anyE (S := fun wx => Below w.heap.size w wx ∧ wx.cell? ⟨f.b, 0, none⟩ = some (.slice af f.dat.length kf) ∧ wx.cell? ⟨f.b, 1, none⟩ = some (.int .i64 (f.syn : Int))) (E := fun j => true) (by kernel_rfl) ?_
      have hbc := HX.out.2.2.1.cells
      have hHeld : Below w.heap.size w wr.drew ∧ wr.drew.cell? ⟨f.b, 0, none⟩ = some (.slice af f.dat.length kf) ∧ wr.drew.cell? ⟨f.b, 1, none⟩ = some (.int .i64 (f.syn : Int)) := ⟨HBW.out.drew, hbc.1, hbc.2⟩
      have HKB := Lib.hid hbc
      clear hbc
      have HZ := Lib.hid ((Below.refl wr.heap.size wr).drew)
      have hZ0 : ∃ z, z = wr.drew := ⟨_, rfl⟩
      obtain ⟨Z0, hZ0⟩ := hZ0
      rw [← hZ0] at HZ hHeld ⊢
      clear hZ0
      refine AnyE.take (i := 0) (.slice a n k) rfl (by kernel_rfl) (by kernel_rfl) (by kernel_rfl) (by kernel_rfl) (fun _ _ _ h => h) (.inl ⟨by kernel_rfl, fun wy hy => by (go_simp; done)⟩) hHeld ?_
      try simp only [Act.put, List.setIfInBounds_toArray, List.set_cons_zero, List.set_cons_succ]
      refine AnyE.take (i := 1) (.string (ofL x)) rfl (by kernel_rfl) (by kernel_rfl) (by kernel_rfl) (by kernel_rfl) (fun _ _ _ h => h) (.inl ⟨by kernel_rfl, fun wy hy => by (go_simp; done)⟩) hHeld ?_
      try simp only [Act.put, List.setIfInBounds_toArray, List.set_cons_zero, List.set_cons_succ]
      refine AnyE.take (i := 2) (.pointer (some ⟨f.b, 0, none⟩)) rfl (by kernel_rfl) (by kernel_rfl) (by kernel_rfl) (by kernel_rfl) (fun _ _ _ h => h) (.inl ⟨by kernel_rfl, fun wy hy => by (go_simp; done)⟩) hHeld ?_
      try simp only [Act.put, List.setIfInBounds_toArray, List.set_cons_zero, List.set_cons_succ]
      refine AnyE.take (i := 3) (.pointer (some ⟨f.b, 0, none⟩)) rfl (by kernel_rfl) (by kernel_rfl) (by kernel_rfl) (by kernel_rfl) (fun _ _ _ h => h) (.inl ⟨by kernel_rfl, fun wy hy => by (go_simp; done)⟩) hHeld ?_
      try simp only [Act.put, List.setIfInBounds_toArray, List.set_cons_zero, List.set_cons_succ]
      refine AnyE.take (i := 4) (.pointer (some ⟨f.b, 0, none⟩)) rfl (by kernel_rfl) (by kernel_rfl) (by kernel_rfl) (by kernel_rfl) (fun _ _ _ h => h) (.inl ⟨by kernel_rfl, fun wy hy => by (go_simp; done)⟩) hHeld ?_
      try simp only [Act.put, List.setIfInBounds_toArray, List.set_cons_zero, List.set_cons_succ]
      refine AnyE.take (i := 5) (.slice af f.dat.length kf) rfl (by kernel_rfl) (by kernel_rfl) (by kernel_rfl) (by kernel_rfl) (fun _ _ _ h => h) (.inl ⟨by kernel_rfl, fun wy hy => by (have q0 := hy.2.1; go_simp; done)⟩) hHeld ?_
      try simp only [Act.put, List.setIfInBounds_toArray, List.set_cons_zero, List.set_cons_succ]
      refine AnyE.take (i := 7) (.pointer (some ⟨f.b, 0, none⟩)) rfl (by kernel_rfl) (by kernel_rfl) (by kernel_rfl) (by kernel_rfl) (fun _ _ _ h => h) (.inl ⟨by kernel_rfl, fun wy hy => by (go_simp; done)⟩) hHeld ?_
      try simp only [Act.put, List.setIfInBounds_toArray, List.set_cons_zero, List.set_cons_succ]
      refine AnyE.take (i := 8) (.pointer (some ⟨f.b, 0, none⟩)) rfl (by kernel_rfl) (by kernel_rfl) (by kernel_rfl) (by kernel_rfl) (fun _ _ _ h => h) (.inl ⟨by kernel_rfl, fun wy hy => by (go_simp; done)⟩) hHeld ?_
      try simp only [Act.put, List.setIfInBounds_toArray, List.set_cons_zero, List.set_cons_succ]
      refine AnyE.take (i := 9) (.pointer (some ⟨f.b, 1, none⟩)) rfl (by kernel_rfl) (by kernel_rfl) (by kernel_rfl) (by kernel_rfl) (fun _ _ _ h => h) (.inl ⟨by kernel_rfl, fun wy hy => by (go_simp; done)⟩) hHeld ?_
      try simp only [Act.put, List.setIfInBounds_toArray, List.set_cons_zero, List.set_cons_succ]
      refine AnyE.take (i := 10) (.int .i64 (f.syn : Int)) rfl (by kernel_rfl) (by kernel_rfl) (by kernel_rfl) (by kernel_rfl) (fun _ _ _ h => h) (.inl ⟨by kernel_rfl, fun wy hy => by (have q0 := hy.2.2; go_simp; done)⟩) hHeld ?_
      try simp only [Act.put, List.setIfInBounds_toArray, List.set_cons_zero, List.set_cons_succ]
      refine AnyE.one (i := 6) rfl (by kernel_rfl) (by kernel_rfl) (fun KK hK => ?_)
      go_simp
      go_at_call 42
      refine (bclone_any (HX.out.2.2.2.1.later HZ.out) HX.out.2.2.2.2).mono ?_
      rintro e9 Z2 ⟨sv, rfl, ow, bw⟩
      have hsf := own_form ow
      obtain ⟨ac, hsf⟩ := hsf
      obtain ⟨kc, hsf⟩ := hsf
      subst hsf
      have hHeld : Below w.heap.size w Z2 ∧ Z2.cell? ⟨f.b, 0, none⟩ = some (.slice af f.dat.length kf) ∧ Z2.cell? ⟨f.b, 1, none⟩ = some (.int .i64 (f.syn : Int)) := ⟨hHeld.1.trans (bw.mono hHeld.1.size), (bw.cell (p := ⟨f.b, 0, none⟩) (World.block_lt_of_cell? _ _ hHeld.2.1)).trans hHeld.2.1, (bw.cell (p := ⟨f.b, 1, none⟩) (World.block_lt_of_cell? _ _ hHeld.2.2)).trans hHeld.2.2⟩
      have HOW := Lib.hid ow
      have HZZ := Lib.hid HZ.out
      have HZ := Lib.hid (HZ.out.trans (bw.mono HZ.out.size))
      clear ow bw
      go_wp2_with fail
      refine hK.out _ _ ⟨fun _ => hHeld, ?_⟩
      clear hK
      try simp only [Act.put, List.setIfInBounds_toArray, List.set_cons_zero, List.set_cons_succ]
      refine AnyE.one (i := 11) rfl (by kernel_rfl) (by kernel_rfl) (fun KK hK => ?_)
      go_simp
      refine hK.out _ _ ⟨fun _ => hHeld, ?_⟩
      clear hK
      try simp only [Act.put, List.setIfInBounds_toArray, List.set_cons_zero, List.set_cons_succ]
      refine AnyE.one (i := 12) rfl (by kernel_rfl) (by kernel_rfl) (fun KK hK => ?_)
      go_simp
      have bA := (Below.refl Z2.heap.size Z2).alloc (Nat.le_refl _) (.cells #[.string (ofL x), .slice ac f.dat.length kc, .int .i64 (f.syn : Int)] 50)
      have cA : (Z2.alloc (.cells #[.string (ofL x), .slice ac f.dat.length kc, .int .i64 (f.syn : Int)] 50)).cell? ⟨Z2.heap.size, 0, none⟩ = some (.string (ofL x)) ∧ (Z2.alloc (.cells #[.string (ofL x), .slice ac f.dat.length kc, .int .i64 (f.syn : Int)] 50)).cell? ⟨Z2.heap.size, 1, none⟩ = some (.slice ac f.dat.length kc) ∧ (Z2.alloc (.cells #[.string (ofL x), .slice ac f.dat.length kc, .int .i64 (f.syn : Int)] 50)).cell? ⟨Z2.heap.size, 2, none⟩ = some (.int .i64 (f.syn : Int)) := by
        refine ⟨?_, ?_, ?_⟩ <;> simp [go_sem]
      have hZ3 : ∃ z, z = Z2.alloc (.cells #[.string (ofL x), .slice ac f.dat.length kc, .int .i64 (f.syn : Int)] 50) := ⟨_, rfl⟩
      obtain ⟨Z3, hZ3⟩ := hZ3
      rw [← hZ3] at bA cA ⊢
      clear hZ3
      have hHeld : Below w.heap.size w Z3 ∧ Z3.cell? ⟨f.b, 0, none⟩ = some (.slice af f.dat.length kf) ∧ Z3.cell? ⟨f.b, 1, none⟩ = some (.int .i64 (f.syn : Int)) := ⟨hHeld.1.trans (bA.mono hHeld.1.size), (bA.cell (p := ⟨f.b, 0, none⟩) (World.block_lt_of_cell? _ _ hHeld.2.1)).trans hHeld.2.1, (bA.cell (p := ⟨f.b, 1, none⟩) (World.block_lt_of_cell? _ _ hHeld.2.2)).trans hHeld.2.2⟩
      have HCA := Lib.hid (And.intro bA cA)
      clear bA cA
      refine hK.out _ _ ⟨fun _ => hHeld, ?_⟩
      clear hK
      try simp only [Act.put, List.setIfInBounds_toArray, List.set_cons_zero, List.set_cons_succ]
      refine AnyE.one (i := 13) rfl (by kernel_rfl) (by kernel_rfl) (fun KK hK => ?_)
      have hwz : wr.heap.size ≤ Z3.heap.size := Nat.le_trans HZ.out.size HCA.out.1.size
      have efp : fileP d x = (ofL x, f.dat, f.syn) := by unfold fileP; rw [HX.out.2.1]; rfl
      have o2 : OwnO Z2 (fun i => w.heap.size ≤ i) (.slice ac f.dat.length kc) f.dat := by
        refine ⟨⟨HOW.out.1, ?_⟩, HX.out.2.2.2.1.1, fun g hg => ?_⟩
        · rcases HOW.out.2 with h | ⟨g, cap, cur, h1, h2, h3⟩
          · exact .inl h
          · exact .inr ⟨g, cap, cur, h1, Nat.zero_le _, h3⟩
        · have := (HOW.out.lt g hg).1
          exact Nat.le_trans HBW.out.size (Nat.le_trans HZZ.out.size this)
      have o3 : OwnO Z3 (fun i => w.heap.size ≤ i) (.slice ac f.dat.length kc) f.dat := o2.kept (fun g hg => ⟨HCA.out.1.block g (by obtain ⟨cur, ht⟩ := o2.typ hg; exact (Array.getElem?_eq_some_iff.1 ht).1), o2.blk g hg⟩)
      have HO3 := Lib.hid o3
      have HEF := Lib.hid efp
      clear o2 o3 efp
      refine file_append _ _ rfl (B := w.heap.size) (n := n) (blk := Z2.heap.size) (v := .slice a n k) (l := l) (f := ((ofL x, f.dat, f.syn), .slice ac f.dat.length kc)) rfl ((HFL.out.1.later HZ.out).later HCA.out.1) rfl HCA.out.2 HO3.out hn256 (Nat.le_trans HBW.out.size hwz) (fun a9 k9 Z4 own9 b9 g9 => ?_)
      have hHeld : Below w.heap.size w Z4 ∧ Z4.cell? ⟨f.b, 0, none⟩ = some (.slice af f.dat.length kf) ∧ Z4.cell? ⟨f.b, 1, none⟩ = some (.int .i64 (f.syn : Int)) := ⟨hHeld.1.trans b9, (b9.cell (p := ⟨f.b, 0, none⟩) hbl).trans hHeld.2.1, (b9.cell (p := ⟨f.b, 1, none⟩) hbl).trans hHeld.2.2⟩
      have HO4 := Lib.hid (((HOWN.out.later HZ.out).later HCA.out.1).kept g9 (row_ne HOWN.out HFL.out.1))
      have HF4 := Lib.hid (And.intro own9 hHeld.1)
      clear own9 b9 g9
      refine hK.out _ _ ⟨fun _ => hHeld, ?_⟩
      clear hK
      try simp only [Act.put, List.setIfInBounds_toArray, List.set_cons_zero, List.set_cons_succ]
      refine AnyE.one (i := 14) rfl (by kernel_rfl) (by kernel_rfl) (fun KK hK => ?_)
      go_simp
      refine hK.out _ _ ⟨fun _ => hHeld, ?_⟩
      clear hK hHeld
      try simp only [Act.put, List.setIfInBounds_toArray, List.set_cons_zero, List.set_cons_succ]
      refine AnyE.done (by kernel_rfl) (NoPanic.normal ?_) _
      go_simp
      go_step
      go_wp2
      go_roundw
      case rel =>
        refine ⟨t + 1, a9, n + 1, k9, l ++ [((ofL x, f.dat, f.syn), .slice ac f.dat.length kc)], by omega, by go_num, rfl, HF4.out.1, ?_, HF4.out.2, HO4.out⟩
        rw [List.map_append, HFL.out.2, List.take_add_one, HX.out.1, ← HEF.out]
        simp [HEF.out]
      case measure => simp [intOf]; omega
    · have j1 : (nl : Int) ≤ (t : Int) := by omega
      have hend : t = nl := by omega
      have hall : L.take t = L := by rw [hend, HOWN.out.1, List.take_length]
      have HALL := Lib.hid hall
      clear hall hend hlt
      go_wp2
      go_ret
      exact ⟨a, n, k, l, rfl, HFL.out.1, by rw [HFL.out.2, HALL.out], HBW.out⟩
end Go.Proofs.Ytbheifelfeekmaa

namespace Go.Proofs.Ytbheifelfeekmaa
open Go.RowKit Go.MapKept Go.Sort
set_option linter.unusedVariables false
set_option linter.unusedSimpArgs false
variable {w w' W X : World} {O O' : Nat → Prop} {dB : Nat} {d : Dk4}
def keepN (syn len : Nat) (st : Int) : Nat := syn + (min (max st 0) ((len : Int) - (syn : Int))).toNat
theorem keepN_le {syn len : Nat} (h : syn ≤ len) (st : Int) : syn ≤ keepN syn len st ∧ keepN syn len st ≤ len := by
  unfold keepN
  omega
set_option maxRecDepth 100000 in
set_option maxHeartbeats 4000000 in
theorem cut_any {b syn : Nat} {v : Value} {dat : List Nat} {st : Int} (hb : FBox w b v syn) (ho : OwnO w O v dat) (hs : syn ≤ dat.length) (hl : dat.length ≤ 67108864) (hbO : ∀ g, v.ownBlock = some g → g ≠ b) :
    Calls Try.prog 49 #[.pointer (some ⟨b, 0, none⟩), .int .i64 st] w fun e w' => e = .returned (.tuple #[]) ∧ ∃ v', FBox w' b v' (keepN syn dat.length st) ∧ OwnO w' (fun i => v.ownBlock = some i ∨ w.heap.size ≤ i) v' (dat.take (keepN syn dat.length st)) ∧ (v' = v ∨ ∀ g, v'.ownBlock = some g → w.heap.size ≤ g) ∧ Go4 w w' (fun i => i = b) (fun i => i = b) := by
  obtain ⟨a, c, rfl⟩ := ho.form
  obtain ⟨n, hn⟩ : ∃ n, n = dat.length := ⟨_, rfl⟩
  obtain ⟨k, hk⟩ : ∃ k, k = keepN syn dat.length st := ⟨_, rfl⟩
  have hkl := keepN_le hs st
  have hrd := ho.rd (by omega)
  have hnc : n ≤ c := by
    obtain ⟨_, a1, c1, h2, h3, _⟩ := hrd
    simp only [Value.slice.injEq] at h2
    obtain ⟨_, _, rfl⟩ := h2
    rw [hn]
    exact h3
  obtain ⟨m, hm⟩ : ∃ m : Int, max st 0 = m := ⟨_, rfl⟩
  obtain ⟨q, hq⟩ : ∃ q : Int, min m ((n : Int) - (syn : Int)) = q := ⟨_, rfl⟩
  have hkq : (syn : Int) + q = (k : Int) := by rw [hk]; unfold keepN; rw [hm, ← hn, hq]; omega
  have q0 : 0 ≤ q := by omega
  have q1 : q ≤ 67108864 := by omega
  rw [← hk] at hkl ⊢
  rw [← hn] at hb ho hs hl hkl hrd
  have lb := hb.lt
  have HBX := Lib.hid hb
  have HO := Lib.hid (And.intro hrd ho)
  have HN := Lib.hid (And.intro hn hk)
  have HBO := Lib.hid hbO
  have s2 : syn ≤ 67108864 := by omega
  have k2 : k ≤ n := hkl.2
  have HKQ := Lib.hid hkq
  clear hb ho hn hk hbO hrd hkl hkq
  go_enter Try.func49, Try.ntmps49
  go_upto_region 0 with fail
  have BD : Below w.heap.size w w.drew := (Below.refl _ _).drew
  refine wp_region_noPanic ?_
  refine wp_region_anyE (S := fun wx => Below w.heap.size w wx) (E := fun j => true) (by kernel_rfl) ?_
  have hHeld : Below w.heap.size w w.drew := BD
  have HB := Lib.hid BD
  have hZ0 : ∃ z, z = w.drew := ⟨_, rfl⟩
  obtain ⟨Z0, hZ0⟩ := hZ0
  rw [← hZ0] at HB hHeld ⊢
  clear hZ0 BD
  refine AnyE.take (i := 0) (.pointer (some ⟨b, 0, none⟩)) rfl (by kernel_rfl) (by kernel_rfl) (by kernel_rfl) (by kernel_rfl) (fun _ _ _ h => h) (.inl ⟨by kernel_rfl, fun wy hy => by (go_simp; done)⟩) hHeld ?_
  try simp only [Act.put, List.setIfInBounds_toArray, List.set_cons_zero, List.set_cons_succ]
  refine AnyE.take (i := 1) (.pointer (some ⟨b, 0, none⟩)) rfl (by kernel_rfl) (by kernel_rfl) (by kernel_rfl) (by kernel_rfl) (fun _ _ _ h => h) (.inl ⟨by kernel_rfl, fun wy hy => by (go_simp; done)⟩) hHeld ?_
  try simp only [Act.put, List.setIfInBounds_toArray, List.set_cons_zero, List.set_cons_succ]
  refine AnyE.take (i := 2) (.pointer (some ⟨b, 0, none⟩)) rfl (by kernel_rfl) (by kernel_rfl) (by kernel_rfl) (by kernel_rfl) (fun _ _ _ h => h) (.inl ⟨by kernel_rfl, fun wy hy => by (go_simp; done)⟩) hHeld ?_
  try simp only [Act.put, List.setIfInBounds_toArray, List.set_cons_zero, List.set_cons_succ]
  refine AnyE.take (i := 3) (.slice a n c) rfl (by kernel_rfl) (by kernel_rfl) (by kernel_rfl) (by kernel_rfl) (fun _ _ _ h => h) (.inl ⟨by kernel_rfl, fun wy hy => by (have q0 := (HBX.out.kept (hy.block _ lb)).cells.1; go_simp; done)⟩) hHeld ?_
  try simp only [Act.put, List.setIfInBounds_toArray, List.set_cons_zero, List.set_cons_succ]
  refine AnyE.take (i := 4) (.int .i64 (n : Int)) rfl (by kernel_rfl) (by kernel_rfl) (by kernel_rfl) (by kernel_rfl) (fun _ _ _ h => h) (.inl ⟨by kernel_rfl, fun wy hy => by (go_simp; first | done | (cases a <;> (go_simp; done)))⟩) hHeld ?_
  try simp only [Act.put, List.setIfInBounds_toArray, List.set_cons_zero, List.set_cons_succ]
  refine AnyE.take (i := 5) (.pointer (some ⟨b, 0, none⟩)) rfl (by kernel_rfl) (by kernel_rfl) (by kernel_rfl) (by kernel_rfl) (fun _ _ _ h => h) (.inl ⟨by kernel_rfl, fun wy hy => by (go_simp; done)⟩) hHeld ?_
  try simp only [Act.put, List.setIfInBounds_toArray, List.set_cons_zero, List.set_cons_succ]
  refine AnyE.take (i := 6) (.pointer (some ⟨b, 0, none⟩)) rfl (by kernel_rfl) (by kernel_rfl) (by kernel_rfl) (by kernel_rfl) (fun _ _ _ h => h) (.inl ⟨by kernel_rfl, fun wy hy => by (go_simp; done)⟩) hHeld ?_
  try simp only [Act.put, List.setIfInBounds_toArray, List.set_cons_zero, List.set_cons_succ]
  refine AnyE.take (i := 7) (.pointer (some ⟨b, 1, none⟩)) rfl (by kernel_rfl) (by kernel_rfl) (by kernel_rfl) (by kernel_rfl) (fun _ _ _ h => h) (.inl ⟨by kernel_rfl, fun wy hy => by (go_simp; done)⟩) hHeld ?_
  try simp only [Act.put, List.setIfInBounds_toArray, List.set_cons_zero, List.set_cons_succ]
  refine AnyE.take (i := 8) (.int .i64 (syn : Int)) rfl (by kernel_rfl) (by kernel_rfl) (by kernel_rfl) (by kernel_rfl) (fun _ _ _ h => h) (.inl ⟨by kernel_rfl, fun wy hy => by (have q0 := (HBX.out.kept (hy.block _ lb)).cells.2; go_simp; done)⟩) hHeld ?_
  try simp only [Act.put, List.setIfInBounds_toArray, List.set_cons_zero, List.set_cons_succ]
  refine AnyE.take (i := 9) (.int .i64 ((n : Int) - (syn : Int))) rfl (by kernel_rfl) (by kernel_rfl) (by kernel_rfl) (by kernel_rfl) (fun _ _ _ h => h) (.inl ⟨by kernel_rfl, fun wy hy => by (go_simp; exact IntWalk.i64_in _ ⟨by omega, by omega⟩)⟩) hHeld ?_
  try simp only [Act.put, List.setIfInBounds_toArray, List.set_cons_zero, List.set_cons_succ]
  refine AnyE.take (i := 10) (.int .i64 ((n : Int) - (syn : Int))) rfl (by kernel_rfl) (by kernel_rfl) (by kernel_rfl) (by kernel_rfl) (fun _ _ _ h => h) (.inl ⟨by kernel_rfl, fun wy hy => by (go_simp; done)⟩) hHeld ?_
  try simp only [Act.put, List.setIfInBounds_toArray, List.set_cons_zero, List.set_cons_succ]
  refine AnyE.done (by kernel_rfl) (NoPanic.normal ?_) _
  have hZ9 : ∃ z, z = Z0 := ⟨_, rfl⟩
  obtain ⟨W0, hZ9⟩ := hZ9
  rw [← hZ9] at HB ⊢
  clear hHeld hZ9
  have HB0 := Lib.hid HB.out
  have bx0 := HBX.out.kept (HB.out.block _ lb)
  have c0 := bx0.cells.1
  have c1 := bx0.cells.2
  have z1 := bx0.fz 1
  go_simp
  go_step
  go_upto_region 2 with fail
  rw [HKQ.out]
  have bX : FBox (W0.setCell ⟨b, 1, none⟩ (.int .i64 (k : Int))) b (.slice a n c) k := bx0.setSyn k
  have gX : Go4 w (W0.setCell ⟨b, 1, none⟩ (.int .i64 (k : Int))) (fun i => i = b) (fun i => i = b) := (Go4.of_below HB0.out).trans (Go4.of_set (O := fun i => i = b) (a := ⟨b, 1, none⟩) rfl _)
  have hX : ∃ x, x = W0.setCell ⟨b, 1, none⟩ (.int .i64 (k : Int)) := ⟨_, rfl⟩
  obtain ⟨X, hX⟩ := hX
  rw [← hX] at bX gX ⊢
  have HGX := Lib.hid gX
  have HBXX := Lib.hid bX
  have lX := bX.lt
  clear hX bX gX bx0 c0 c1 z1 HB hm hq q0 q1
  have BD : Below X.heap.size X X.drew := (Below.refl _ _).drew
  refine wp_region_noPanic ?_
  refine wp_region_anyE (S := fun wx => Below X.heap.size X wx) (E := fun j => true) (by kernel_rfl) ?_
  have hHeld : Below X.heap.size X X.drew := BD
  have HB := Lib.hid BD
  have hZ0 : ∃ z, z = X.drew := ⟨_, rfl⟩
  obtain ⟨Z0, hZ0⟩ := hZ0
  rw [← hZ0] at HB hHeld ⊢
  clear hZ0 BD
  refine AnyE.take (i := 0) (.pointer (some ⟨b, 0, none⟩)) rfl (by kernel_rfl) (by kernel_rfl) (by kernel_rfl) (by kernel_rfl) (fun _ _ _ h => h) (.inl ⟨by kernel_rfl, fun wy hy => by (go_simp; done)⟩) hHeld ?_
  try simp only [Act.put, List.setIfInBounds_toArray, List.set_cons_zero, List.set_cons_succ]
  refine AnyE.take (i := 1) (.pointer (some ⟨b, 0, none⟩)) rfl (by kernel_rfl) (by kernel_rfl) (by kernel_rfl) (by kernel_rfl) (fun _ _ _ h => h) (.inl ⟨by kernel_rfl, fun wy hy => by (go_simp; done)⟩) hHeld ?_
  try simp only [Act.put, List.setIfInBounds_toArray, List.set_cons_zero, List.set_cons_succ]
  refine AnyE.take (i := 2) (.pointer (some ⟨b, 1, none⟩)) rfl (by kernel_rfl) (by kernel_rfl) (by kernel_rfl) (by kernel_rfl) (fun _ _ _ h => h) (.inl ⟨by kernel_rfl, fun wy hy => by (go_simp; done)⟩) hHeld ?_
  try simp only [Act.put, List.setIfInBounds_toArray, List.set_cons_zero, List.set_cons_succ]
  refine AnyE.take (i := 3) (.int .i64 (k : Int)) rfl (by kernel_rfl) (by kernel_rfl) (by kernel_rfl) (by kernel_rfl) (fun _ _ _ h => h) (.inl ⟨by kernel_rfl, fun wy hy => by (have q0 := (HBXX.out.kept (hy.block _ lX)).cells.2; go_simp; done)⟩) hHeld ?_
  try simp only [Act.put, List.setIfInBounds_toArray, List.set_cons_zero, List.set_cons_succ]
  refine AnyE.take (i := 4) (.pointer (some ⟨b, 0, none⟩)) rfl (by kernel_rfl) (by kernel_rfl) (by kernel_rfl) (by kernel_rfl) (fun _ _ _ h => h) (.inl ⟨by kernel_rfl, fun wy hy => by (go_simp; done)⟩) hHeld ?_
  try simp only [Act.put, List.setIfInBounds_toArray, List.set_cons_zero, List.set_cons_succ]
  refine AnyE.take (i := 5) (.pointer (some ⟨b, 0, none⟩)) rfl (by kernel_rfl) (by kernel_rfl) (by kernel_rfl) (by kernel_rfl) (fun _ _ _ h => h) (.inl ⟨by kernel_rfl, fun wy hy => by (go_simp; done)⟩) hHeld ?_
  try simp only [Act.put, List.setIfInBounds_toArray, List.set_cons_zero, List.set_cons_succ]
  refine AnyE.take (i := 6) (.pointer (some ⟨b, 0, none⟩)) rfl (by kernel_rfl) (by kernel_rfl) (by kernel_rfl) (by kernel_rfl) (fun _ _ _ h => h) (.inl ⟨by kernel_rfl, fun wy hy => by (go_simp; done)⟩) hHeld ?_
  try simp only [Act.put, List.setIfInBounds_toArray, List.set_cons_zero, List.set_cons_succ]
  refine AnyE.take (i := 7) (.slice a n c) rfl (by kernel_rfl) (by kernel_rfl) (by kernel_rfl) (by kernel_rfl) (fun _ _ _ h => h) (.inl ⟨by kernel_rfl, fun wy hy => by (have q0 := (HBXX.out.kept (hy.block _ lX)).cells.1; go_simp; done)⟩) hHeld ?_
  try simp only [Act.put, List.setIfInBounds_toArray, List.set_cons_zero, List.set_cons_succ]
  refine AnyE.take (i := 8) (.int .i64 (n : Int)) rfl (by kernel_rfl) (by kernel_rfl) (by kernel_rfl) (by kernel_rfl) (fun _ _ _ h => h) (.inl ⟨by kernel_rfl, fun wy hy => by (go_simp; first | done | (cases a <;> (go_simp; done)))⟩) hHeld ?_
  try simp only [Act.put, List.setIfInBounds_toArray, List.set_cons_zero, List.set_cons_succ]
  refine AnyE.take (i := 9) (.bool (decide ((k : Int) < (n : Int)))) rfl (by kernel_rfl) (by kernel_rfl) (by kernel_rfl) (by kernel_rfl) (fun _ _ _ h => h) (.inl ⟨by kernel_rfl, fun wy hy => by (go_simp; done)⟩) hHeld ?_
  try simp only [Act.put, List.setIfInBounds_toArray, List.set_cons_zero, List.set_cons_succ]
  refine AnyE.done (by kernel_rfl) (NoPanic.normal ?_) _
  have hZ9 : ∃ z, z = Z0 := ⟨_, rfl⟩
  obtain ⟨Y, hZ9⟩ := hZ9
  rw [← hZ9] at HB ⊢
  clear hHeld hZ9
  have HBY := Lib.hid HB.out
  have HY := Lib.hid (HBXX.out.kept (HB.out.block _ lX))
  have HGY := Lib.hid (HGX.out.trans (Go4.of_below HB.out))
  have hown : OwnO Y (fun i => (Value.slice a n c).ownBlock = some i ∨ w.heap.size ≤ i) (.slice a n c) dat := by
    refine HO.out.2.kept (fun g hg => ⟨HGY.out.block g ?_ ?_, .inl hg⟩)
    · obtain ⟨cur, ht⟩ := HO.out.2.typ hg
      exact (Array.getElem?_eq_some_iff.1 ht).1
    · exact HBO.out g (by rw [← HN.out.1]; exact hg)
  have HOWN := Lib.hid hown
  clear hown HB
  go_simp
  go_step
  by_cases hkn : k = n
  · have d1 : decide ((k : Int) < (n : Int)) = false := by simp; omega
    have d2 : ¬ (k : Int) < (n : Int) := by omega
    have HKN := Lib.hid hkn
    clear hkn
    go_wp2
    go_end0
    refine ⟨rfl, .slice a n c, HY.out, ?_, .inl (by rw [HN.out.1]), HGY.out⟩
    rw [HKN.out, HN.out.1, List.take_length]
    rw [← HN.out.1]
    exact HOWN.out
  · have d1 : decide ((k : Int) < (n : Int)) = true := by simp; omega
    have d2 : (k : Int) < (n : Int) := by omega
    clear hkn
    have k0 : (0 : Int) ≤ (k : Int) := by omega
    have k3 : (k : Int) ≤ (c : Int) := by omega
    have lY := HY.out.lt
    go_upto_region 3 with fail
    have BD : Below Y.heap.size Y Y.drew := (Below.refl _ _).drew
    refine wp_region_noPanic ?_
    refine wp_region_anyE (S := fun wx => Below Y.heap.size Y wx) (E := fun j => decide (j < 13)) (by kernel_rfl) ?_
    have hHeld : Below Y.heap.size Y Y.drew := BD
    have HB := Lib.hid BD
    have hZ0 : ∃ z, z = Y.drew := ⟨_, rfl⟩
    obtain ⟨Z0, hZ0⟩ := hZ0
    rw [← hZ0] at HB hHeld ⊢
    clear hZ0 BD
    refine AnyE.take (i := 0) (.pointer (some ⟨b, 0, none⟩)) rfl (by kernel_rfl) (by kernel_rfl) (by kernel_rfl) (by kernel_rfl) (fun _ _ _ h => h) (.inl ⟨by kernel_rfl, fun wy hy => by (go_simp; done)⟩) hHeld ?_
    try simp only [Act.put, List.setIfInBounds_toArray, List.set_cons_zero, List.set_cons_succ]
    refine AnyE.take (i := 1) (.pointer (some ⟨b, 0, none⟩)) rfl (by kernel_rfl) (by kernel_rfl) (by kernel_rfl) (by kernel_rfl) (fun _ _ _ h => h) (.inl ⟨by kernel_rfl, fun wy hy => by (go_simp; done)⟩) hHeld ?_
    try simp only [Act.put, List.setIfInBounds_toArray, List.set_cons_zero, List.set_cons_succ]
    refine AnyE.take (i := 2) (.pointer (some ⟨b, 0, none⟩)) rfl (by kernel_rfl) (by kernel_rfl) (by kernel_rfl) (by kernel_rfl) (fun _ _ _ h => h) (.inl ⟨by kernel_rfl, fun wy hy => by (go_simp; done)⟩) hHeld ?_
    try simp only [Act.put, List.setIfInBounds_toArray, List.set_cons_zero, List.set_cons_succ]
    refine AnyE.take (i := 3) (.pointer (some ⟨b, 0, none⟩)) rfl (by kernel_rfl) (by kernel_rfl) (by kernel_rfl) (by kernel_rfl) (fun _ _ _ h => h) (.inl ⟨by kernel_rfl, fun wy hy => by (go_simp; done)⟩) hHeld ?_
    try simp only [Act.put, List.setIfInBounds_toArray, List.set_cons_zero, List.set_cons_succ]
    refine AnyE.take (i := 4) (.slice a n c) rfl (by kernel_rfl) (by kernel_rfl) (by kernel_rfl) (by kernel_rfl) (fun _ _ _ h => h) (.inl ⟨by kernel_rfl, fun wy hy => by (have q0 := (HY.out.kept (hy.block _ lY)).cells.1; go_simp; done)⟩) hHeld ?_
    try simp only [Act.put, List.setIfInBounds_toArray, List.set_cons_zero, List.set_cons_succ]
    refine AnyE.take (i := 5) (.pointer (some ⟨b, 0, none⟩)) rfl (by kernel_rfl) (by kernel_rfl) (by kernel_rfl) (by kernel_rfl) (fun _ _ _ h => h) (.inl ⟨by kernel_rfl, fun wy hy => by (go_simp; done)⟩) hHeld ?_
    try simp only [Act.put, List.setIfInBounds_toArray, List.set_cons_zero, List.set_cons_succ]
    refine AnyE.take (i := 6) (.pointer (some ⟨b, 0, none⟩)) rfl (by kernel_rfl) (by kernel_rfl) (by kernel_rfl) (by kernel_rfl) (fun _ _ _ h => h) (.inl ⟨by kernel_rfl, fun wy hy => by (go_simp; done)⟩) hHeld ?_
    try simp only [Act.put, List.setIfInBounds_toArray, List.set_cons_zero, List.set_cons_succ]
    refine AnyE.take (i := 7) (.pointer (some ⟨b, 1, none⟩)) rfl (by kernel_rfl) (by kernel_rfl) (by kernel_rfl) (by kernel_rfl) (fun _ _ _ h => h) (.inl ⟨by kernel_rfl, fun wy hy => by (go_simp; done)⟩) hHeld ?_
    try simp only [Act.put, List.setIfInBounds_toArray, List.set_cons_zero, List.set_cons_succ]
    refine AnyE.take (i := 8) (.int .i64 (k : Int)) rfl (by kernel_rfl) (by kernel_rfl) (by kernel_rfl) (by kernel_rfl) (fun _ _ _ h => h) (.inl ⟨by kernel_rfl, fun wy hy => by (have q0 := (HY.out.kept (hy.block _ lY)).cells.2; go_simp; done)⟩) hHeld ?_
    try simp only [Act.put, List.setIfInBounds_toArray, List.set_cons_zero, List.set_cons_succ]
    refine AnyE.take (i := 9) (.slice a k c) rfl (by kernel_rfl) (by kernel_rfl) (by kernel_rfl) (by kernel_rfl) (fun _ _ _ h => h) (.inl ⟨by kernel_rfl, fun wy hy => by (go_simp; first | done | (cases a <;> (go_simp; done)))⟩) hHeld ?_
    try simp only [Act.put, List.setIfInBounds_toArray, List.set_cons_zero, List.set_cons_succ]
    refine AnyE.one (i := 10) rfl (by kernel_rfl) (by kernel_rfl) (fun KK hK => ?_)
    go_simp
    go_at_call 42
    refine (bclone_any (((HO.out.1.upto4 k k2).go4 (w' := Y) (fun g off n9 c9 hv hb => ?_)).later HB.out) (by rw [List.length_take]; have := HN.out.1; omega)).mono ?_
    · simp only [Value.slice.injEq] at hv
      obtain ⟨hv1, hv2, hv3⟩ := hv
      subst hv1
      exact HGY.out.block g hb (HBO.out g rfl)
    rintro e9 Z2 ⟨sv, rfl, ow, bw⟩
    have hm2 : ∃ m2, m2 = (dat.take k).length := ⟨_, rfl⟩
    obtain ⟨m2, hm2⟩ := hm2
    rw [← hm2] at ow
    have HM2 := Lib.hid hm2
    have hsf := own_form ow
    obtain ⟨ac, hsf⟩ := hsf
    obtain ⟨kc, hsf⟩ := hsf
    subst hsf
    have HOW := Lib.hid ow
    have HB1 := Lib.hid HB.out
    have HB := Lib.hid (HB.out.trans (bw.mono HB.out.size))
    clear ow bw hm2
    go_wp2_with fail
    refine hK.out _ _ ⟨fun _ => HB.out, ?_⟩
    have hHeld := HB.out
    clear hK
    try simp only [Act.put, List.setIfInBounds_toArray, List.set_cons_zero, List.set_cons_succ]
    refine AnyE.one (i := 11) rfl (by kernel_rfl) (by kernel_rfl) (fun KK hK => ?_)
    go_simp
    refine hK.out _ _ ⟨fun _ => HB.out, ?_⟩
    clear hK
    try simp only [Act.put, List.setIfInBounds_toArray, List.set_cons_zero, List.set_cons_succ]
    refine AnyE.one (i := 12) rfl (by kernel_rfl) (by kernel_rfl) (fun KK hK => ?_)
    go_simp
    refine hK.out _ _ ⟨fun _ => HB.out, ?_⟩
    clear hK
    try simp only [Act.put, List.setIfInBounds_toArray, List.set_cons_zero, List.set_cons_succ]
    refine AnyE.one (i := 13) rfl (by kernel_rfl) (by kernel_rfl) (fun KK hK => ?_)
    have z0 := (HY.out.kept (HB.out.block _ lY)).cells.1
    have z1 := (HY.out.kept (HB.out.block _ lY)).fz 0
    go_simp
    have bF : FBox (Z2.setCell ⟨b, 0, none⟩ (.slice ac m2 kc)) b (.slice ac m2 kc) k := (HY.out.kept (HB.out.block _ lY)).setV _
    have hnb : ∀ g, (Value.slice ac m2 kc).ownBlock = some g → Y.heap.size ≤ g := fun g hg => Nat.le_trans HB1.out.size (HOW.out.lt g hg).1
    have oF : OwnO (Z2.setCell ⟨b, 0, none⟩ (.slice ac m2 kc)) (fun i => (Value.slice a n c).ownBlock = some i ∨ w.heap.size ≤ i) (.slice ac m2 kc) (dat.take k) := by
      have o1 : OwnO Z2 (fun i => w.heap.size ≤ i) (.slice ac m2 kc) (dat.take k) := by
        refine ⟨⟨by rw [← HM2.out]; exact HOW.out.1, ?_⟩, fun x hx => HO.out.1.1 x (List.mem_of_mem_take hx), fun g hg => Nat.le_trans HGY.out.size (hnb g hg)⟩
        rw [← HM2.out]
        rcases HOW.out.2 with h | ⟨g, cap, cur, h1, h2, h3⟩
        · exact .inl h
        · exact .inr ⟨g, cap, cur, h1, Nat.zero_le _, h3⟩
      exact o1.kept (fun g hg => ⟨heap_setCell_other _ _ _ _ (fun e => by have := hnb g hg; simp only at e; omega), .inr (o1.blk g hg)⟩)
    have gF : Go4 w (Z2.setCell ⟨b, 0, none⟩ (.slice ac m2 kc)) (fun i => i = b) (fun i => i = b) := (HGY.out.trans (Go4.of_below HB.out)).trans (Go4.of_set (O := fun i => i = b) (a := ⟨b, 0, none⟩) rfl _)
    have HFIN := Lib.hid (And.intro bF (And.intro oF (And.intro gF hnb)))
    have hV : ∃ x, x = Z2.setCell ⟨b, 0, none⟩ (.slice ac m2 kc) := ⟨_, rfl⟩
    obtain ⟨V, hV⟩ := hV
    rw [← hV] at HFIN ⊢
    clear hV z0 z1 bF oF gF hnb hHeld
    refine hK.out _ _ ⟨fun h => (by cases h), ?_⟩
    clear hK
    try simp only [Act.put, List.setIfInBounds_toArray, List.set_cons_zero, List.set_cons_succ]
    refine AnyE.done (by kernel_rfl) (NoPanic.normal ?_) _
    go_simp
    go_end0
    refine ⟨rfl, _, HFIN.out.1, by rw [← HN.out.1]; exact HFIN.out.2.1, .inr (fun g hg => Nat.le_trans HGY.out.size (HFIN.out.2.2.2 g hg)), HFIN.out.2.2.1⟩
end Go.Proofs.Ytbheifelfeekmaa

namespace Go.Proofs.Ytbheifelfeekmaa
open Go.RowKit Go.MapKept Go.Sort
set_option linter.unusedVariables false
set_option linter.unusedSimpArgs false
variable {w w' W X : World} {O O' : Nat → Prop} {dB : Nat} {d : Dk4}
structure RdI4 (w : World) (O : Nat → Prop) (a : Option Addr) (k : Nat) (js : List Int) : Prop where
  cap : js.length ≤ k ∧ k ≤ maxLen
  cel : ∀ i j, js[i]? = some j → ∃ b off, a = some ⟨b, off, none⟩ ∧ ¬ O b ∧ w.cell? ⟨b, off + i, none⟩ = some (.int .i64 j)
theorem RdI4.go {a : Option Addr} {k : Nat} {js : List Int} (h : RdI4 w O a k js) (g : Go4 w w' O O') : RdI4 w' O' a k js := by
  refine ⟨h.cap, fun i j hj => ?_⟩
  obtain ⟨b, off, e, hn, hc⟩ := h.cel i j hj
  have hl := World.block_lt_of_cell? _ _ hc
  simp only at hl
  exact ⟨b, off, e, fun z => (g.new b z).elim hn (fun q => by omega), (World.cell?_of_block (a := ⟨b, off + i, none⟩) (g.block b hl hn)).trans hc⟩
def crashF (cuts : List Int) : List (List UInt8) → Nat → List PF → Nat × List PF
  | [], t, fs => (t, fs)
  | x :: xs, t, fs =>
    let v := (atP fs (ofL x)).getD ([], 0)
    if v.2 = v.1.length then crashF cuts xs t fs
    else crashF cuts xs (t + 1) (setP fs (ofL x, v.1.take (keepN v.2 v.1.length (cuts.getD t 0)), keepN v.2 v.1.length (cuts.getD t 0)))
def crashD (d : Dk4) (cuts : List Int) : Nat × Dk4 := ((crashF cuts (lsP d.fs ⟨#[]⟩) 0 d.fs).1, ⟨(crashF cuts (lsP d.fs ⟨#[]⟩) 0 d.fs).2, d.cap, 0, false, d.c⟩)
theorem cut_dsk {mb : Nat} {fl : List FE} {cap arm : Int} {down : Bool} {c : Nat → Int} {f : FE} {v' : Value} {k : Nat} (h : DskM w O dB mb fl cap arm down c) (hf : atF fl f.nm = some f) (hb : FBox w' f.b v' k) (ho : OwnO w' (fun i => f.v.ownBlock = some i ∨ w.heap.size ≤ i) v' (f.dat.take k)) (hv : v' = f.v ∨ ∀ g, v'.ownBlock = some g → w.heap.size ≤ g) (g : Go4 w w' (fun i => i = f.b) (fun i => i = f.b)) :
    ∃ O2, DskM w' O2 dB mb (setF fl ⟨f.nm, f.b, v', f.dat.take k, k⟩) cap arm down c ∧ Go4 w w' O O2 := by
  have hm := atF_mem hf
  have hfil := h.fil f hm.1
  have hw : ∀ i, v'.ownBlock = some i → i < w'.heap.size := fun i hi => by
    obtain ⟨cur, ht⟩ := ho.typ hi
    exact (Array.getElem?_eq_some_iff.1 ht).1
  have hv2 : ∀ i, v'.ownBlock = some i → O i ∨ w.heap.size ≤ i := fun i hi => by
    rcases hv with rfl | hv
    · exact .inl (hfil.2.1.blk i hi)
    · exact .inr (hv i hi)
  refine ⟨fun i => O i ∨ v'.ownBlock = some i, h.inF (f := f) (f' := ⟨f.nm, f.b, v', f.dat.take k, k⟩) hf rfl hb (ho.kept (fun g hg => ⟨rfl, .inr hg⟩)) (fun i hi => .inl hi) (fun i h1 h2 _ => g.block i (h.lt i h1) h2) (fun i hi => ?_) (fun i hi => ?_), ⟨g.os, g.tape, g.output, g.size, fun i hi hn => g.block i hi (fun e => hn (e ▸ hfil.2.2)), fun i hi => hi.elim .inl (hv2 i)⟩⟩
  · rcases hv with rfl | hv
    · exact .inl hi
    · exact .inr (fun z => by have := hv i hi; have := h.lt i z; omega)
  · exact hi.elim (fun z => Nat.lt_of_lt_of_le (h.lt i z) g.size) (hw i)
theorem OwnS.ne {B n b syn : Nat} {v v2 : Value} {ss : List (List UInt8)} (h : OwnS w B v n ss) (k : FBox w b v2 syn) : ∀ g, v.ownBlock = some g → g ≠ b := by
  intro g hg e
  rcases h.2.2 with ⟨rfl, _⟩ | ⟨g2, cap, cur, rfl, _, h5, _⟩
  · cases hg
  · simp only [Value.ownBlock, Option.some.injEq] at hg
    unfold FBox at k
    rw [hg, e, k] at h5
    simp only [Option.some.injEq, Obj.cells.injEq] at h5
    exact absurd h5.2.1 (by decide)
theorem OwnS.go {B n b : Nat} {v : Value} {ss : List (List UInt8)} (h : OwnS w B v n ss) (g : Go4 w w' (fun i => i = b) O') (hn : ∀ g, v.ownBlock = some g → g ≠ b) : OwnS w' B v n ss := by
  refine ⟨h.1, h.2.1, ?_⟩
  rcases h.2.2 with h2 | ⟨g2, cap, cur, h3, h4, h5, h6⟩
  · exact .inl h2
  · exact .inr ⟨g2, cap, cur, h3, h4, by rw [g.block g2 (Array.getElem?_eq_some_iff.1 h5).1 (hn g2 (by rw [h3]; rfl))]; exact h5, h6⟩
theorem atP_set_ne {f : PF} {s : ByteArray} (hne : f.1 ≠ s) : ∀ l : List PF, (∃ v, atP l f.1 = some v) → atP (setP l f) s = atP l s
  | [], h => by obtain ⟨v, hv⟩ := h; cases hv
  | x :: xs, h => by
    by_cases e : x.1 = f.1
    · rw [setP, if_pos e, atP, atP, if_neg hne, if_neg (fun q => hne (by rw [← e, q]))]
    · rw [setP, if_neg e, atP, atP]
      rw [atP, if_neg e] at h
      by_cases e2 : x.1 = s
      · rw [if_pos e2, if_pos e2]
      · rw [if_neg e2, if_neg e2, atP_set_ne hne xs h]
theorem atP_set_some {f : PF} {s : ByteArray} : ∀ l : List PF, (∃ v, atP l f.1 = some v) → (∃ v, atP l s = some v) → ∃ v, atP (setP l f) s = some v := fun l h k => by
  by_cases e : f.1 = s
  · subst e
    obtain ⟨v, hv⟩ := h
    have hm := setP_names (f := f) hv
    cases hq : atP (setP l f) f.1 with
    | some v => exact ⟨v, rfl⟩
    | none =>
      exfalso
      have h1 : f.1 ∈ l.map (·.1) := List.mem_map.2 ⟨_, atP_mem hv, rfl⟩
      rw [← hm] at h1
      obtain ⟨p, hp, e⟩ := List.mem_map.1 h1
      exact atP_none hq p hp e
  · rw [atP_set_ne e l h]
    exact k
set_option maxRecDepth 100000 in
set_option maxHeartbeats 4000000 in
theorem crash_any {a : Option Addr} {nc kc : Nat} {cuts : List Int} (hD : Dsk w O dB d) (hr : RdI4 w O a kc cuts) (hnc : nc = cuts.length) :
    Calls Try.prog 23 #[.pointer (some ⟨dB, 0, none⟩), .slice a nc kc] w fun e w' => e = .returned (.int .i64 ((crashD d cuts).1 : Int)) ∧ ∃ O2, Dsk w' O2 dB (crashD d cuts).2 ∧ Go4 w w' O O2 := by
  have HD := Lib.hid hD
  have HLIST := Lib.hid (list_dsk hD ⟨#[]⟩)
  obtain ⟨L, hL⟩ : ∃ L, L = lsP d.fs ⟨#[]⟩ := ⟨_, rfl⟩
  obtain ⟨R, hR⟩ : ∃ R, R = crashF cuts L 0 d.fs := ⟨_, rfl⟩
  have hC : crashD d cuts = (R.1, ⟨R.2, d.cap, 0, false, d.c⟩) := by rw [hR, hL]; rfl
  rw [hC]
  rw [← hL] at HLIST
  have hlen : L.length ≤ 256 := by
    rw [hL]
    unfold lsP
    rw [List.length_mergeSort, List.length_map]
    refine Nat.le_trans (List.length_filter_le _ _) ?_
    rw [List.length_map]
    exact hD.1.cnt
  have hall : ∀ x ∈ L, ∃ v, atP d.fs (ofL x) = some v := fun x hx => lsP_at (by rw [← hL]; exact hx)
  have HL := Lib.hid (And.intro hlen (And.intro hall hR))
  have hncx : nc ≤ 9223372036854775807 := by have := hr.cap; unfold maxLen at this; omega
  have HR := Lib.hid hr
  have HNC := Lib.hid hnc
  clear hD hL hC hlen hall hr hnc hR
  simp only
  go_enter Try.func23, Try.ntmps23
  go_wp2_with fail
  refine HLIST.out.mono ?_
  rintro e w1 ⟨al, nl, kl, rfl, o1, b1⟩
  have HO1 := Lib.hid o1
  have HD1 := Lib.hid (And.intro (HD.out.below b1) (And.intro (Go4.of_below (O := O) b1) (HR.out.go (Go4.of_below (O := O) b1))))
  have hnl : nl ≤ 256 := by rw [o1.1]; exact HL.out.1
  clear o1 b1
  go_wp2_with fail
  go_loopw [5, 13] (fun tv i wr => ∃ (t tl : Nat) (fs : List PF) (O2 : Nat → Prop), t ≤ nl ∧ tl ≤ t ∧ i = .int .i64 (t : Int) ∧ tv = .int .i64 (tl : Int) ∧ Dsk wr O2 dB ⟨fs, d.cap, d.arm, d.down, d.c⟩ ∧ Go4 w wr O O2 ∧ RdI4 wr O2 a kc cuts ∧ OwnS wr w.heap.size (.slice al nl kl) nl L ∧ (∀ x ∈ L, ∃ v, atP fs (ofL x) = some v) ∧ R = crashF cuts (L.drop t) tl fs) (fun _ i _ => nl - (intOf i).toNat)
  case atStart => exact ⟨0, 0, d.fs, O, Nat.zero_le _, Nat.le_refl _, rfl, rfl, HD1.out.1, HD1.out.2.1, HD1.out.2.2, HO1.out, HL.out.2.1, HL.out.2.2⟩
  case round =>
    obtain ⟨t, tl, fs, O2, ht, htl, rfl, rfl, hdsk, hgo, hri, hown, hat, hRR⟩ := hrel
    have HDK := Lib.hid (And.intro hdsk (And.intro hgo (And.intro hri (And.intro hat hRR))))
    have HOWN := Lib.hid hown
    clear hdsk hgo hri hat hRR hown
    by_cases hlt : t < nl
    · skip
      have j1 : (t : Int) < (nl : Int) := by omega
      have j2 : (0 : Int) ≤ (t : Int) := by omega
      have htL : t < L.length := by rw [← HOWN.out.1]; exact hlt
      have hx : ∃ x, L[t]? = some x := ⟨_, List.getElem?_eq_getElem htL⟩
      obtain ⟨x, hx⟩ := hx
      have hdrop : L.drop t = x :: L.drop (t + 1) := by
        rw [List.drop_eq_getElem_cons htL]
        rw [List.getElem?_eq_getElem htL] at hx
        cases hx
        rfl
      have hc := HOWN.out.rd.2.cel t (ofL x) (by rw [List.getElem?_map, hx]; rfl)
      obtain ⟨gl, hc⟩ := hc
      obtain ⟨ol, hc⟩ := hc
      have hal := hc.1
      have hcl := hc.2
      subst hal
      clear hc
      have hd5 := HDK.out.1
      unfold Dsk at hd5
      have hd6 := hd5.2
      obtain ⟨mb, hd6⟩ := hd6
      obtain ⟨fl, hd6⟩ := hd6
      have hM := hd6.1
      have hfs := hd6.2
      have hok := hd5.1
      simp only at hM hfs
      clear hd5 hd6
      have hatF : ∃ f, atF fl (ofL x) = some f ∧ atP fs (ofL x) = some (f.dat, f.syn) := by
        obtain ⟨v, hv⟩ := HDK.out.2.2.2.1 x (List.mem_of_getElem? hx)
        rw [← hfs, atF_pf] at hv ⊢
        cases h : atF fl (ofL x) with
        | none => rw [h] at hv; cases hv
        | some f => exact ⟨f, rfl, rfl⟩
      obtain ⟨f, hf⟩ := hatF
      obtain ⟨fn, fb, fv, fd, fy⟩ := f
      have hf1 := hf.1
      have hf2 := hf.2
      simp only at hf2
      have hmem := atF_mem hf1
      have hfn := hmem.2
      simp only at hfn
      subst hfn
      have hfb := hM.fil _ hmem.1
      have hform := hfb.2.1.form
      obtain ⟨af, hform⟩ := hform
      obtain ⟨kf, hform⟩ := hform
      simp only at hform
      have hnf : ∃ nf, nf = fd.length := ⟨_, rfl⟩
      obtain ⟨nf, hnf⟩ := hnf
      rw [← hnf] at hform
      subst hform
      have hsy : fy ≤ nf := by rw [hnf]; exact hok.syn _ (atP_mem hf2)
      have hlen2 : nf ≤ 67108864 := by have := totP_mem hf2; simp only at this; have := hok.tot; have := hok.cap1; simp only at *; omega
      have hmp := hM.map
      obtain ⟨es, hmp⟩ := hmp
      obtain ⟨ck, hmp⟩ := hmp
      have hlook := hmp.look (ofL x)
      have e1 : atN (fl.map fun f => (f.nm, f.b)) (ofL x) = some fb := by
        have := atF_nb (ofL x) fl
        rw [hf1] at this
        exact this
      rw [e1] at hlook
      have hlook2 : (Instr.lookup 76 (.map (some mb)) (.string (ofL x)) false).run Try.prog wr = .ok (.pointer (some ⟨fb, 0, none⟩)) wr := hlook
      have c0 := hM.box.cells.1
      have lfb := hfb.1.lt
      simp only at lfb
      have HX := Lib.hid (And.intro hM (And.intro hfs (And.intro hok (And.intro hf1 (And.intro hf2 (And.intro hdrop (And.intro hfb hnf)))))))
      have HSY := Lib.hid hsy
      clear hM hfs hok hf hf1 hf2 hmp hlook e1 hmem hfb hdrop hx hnf
      go_upto_region 6 with fail
      have BD : Below wr.heap.size wr wr.drew := (Below.refl _ _).drew
      refine wp_region_noPanic ?_
      refine wp_region_anyE (S := fun wx => Below wr.heap.size wr wx) (E := fun j => true) (by kernel_rfl) ?_
      have hHeld : Below wr.heap.size wr wr.drew := BD
      have HB := Lib.hid BD
      have hZ0 : ∃ z, z = wr.drew := ⟨_, rfl⟩
      obtain ⟨Z0, hZ0⟩ := hZ0
      rw [← hZ0] at HB hHeld ⊢
      clear hZ0 BD
      refine AnyE.take (i := 0) (.pointer (some ⟨fb, 0, none⟩)) rfl (by kernel_rfl) (by kernel_rfl) (by kernel_rfl) (by kernel_rfl) (fun _ _ _ h => h) (.inl ⟨by kernel_rfl, fun wy hy => by (go_simp; done)⟩) hHeld ?_
      try simp only [Act.put, List.setIfInBounds_toArray, List.set_cons_zero, List.set_cons_succ]
      refine AnyE.take (i := 1) (.pointer (some ⟨fb, 0, none⟩)) rfl (by kernel_rfl) (by kernel_rfl) (by kernel_rfl) (by kernel_rfl) (fun _ _ _ h => h) (.inl ⟨by kernel_rfl, fun wy hy => by (go_simp; done)⟩) hHeld ?_
      try simp only [Act.put, List.setIfInBounds_toArray, List.set_cons_zero, List.set_cons_succ]
      refine AnyE.take (i := 2) (.pointer (some ⟨fb, 1, none⟩)) rfl (by kernel_rfl) (by kernel_rfl) (by kernel_rfl) (by kernel_rfl) (fun _ _ _ h => h) (.inl ⟨by kernel_rfl, fun wy hy => by (go_simp; done)⟩) hHeld ?_
      try simp only [Act.put, List.setIfInBounds_toArray, List.set_cons_zero, List.set_cons_succ]
      refine AnyE.take (i := 3) (.int .i64 (fy : Int)) rfl (by kernel_rfl) (by kernel_rfl) (by kernel_rfl) (by kernel_rfl) (fun _ _ _ h => h) (.inl ⟨by kernel_rfl, fun wy hy => by (have q0 := ((HX.out.2.2.2.2.2.2.1.1).kept (hy.block _ lfb)).cells.2; go_simp; done)⟩) hHeld ?_
      try simp only [Act.put, List.setIfInBounds_toArray, List.set_cons_zero, List.set_cons_succ]
      refine AnyE.take (i := 4) (.pointer (some ⟨fb, 0, none⟩)) rfl (by kernel_rfl) (by kernel_rfl) (by kernel_rfl) (by kernel_rfl) (fun _ _ _ h => h) (.inl ⟨by kernel_rfl, fun wy hy => by (go_simp; done)⟩) hHeld ?_
      try simp only [Act.put, List.setIfInBounds_toArray, List.set_cons_zero, List.set_cons_succ]
      refine AnyE.take (i := 5) (.pointer (some ⟨fb, 0, none⟩)) rfl (by kernel_rfl) (by kernel_rfl) (by kernel_rfl) (by kernel_rfl) (fun _ _ _ h => h) (.inl ⟨by kernel_rfl, fun wy hy => by (go_simp; done)⟩) hHeld ?_
      try simp only [Act.put, List.setIfInBounds_toArray, List.set_cons_zero, List.set_cons_succ]
      refine AnyE.take (i := 6) (.pointer (some ⟨fb, 0, none⟩)) rfl (by kernel_rfl) (by kernel_rfl) (by kernel_rfl) (by kernel_rfl) (fun _ _ _ h => h) (.inl ⟨by kernel_rfl, fun wy hy => by (go_simp; done)⟩) hHeld ?_
      try simp only [Act.put, List.setIfInBounds_toArray, List.set_cons_zero, List.set_cons_succ]
      refine AnyE.take (i := 7) (.slice af nf kf) rfl (by kernel_rfl) (by kernel_rfl) (by kernel_rfl) (by kernel_rfl) (fun _ _ _ h => h) (.inl ⟨by kernel_rfl, fun wy hy => by (have q0 := ((HX.out.2.2.2.2.2.2.1.1).kept (hy.block _ lfb)).cells.1; go_simp; done)⟩) hHeld ?_
      try simp only [Act.put, List.setIfInBounds_toArray, List.set_cons_zero, List.set_cons_succ]
      refine AnyE.take (i := 8) (.int .i64 (nf : Int)) rfl (by kernel_rfl) (by kernel_rfl) (by kernel_rfl) (by kernel_rfl) (fun _ _ _ h => h) (.inl ⟨by kernel_rfl, fun wy hy => by (go_simp; first | done | (cases af <;> (go_simp; done)))⟩) hHeld ?_
      try simp only [Act.put, List.setIfInBounds_toArray, List.set_cons_zero, List.set_cons_succ]
      refine AnyE.take (i := 9) (.bool ((fy : Int) == (nf : Int))) rfl (by kernel_rfl) (by kernel_rfl) (by kernel_rfl) (by kernel_rfl) (fun _ _ _ h => h) (.inl ⟨by kernel_rfl, fun wy hy => by (go_simp; done)⟩) hHeld ?_
      try simp only [Act.put, List.setIfInBounds_toArray, List.set_cons_zero, List.set_cons_succ]
      refine AnyE.done (by kernel_rfl) (NoPanic.normal ?_) _
      have hZ9 : ∃ z, z = Z0 := ⟨_, rfl⟩
      obtain ⟨Y, hZ9⟩ := hZ9
      rw [← hZ9] at HB ⊢
      clear hHeld hZ9 hlook2 c0 hcl
      go_simp
      go_step
      have hRR := HDK.out.2.2.2.2
      rw [HX.out.2.2.2.2.2.1, crashF, HX.out.2.2.2.2.1] at hRR
      simp only [Option.getD_some] at hRR
      rw [← HX.out.2.2.2.2.2.2.2] at hRR
      have HRR := Lib.hid hRR
      have HGY := Lib.hid (HDK.out.2.1.trans (Go4.of_below (O := O2) HB.out))
      have HOY := Lib.hid (HOWN.out.later HB.out)
      have HRY := Lib.hid (HDK.out.2.2.1.go (Go4.of_below (O := O2) HB.out))
      have HMY := Lib.hid (HX.out.1.below HB.out)
      clear hRR
      by_cases hs : fy = nf
      · have d1 : ((fy : Int) == (nf : Int)) = true := by simp [hs]
        have HS := Lib.hid hs
        clear hs
        go_wp2
        go_roundw
        case rel =>
          have h1 := HRR.out
          rw [if_pos HS.out] at h1
          exact ⟨t + 1, tl, fs, O2, by omega, by omega, by go_num, rfl, ⟨HX.out.2.2.1, mb, fl, HMY.out, HX.out.2.1⟩, HGY.out, HRY.out, HOY.out, HDK.out.2.2.2.1, h1⟩
        case measure => simp [intOf]; omega
      · have d1 : ((fy : Int) == (nf : Int)) = false := by simp; omega
        have HS := Lib.hid hs
        clear hs
        by_cases hcu : tl < nc
        · have i1 : (tl : Int) < (nc : Int) := by omega
          have i2 : (0 : Int) ≤ (tl : Int) := by omega
          have hj : ∃ j, cuts[tl]? = some j := ⟨_, List.getElem?_eq_getElem (by rw [← HNC.out]; exact hcu)⟩
          obtain ⟨st, hj⟩ := hj
          have hcc := HRY.out.cel tl st hj
          obtain ⟨bc, hcc⟩ := hcc
          obtain ⟨oc, hcc⟩ := hcc
          have hac := hcc.1
          have hcv := hcc.2.2
          subst hac
          have hst : cuts.getD tl 0 = st := by rw [List.getD_eq_getElem?_getD, hj]; rfl
          have HST := Lib.hid hst
          clear hcc hst hj
          go_wp2_with fail
          refine (cut_any (b := fb) (syn := fy) (v := .slice af nf kf) (dat := fd) (st := st) (HMY.out.fil _ (atF_mem HX.out.2.2.2.1).1).1 (HMY.out.fil _ (atF_mem HX.out.2.2.2.1).1).2.1 (by rw [← HX.out.2.2.2.2.2.2.2]; exact HSY.out) (by rw [← HX.out.2.2.2.2.2.2.2]; exact hlen2) (fun g hg => (HMY.out.neDat (atF_mem HX.out.2.2.2.1).1 hg).2.2 _ (atF_mem HX.out.2.2.2.1).1)).mono ?_
          rintro e Y2 ⟨rfl, v', bx2, ox2, hv2, g2⟩
          have hcut := cut_dsk (f := ⟨ofL x, fb, .slice af nf kf, fd, fy⟩) HMY.out HX.out.2.2.2.1 bx2 ox2 hv2 g2
          obtain ⟨O3, hcut⟩ := hcut
          have hkl := keepN_le (syn := fy) (len := fd.length) (by rw [← HX.out.2.2.2.2.2.2.2]; exact HSY.out) st
          have hfo : FsOk d.cap (setP fs (ofL x, fd.take (keepN fy fd.length st), keepN fy fd.length st)) := fsOk_set (d := ⟨fs, d.cap, d.arm, d.down, d.c⟩) HX.out.2.2.1 HX.out.2.2.2.2.1 (by have h1 := HX.out.2.2.1.tot; have h2 := HX.out.2.2.1.cap0; simp only at h1 h2 ⊢; rw [List.length_take]; omega) (by rw [List.length_take]; omega)
          have hpf : (setF fl ⟨ofL x, fb, v', fd.take (keepN fy fd.length st), keepN fy fd.length st⟩).map FE.pf = setP fs (ofL x, fd.take (keepN fy fd.length st), keepN fy fd.length st) := by rw [setF_pf, HX.out.2.1]; rfl
          have HC := Lib.hid (And.intro hcut.1 (And.intro hcut.2 (And.intro hfo hpf)))
          have HO9 := Lib.hid (HOY.out.go g2 (HOY.out.ne (HMY.out.fil _ (atF_mem HX.out.2.2.2.1).1).1))
          clear bx2 ox2 hv2 g2 hcut hkl hfo hpf
          go_wp2
          go_roundw
          case rel =>
            have h1 := HRR.out
            rw [if_neg HS.out, HST.out, HX.out.2.2.2.2.2.2.2] at h1
            exact ⟨t + 1, tl + 1, _, O3, by omega, by omega, by go_num, by go_num, ⟨HX.out.2.2.1.mk2 HC.out.2.2.1 HX.out.2.2.1.arm0 HX.out.2.2.1.arm1 _ _, mb, _, HC.out.1, HC.out.2.2.2⟩, HGY.out.trans HC.out.2.1, HRY.out.go HC.out.2.1, HO9.out, fun y hy => atP_set_some _ ⟨_, HX.out.2.2.2.2.1⟩ (HDK.out.2.2.2.1 y hy), h1⟩
          case measure => simp [intOf]; omega
        · have i1 : ¬ (tl : Int) < (nc : Int) := by omega
          have hst : cuts.getD tl 0 = 0 := by rw [List.getD_eq_getElem?_getD, List.getElem?_eq_none (by rw [← HNC.out]; omega)]; rfl
          have HST := Lib.hid hst
          clear hst
          go_wp2_with fail
          refine (cut_any (b := fb) (syn := fy) (v := .slice af nf kf) (dat := fd) (st := 0) (HMY.out.fil _ (atF_mem HX.out.2.2.2.1).1).1 (HMY.out.fil _ (atF_mem HX.out.2.2.2.1).1).2.1 (by rw [← HX.out.2.2.2.2.2.2.2]; exact HSY.out) (by rw [← HX.out.2.2.2.2.2.2.2]; exact hlen2) (fun g hg => (HMY.out.neDat (atF_mem HX.out.2.2.2.1).1 hg).2.2 _ (atF_mem HX.out.2.2.2.1).1)).mono ?_
          rintro e Y2 ⟨rfl, v', bx2, ox2, hv2, g2⟩
          have hcut := cut_dsk (f := ⟨ofL x, fb, .slice af nf kf, fd, fy⟩) HMY.out HX.out.2.2.2.1 bx2 ox2 hv2 g2
          obtain ⟨O3, hcut⟩ := hcut
          have hkl := keepN_le (syn := fy) (len := fd.length) (by rw [← HX.out.2.2.2.2.2.2.2]; exact HSY.out) 0
          have hfo : FsOk d.cap (setP fs (ofL x, fd.take (keepN fy fd.length 0), keepN fy fd.length 0)) := fsOk_set (d := ⟨fs, d.cap, d.arm, d.down, d.c⟩) HX.out.2.2.1 HX.out.2.2.2.2.1 (by have h1 := HX.out.2.2.1.tot; have h2 := HX.out.2.2.1.cap0; simp only at h1 h2 ⊢; rw [List.length_take]; omega) (by rw [List.length_take]; omega)
          have hpf : (setF fl ⟨ofL x, fb, v', fd.take (keepN fy fd.length 0), keepN fy fd.length 0⟩).map FE.pf = setP fs (ofL x, fd.take (keepN fy fd.length 0), keepN fy fd.length 0) := by rw [setF_pf, HX.out.2.1]; rfl
          have HC := Lib.hid (And.intro hcut.1 (And.intro hcut.2 (And.intro hfo hpf)))
          have HO9 := Lib.hid (HOY.out.go g2 (HOY.out.ne (HMY.out.fil _ (atF_mem HX.out.2.2.2.1).1).1))
          clear bx2 ox2 hv2 g2 hcut hkl hfo hpf
          go_wp2
          go_roundw
          case rel =>
            have h1 := HRR.out
            rw [if_neg HS.out, HST.out, HX.out.2.2.2.2.2.2.2] at h1
            exact ⟨t + 1, tl + 1, _, O3, by omega, by omega, by go_num, by go_num, ⟨HX.out.2.2.1.mk2 HC.out.2.2.1 HX.out.2.2.1.arm0 HX.out.2.2.1.arm1 _ _, mb, _, HC.out.1, HC.out.2.2.2⟩, HGY.out.trans HC.out.2.1, HRY.out.go HC.out.2.1, HO9.out, fun y hy => atP_set_some _ ⟨_, HX.out.2.2.2.2.1⟩ (HDK.out.2.2.2.1 y hy), h1⟩
          case measure => simp [intOf]; omega
    · have j1 : (nl : Int) ≤ (t : Int) := by omega
      have hend : L.drop t = [] := by rw [List.drop_eq_nil_iff]; have := HOWN.out.1; omega
      have HEND := Lib.hid hend
      clear hend hlt
      have hd5 := HDK.out.1
      unfold Dsk at hd5
      have hd6 := hd5.2
      obtain ⟨mb, hd6⟩ := hd6
      obtain ⟨fl, hd6⟩ := hd6
      have hM := hd6.1
      have hfs := hd6.2
      have z3 := hM.box.fz 3
      have z2 := hM.box.fz 2
      have c3 := hM.box.cells.2.2.2.1
      have c2 := hM.box.cells.2.2.1
      simp only at c3 c2
      have hM2 := (hM.setDown false).setArm 0
      have gM2 : Go4 wr ((wr.setCell ⟨dB, 3, none⟩ (.bool false)).setCell ⟨dB, 2, none⟩ (.int .i64 0)) O2 O2 := (Go4.of_set (a := ⟨dB, 3, none⟩) hM.odb _).trans (Go4.of_set (a := ⟨dB, 2, none⟩) hM.odb _)
      have HF := Lib.hid (And.intro hM2 (And.intro gM2 (And.intro hd5.1 hfs)))
      clear hM hfs hd5 hd6 hM2 gM2
      go_wp2
      go_ret
      have hRR := HDK.out.2.2.2.2
      rw [HEND.out] at hRR
      have r1 : R = (tl, fs) := hRR
      rw [r1]
      refine ⟨rfl, O2, ⟨HF.out.2.2.1.mk2 HF.out.2.2.1.fs (by omega) (by omega) _ _, mb, fl, HF.out.1, HF.out.2.2.2⟩, HDK.out.2.1.trans HF.out.2.1⟩
end Go.Proofs.Ytbheifelfeekmaa
