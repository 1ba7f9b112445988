import Derived.Test.YtieehdhinponcaaJ04
namespace Go.Proofs.Ytieehdhinponcaa
open Go.RowKit Go.Shelf
set_option linter.unusedVariables false
attribute [local go_sem] Oper.semAt_some

theorem own_shut {w w' : World} {B g n c : Nat} {xs : List Nat} (h : Own w B (.slice (some ⟨g, 0, none⟩) n c) n xs) (hs : Shut B w w') : Own w' B (.slice (some ⟨g, 0, none⟩) n c) n xs := by
  refine ⟨h.1, h.2.1, ?_⟩
  rcases h.2.2 with h2 | ⟨g', cap, cur, h3, h4, h5, h6⟩
  · exact .inl h2
  · exact .inr ⟨g', cap, cur, h3, h4, hs.cells g' _ h5 rfl, h6⟩
theorem rdp_bys {w : World} {v : Value} {ks : List (List Nat)} (h : RdP w v ks) : ∀ k ∈ ks, Bys k := by
  intro k hk
  obtain ⟨_, a, cap, _, hp⟩ := h
  rcases hp with rfl | ⟨b, off, rfl, hc⟩
  · cases hk
  · obtain ⟨i, hi, rfl⟩ := List.mem_iff_getElem.1 hk
    obtain ⟨u, _, hr⟩ := hc i hi
    have := hr.1
    rwa [show ks.getD i [] = ks[i] by simp [List.getD, hi]] at this
set_option maxRecDepth 100000 in
set_option maxHeartbeats 4000000 in
theorem build_any {v : Value} {ks : List (List Nat)} {w : World} (b : Int) (hp : RdP w v ks) :
    Calls Try.prog 13 #[.int .i64 b, v] w fun e w' => ∃ a m c, e = .returned (.tuple #[.slice a m c, .int .i64 ((bldE b ks.length : Nat) : Int)]) ∧ Own w' w.heap.size (.slice a m c) m (bldL b ks) ∧ Below w.heap.size w w' := by
  have HP : Hid (RdP w v ks) := hp
  obtain ⟨hn48, va, cap, rfl, hp⟩ := hp
  clear hp
  obtain ⟨N0, hN0⟩ : ∃ N, N = ks.length := ⟨_, rfl⟩
  have HN0 : Hid (N0 = ks.length) := hN0
  unfold bldL
  rw [← hN0] at hn48 HP ⊢
  clear hN0
  by_cases h1 : b < 1 ∨ 20 < b
  · have e : bldE b N0 = 60 := by unfold bldE; rw [if_pos h1]
    rw [e]
    refine callsIn_wide.1 (callsIn_of_wp_marks (n := 5) Try.func13 rfl trivial (wpIn_wide.2 ?_) rfl)
    simp only [Try.ntmps13, List.size_toArray, List.length_cons, List.length_nil, Nat.reduceAdd, Nat.reduceSub, Array.replicate_succ, Array.replicate_zero, List.push_toArray, List.append_toArray, List.nil_append, List.cons_append]
    go_wp2
    all_goals first
      | (exfalso; omega)
      | exact ⟨.tuple #[.slice none 0 0, .int .i64 60], by simp [results, Try.results13, go_sem], none, 0, 0, rfl, ⟨rfl, World.ownsRow_nil _ _ _ _⟩, Below.refl _ _⟩
  · by_cases h2 : 1048576 < N0
    · have e : bldE b N0 = 61 := by unfold bldE; rw [if_neg h1, if_pos h2]
      rw [e]
      have h3 : (1048576 : Int) < (N0 : Int) := by omega
      refine callsIn_wide.1 (callsIn_of_wp_marks (n := 5) Try.func13 rfl trivial (wpIn_wide.2 ?_) rfl)
      simp only [Try.ntmps13, List.size_toArray, List.length_cons, List.length_nil, Nat.reduceAdd, Nat.reduceSub, Array.replicate_succ, Array.replicate_zero, List.push_toArray, List.append_toArray, List.nil_append, List.cons_append]
      go_wp2
      all_goals first
        | (exfalso; omega)
        | exact ⟨.tuple #[.slice none 0 0, .int .i64 61], by simp [results, Try.results13, go_sem], none, 0, 0, rfl, ⟨rfl, World.ownsRow_nil _ _ _ _⟩, Below.refl _ _⟩
    · have e : bldE b N0 = 0 := by unfold bldE; rw [if_neg h1, if_neg h2]
      rw [e]
      obtain ⟨bn, rfl⟩ : ∃ bn : Nat, b = (bn : Int) := ⟨b.toNat, by omega⟩
      have hb1 : 1 ≤ bn ∧ bn ≤ 20 := by omega
      have hu := uniq_le ks
      rw [← HN0.out] at hu
      obtain ⟨U, hU⟩ : ∃ U, U = (uniq ks).length := ⟨_, rfl⟩
      have hUl : U ≤ 1048576 := by omega
      obtain ⟨p, hp⟩ : ∃ p, p = pOf bn := ⟨_, rfl⟩
      obtain ⟨m, hm⟩ : ∃ m, m = mOf bn U := ⟨_, rfl⟩
      have hpl := pOf_le hb1.2
      have hml := mOf_le (n := U) hb1.2 hUl
      rw [← hp] at hpl
      rw [← hm] at hml
      have HSh : Hid (∀ wx, Calls Try.prog 34 #[.int .i64 (bn : Int), .int .i64 (U : Int)] wx fun e w' => e = .returned (.agg #[.int .u8 (p : Int), .int .u32 (m : Int)]) ∧ Below wx.heap.size wx w') := fun wx => by
        rw [hp, hm]; exact shapeOf_any bn U hb1 hUl wx
      have HEm : Hid (∀ wx, Calls Try.prog 35 #[.agg #[.int .u8 (p : Int), .int .u32 (m : Int)]] wx fun e w' => ∃ g c, e = .returned (.slice (some ⟨g, 0, none⟩) (6 + m / 8) c) ∧ Own w' wx.heap.size (.slice (some ⟨g, 0, none⟩) (6 + m / 8) c) (6 + m / 8) (filt p m (fun _ => false)) ∧ Below wx.heap.size wx w') := fun wx => empty_any p m (by omega) (by omega) wx
      have HHs : Hid (Calls Try.prog 33 #[.slice va N0 cap] w fun e w' => ∃ b n D, e = .returned (.map (some b)) ∧ w.heap.size ≤ b ∧ w'.ownsMap Try.prog 9 halfR b n D ∧ MapP D ks ∧ Below w.heap.size w w') := hashes_any HP.out (by rw [← HN0.out]; omega)
      have HL0 : buildL ((bn : Int)).toNat ks = filt p m (keyS ks p m) := by
        rw [hp, hm, hU, Int.toNat_natCast]; unfold buildL; rfl
      have HL : Hid (buildL ((bn : Int)).toNat ks = filt p m (keyS ks p m)) := HL0
      clear HL0
      obtain ⟨Nf, hNf⟩ : ∃ Nf, Nf = 6 + m / 8 := ⟨_, rfl⟩
      rw [← hNf] at HEm
      have HU : Hid (U = (uniq ks).length) := hU
      have HNf : Hid (Nf = 6 + m / 8) := hNf
      have hNf2 : 14 ≤ Nf ∧ Nf ≤ 3000000 := by omega
      have h4 : ¬ ((1048576 : Int) < (N0 : Int)) := by omega
      clear hU hu hp hm h1 h2 e hn48 hNf
      rw [if_pos rfl, HL.out]
      refine callsIn_wide.1 (callsIn_of_wp_marks (n := 5) Try.func13 rfl trivial (wpIn_wide.2 ?_) rfl)
      simp only [Try.ntmps13, List.size_toArray, List.length_cons, List.length_nil, Nat.reduceAdd, Nat.reduceSub, Array.replicate_succ, Array.replicate_zero, List.push_toArray, List.append_toArray, List.nil_append, List.cons_append]
      go_wp2_with (first | (go_at_call 33; refine Calls.mono HHs.out ?_; rintro e1 w1 ⟨bm, nm, D, rfl, hbm, hown1, hmp, b1⟩; have hsz : Hid (Maps.size D = U) := hmp.2.2.2.trans HU.out.symm) | (at_len; refine wpList_len_own _ rfl _ 55 rfl 9 63 und_map halfR bm nm D rfl hown1 ?_; rw [hsz.out]) | (go_at_call 34; refine Calls.mono (HSh.out _) ?_; rintro e2 w2 ⟨rfl, b2⟩) | (go_at_call 35; refine Calls.mono (HEm.out _) ?_; rintro e3 w3 ⟨g, c, rfl, own3, b3⟩; obtain ⟨w4, hw4⟩ : ∃ w4, w4 = w3.alloc (.cells #[.slice (some ⟨g, 0, none⟩) Nf c] 24) := ⟨_, rfl⟩; have hw4' : Hid (w4 = w3.alloc (.cells #[.slice (some ⟨g, 0, none⟩) Nf c] 24)) := hw4; clear hw4; have hown4 : w4.ownsMap Try.prog 9 halfR bm nm D := (by rw [hw4'.out]; exact (ownsMap_later (ownsMap_later (ownsMap_later hown1 b2) ((Below.refl _ w2).alloc (Nat.le_refl _) _)) b3).alloc _)) | (at_range; rw [← hw4'.out]; refine wpList_range_own _ rfl _ 55 rfl 9 63 keyed und_map halfR bm nm D rfl hown4 ?_; intro w5 hrg5 hg5 hs5))
      go_frame
      have bel2 : Below w.heap.size w (w2.alloc (.cells #[.int .u8 (p : Int), .int .u32 (m : Int)] 59)) := (b1.trans (b2.mono b1.size)).alloc (Nat.le_trans b1.size b2.size) _
      have hB7 : (w2.alloc (.cells #[.int .u8 (p : Int), .int .u32 (m : Int)] 59)).heap[w2.heap.size]? = some (.cells #[.int .u8 (p : Int), .int .u32 (m : Int)] 59 (0, 0)) := World.alloc_heap_new w2 _
      have hB73 : w3.heap[w2.heap.size]? = some (.cells #[.int .u8 (p : Int), .int .u32 (m : Int)] 59 (0, 0)) := (b3.block _ (by simp)).trans hB7
      have hrel0 : BRel w w5 ks p m bm nm w4.heap.size w2.heap.size w3.heap.size g c Nf D (Maps.has D) (Maps.size D) [] := by
        have bel3 : Below w.heap.size w w3 := bel2.trans (b3.mono bel2.size)
        have own3' : Own w3 w.heap.size (.slice (some ⟨g, 0, none⟩) Nf c) Nf (filt p m (fun _ => false)) := own3.mono bel2.size
        have e : filt p m (fun _ => false) = filt p m (leftS ks p m (Maps.has D)) := by
          refine filt_congr hml.2.2 fun i hi => ?_
          symm
          unfold leftS
          rw [List.any_eq_false]
          intro k hk
          have : Maps.has D (litK k) = true := by
            rw [hmp.2.1, List.any_eq_true]
            exact ⟨k, hk, WideAt.sameKey_self (litK_key k)⟩
          simp [this]
        rw [e] at own3'
        have g4 : w3.grownBy w4 none := by rw [hw4'.out]; exact World.grownBy_alloc _ _ _
        have bx4 : Boxed w4 w3.heap.size 24 (.slice (some ⟨g, 0, none⟩) Nf c) := by rw [hw4'.out]; exact Boxed.new w3 _ _
        refine ⟨hrg5, fun kl h => h, keepObj hg5 (keepObj g4 hB73 (by simp)) (by simp), bx4.kept hg5 (by simp), own_kept (own_kept own3' g4 (by simp)) hg5 (by simp), ⟨List.nodup_nil, fun E hE => by cases hE⟩, (bel3.grown g4 bel3.size (fun k hk => by cases hk)).grown hg5 (Nat.le_trans bel3.size g4.size) (fun k hk => by cases hk), Nat.le_trans bel3.size g4.size⟩
      have HMP : Hid (MapP D ks) := hmp
      clear hown1 hown4 hrg5 hg5 hs5 own3 b1 b2 b3 hsz hbm hmp hB7 hB73 bel2 HHs HSh HEm HL
      have HB : Hid (∀ k ∈ ks, Bys k) := rdp_bys HP.out
      refine wp_loop (fun a' wr => ∃ (u10 u31 u32 u33 u34 u35 u36 u37 : Value) (left : Lit → Bool) (cnt : Nat) (Ds : List Nat), BRel w wr ks p m bm nm w4.heap.size w2.heap.size w3.heap.size g c Nf D left cnt Ds ∧ a' = ⟨#[.int .i64 (bn : Int), .slice va N0 cap, undef, undef, .slice none 0 0, .int .i64 0, .map (some bm), .pointer (some ⟨w2.heap.size, 0, none⟩), .pointer (some ⟨w3.heap.size, 0, none⟩), undef, u10, undef, .int .i64 (bn : Int), .bool (decide ((bn : Int) < 1)), .bool (decide ((bn : Int) < 1)), .int .i64 (bn : Int), .bool (decide (20 < (bn : Int))), .bool (decide ((bn : Int) < 1) || decide (20 < (bn : Int))), .slice va N0 cap, .int .i64 (N0 : Int), .bool false, .slice va N0 cap, .map (some bm), .int .i64 (bn : Int), .map (some bm), .int .i64 (U : Int), .agg #[.int .u8 (p : Int), .int .u32 (m : Int)], .agg #[.int .u8 (p : Int), .int .u32 (m : Int)], .slice (some ⟨g, 0, none⟩) Nf c, .map (some bm), .pointer (some ⟨w4.heap.size, 0, none⟩), u31, u32, u33, u34, u35, u36, u37, undef, undef, undef, undef, undef, undef, undef, undef, undef, undef, undef, undef], Ds.map mkD⟩) (fun _ wr => wr.rangeLeft bm w4.heap.size) ?_ ?_
      · exact ⟨_, _, _, _, _, _, _, _, _, _, [], hrel0, rfl⟩
      clear hrel0
      rintro _ wr ⟨u10, u31, u32, u33, u34, u35, u36, u37, left, cnt, Ds, hR, rfl⟩
      have HR : Hid (BRel w wr ks p m bm nm w4.heap.size w2.heap.size w3.heap.size g c Nf D left cnt Ds) := hR
      clear hR
      go_wp2_with (at_next; refine wpList_next_ranges _ rfl _ rfl 9 keyed halfR (fun x : ByteArray => Value.string x) (fun c : Int × Int => Value.agg #[.int .u32 c.1, .int .u32 c.2]) (fun key kl h => Maps.keyOf_string_inv und_string h) (fun v y h => let ⟨c, e, _⟩ := halfR_inv v y h; ⟨c, e⟩) bm w4.heap.size nm D left cnt rfl HR.out.rg ?_ ?_)
      · intro hc0 hl0
        have bc := HR.out.bx.cell
        go_wp2
        refine leaves_marks Ds wr HR.out.bel.size HR.out.mks fun w' hs => ⟨.tuple #[.slice (some ⟨g, 0, none⟩) Nf c, .int .i64 0], by simp [results, Try.results13, go_sem], some ⟨g, 0, none⟩, Nf, c, rfl, ?_, HR.out.bel.trans hs.below⟩
        have e : filt p m (leftS ks p m left) = filt p m (keyS ks p m) := filt_congr hml.2.2 fun i _ => leftS_end hl0 i
        rw [← e]
        exact own_shut HR.out.own hs
      · intro x ca cb kl a1 b1 w6 cnt' hkey hlk hRv hat hrg6 hlt6 hg6 hs6 hen
        obtain ⟨k0, hk0, hkl⟩ : ∃ k0, k0 ∈ ks ∧ kl = litK k0 := by
          have h1 := HR.out.sub kl hlk
          rw [HMP.out.2.1, List.any_eq_true] at h1
          obtain ⟨k, hk, e⟩ := h1
          exact ⟨k, hk, (WideAt.sameKey_eq e).symm⟩
        subst hkl
        have hab : ca = ((hX k0 : Nat) : Int) ∧ cb = ((hL k0 : Nat) : Int) := by
          have h1 := HMP.out.2.2.1 k0 hk0 a1
          rw [hat a1] at h1
          have h2 : (halfD ca cb, ([] : List MemPlace)) = (a1, b1) := Option.some.inj hRv
          simp only [Prod.mk.injEq] at h2
          rw [← h2.1] at h1
          unfold halfD at h1
          simpa using h1
        obtain ⟨rfl, rfl⟩ := hab
        have n6 := HR.out.next hg6
        have HN6 : Hid (BRel w wr ks p m bm nm w4.heap.size w2.heap.size w3.heap.size g c Nf D left cnt Ds ∧ w6.ranges Try.prog 9 halfR bm w4.heap.size nm D (fun z => left z && !z.sameKey (litK k0)) cnt' ∧ left (litK k0) = true ∧ cnt' < cnt ∧ k0 ∈ ks) := ⟨HR.out, hrg6, hlk, hlt6, hk0⟩
        have N6 : Hid (w6.heap[w2.heap.size]? = some (.cells #[.int .u8 (p : Int), .int .u32 (m : Int)] 59 (0, 0)) ∧ Boxed w6 w3.heap.size 24 (.slice (some ⟨g, 0, none⟩) Nf c) ∧ Own w6 w.heap.size (.slice (some ⟨g, 0, none⟩) Nf c) Nf (filt p m (leftS ks p m left)) ∧ Marks w6 w.heap.size Ds ∧ Below w.heap.size w w6) := n6
        have s0 : (w6.alloc (.cells #[.int .u32 ((hX k0 : Nat) : Int), .int .u32 ((hL k0 : Nat) : Int)] 63)).cell? ⟨w2.heap.size, 0, none⟩ = some (.int .u8 (p : Int)) := by
          have := keepObj (World.grownBy_alloc w6 (.cells #[.int .u32 ((hX k0 : Nat) : Int), .int .u32 ((hL k0 : Nat) : Int)] 63) none) n6.1 (by simp)
          simp [World.cell?, this]
        have s1 : (w6.alloc (.cells #[.int .u32 ((hX k0 : Nat) : Int), .int .u32 ((hL k0 : Nat) : Int)] 63)).cell? ⟨w2.heap.size, 1, none⟩ = some (.int .u32 (m : Int)) := by
          have := keepObj (World.grownBy_alloc w6 (.cells #[.int .u32 ((hX k0 : Nat) : Int), .int .u32 ((hL k0 : Nat) : Int)] 63) none) n6.1 (by simp)
          simp [World.cell?, this]
        have HPl : Hid (∀ wx, Calls Try.prog 36 #[.agg #[.int .u8 (p : Int), .int .u32 (m : Int)], .agg #[.int .u32 ((hX k0 : Nat) : Int), .int .u32 ((hL k0 : Nat) : Int)]] wx fun e w' => e = .returned (.func (.func 48) #[] #[.pointer (some ⟨wx.heap.size + 1, 0, none⟩), .pointer (some ⟨wx.heap.size, 0, none⟩)]) ∧ w' = (wx.alloc (.cells #[.int .u8 (p : Int), .int .u32 (m : Int)] 59)).alloc (.cells #[.int .u32 ((hX k0 : Nat) : Int), .int .u32 ((hL k0 : Nat) : Int)] 63)) := fun wx => placesOf_any p m (hX k0) (hL k0) wx
        clear n6 hrg6 hlk hlt6 hk0 hat hRv hkey hg6
        have hxl := hX_lt k0
        have hyl := hL_lt k0
        go_wp2_with (go_at_call 36; refine Calls.mono (HPl.out _) ?_; rintro e7 w7 ⟨rfl, rfl⟩)
        obtain ⟨w9, hw9⟩ : ∃ w9, w9 = ((w6.alloc (.cells #[.int .u32 ((hX k0 : Nat) : Int), .int .u32 ((hL k0 : Nat) : Int)] 63)).alloc (.cells #[.int .u8 (p : Int), .int .u32 (m : Int)] 59)).alloc (.cells #[.int .u32 ((hX k0 : Nat) : Int), .int .u32 ((hL k0 : Nat) : Int)] 63) := ⟨_, rfl⟩
        rw [← hw9]
        have g69 : w6.grownBy w9 none := by
          rw [hw9]
          exact ((World.grownBy_alloc w6 _ none).andThen (World.grownBy_alloc _ _ none) (fun j e => by cases e)).andThen (World.grownBy_alloc _ _ none) (fun j e => by cases e)
        have hBs : w9.heap[wr.heap.size + 1]? = some (.cells #[.int .u8 (p : Int), .int .u32 (m : Int)] 59 (0, 0)) := by
          rw [hw9]
          have h1 := World.alloc_heap_new (w6.alloc (.cells #[.int .u32 ((hX k0 : Nat) : Int), .int .u32 ((hL k0 : Nat) : Int)] 63)) (.cells #[.int .u8 (p : Int), .int .u32 (m : Int)] 59)
          rw [World.size_alloc, hs6] at h1
          exact keepObj (World.grownBy_alloc _ _ none) h1 (by simp)
        have hBh : w9.heap[wr.heap.size + 1 + 1]? = some (.cells #[.int .u32 ((hX k0 : Nat) : Int), .int .u32 ((hL k0 : Nat) : Int)] 63 (0, 0)) := by
          rw [hw9]
          have h1 := World.alloc_heap_new ((w6.alloc (.cells #[.int .u32 ((hX k0 : Nat) : Int), .int .u32 ((hL k0 : Nat) : Int)] 63)).alloc (.cells #[.int .u8 (p : Int), .int .u32 (m : Int)] 59)) (.cells #[.int .u32 ((hX k0 : Nat) : Int), .int .u32 ((hL k0 : Nat) : Int)] 63)
          rw [World.size_alloc, World.size_alloc, hs6] at h1
          exact h1
        have own9 := own_kept N6.out.2.2.1 g69 (by simp)
        have bx9 : Boxed w9 w3.heap.size 24 (.slice (some ⟨g, 0, none⟩) Nf c) := N6.out.2.1.kept g69 (by simp)
        have hBs9 : wr.heap.size + 1 < w9.heap.size := (Array.getElem?_eq_some_iff.1 hBs).1
        obtain ⟨hBg, cur9, hg9⟩ := own_block own9
        have hg9l := (Array.getElem?_eq_some_iff.1 hg9).1
        have hgB8 : g ≠ w3.heap.size := fun e => by
          have h1 : w9.heap[w3.heap.size]? = _ := bx9
          rw [← e, hg9] at h1
          cases h1
        have hgBs : g ≠ wr.heap.size + 1 := fun e => by rw [← e, hg9] at hBs; cases hBs
        clear hw9
        refine (wpIn_wide (n := 5)).1 ?_
        refine wpIn_rangeFunc_ownG (F := Fence.wide) (w := w9) (w0 := w9) rfl (by decide) (gf := 48) (lb := #[.pointer (some ⟨wr.heap.size + 1 + 1, 0, none⟩), .pointer (some ⟨wr.heap.size + 1, 0, none⟩)]) rfl trivial (enters_of Try.func48 (by kernel_rfl) rfl)
          (places_stops 4 (by decide) (wr.heap.size + 1) (wr.heap.size + 1 + 1) p m (hX k0) (hL k0) (by omega) (by omega) (by omega) hxl hyl w9 hBs hBh) (fun h k => Eq.trans k h) (fun W l o o' hl _ _ _ => World.putObj_heap_other (by omega)) (Below.refl _ _) (fun _ => rfl)
          (fun pre W => Own W w.heap.size (.slice (some ⟨g, 0, none⟩) Nf c) Nf (filt p m (fun i => leftS ks p m left i || pre.any (fun j => j.val == i))) ∧ w9.grownBy W (some g))
          (fun _ _ _ => False)
          (fun s A B row hs hg hr => ⟨own_kept hs.1 hg (fun e => by
              obtain ⟨o, ho, hc⟩ := (hr g e.symm).2
              obtain ⟨_, cur, hcur⟩ := own_block hs.1
              rw [hcur] at ho; cases ho; cases hc), hs.2.andThen hg (fun j e => .inl (hr j e).1)⟩)
          (fun _ _ _ _ _ hs _ _ => hs)
          ⟨by simpa using own9, ⟨rfl, rfl, rfl, Nat.le_refl _, fun _ _ _ => rfl⟩⟩
          (fun i => { tmps := #[.int .i64 (bn : Int), .slice va N0 cap, undef, undef, .slice none 0 0, .int .i64 0, .map (some bm), .pointer (some ⟨w2.heap.size, 0, none⟩), .pointer (some ⟨w3.heap.size, 0, none⟩), undef, .pointer (some ⟨wr.heap.size, 0, none⟩), .int .i64 ((i.val : Nat) : Int), .int .i64 (bn : Int), .bool (decide ((bn : Int) < 1)), .bool (decide ((bn : Int) < 1)), .int .i64 (bn : Int), .bool (decide (20 < (bn : Int))), .bool (decide ((bn : Int) < 1) || decide (20 < (bn : Int))), .slice va N0 cap, .int .i64 (N0 : Int), .bool false, .slice va N0 cap, .map (some bm), .int .i64 (bn : Int), .map (some bm), .int .i64 (U : Int), .agg #[.int .u8 (p : Int), .int .u32 (m : Int)], .agg #[.int .u8 (p : Int), .int .u32 (m : Int)], .slice (some ⟨g, 0, none⟩) Nf c, .map (some bm), .pointer (some ⟨w4.heap.size, 0, none⟩), .tuple #[.bool true, .string x, .agg #[.int .u32 ((hX k0 : Nat) : Int), .int .u32 ((hL k0 : Nat) : Int)]], .bool true, .tuple #[.string x, .agg #[.int .u32 ((hX k0 : Nat) : Int), .int .u32 ((hL k0 : Nat) : Int)]], .agg #[.int .u32 ((hX k0 : Nat) : Int), .int .u32 ((hL k0 : Nat) : Int)], .agg #[.int .u8 (p : Int), .int .u32 (m : Int)], .agg #[.int .u32 ((hX k0 : Nat) : Int), .int .u32 ((hL k0 : Nat) : Int)], .func (.func 48) #[] #[.pointer (some ⟨wr.heap.size + 1 + 1, 0, none⟩), .pointer (some ⟨wr.heap.size + 1, 0, none⟩)], .int .i64 ((i.val : Nat) : Int), undef, undef, undef, undef, undef, undef, undef, undef, undef, undef, undef], defers := [] }) ?assign ?body ?done ?stop
        case assign =>
          intro l x W K hK
          gi_wp2
          exact hK
        case stop =>
          rintro D c pre W _ _ h _
          exact h.elim
        case body =>
          rintro l pre i W ⟨hown, hgw⟩ hlen
          have HO : Hid (Own W w.heap.size (.slice (some ⟨g, 0, none⟩) Nf c) Nf (filt p m (fun i => leftS ks p m left i || pre.any (fun j => j.val == i))) ∧ w9.grownBy W (some g)) := ⟨hown, hgw⟩
          have hiv : i.val < m := i.isLt
          have cB : W.cell? ⟨w3.heap.size, 0, none⟩ = some (.slice (some ⟨g, 0, none⟩) Nf c) := Boxed.cell (B := w3.heap.size) (keepObj hgw (show w9.heap[w3.heap.size]? = _ from bx9) (fun e => hgB8 (Option.some.inj e).symm))
          obtain ⟨S, hS⟩ : ∃ S, S = filt p m (fun i => leftS ks p m left i || pre.any (fun j => j.val == i)) := ⟨_, rfl⟩
          have hSl : S.length = Nf := by rw [hS, filt_length]; exact HNf.out.symm
          have hSb : Bys S := by rw [hS]; exact filt_bys _ (by omega) (by omega)
          rw [← hS] at hown
          have hNm := HNf.out
          have hq : 6 + i.val / 8 < Nf := by omega
          have cG : W.cell? ⟨g, 6 + i.val / 8, none⟩ = some (.int .u8 ((S.getD (6 + i.val / 8) 0 : Nat) : Int)) := by
            rw [hown.2.cellAt _ (by omega)]
            simp [bv, List.getElem?_eq_getElem (by omega : 6 + i.val / 8 < S.length)]
          have fG := hown.2.frozenAt (6 + i.val / 8)
          have hyl8 := hSb.get (6 + i.val / 8)
          obtain ⟨yv, hyv⟩ : ∃ yv, yv = S.getD (6 + i.val / 8) 0 := ⟨_, rfl⟩
          rw [← hyv] at cG hyl8
          obtain ⟨iv, hiv2⟩ : ∃ iv, iv = i.val := ⟨_, rfl⟩
          have hor := u8_or_nat yv (maskN iv) hyl8 (maskN_lt iv)
          have HF : Hid (S.set (6 + iv / 8) (yv ||| maskN iv) = filt p m (fun j => (leftS ks p m left j || pre.any (fun t => t.val == j)) || j == iv)) := by
            rw [hyv, hS, hiv2]
            exact filt_set p m _ i.val hml.2.2 hiv
          have HOS : Hid (Own W w.heap.size (.slice (some ⟨g, 0, none⟩) Nf c) Nf S ∧ S.length = Nf) := ⟨hown, hSl⟩
          rw [← hiv2] at hiv hq cG fG
          obtain ⟨q, hqq⟩ : ∃ q, q = 6 + iv / 8 := ⟨_, rfl⟩
          rw [← hqq] at hq cG fG HF
          have hq2 : (q : Int) < (Nf : Int) := by omega
          have hwr : IntKind.i64.wrap (6 + IntKind.i64.wrap ((iv : Int) / 8)) = (q : Int) := by
            rw [IntWalk.i64_in ((iv : Int) / 8) ⟨by omega, by omega⟩, IntWalk.i64_in _ ⟨by omega, by omega⟩]
            omega
          have HMa : Hid (∀ n wx, CallsIn Fence.wide n Try.prog 37 #[.int .i64 (iv : Int)] wx fun e w' => e = .returned (.int .u8 ((maskN iv : Nat) : Int)) ∧ w' = wx) := fun n wx => callsIn_wide.2 (mask_any iv (by omega) wx)
          have HIV : Hid (iv = i.val) := hiv2
          clear hown hgw hS hSl hSb hyv hNm hqq
          obtain ⟨mk1, hmk1⟩ : ∃ mk1, mk1 = maskN iv := ⟨_, rfl⟩
          obtain ⟨nv, hnv⟩ : ∃ nv, nv = yv ||| maskN iv := ⟨_, rfl⟩
          rw [← hnv] at hor HF
          rw [← hmk1] at hor HMa
          rw [← hiv2]
          clear hiv2 hmk1 hnv
          have FIN : Hid (KeepsFrom w9.heap.size W (W.setCell ⟨g, q, none⟩ (.int .u8 (nv : Int))).drew ∧ KpB (wr.heap.size + 1) W (W.setCell ⟨g, q, none⟩ (.int .u8 (nv : Int))).drew ∧ (Own (W.setCell ⟨g, q, none⟩ (.int .u8 (nv : Int))).drew w.heap.size (.slice (some ⟨g, 0, none⟩) Nf c) Nf (filt p m (fun i' => leftS ks p m left i' || (pre ++ [i]).any (fun j => j.val == i'))) ∧ w9.grownBy (W.setCell ⟨g, q, none⟩ (.int .u8 (nv : Int))).drew (some g))) := by
            have st := HOS.out.1.2.stored q (.int .u8 (nv : Int))
            have e : (bv S).set q (.int .u8 (nv : Int)) = bv (filt p m (fun i' => leftS ks p m left i' || (pre ++ [i]).any (fun j => j.val == i'))) := by
              have e1 : (bv S).set q (.int .u8 (nv : Int)) = bv (S.set q nv) := by simp [bv, List.map_set]
              rw [e1, HF.out]
              congr 1
              refine filt_congr hml.2.2 fun j _ => ?_
              rw [List.any_append, ← Bool.or_assoc]
              congr 1
              simp only [List.any_cons, List.any_nil, Bool.or_false, HIV.out]
              rw [Bool.eq_iff_iff, beq_iff_eq, beq_iff_eq]
              exact eq_comm
            rw [e] at st
            have oo : Own _ w.heap.size _ Nf (filt p m (fun i' => leftS ks p m left i' || (pre ++ [i]).any (fun j => j.val == i'))) := ⟨by rw [filt_length]; exact HNf.out, st.1⟩
            have gg := HO.out.2.andThen st.2 (fun j e => .inr e)
            refine ⟨((KeepsOthers.setCell W _ _).trans (KeepsOthers.drew _)).from _, ?_, oo.later (Below.refl _ _).drew, ⟨gg.os, gg.tape, gg.output, gg.size, gg.block⟩⟩
            exact st.2.block _ (Nat.lt_of_lt_of_le hBs9 HO.out.2.size) (fun e => hgBs (Option.some.inj e).symm)
          have hmix : Try.prog.follows .mixedOrders = true := by kernel_rfl
          gi_wp2
          gi_region_with_o (refine ⟨trivial, ?_⟩; gi_at_call 37; refine CallsIn.mono (CallsIn.inRound l (HMa.out _ _)) ?_; rintro e8 w8 ⟨rfl, rfl⟩)
          all_goals gi_wp2
          all_goals exact FIN.out
        case done =>
          rintro Dm xs W hD rfl ⟨hown, hgw⟩ hK
          have e : filt p m (fun i' => leftS ks p m left i' || (plL (hX k0) (hL k0) m (by omega) p).any (fun j => j.val == i')) = filt p m (leftS ks p m (fun z => left z && !z.sameKey (litK k0))) := by
            refine filt_congr hml.2.2 fun j _ => ?_
            rw [leftS_step HB.out HN6.out.2.2.2.2 HN6.out.2.2.1, plL_any]
          rw [e] at hown
          have hst : BRel w W ks p m bm nm w4.heap.size w2.heap.size w3.heap.size g c Nf D (fun z => left z && !z.sameKey (litK k0)) cnt' (Dm :: Ds) :=
            BRel.step HN6.out.2.1 (fun kl h => HN6.out.1.sub kl (by simp only [Bool.and_eq_true] at h; exact h.1)) N6.out.1 N6.out.2.1 N6.out.2.2.1 N6.out.2.2.2.1 N6.out.2.2.2.2 HN6.out.1.hr g69 hgw hown hD hK
          have HST : Hid (BRel w W ks p m bm nm w4.heap.size w2.heap.size w3.heap.size g c Nf D (fun z => left z && !z.sameKey (litK k0)) cnt' (Dm :: Ds)) := hst
          have hmeas : W.rangeLeft bm w4.heap.size < wr.rangeLeft bm w4.heap.size := by
            rw [hst.rg.left_eq, HN6.out.1.rg.left_eq]
            exact HN6.out.2.2.2.1
          clear hst hown hgw
          exact ⟨⟨_, _, _, _, _, _, _, _, _, _, _, HST.out, rfl⟩, hmeas⟩
end Go.Proofs.Ytieehdhinponcaa
