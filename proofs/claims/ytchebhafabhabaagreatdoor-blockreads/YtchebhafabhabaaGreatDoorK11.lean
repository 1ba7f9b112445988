import Derived.Test.YtchebhafabhabaaGreatDoorK10
namespace Go.Proofs.YtchebhafabhabaaGreatDoor
open Go.RowKit
set_option linter.unusedVariables false

theorem T_pair_odd (q d : Nat) (h : ¬ q % 2 = d % 2) : (q / 2 ^^^ 2197175160) ^^^ (d / 2) = T (q ^^^ d) := by
 unfold T
 rw [xor_div2, xor_mod2]
 have hq : q % 2 = 0 ∨ q % 2 = 1 := by omega
 have hd : d % 2 = 0 ∨ d % 2 = 1 := by omega
 have e : (q % 2 ^^^ d % 2) = 1 := by
  rcases hq with hq | hq <;> rcases hd with hd | hd <;> simp [hq, hd] <;> omega
 rw [if_pos e, Nat.xor_assoc, Nat.xor_comm 2197175160, ← Nat.xor_assoc]
theorem T_pair_even (q d : Nat) (h : q % 2 = d % 2) : (q / 2) ^^^ (d / 2) = T (q ^^^ d) := by
 unfold T
 rw [xor_div2, xor_mod2, h, Nat.xor_self, if_neg (by omega), Nat.xor_zero]
theorem xor32h (q : Nat) (h : q < 4294967296) : bits .xor .u32 ((q : Int) / 2) 2197175160 = (((q / 2) ^^^ 2197175160 : Nat) : Int) := by
 have := xor32 (q / 2) 2197175160 (by omega) (by omega)
 rw [← this]
 congr 1
theorem Tn_last (t s : Nat) : T (Tn t s) = Tn (t + 1) s := by
 rw [Nat.add_comm, Tn_add]; rfl

set_option maxRecDepth 100000 in
set_option maxHeartbeats 2000000 in
theorem refSum_any {v : Value} {ps : List (List Nat)} {w : World} (hp : RdP w v ps) :
  Calls Tryz.prog 79 #[v] w fun e w' => e = .returned (.int .u32 ((sumL ps.flatten : Nat) : Int)) ∧ w' = w := by
 obtain ⟨hn, a, cap, rfl, hp⟩ := hp
 go_enter Tryz.func79, Tryz.ntmps79
 go_wp2
 go_loop [3, 4] (fun x i => ∃ k r : Nat, k ≤ ps.length ∧ i = .int .i64 (k : Int) ∧ x = .int .u32 (r : Int) ∧ r < 4294967296 ∧ r = crcL 4294967295 (ps.take k).flatten) (fun _ i => ps.length - (intOf i).toNat)
 case atStart => exact ⟨0, 4294967295, Nat.zero_le _, rfl, rfl, by omega, rfl⟩
 case round =>
  obtain ⟨k, r, hk, rfl, rfl, hr, hrr⟩ := hrel
  have HR : Hid (r = crcL 4294967295 (ps.take k).flatten) := hrr
  clear hrr
  by_cases hlt : k < ps.length
  ·have hlt2 : (k : Int) < (ps.length : Int) := by omega
   rcases hp with rfl | ⟨b, off, rfl, hc⟩
   ·simp at hlt
   obtain ⟨u, hu, hru⟩ := hc k hlt
   clear hc
   obtain ⟨hby, a2, cap2, hu2, hle, hm, hl48, hnone, hat⟩ := hru
   rw [hu2] at hu
   clear hu2
   obtain ⟨bs, hbs⟩ : ∃ bs, bs = ps.getD k [] := ⟨_, rfl⟩
   rw [← hbs] at hby hu hle hl48 hat
   have HB : Hid (bs = ps.getD k []) := hbs
   clear hbs
   go_wp2
   go_loop [3, 5] (fun x i => ∃ j q : Nat, j ≤ bs.length ∧ i = .int .i64 (j : Int) ∧ x = .int .u32 (q : Int) ∧ q < 4294967296 ∧ q = crcL r (bs.take j)) (fun _ i => bs.length - (intOf i).toNat)
   case atStart => exact ⟨0, r, Nat.zero_le _, rfl, rfl, hr, rfl⟩
   case round =>
    obtain ⟨j, q, hj, rfl, rfl, hq, hqq⟩ := hrel
    have HQ : Hid (q = crcL r (bs.take j)) := hqq
    clear hqq
    by_cases hjl : j < bs.length
    ·have hjl2 : (j : Int) < (bs.length : Int) := by omega
     rcases hat with rfl | ⟨b2, off2, rfl, hc2⟩
     ·simp at hjl
     have hcc := hc2 j hjl
     clear hc2
     have hcl := hby.get j
     obtain ⟨c, hcd⟩ : ∃ c, c = bs.getD j 0 := ⟨_, rfl⟩
     rw [← hcd] at hcc hcl
     have HC : Hid (c = bs.getD j 0) := hcd
     clear hcd
     go_wp2
     go_loop [3, 6, 7] (fun x y i => ∃ t s d : Nat, t ≤ 8 ∧ i = .int .i64 (t : Int) ∧ x = .int .u32 (s : Int) ∧ y = .int .u8 (d : Int) ∧ s < 4294967296 ∧ d = c / 2 ^ t ∧ s ^^^ d = Tn t (q ^^^ c)) (fun _ _ i => 8 - (intOf i).toNat)
     case atStart => exact ⟨0, q, c, by omega, rfl, rfl, rfl, hq, by simp, rfl⟩
     case round =>
      obtain ⟨t, s, d, ht8, rfl, rfl, rfl, hs, hd, hx⟩ := hrel
      have hd256 : d < 256 := by rw [hd]; exact Nat.lt_of_le_of_lt (Nat.div_le_self _ _) hcl
      have HD : Hid (d = c / 2 ^ t) := hd
      have HX : Hid (s ^^^ d = Tn t (q ^^^ c)) := hx
      clear hd hx
      by_cases hlt8 : t < 8
      ·have hlt8' : (t : Int) < 8 := by omega
       have em : (d : Int) % 4294967296 = (d : Int) := by omega
       have HD2 : Hid (d / 2 = c / 2 ^ (t + 1)) := by unfold Hid; rw [HD.out, Nat.div_div_eq_div_mul, Nat.pow_succ]
       by_cases hpar : s % 2 = d % 2
       ·have p1 : ((s : Int) % 2 == (d : Int) % 2) = true := by simp; omega
        have p2 : (s : Int) % 2 = (d : Int) % 2 := by omega
        have HX2 : Hid ((s / 2) ^^^ (d / 2) = Tn (t + 1) (q ^^^ c)) := by unfold Hid; rw [T_pair_even s d hpar, HX.out, Tn_last]
        clear hpar
        go_wp2
        go_round
        case rel => exact ⟨t + 1, s / 2, d / 2, by omega, by go_num, by go_num, by go_num, by omega, HD2.out, HX2.out⟩
        case measure => simp [intOf]; omega
       ·have p1 : ((s : Int) % 2 == (d : Int) % 2) = false := by simp; omega
        have p2 : ¬ ((s : Int) % 2 = (d : Int) % 2) := by omega
        have HX2 : Hid ((s / 2 ^^^ 2197175160) ^^^ (d / 2) = Tn (t + 1) (q ^^^ c)) := by unfold Hid; rw [T_pair_odd s d hpar, HX.out, Tn_last]
        have HXL : Hid (s / 2 ^^^ 2197175160 < 4294967296) := Nat.xor_lt_two_pow (n := 32) (by omega) (by omega)
        have HXB : Hid (bits .xor .u32 ((s : Int) / 2) 2197175160 = (((s / 2) ^^^ 2197175160 : Nat) : Int)) := xor32h s hs
        clear hpar
        go_wp2
        go_round
        case rel => exact ⟨t + 1, s / 2 ^^^ 2197175160, d / 2, by omega, by go_num, by rw [HXB.out], by go_num, HXL.out, HD2.out, HX2.out⟩
        case measure => simp [intOf]; omega
      ·have hge8 : (8 : Int) ≤ (t : Int) := by omega
       have ht : t = 8 := by omega
       have HF : Hid (s = crcB q c) := by
        unfold Hid
        have h1 := HX.out
        have h0 : d = 0 := by rw [HD.out, ht]; omega
        rw [h0, Nat.xor_zero, ht] at h1
        rw [crcB_eq]; exact h1
       clear ht
       go_wp2
       go_round
       case rel =>
        refine ⟨j + 1, s, by omega, by go_num, rfl, hs, ?_⟩
        rw [HF.out, take_succ_getD bs j hjl, crcL_snoc, ← HQ.out, ← HC.out]
       case measure => simp [intOf]; omega
    ·have hjge : (bs.length : Int) ≤ (j : Int) := by omega
     go_wp2
     go_round
     case rel =>
      refine ⟨k + 1, q, by omega, by go_num, rfl, hq, ?_⟩
      rw [flat_snoc ps k hlt, crcL_append, ← HR.out, ← HB.out, HQ.out, List.take_of_length_le (by omega)]
     case measure => simp [intOf]; omega
  ·have hkge : (ps.length : Int) ≤ (k : Int) := by omega
   have hk2 : ps.take k = ps := List.take_of_length_le (by omega)
   have hr2 := HR.out
   rw [hk2] at hr2
   have HR2 : Hid (r = crcL 4294967295 ps.flatten) := hr2
   have HE : Hid (IntKind.u32.wrap (4294967295 - (r : Int)) = ((4294967295 - r : Nat) : Int)) := by
    unfold Hid; simp only [IntKind.wrap, IntKind.bits, IntKind.signed]; simp; omega
   have HE2 : Hid ((4294967295 : Int) - (r : Int) = ((4294967295 - r : Nat) : Int)) := by unfold Hid; omega
   clear hr2 hk2
   go_wp2
   go_ret
   refine ⟨?_, rfl⟩
   unfold sumL
   rw [← HR2.out]
   first | exact congrArg (fun z : Int => Ending.returned (Value.int .u32 z)) HE2.out | exact congrArg (fun z : Int => Ending.returned (Value.int .u32 z)) HE.out

set_option maxRecDepth 100000 in
theorem refSame_any {a b : Value} {xs ys : List Nat} {w : World} (ha : Rd w a xs) (hb : Rd w b ys) :
  Calls Tryz.prog 65 #[a, b] w fun e w' => e = .returned (.bool (decide (xs = ys))) ∧ w' = w := by
 have h1 := conv_str ha
 have h2 := conv_str hb
 go_enter Tryz.func65, Tryz.ntmps65
 go_wp2
 go_ret
 exact ⟨by rw [← beq_str ha.1 hb.1]; rfl, rfl⟩

end Go.Proofs.YtchebhafabhabaaGreatDoor

namespace Go.Proofs.YtchebhafabhabaaGreatDoor
open Go.RowKit
set_option linter.unusedVariables false

theorem refSum_at {v : Value} {ps : List (List Nat)} {w : World} (hp : RdP w v ps) {S : Nat} (h : sumL ps.flatten = S) :
  Calls Tryz.prog 79 #[v] w fun e w' => e = .returned (.int .u32 (S : Int)) ∧ w' = w := by subst h; exact refSum_any hp

theorem own_new (w : World) (B g : Nat) (hg : g = w.heap.size) (hB : B ≤ w.heap.size) (arr : Array Value) (bs : List Nat) (h : arr.toList = bv bs) (n : Nat) (hn : n = bs.length) (hl : n ≤ 1000) : Own (w.alloc (.cells arr 5)) B (.slice (some ⟨g, 0, none⟩) n n) n bs := by
 subst hg
 have hsz : arr.size = n := by rw [← Array.length_toList, h, bv_length, hn]
 refine ⟨hn, by rw [bv_length, hn]; omega, .inr ⟨w.heap.size, n, arr, rfl, hB, heap_new w _, Nat.le_refl _, by unfold maxLen; omega, by omega, ?_⟩⟩
 rw [h, List.take_of_length_le (by rw [bv_length]; omega)]

set_option maxRecDepth 100000 in
set_option maxHeartbeats 1000000 in
theorem sealed_any {v : Value} {bs : List Nat} {w : World} (hr : Rd w v bs) :
  Calls Tryz.prog 66 #[v] w fun e w' => ∃ a m c, e = .returned (.slice a m c) ∧ Own w' w.heap.size (.slice a m c) m (le4 (sumL bs)) ∧ Below w.heap.size w w' := by
 obtain ⟨a, n, cap, rfl⟩ := rd_slice hr
 obtain ⟨S, hS⟩ : ∃ S, S = sumL bs := ⟨_, rfl⟩
 have HS : Hid (sumL [bs].flatten = S) := by unfold Hid; rw [hS]; simp
 have hs : S < 4294967296 := hS ▸ sumL_lt bs
 rw [← hS]
 clear hS
 have hp := RdP.one hr
 have A1 := (Below.refl w.heap.size w).alloc (Nat.le_refl _) (.cells #[.slice a n cap] 36)
 go_enter Tryz.func66, Tryz.ntmps66
 go_wp2_with fail
 refine (refSum_at hp HS.out).mono ?_
 rintro e w1 ⟨rfl, rfl⟩
 go_wp2
 go_ret
 have A2 := A1.alloc A1.size (.cells #[.int .u8 ((S : Int) % 256), .int .u8 ((S : Int) / 256 % 256), .int .u8 ((S : Int) / 65536 % 256), .int .u8 ((S : Int) / 16777216)] 5)
 refine ⟨_, 4, 4, rfl, own_new _ w.heap.size _ (by simp) A1.size _ _ ?_ 4 rfl (by omega), A2⟩
 simp [bv, le4]

end Go.Proofs.YtchebhafabhabaaGreatDoor

namespace Go.Proofs.YtchebhafabhabaaGreatDoor
open Go.RowKit
set_option linter.unusedVariables false

def marks5 : List Nat := [201, 202, 203, 204, 205]
theorem marks5_bys : Bys marks5 := by
 have h : ∀ x ∈ marks5, x < 256 := by decide
 exact h
theorem rep_bys (n m : Nat) (h : m < 256) : Bys (List.replicate n m) := by intro x hx; rw [List.eq_of_mem_replicate hx]; exact h

def Laid (w : World) (B : Nat) (u : Value) (bs : List Nat) : Prop := ∃ g c, u = .slice (some ⟨g, 0, none⟩) bs.length c ∧ bs.length + 75 ≤ c ∧ c ≤ maxLen ∧ Own w B (.slice (some ⟨g, 0, none⟩) (bs.length + 75) c) (bs.length + 75) ((bs ++ marks5) ++ List.replicate 70 206)
theorem Laid.later {w w' : World} {B : Nat} {u : Value} {bs : List Nat} (h : Laid w B u bs) (hb : Below w.heap.size w w') : Laid w' B u bs := by
 obtain ⟨g, c, h1, h2, h3, h4⟩ := h
 exact ⟨g, c, h1, h2, h3, h4.later hb⟩
theorem Laid.all {w : World} {B g c : Nat} {bs : List Nat} (h4 : Own w B (.slice (some ⟨g, 0, none⟩) (bs.length + 75) c) (bs.length + 75) ((bs ++ marks5) ++ List.replicate 70 206)) (hb : Bys bs) (hl : bs.length ≤ 140737488355328) : Rd w (.slice (some ⟨g, 0, none⟩) (bs.length + 75) c) ((bs ++ marks5) ++ List.replicate 70 206) :=
 h4.rd (Bys.app (Bys.app hb marks5_bys) (rep_bys _ _ (by decide))) (by omega)
theorem Laid.rd {w : World} {B : Nat} {u : Value} {bs : List Nat} (h : Laid w B u bs) (hb : Bys bs) (hl : bs.length ≤ 140737488355328) : Rd w u bs := by
 obtain ⟨g, c, rfl, h2, h3, h4⟩ := h
 have := (Laid.all h4 hb hl).upto bs.length (by omega)
 simpa using this

end Go.Proofs.YtchebhafabhabaaGreatDoor

namespace Go.Proofs.YtchebhafabhabaaGreatDoor
open Go.RowKit
set_option linter.unusedVariables false

def RowOk (bs : List Nat) : Prop := 1 ≤ bs.length ∧ bs.length ≤ 256
set_option maxRecDepth 100000 in
theorem refOut_out (n lo hi : Int) (w : World) (h : n < lo ∨ hi < n) : Calls Tryz.prog 83 #[.int .i64 n, .int .i64 lo, .int .i64 hi] w fun e w' => e = .returned (.bool true) ∧ w' = w := by
 by_cases h1 : n < lo
 ·have d1 : decide (n < lo) = true := by simpa using h1
  clear h
  go_enter Tryz.func83, Tryz.ntmps83
  go_wp2
  go_ret
  exact ⟨by first | rfl | simp [d1], rfl⟩
 ·have d1 : decide (n < lo) = false := by simpa using h1
  have h2 : hi < n := by omega
  have d2 : decide (hi < n) = true := by simpa using h2
  clear h
  go_enter Tryz.func83, Tryz.ntmps83
  go_wp2
  go_ret
  exact ⟨by first | rfl | simp [d1, d2], rfl⟩
set_option maxRecDepth 100000 in
theorem refNumber_any (a b : Int) (w : World) : Calls Tryz.prog 84 #[.int .i64 a, .int .i64 b] w fun e w' => e = .returned (.int .i64 (cmpI a b)) ∧ w' = w := by
 by_cases h1 : a < b
 ·go_enter Tryz.func84, Tryz.ntmps84
  go_wp2
  go_ret
  exact ⟨by unfold cmpI; rw [if_pos (by omega)]; rfl, rfl⟩
 ·have h1' : b ≤ a := by omega
  by_cases h2 : b < a
  ·go_enter Tryz.func84, Tryz.ntmps84
   go_wp2
   go_ret
   exact ⟨by unfold cmpI; rw [if_neg (by omega), if_pos (by omega)]; rfl, rfl⟩
  ·have h2' : a ≤ b := by omega
   go_enter Tryz.func84, Tryz.ntmps84
   go_wp2
   go_ret
   exact ⟨by unfold cmpI; rw [if_neg (by omega), if_neg (by omega)]; rfl, rfl⟩
set_option maxRecDepth 100000 in
set_option maxHeartbeats 1000000 in
theorem refBytesOrd_any {va vb : Value} {xs ys : List Nat} {w : World} (ha : Rd w va xs) (hb : Rd w vb ys) :
  Calls Tryz.prog 72 #[va, vb] w fun e w' => e = .returned (.int .i64 (ordC xs ys)) ∧ Below w.heap.size w w' := by
 obtain ⟨a, n, cap, rfl⟩ := rd_slice ha
 obtain ⟨b, m, capb, rfl⟩ := rd_slice hb
 obtain ⟨hn, _, _, hn48⟩ := rd_lens ha
 obtain ⟨hm, _, _, hm48⟩ := rd_lens hb
 have HN : Hid (n = xs.length) := hn
 have HM : Hid (m = ys.length) := hm
 clear hn hm
 go_enter Tryz.func72, Tryz.ntmps72
 go_wp2
 go_loopw [5] (fun i wr => ∃ t : Nat, t ≤ n ∧ t ≤ m ∧ i = .int .i64 (t : Int) ∧ ordC xs ys = ordC (xs.drop t) (ys.drop t) ∧ Below w.heap.size w wr) (fun i _ => n - (intOf i).toNat)
 case atStart => exact ⟨0, by omega, by omega, rfl, rfl, Below.refl _ _⟩
 case round =>
  obtain ⟨t, htn, htm, rfl, hord, hbk⟩ := hrel
  have HO : Hid (ordC xs ys = ordC (xs.drop t) (ys.drop t)) := hord
  clear hord
  by_cases hin : t < n ∧ t < m
  ·obtain ⟨h1, h2⟩ := hin
   have h1' : (t : Int) < (n : Int) := by omega
   have h2' : (t : Int) < (m : Int) := by omega
   rcases rd_some ha with ⟨_, h0, _⟩ | ⟨ba, oa, rfl⟩
   ·omega
   rcases rd_some hb with ⟨_, h0, _⟩ | ⟨bb, ob, rfl⟩
   ·omega
   obtain ⟨ca0, cal⟩ := rd_cell ha t h1
   obtain ⟨cb0, cbl⟩ := rd_cell hb t h2
   have ca : wr.cell? ⟨ba, oa + t, none⟩ = some (.int .u8 ((xs.getD t 0 : Nat) : Int)) := by
    rw [hbk.cell (p := ⟨ba, oa + t, none⟩) (World.block_lt_of_cell? w _ ca0)]; exact ca0
   have cb : wr.cell? ⟨bb, ob + t, none⟩ = some (.int .u8 ((ys.getD t 0 : Nat) : Int)) := by
    rw [hbk.cell (p := ⟨bb, ob + t, none⟩) (World.block_lt_of_cell? w _ cb0)]; exact cb0
   have da := drop_cons xs t (by rw [← HN.out]; exact h1)
   have db := drop_cons ys t (by rw [← HM.out]; exact h2)
   obtain ⟨x, hx⟩ : ∃ x, x = xs.getD t 0 := ⟨_, rfl⟩
   obtain ⟨y, hy⟩ : ∃ y, y = ys.getD t 0 := ⟨_, rfl⟩
   rw [← hx] at ca cal da
   rw [← hy] at cb cbl db
   have HOO : Hid (ordC xs ys = if x < y then -1 else if y < x then 1 else ordC (xs.drop (t + 1)) (ys.drop (t + 1))) := by
    unfold Hid; rw [HO.out, da, db]; rfl
   clear hx hy da db ca0 cb0
   have ht0 : (0 : Int) ≤ (t : Int) := by omega
   by_cases hxy : x < y
   ·have hxy' : (x : Int) < (y : Int) := by omega
    have HR : Hid (ordC xs ys = -1) := by unfold Hid; rw [HOO.out, if_pos hxy]
    go_wp2
    go_quiet (fail)
    go_wp2
    go_ret
    rw [HR.out]
    exact ⟨rfl, below_drewN hbk _⟩
   ·have hxy' : (y : Int) ≤ (x : Int) := by omega
    by_cases hyx : y < x
    ·have hyx' : (y : Int) < (x : Int) := by omega
     have HR : Hid (ordC xs ys = 1) := by unfold Hid; rw [HOO.out, if_neg hxy, if_pos hyx]
     go_wp2
     go_quiet (fail)
     go_wp2
     go_quiet (fail)
     go_wp2
     go_ret
     rw [HR.out]
     exact ⟨rfl, below_drewN (below_drewN hbk _) _⟩
    ·have hyx' : (x : Int) ≤ (y : Int) := by omega
     have HR : Hid (ordC xs ys = ordC (xs.drop (t + 1)) (ys.drop (t + 1))) := by unfold Hid; rw [HOO.out, if_neg hxy, if_neg hyx]
     go_wp2
     go_quiet (fail)
     go_wp2
     go_quiet (fail)
     go_wp2
     go_roundw
     case rel => exact ⟨t + 1, by omega, by omega, by go_num, HR.out, below_drewN hbk _⟩
     case measure => simp [intOf]; omega
  ·have HR : Hid (ordC xs ys = if n < m then -1 else if m < n then 1 else 0) := by
    unfold Hid
    rw [HO.out]
    by_cases h1 : t < n
    ·have h2 : m = t := by
      by_cases h : t < m
      ·exact absurd ⟨h1, h⟩ hin
      ·omega
     have e1 : ys.drop t = [] := by rw [← h2, HM.out]; simp
     rw [e1, drop_cons xs t (by rw [← HN.out]; exact h1), if_neg (by omega), if_pos (by omega)]
     rfl
    ·have h1' : n = t := by omega
     have e1 : xs.drop t = [] := by rw [← h1', HN.out]; simp
     rw [e1]
     by_cases h2 : t < m
     ·rw [drop_cons ys t (by rw [← HM.out]; exact h2), if_pos (by omega)]
      rfl
     ·have e2 : ys.drop t = [] := by rw [show t = m by omega, HM.out]; simp
      rw [e2, if_neg (by omega), if_neg (by omega)]
      rfl
   by_cases h1 : t < n
   ·have h1' : (t : Int) < (n : Int) := by omega
    have h2' : (m : Int) ≤ (t : Int) := by
     by_cases h : t < m
     ·exact absurd ⟨h1, h⟩ hin
     ·omega
    have hR := HR.out
    rw [if_neg (by omega), if_pos (by omega)] at hR
    have HR2 : Hid (ordC xs ys = 1) := hR
    clear hR hin
    have hd2 : decide ((t : Int) < (m : Int)) = false := by simp; omega
    go_wp2_with fail
    refine (refNumber_any _ _ _).mono ?_
    rintro e w9 ⟨rfl, rfl⟩
    rw [show cmpI (n : Int) (m : Int) = 1 by unfold cmpI; rw [if_neg (by omega), if_pos (by omega)]]
    go_wp2
    go_ret
    rw [HR2.out]
    exact ⟨rfl, hbk⟩
   ·have h1' : (n : Int) ≤ (t : Int) := by omega
    have hd : decide ((t : Int) < (n : Int)) = false := by simp; omega
    clear hin
    by_cases hnm : n < m
    ·have hnm' : (n : Int) < (m : Int) := by omega
     have hR := HR.out
     rw [if_pos hnm] at hR
     have HR2 : Hid (ordC xs ys = -1) := hR
     clear hR
     go_wp2_with fail
     refine (refNumber_any _ _ _).mono ?_
     rintro e w9 ⟨rfl, rfl⟩
     rw [show cmpI (n : Int) (m : Int) = -1 by unfold cmpI; rw [if_pos (by omega)]]
     go_wp2
     go_ret
     rw [HR2.out]
     exact ⟨rfl, hbk⟩
    ·have hnm' : (m : Int) ≤ (n : Int) := by omega
     have hmn' : (n : Int) ≤ (m : Int) := by omega
     have hR := HR.out
     rw [if_neg hnm, if_neg (by omega)] at hR
     have HR2 : Hid (ordC xs ys = 0) := hR
     clear hR
     go_wp2_with fail
     refine (refNumber_any _ _ _).mono ?_
     rintro e w9 ⟨rfl, rfl⟩
     rw [show cmpI (n : Int) (m : Int) = 0 by unfold cmpI; rw [if_neg (by omega), if_neg (by omega)]]
     go_wp2
     go_ret
     rw [HR2.out]
     exact ⟨rfl, hbk⟩


end Go.Proofs.YtchebhafabhabaaGreatDoor

namespace Go.Proofs.YtchebhafabhabaaGreatDoor
open Go.RowKit
set_option linter.unusedVariables false

theorem append_keep {w : World} {B n m c : Nat} {v : Value} {xs bs : List Nat} (ty : TypeId) (hown : Own w B v n xs) (ad : Addr) (hm : m = bs.length) (hnews : ∀ j u, (bv bs)[j]? = some u → w.cell? (ad.add j) = some u) (hp : 0 < m) (hbytes : n + m ≤ 140737488355328) (hB : B ≤ w.heap.size) :
  ∃ v' w', (Builtin.append_ #[36, 36] ty #[v, .slice (some ad) m c]).run Tryz.prog w = .ok v' w' ∧ Own w' B v' (n + m) (xs ++ bs) ∧ w.grownBy w' v.ownBlock ∧ Own w' B v n xs ∧ (v'.ownBlock = v.ownBlock ∨ v'.ownBlock = some w.heap.size) := by
 obtain ⟨i0, hi, hz0, hz1, hz2⟩ := info_parts info_byte
 have hl : (bv bs).length = m * 1 := by simp [bv, hm]
 obtain ⟨v', w', hr, h2, h3, _⟩ := run_append_own (P := Tryz.prog) w B 36 ty 5 i0 (.int .u8 0) 1 1 und_bytes hi hz0 hz1 hz2 rfl (by decide) v n (bv xs) hown.2 ad m c (bv bs) hl hnews (bv_oneCell bs) (by unfold maxLen; omega) (by omega) hB
 have o2 : Own w' B v' (n + m) (xs ++ bs) := ⟨by rw [hown.1, hm]; simp, by simpa [bv] using h2⟩
 refine ⟨v', w', hr, o2, h3, ?_⟩
 rcases hown.2.2 with ⟨rfl, h0⟩ | ⟨g, cap, cur, rfl, hg1, hg2, hg3, hg4, hg5, hg6⟩
 ·have hx : xs = [] := List.eq_nil_of_length_eq_zero (by rw [← hown.1]; exact h0)
  subst hx h0
  have hr2 := run_append_nil (P := Tryz.prog) w 36 ty 5 i0 (.int .u8 0) und_bytes hi hz0 ad m c (bv bs) (by rw [hz1]; exact hl) hnews hp (by omega) (by rw [hz2]; omega)
  rw [hr] at hr2
  injection hr2 with e1 e2
  subst e1
  exact ⟨own_nil _ _, .inr rfl⟩
 ·by_cases hroom : n + m ≤ cap
  ·obtain ⟨w2, hr2, k2, _⟩ := run_append_own_spare (P := Tryz.prog) w B 36 ty 5 i0 1 und_bytes hi hz1 g n cap (bv xs) hown.2 ad m c (bv bs) hl hnews (bv_oneCell bs) hroom
   rw [hr] at hr2
   injection hr2 with e1 e2
   subst e1 e2
   refine ⟨⟨hown.1, hown.2.1, ?_⟩, .inl rfl⟩
   rcases o2.2.2 with ⟨h5, _⟩ | ⟨g2, cap2, cur2, h5, h6, h7, h8, h9, h10, h11⟩
   ·cases h5
   ·simp only [Value.slice.injEq, Option.some.injEq] at h5
    obtain ⟨e3, _, rfl⟩ := h5
    obtain rfl : g = g2 := by injection e3
    refine .inr ⟨g, cap, cur2, rfl, h6, h7, hg3, hg4, h10, ?_⟩
    have e4 : cur2.toList.take (n * 1) = (cur2.toList.take ((n + m) * 1)).take (n * 1) := by
     rw [List.take_take, Nat.min_eq_left (by omega)]
    rw [e4, h11, bv_append, List.take_append_of_le_length (by rw [bv_length, ← hown.1]; omega), List.take_of_length_le (by rw [bv_length, ← hown.1]; omega)]
  ·have holds : ∀ j u, (bv xs)[j]? = some u → w.cell? ((⟨g, 0, none⟩ : Addr).add j) = some u := hown.2.cells (g := g) rfl
   have hr2 := run_append_grow (P := Tryz.prog) w 36 ty 5 i0 (.int .u8 0) und_bytes hi hz0 ⟨g, 0, none⟩ n cap (bv xs) (by rw [hz1, bv_length, ← hown.1]; omega) holds ad m c (bv bs) (by rw [hz1]; exact hl) hnews (by omega) (by omega) (by rw [hz2]; exact growslice_fits (by omega) (by omega))
   rw [hr] at hr2
   injection hr2 with e1 e2
   subst e1
   refine ⟨?_, .inr rfl⟩
   refine ⟨hown.1, hown.2.1, .inr ⟨g, cap, cur, rfl, hg1, ?_, hg3, hg4, hg5, hg6⟩⟩
   rw [e2, heap_alloc_old w.drew _ (Array.getElem?_eq_some_iff.1 hg2).1]
   exact hg2


def Keeps (mk : Nat) (w w' : World) : Prop := ∀ p : Addr, w.cell? p = some (.int .u8 (mk : Int)) → w'.cell? p = some (.int .u8 (mk : Int))
theorem Keeps.trans {mk : Nat} {a b c : World} (h : Keeps mk a b) (k : Keeps mk b c) : Keeps mk a c := fun p hp => k p (h p hp)
theorem Keeps.alloc (mk : Nat) (w : World) (o : Obj) : Keeps mk w (w.alloc o) := fun p hp => by
 have hb : Below w.heap.size w (w.alloc o) := (Below.refl _ _).alloc (Nat.le_refl _) o
 rw [hb.cell (World.block_lt_of_cell? w _ hp)]; exact hp
theorem Keeps.below {mk : Nat} {w w' : World} (hb : Below w.heap.size w w') : Keeps mk w w' := fun p hp => by
 rw [hb.cell (World.block_lt_of_cell? w _ hp)]; exact hp
theorem grown_trans {a b c : World} {o p : Option Nat} (h : a.grownBy b o) (k : b.grownBy c p) (hp : p = o ∨ ∀ g, p = some g → a.heap.size ≤ g) : a.grownBy c o :=
 ⟨k.os.trans h.os, k.tape.trans h.tape, k.output.trans h.output, Nat.le_trans h.size k.size, fun i hi hne => by
  rw [k.block i (Nat.lt_of_lt_of_le hi h.size) ?_, h.block i hi hne]
  rcases hp with rfl | hp
  ·exact hne
  ·intro e
   have := hp i e.symm
   omega⟩
theorem grown_alloc (w : World) (o : Obj) (p : Option Nat) : w.grownBy (w.alloc o) p := ⟨rfl, rfl, rfl, by simp, fun k hk _ => by
 have hb : Below w.heap.size w (w.alloc o) := (Below.refl _ _).alloc (Nat.le_refl _) o
 exact hb.block k hk⟩
theorem append_marks {w w' : World} {B n m c mk : Nat} {v v' : Value} {xs : List Nat} (ty : TypeId) (hown : Own w B v n xs) (ad : Addr) (hnews : ∀ j u, (bv (List.replicate m mk))[j]? = some u → w.cell? (ad.add j) = some u) (hp : 0 < m) (hbytes : n + m ≤ 140737488355328)
  (hr : (Builtin.append_ #[36, 36] ty #[v, .slice (some ad) m c]).run Tryz.prog w = .ok v' w') : Keeps mk w w' := by
 obtain ⟨i0, hi, hz0, hz1, hz2⟩ := info_parts info_byte
 have hl : (bv (List.replicate m mk)).length = m * 1 := by simp [bv]
 rcases hown.2.2 with ⟨rfl, h0⟩ | ⟨g, cap, cur, rfl, hg1, hg2, hg3, hg4, hg5, hg6⟩
 ·have hx : xs = [] := List.eq_nil_of_length_eq_zero (by rw [← hown.1]; exact h0)
  subst hx h0
  have hr2 := run_append_nil (P := Tryz.prog) w 36 ty 5 i0 (.int .u8 0) und_bytes hi hz0 ad m c _ (by rw [hz1]; exact hl) hnews hp (by omega) (by rw [hz2]; omega)
  rw [hr] at hr2
  injection hr2 with e1 e2
  rw [e2]
  exact Keeps.below (((Below.refl w.heap.size w).drew).alloc (Nat.le_refl _) _)
 ·by_cases hroom : n + m ≤ cap
  ·have hfit : n * i0.size + (bv (List.replicate m mk)).length ≤ cur.size := by rw [hz1, hl, hg5]; omega
   have hr2 := run_append_room (P := Tryz.prog) w 36 ty 5 i0 und_bytes hi g n cap cur hg2 ad m c _ (by rw [hz1]; exact hl) hnews (bv_oneCell _) hroom hfit
   rw [hr] at hr2
   injection hr2 with e1 e2
   rw [e2]
   intro p hc
   obtain ⟨pb, po, ps⟩ := p
   obtain rfl : ps = none := World.cell?_spot hc
   by_cases hb : pb = g
   ·subst hb
    rw [cell_setRow_same w pb po cur _ _ _ hg2]
    have hcur : cur[po]? = some (.int .u8 (mk : Int)) := by simpa [World.cell?, hg2] using hc
    have hlt : po < cur.size := (Array.getElem?_eq_some_iff.1 hcur).1
    have hcl : cur.toList[po]? = some (.int .u8 (mk : Int)) := by simpa using hcur
    simp only [hz1, Nat.mul_one, List.getElem?_toArray, hl] at *
    by_cases h1 : po < n
    ·rw [List.append_assoc, List.getElem?_append_left (by simp; omega), List.getElem?_take_of_lt h1]
     exact hcl
    ·by_cases h2 : po < n + m
     ·rw [List.getElem?_append_left (by simp [bv]; omega), List.getElem?_append_right (by simp; omega)]
      have e : (List.take n cur.toList).length = n := by simp; omega
      rw [e]
      simp [bv, List.getElem?_replicate]
      omega
     ·rw [List.getElem?_append_right (by simp [bv]; omega), List.getElem?_drop]
      have e : n + m + (po - (List.take n cur.toList ++ bv (List.replicate m mk)).length) = po := by simp [bv]; omega
      rw [e]
      exact hcl
   ·rw [cell_setRow_other w g _ ⟨pb, po, none⟩ hb]
    exact hc
  ·have holds : ∀ j u, (bv xs)[j]? = some u → w.cell? ((⟨g, 0, none⟩ : Addr).add j) = some u := hown.2.cells (g := g) rfl
   have hr2 := run_append_grow (P := Tryz.prog) w 36 ty 5 i0 (.int .u8 0) und_bytes hi hz0 ⟨g, 0, none⟩ n cap (bv xs) (by rw [hz1, bv_length, ← hown.1]; omega) holds ad m c _ (by rw [hz1]; exact hl) hnews (by omega) (by omega) (by rw [hz2]; exact growslice_fits (by omega) (by omega))
   rw [hr] at hr2
   injection hr2 with e1 e2
   rw [e2]
   exact Keeps.below (((Below.refl w.heap.size w).drew).alloc (Nat.le_refl _) _)

theorem wpList_append_mark {w : World} {ops : Array Oper} {rest : List Oper} {o : Oper} {a : Act} {Q : Exit → Act → World → Prop} (hgd : o.guard = none) (s x : Operand)
  (ho : o.op = .call { callee := .builtin .append, args := #[s, x], argTypes := #[36, 36] })
  (B : Nat) (a0 : Option Addr) (m0 c0 mk : Nat) (acc : List Nat) (hs : a.eval s = .slice a0 m0 c0) (hown : Own w B (.slice a0 m0 c0) m0 acc)
  (vs : List Value) (m : Nat) (hx : a.eval x = .slice (some ⟨w.heap.size, 0, none⟩) m m) (hvs : vs = bv (List.replicate m mk)) (hp : 0 < m)
  (hbytes : m0 + m ≤ 140737488355328) (hB : B ≤ w.heap.size)
  (h : ∀ a' m' c' w', Hid (m' = m0 + m) → Own w' B (.slice a' m' c') m' (acc ++ List.replicate m mk) → w.grownBy w' (Value.slice a0 m0 c0).ownBlock → Own w' B (.slice a0 m0 c0) m0 acc → ((Value.slice a' m' c').ownBlock = (Value.slice a0 m0 c0).ownBlock ∨ ∀ g, (Value.slice a' m' c').ownBlock = some g → w.heap.size ≤ g) → Keeps mk w w' → wpList Tryz.prog ops Q rest (a.put o.dst (.slice a' m' c')) w') : wpList Tryz.prog ops Q (o :: rest) a (w.alloc (.cells vs.toArray 5)) := by
 subst hvs
 have ho2 : Own (w.alloc (.cells (bv (List.replicate m mk)).toArray 5)) B (.slice a0 m0 c0) m0 acc := ⟨hown.1, hown.2.alloc _⟩
 obtain ⟨v', w', hr, h1, h2, h3, h4⟩ := append_keep (w := w.alloc (.cells (bv (List.replicate m mk)).toArray 5)) (B := B) (c := m) (bs := List.replicate m mk) o.type ho2 ⟨w.heap.size, 0, none⟩ (by simp) (news_new _ _ _) hp hbytes (by simp; omega)
 have hk := append_marks o.type ho2 ⟨w.heap.size, 0, none⟩ (news_new _ _ _) hp hbytes hr
 obtain ⟨a', c', rfl⟩ := own_form h1.2
 refine wpList_plain hgd fun K hK => ?_
 unfold Oper.wp execOp
 simp only [ho, resolve, invoke, builtin, Sem.run_bind, Sem.run_pure, Result.andThen_ok, List.map_toArray, List.map_cons, List.map_nil, hs, hx, hr]
 refine hK _ _ (h a' _ c' w' (by unfold Hid; rfl) h1 (grown_trans (grown_alloc w _ _) h2 (.inl rfl)) h3 ?_ ((Keeps.alloc mk w _).trans hk))
 rcases h4 with h4 | h4
 ·exact .inl h4
 ·refine .inr fun g hg => ?_
  rw [h4] at hg
  simp at hg
  omega

end Go.Proofs.YtchebhafabhabaaGreatDoor

namespace Go.Proofs.YtchebhafabhabaaGreatDoor
open Go.RowKit
set_option linter.unusedVariables false

def Near (w : World) (l u : Value) : Prop := u.ownBlock = l.ownBlock ∨ ∀ g, u.ownBlock = some g → w.heap.size ≤ g
theorem Near.on {w w' : World} {l u v : Value} (h : Near w l u) (k : v.ownBlock = u.ownBlock ∨ ∀ g, v.ownBlock = some g → w'.heap.size ≤ g) (hs : w.heap.size ≤ w'.heap.size) : Near w l v := by
 rcases k with k | k
 ·rcases h with h | h
  ·exact .inl (k.trans h)
  ·exact .inr fun g hg => h g (by rw [← k]; exact hg)
 ·exact .inr fun g hg => Nat.le_trans hs (k g hg)
def Marked (w w' : World) (l : Value) (G mk : Nat) : Prop := w.heap.size ≤ G ∧ ∀ i, i < 4 → ∃ ai ki ci, w'.cell? ⟨G, i, none⟩ = some (.slice ai ki ci) ∧ Rd w' (.slice ai ki ci) (List.replicate ki mk) ∧ Near w l (.slice ai ki ci)

theorem bv_at (L : List Nat) (t : Nat) (h : t < L.length) : (bv L)[t]? = some (.int .u8 ((L.getD t 0 : Nat) : Int)) := by
 simp [bv, List.getD, List.getElem?_eq_getElem h]
theorem fill_set {mk t : Nat} {xs : List Nat} (h : t < xs.length) : (List.replicate t mk ++ xs.drop t).set t mk = List.replicate (t + 1) mk ++ xs.drop (t + 1) := by
 rw [List.set_append_right _ _ (by simp), drop_cons xs t h]
 simp [List.replicate_succ']

def FullL (w : World) (G mk : Nat) : Prop := ∀ i, i < 4 → ∃ ai ki ci, w.cell? ⟨G, i, none⟩ = some (.slice ai ki ci) ∧ Rd w (.slice ai ki ci) (List.replicate ki mk)
end Go.Proofs.YtchebhafabhabaaGreatDoor

namespace Go.Proofs.YtchebhafabhabaaGreatDoor
open Go.RowKit
set_option linter.unusedVariables false

open Classical in
noncomputable def startL (r : List Nat) : List Nat := if RowOk r then ordL r else []
open Classical in
noncomputable def behindL (r : List Nat) : List Nat := if RowOk r then ordL r ++ [255] else []
open Classical in
noncomputable def rowE (r : List Nat) : Nat := if RowOk r then 0 else 20
end Go.Proofs.YtchebhafabhabaaGreatDoor

namespace Go.Proofs.YtchebhafabhabaaGreatDoor
open Go.RowKit
set_option linter.unusedVariables false

set_option maxRecDepth 100000 in
set_option maxHeartbeats 4000000 in
theorem refCheck_any {e : EntD} {w : World} (hok : EntD.Ok w e) :
  Calls Tryz.prog 47 #[.agg e.cells] w fun r w' => r = .returned (.int .i64 ((checkS e : Nat) : Int)) ∧ Below w.heap.size w w' := by
 obtain ⟨vr, fam, vq, ts, seq, kind, vv, row, qual, val⟩ := e
 obtain ⟨h1, h2, h3⟩ := hok
 simp only [EntD.cells] at *
 obtain ⟨ar, nr, cr, rfl⟩ := rd_slice h1
 obtain ⟨aq, nq, cq, rfl⟩ := rd_slice h2
 obtain ⟨av, nv, cv, rfl⟩ := rd_slice h3
 obtain ⟨er, _, _, lr⟩ := rd_lens h1
 obtain ⟨eq, _, _, lq⟩ := rd_lens h2
 obtain ⟨ev, _, _, lv⟩ := rd_lens h3
 have A1 := (Below.refl w.heap.size w).alloc (Nat.le_refl _) (.cells #[.slice ar nr cr, .int .i64 fam, .slice aq nq cq, .int .i64 ts, .int .i64 seq, .int .i64 kind, .slice av nv cv] 40)
 obtain ⟨S, hS⟩ : ∃ S, S = checkS ⟨.slice ar nr cr, fam, .slice aq nq cq, ts, seq, kind, .slice av nv cv, row, qual, val⟩ := ⟨_, rfl⟩
 rw [← hS]
 unfold checkS at hS
 simp only at hS
 rw [← er, ← eq, ← ev] at hS
 have HS : Hid (S = _) := hS
 clear hS er eq ev h1 h2 h3
 go_enter Tryz.func47, Tryz.ntmps47
 go_wp2_with fail
 by_cases c1 : nr = 0 ∨ 256 < nr
 ·refine (refOut_out _ _ _ _ (by omega)).mono ?_
  rintro e1 w1 ⟨rfl, rfl⟩
  have HE : Hid (S = 20) := by unfold Hid; rw [HS.out]; repeat (first | rw [if_pos (by omega)] | rw [if_neg (by omega)])
  clear HS
  go_wp2
  go_ret
  exact ⟨by rw [HE.out]; rfl, A1⟩
 refine (refOut_in _ _ _ _ (by omega) (by omega)).mono ?_
 rintro e1 w1 ⟨rfl, rfl⟩
 go_wp2_with fail
 by_cases c2 : fam < 0 ∨ 8 ≤ fam
 ·refine (refOut_out _ _ _ _ (by omega)).mono ?_
  rintro e1 w1 ⟨rfl, rfl⟩
  have HE : Hid (S = 21) := by unfold Hid; rw [HS.out]; repeat (first | rw [if_pos (by omega)] | rw [if_neg (by omega)])
  clear HS
  go_wp2
  go_ret
  exact ⟨by rw [HE.out]; rfl, A1⟩
 refine (refOut_in _ _ _ _ (by omega) (by omega)).mono ?_
 rintro e1 w1 ⟨rfl, rfl⟩
 by_cases c3 : 256 < nq
 ·have q1 : (256 : Int) < (nq : Int) := by omega
  have HE : Hid (S = 22) := by unfold Hid; rw [HS.out]; repeat (first | rw [if_pos (by omega)] | rw [if_neg (by omega)])
  clear HS
  go_wp2
  go_ret
  exact ⟨by rw [HE.out]; rfl, A1⟩
 have q1 : (nq : Int) ≤ 256 := by omega
 by_cases k5 : kind = 5
 ·subst k5
  by_cases q0 : 0 < nq
  ·have q2 : (0 : Int) < (nq : Int) := by omega
   have HE : Hid (S = 22) := by unfold Hid; rw [HS.out]; repeat (first | rw [if_pos (by omega)] | rw [if_neg (by omega)])
   clear HS
   go_wp2
   go_ret
   exact ⟨by rw [HE.out]; rfl, A1⟩
  have q2 : (nq : Int) ≤ 0 := by omega
  go_wp2_with fail
  by_cases c4 : ts < 1 ∨ 1099511627776 < ts
  ·refine (refOut_out _ _ _ _ (by omega)).mono ?_
   rintro e1 w1 ⟨rfl, rfl⟩
   have HE : Hid (S = 23) := by unfold Hid; rw [HS.out]; repeat (first | rw [if_pos (by omega)] | rw [if_neg (by omega)])
   clear HS
   go_wp2
   go_ret
   exact ⟨by rw [HE.out]; rfl, A1⟩
  refine (refOut_in _ _ _ _ (by omega) (by omega)).mono ?_
  rintro e1 w1 ⟨rfl, rfl⟩
  go_wp2_with fail
  by_cases c5 : seq < 0 ∨ 17592186044431 < seq
  ·refine (refOut_out _ _ _ _ (by omega)).mono ?_
   rintro e1 w1 ⟨rfl, rfl⟩
   have HE : Hid (S = 24) := by unfold Hid; rw [HS.out]; repeat (first | rw [if_pos (by omega)] | rw [if_neg (by omega)])
   clear HS
   go_wp2
   go_ret
   exact ⟨by rw [HE.out]; rfl, A1⟩
  refine (refOut_in _ _ _ _ (by omega) (by omega)).mono ?_
  rintro e1 w1 ⟨rfl, rfl⟩
  go_wp2_with fail
  refine (refOut_in _ _ _ _ (by decide) (by decide)).mono ?_
  rintro e1 w1 ⟨rfl, rfl⟩
  by_cases c7 : 4096 < nv
  ·have v1 : (4096 : Int) < (nv : Int) := by omega
   have HE : Hid (S = 26) := by unfold Hid; rw [HS.out]; repeat (first | rw [if_pos (by omega)] | rw [if_neg (by omega)])
   clear HS
   go_wp2
   go_ret
   exact ⟨by rw [HE.out]; rfl, A1⟩
  have v1 : (nv : Int) ≤ 4096 := by omega
  by_cases c9 : 0 < nv
  ·have v0 : (0 : Int) < (nv : Int) := by omega
   have HE : Hid (S = 26) := by unfold Hid; rw [HS.out]; repeat (first | rw [if_pos (by omega)] | rw [if_neg (by omega)])
   clear HS
   go_wp2
   go_ret
   exact ⟨by rw [HE.out]; rfl, A1⟩
  have v0 : (nv : Int) ≤ 0 := by omega
  have HE : Hid (S = 0) := by unfold Hid; rw [HS.out]; repeat (first | rw [if_pos (by omega)] | rw [if_neg (by omega)])
  clear HS
  go_wp2
  go_ret
  exact ⟨by rw [HE.out]; rfl, A1⟩
 have k51 : (kind == 5) = false := by simp; omega
 go_wp2_with fail
 by_cases c4 : ts < 1 ∨ 1099511627776 < ts
 ·refine (refOut_out _ _ _ _ (by omega)).mono ?_
  rintro e1 w1 ⟨rfl, rfl⟩
  have HE : Hid (S = 23) := by unfold Hid; rw [HS.out]; repeat (first | rw [if_pos (by omega)] | rw [if_neg (by omega)])
  clear HS
  go_wp2
  go_ret
  exact ⟨by rw [HE.out]; rfl, A1⟩
 refine (refOut_in _ _ _ _ (by omega) (by omega)).mono ?_
 rintro e1 w1 ⟨rfl, rfl⟩
 go_wp2_with fail
 by_cases c5 : seq < 0 ∨ 17592186044431 < seq
 ·refine (refOut_out _ _ _ _ (by omega)).mono ?_
  rintro e1 w1 ⟨rfl, rfl⟩
  have HE : Hid (S = 24) := by unfold Hid; rw [HS.out]; repeat (first | rw [if_pos (by omega)] | rw [if_neg (by omega)])
  clear HS
  go_wp2
  go_ret
  exact ⟨by rw [HE.out]; rfl, A1⟩
 refine (refOut_in _ _ _ _ (by omega) (by omega)).mono ?_
 rintro e1 w1 ⟨rfl, rfl⟩
 go_wp2_with fail
 by_cases c6 : kind < 1 ∨ 5 < kind
 ·refine (refOut_out _ _ _ _ (by omega)).mono ?_
  rintro e1 w1 ⟨rfl, rfl⟩
  have HE : Hid (S = 25) := by unfold Hid; rw [HS.out]; repeat (first | rw [if_pos (by omega)] | rw [if_neg (by omega)])
  clear HS
  go_wp2
  go_ret
  exact ⟨by rw [HE.out]; rfl, A1⟩
 refine (refOut_in _ _ _ _ (by omega) (by omega)).mono ?_
 rintro e1 w1 ⟨rfl, rfl⟩
 by_cases c7 : 4096 < nv
 ·have v1 : (4096 : Int) < (nv : Int) := by omega
  have HE : Hid (S = 26) := by unfold Hid; rw [HS.out]; repeat (first | rw [if_pos (by omega)] | rw [if_neg (by omega)])
  clear HS
  go_wp2
  go_ret
  exact ⟨by rw [HE.out]; rfl, A1⟩
 have v1 : (nv : Int) ≤ 4096 := by omega
 by_cases c8 : kind = 1
 ·subst c8
  have HE : Hid (S = 0) := by unfold Hid; rw [HS.out]; repeat (first | rw [if_pos (by omega)] | rw [if_neg (by omega)])
  clear HS
  go_wp2
  go_ret
  exact ⟨by rw [HE.out]; rfl, A1⟩
 have k1 : (kind != 1) = true := by simp; omega
 have k2 : (kind == 1) = false := by simp; omega
 by_cases c9 : 0 < nv
 ·have v0 : (0 : Int) < (nv : Int) := by omega
  have HE : Hid (S = 26) := by unfold Hid; rw [HS.out]; repeat (first | rw [if_pos (by omega)] | rw [if_neg (by omega)])
  clear HS
  go_wp2
  go_ret
  exact ⟨by rw [HE.out]; rfl, A1⟩
 have v0 : (nv : Int) ≤ 0 := by omega
 have HE : Hid (S = 0) := by unfold Hid; rw [HS.out]; repeat (first | rw [if_pos (by omega)] | rw [if_neg (by omega)])
 clear HS
 go_wp2
 go_ret
 exact ⟨by rw [HE.out]; rfl, A1⟩

end Go.Proofs.YtchebhafabhabaaGreatDoor

namespace Go.Proofs.YtchebhafabhabaaGreatDoor
open Go.RowKit
set_option linter.unusedVariables false

set_option maxRecDepth 100000 in
set_option maxHeartbeats 4000000 in
theorem refkey_any {e : EntD} {w : World} (hok : EntD.Ok w e) (hc : checkS e = 0) :
  Calls Tryz.prog 78 #[.agg e.cells] w fun r w' => ∃ a m c, r = .returned (.slice a m c) ∧ Own w' w.heap.size (.slice a m c) m (keyL e) ∧ Below w.heap.size w w' := by
 obtain ⟨f1, f2, f3, f4, f5, f6, f7, _, _⟩ := check_facts hc
 have A1 := (Below.refl w.heap.size w).alloc (Nat.le_refl _) (.cells e.cells 40)
 have bx1 : Hid (EBox (w.alloc (.cells e.cells 40)) w.heap.size e) := EBox.new w e
 obtain ⟨vr, fam, vq, ts, seq, kind, vv, row, qual, val⟩ := e
 obtain ⟨h1, h2, h3⟩ := hok
 simp only [EntD.cells] at *
 obtain ⟨fm, rfl⟩ := Int.eq_ofNat_of_zero_le f2.1
 obtain ⟨t, rfl⟩ := Int.eq_ofNat_of_zero_le (show 0 ≤ ts by omega)
 obtain ⟨sq, rfl⟩ := Int.eq_ofNat_of_zero_le f6.1
 obtain ⟨kd, rfl⟩ := Int.eq_ofNat_of_zero_le (show 0 ≤ kind by omega)
 have HOR : Hid ((ordL row).length ≤ 514 ∧ Bys (ordL row)) := ⟨by have := ordL_len row; have : row.count 0 ≤ row.length := List.count_le_length; omega, ordL_bys row h1.1⟩
 have HOQ : Hid ((ordL qual).length ≤ 514 ∧ Bys (ordL qual)) := ⟨by have := ordL_len qual; have : qual.count 0 ≤ qual.length := List.count_le_length; omega, ordL_bys qual h2.1⟩
 have hfm : fm < 8 := by omega
 have hkd : kd ≤ 5 := by omega
 have hts : t < 9223372036854775808 := by omega
 have hsq : sq < 9223372036854775808 := by omega
 have em1 : (fm : Int) % 256 = (fm : Int) := by omega
 have em2 : (kd : Int) % 256 = (kd : Int) := by omega
 have HRR : Hid (Rd w vr row) := h1
 have HRQ : Hid (Rd w vq qual) := h2
 clear h1 h2 h3 f1 f2 f3 f5 f6 f7 f4 hc
 go_enter Tryz.func78, Tryz.ntmps78
 go_wp2_with fail
 refine (refOrdered_any (HRR.out.later A1) (by have := HOR.out.1; omega)).mono ?_
 rintro e1 w1 ⟨a1, m1, c1, rfl, own1x, hb1⟩
 have B1 := A1.trans (hb1.mono A1.size)
 have bxw1 : Hid (EBox w1 w.heap.size _) := bx1.out.later hb1
 have hG : w.heap.size < w.heap.size + 1 := by omega
 have own1 : Own w1 (w.heap.size + 1) (.slice a1 m1 c1) m1 (ordL row) := by simpa using own1x
 have hS1 : w.heap.size + 1 ≤ w1.heap.size := by have := hb1.size; simpa using this
 have hm1 : m1 ≤ 514 := by rw [own1.1]; exact HOR.out.1
 clear hb1 bx1 own1x A1
 have xfam1 := bxw1.out.fam
 simp only at xfam1
 go_wp2_with (at_builtin; refine wpList_append_new rfl _ _ rfl (w.heap.size + 1) a1 m1 c1 _ rfl own1 [_] 1 rfl [fm] (by first | rfl | (simp [bv]; done) | (simp [bv]; omega)) rfl (by omega) hS1 ?_; intro a2 m2 c2 w2 own2 hb2; refine Hid.out ?_)
 refine Lib.hid ?_
 have hm2 : m2 ≤ 515 := by rw [own2.1, List.length_append, ← own1.1]; simp; omega
 have bxw2 : Hid (EBox w2 w.heap.size _) := bxw1.out.keep hb2 hG
 have B2 := B1.trans (hb2.mono (Nat.le_of_lt hG))
 have hS2 : w.heap.size + 1 ≤ w2.heap.size := Nat.le_trans hS1 hb2.size
 clear bxw1 B1 hS1 hb2 own1 hm1
 clear xfam1
 by_cases hk5 : kd = 5
 ·have HKL : Hid (keyL ⟨vr, (fm : Int), vq, (t : Int), (sq : Int), (kd : Int), vv, row, qual, val⟩ = ((((ordL row ++ [fm]) ++ [0]) ++ be8 (9223372036854775807 - t)) ++ be8 (9223372036854775807 - sq)) ++ [kd]) := by
   unfold Hid keyL mark
   have : (kd : Int) = 5 := by omega
   simp [this]
   omega
  have hkn : ((kd : Int) == 5) = true := by simp; omega
  have xkind2 := bxw2.out.kind
  simp only at xkind2
  go_wp2_with (at_builtin; refine wpList_append_new rfl _ _ rfl (w.heap.size + 1) a2 m2 c2 _ rfl own2 [_] 1 rfl [0] (by first | rfl | (simp [bv]; done) | (simp [bv]; omega)) rfl (by omega) hS2 ?_; intro a3 m3 c3 w3 own3 hb3; refine Hid.out ?_)
  refine Lib.hid ?_
  have hm3 : m3 ≤ 516 := by rw [own3.1, List.length_append, ← own2.1]; simp; omega
  have bxw3 : Hid (EBox w3 w.heap.size _) := bxw2.out.keep hb3 hG
  have B3 := B2.trans (hb3.mono (Nat.le_of_lt hG))
  have hS3 : w.heap.size + 1 ≤ w3.heap.size := Nat.le_trans hS2 hb3.size
  clear bxw2 B2 hS2 hb3 own2 hm2
  clear xkind2
  have xts3 := bxw3.out.ts
  simp only at xts3
  go_wp2_with fail
  refine (refFalling_any t hts _).mono ?_
  rintro e7 w7 ⟨a7, m7, c7, rfl, own7, hb7⟩
  have hm7 : m7 = 8 := own7.1
  subst hm7
  have r7 : Rd w7 (.slice a7 8 c7) _ := own7.rd (be8_bys _) (by omega)
  have own67 := own3.later hb7
  have bxw7 : Hid (EBox w7 w.heap.size _) := bxw3.out.later hb7
  have B7 := B3.trans (hb7.mono B3.size)
  have hS7 : w.heap.size + 1 ≤ w7.heap.size := Nat.le_trans hS3 hb7.size
  clear bxw3 B3 hS3 hb7 own3 own7 xts3
  have xseq7 := bxw7.out.seq
  simp only at xseq7
  go_wp2_with fail
  refine (refFalling_any sq hsq _).mono ?_
  rintro e8 w8 ⟨a8, m8, c8, rfl, own8, hb8⟩
  have hm8 : m8 = 8 := own8.1
  subst hm8
  have r78 := r7.later hb8
  have own68 := own67.later hb8
  have HLT : Hid (∀ g, (Value.slice a3 m3 c3).ownBlock = some g → g < w7.heap.size) := fun g hg => (own67.2.lt g hg).2
  have bxw8 : Hid (EBox w8 w.heap.size _) := bxw7.out.later hb8
  have B8 := B7.trans (hb8.mono B7.size)
  have hS8 : w.heap.size + 1 ≤ w8.heap.size := Nat.le_trans hS7 hb8.size
  have R8 : Hid (Own w8 w7.heap.size (.slice a8 8 c8) 8 (be8 (9223372036854775807 - sq)) ∧ Below w7.heap.size w7 w8) := ⟨own8, hb8⟩
  clear bxw7 B7 hb8 own67 own8 xseq7 r7
  go_wp2_with (at_builtin; refine wpList_append_gr rfl _ _ rfl (w.heap.size + 1) a3 m3 c3 _ rfl own68 a7 8 c7 _ rfl r78 (by omega) hS8 ?_; intro a9 m9 c9 w9 own9 hb9 gr9; refine Hid.out ?_)
  refine Lib.hid ?_
  have hm9 : m9 ≤ 524 := by rw [own9.1, List.length_append, ← own68.1]; simp [be8]; omega
  have r9 : Rd w9 (.slice a8 8 c8) _ := (R8.out.1.grown gr9 HLT.out).rd (be8_bys _) (by omega)
  have bxw9 : Hid (EBox w9 w.heap.size _) := bxw8.out.keep hb9 hG
  have B9 := B8.trans (hb9.mono (Nat.le_of_lt hG))
  have hS9 : w.heap.size + 1 ≤ w9.heap.size := Nat.le_trans hS8 hb9.size
  clear bxw8 B8 hS8 hb9 own68 r78 R8 HLT gr9 hS7 hm3
  go_wp2_with (at_builtin; refine wpList_append_at rfl _ _ rfl (w.heap.size + 1) a9 m9 c9 _ rfl own9 a8 8 c8 _ rfl r9 (by omega) hS9 ?_; intro a10 m10 c10 w10 own10 hb10; refine Hid.out ?_)
  refine Lib.hid ?_
  have hm10 : m10 ≤ 532 := by rw [own10.1, List.length_append, ← own9.1]; simp [be8]; omega
  have bxw10 : Hid (EBox w10 w.heap.size _) := bxw9.out.keep hb10 hG
  have B10 := B9.trans (hb10.mono (Nat.le_of_lt hG))
  have hS10 : w.heap.size + 1 ≤ w10.heap.size := Nat.le_trans hS9 hb10.size
  clear bxw9 B9 hS9 hb10 own9 r9 hm9
  have xkind10 := bxw10.out.kind
  simp only at xkind10
  go_wp2_with (at_builtin; refine wpList_append_new rfl _ _ rfl (w.heap.size + 1) a10 m10 c10 _ rfl own10 [_] 1 rfl [kd] (by first | rfl | (simp [bv]; done) | (simp [bv]; omega)) rfl (by omega) hS10 ?_; intro a11 m11 c11 w11 own11 hb11)
  go_ret
  refine ⟨a11, m11, c11, rfl, ?_, B10.trans (hb11.mono (Nat.le_of_lt hG))⟩
  rw [HKL.out]
  exact own11.mono (Nat.le_of_lt hG)
 by_cases hk4c : kd = 4
 ·have HKL : Hid (keyL ⟨vr, (fm : Int), vq, (t : Int), (sq : Int), (kd : Int), vv, row, qual, val⟩ = ((((((ordL row ++ [fm]) ++ [1]) ++ ordL qual) ++ [0]) ++ be8 (9223372036854775807 - t)) ++ be8 (9223372036854775807 - sq)) ++ [kd]) := by
   unfold Hid keyL mark
   have h4 : (kd : Int) = 4 := by omega
   simp [h4]
   omega
  have hkn : ((kd : Int) == 5) = false := by simp; omega
  have hk4 : ((kd : Int) == 4) = true := by simp; omega
  have xkind2 := bxw2.out.kind
  simp only at xkind2
  go_wp2_with (at_builtin; refine wpList_append_new rfl _ _ rfl (w.heap.size + 1) a2 m2 c2 _ rfl own2 [_] 1 rfl [1] (by first | rfl | (simp [bv]; done) | (simp [bv]; omega)) rfl (by omega) hS2 ?_; intro a3 m3 c3 w3 own3 hb3; refine Hid.out ?_)
  refine Lib.hid ?_
  have hm3 : m3 ≤ 516 := by rw [own3.1, List.length_append, ← own2.1]; simp; omega
  have bxw3 : Hid (EBox w3 w.heap.size _) := bxw2.out.keep hb3 hG
  have B3 := B2.trans (hb3.mono (Nat.le_of_lt hG))
  have hS3 : w.heap.size + 1 ≤ w3.heap.size := Nat.le_trans hS2 hb3.size
  clear bxw2 B2 hS2 hb3 own2 hm2
  clear xkind2
  have xvq3 := bxw3.out.vq
  simp only at xvq3
  go_wp2_with fail
  refine (refOrdered_any (HRQ.out.later B3) (by have := HOQ.out.1; omega)).mono ?_
  rintro e4 w4 ⟨a4, m4, c4, rfl, own4, hb4⟩
  have hm4 : m4 ≤ 514 := by rw [own4.1]; exact HOQ.out.1
  have r4 : Rd w4 (.slice a4 m4 c4) _ := own4.rd HOQ.out.2 (by omega)
  have own34 := own3.later hb4
  have bxw4 : Hid (EBox w4 w.heap.size _) := bxw3.out.later hb4
  have B4 := B3.trans (hb4.mono B3.size)
  have hS4 : w.heap.size + 1 ≤ w4.heap.size := Nat.le_trans hS3 hb4.size
  have HL4 : Hid (m4 = (ordL qual).length) := own4.1
  clear bxw3 B3 hS3 hb4 own3 own4 xvq3
  go_wp2_with (at_builtin; refine wpList_append_at rfl _ _ rfl (w.heap.size + 1) a3 m3 c3 _ rfl own34 a4 m4 c4 _ rfl r4 (by omega) hS4 ?_; intro a5 m5 c5 w5 own5 hb5; refine Hid.out ?_)
  refine Lib.hid ?_
  have hm5 : m5 ≤ 1030 := by rw [own5.1, List.length_append, ← own34.1, ← HL4.out]; omega
  have bxw5 : Hid (EBox w5 w.heap.size _) := bxw4.out.keep hb5 hG
  have B5 := B4.trans (hb5.mono (Nat.le_of_lt hG))
  have hS5 : w.heap.size + 1 ≤ w5.heap.size := Nat.le_trans hS4 hb5.size
  clear bxw4 B4 hS4 hb5 own34 r4 hm3 hm4 HL4
  have xkind5 := bxw5.out.kind
  simp only at xkind5
  go_wp2_with (at_builtin; refine wpList_append_new rfl _ _ rfl (w.heap.size + 1) a5 m5 c5 _ rfl own5 [_] 1 rfl [0] (by first | rfl | (simp [bv]; done) | (simp [bv]; omega)) rfl (by omega) hS5 ?_; intro a6 m6 c6 w6 own6 hb6; refine Hid.out ?_)
  refine Lib.hid ?_
  have hm6 : m6 ≤ 1031 := by rw [own6.1, List.length_append, ← own5.1]; simp; omega
  have bxw6 : Hid (EBox w6 w.heap.size _) := bxw5.out.keep hb6 hG
  have B6 := B5.trans (hb6.mono (Nat.le_of_lt hG))
  have hS6 : w.heap.size + 1 ≤ w6.heap.size := Nat.le_trans hS5 hb6.size
  clear bxw5 B5 hS5 hb6 own5 hm5
  clear xkind5
  have xts6 := bxw6.out.ts
  simp only at xts6
  go_wp2_with fail
  refine (refFalling_any t hts _).mono ?_
  rintro e7 w7 ⟨a7, m7, c7, rfl, own7, hb7⟩
  have hm7 : m7 = 8 := own7.1
  subst hm7
  have r7 : Rd w7 (.slice a7 8 c7) _ := own7.rd (be8_bys _) (by omega)
  have own67 := own6.later hb7
  have bxw7 : Hid (EBox w7 w.heap.size _) := bxw6.out.later hb7
  have B7 := B6.trans (hb7.mono B6.size)
  have hS7 : w.heap.size + 1 ≤ w7.heap.size := Nat.le_trans hS6 hb7.size
  clear bxw6 B6 hS6 hb7 own6 own7 xts6
  have xseq7 := bxw7.out.seq
  simp only at xseq7
  go_wp2_with fail
  refine (refFalling_any sq hsq _).mono ?_
  rintro e8 w8 ⟨a8, m8, c8, rfl, own8, hb8⟩
  have hm8 : m8 = 8 := own8.1
  subst hm8
  have r78 := r7.later hb8
  have own68 := own67.later hb8
  have HLT : Hid (∀ g, (Value.slice a6 m6 c6).ownBlock = some g → g < w7.heap.size) := fun g hg => (own67.2.lt g hg).2
  have bxw8 : Hid (EBox w8 w.heap.size _) := bxw7.out.later hb8
  have B8 := B7.trans (hb8.mono B7.size)
  have hS8 : w.heap.size + 1 ≤ w8.heap.size := Nat.le_trans hS7 hb8.size
  have R8 : Hid (Own w8 w7.heap.size (.slice a8 8 c8) 8 (be8 (9223372036854775807 - sq)) ∧ Below w7.heap.size w7 w8) := ⟨own8, hb8⟩
  clear bxw7 B7 hb8 own67 own8 xseq7 r7
  go_wp2_with (at_builtin; refine wpList_append_gr rfl _ _ rfl (w.heap.size + 1) a6 m6 c6 _ rfl own68 a7 8 c7 _ rfl r78 (by omega) hS8 ?_; intro a9 m9 c9 w9 own9 hb9 gr9; refine Hid.out ?_)
  refine Lib.hid ?_
  have hm9 : m9 ≤ 1039 := by rw [own9.1, List.length_append, ← own68.1]; simp [be8]; omega
  have r9 : Rd w9 (.slice a8 8 c8) _ := (R8.out.1.grown gr9 HLT.out).rd (be8_bys _) (by omega)
  have bxw9 : Hid (EBox w9 w.heap.size _) := bxw8.out.keep hb9 hG
  have B9 := B8.trans (hb9.mono (Nat.le_of_lt hG))
  have hS9 : w.heap.size + 1 ≤ w9.heap.size := Nat.le_trans hS8 hb9.size
  clear bxw8 B8 hS8 hb9 own68 r78 R8 HLT gr9 hS7 hm6
  go_wp2_with (at_builtin; refine wpList_append_at rfl _ _ rfl (w.heap.size + 1) a9 m9 c9 _ rfl own9 a8 8 c8 _ rfl r9 (by omega) hS9 ?_; intro a10 m10 c10 w10 own10 hb10; refine Hid.out ?_)
  refine Lib.hid ?_
  have hm10 : m10 ≤ 1047 := by rw [own10.1, List.length_append, ← own9.1]; simp [be8]; omega
  have bxw10 : Hid (EBox w10 w.heap.size _) := bxw9.out.keep hb10 hG
  have B10 := B9.trans (hb10.mono (Nat.le_of_lt hG))
  have hS10 : w.heap.size + 1 ≤ w10.heap.size := Nat.le_trans hS9 hb10.size
  clear bxw9 B9 hS9 hb10 own9 r9 hm9
  have xkind10 := bxw10.out.kind
  simp only at xkind10
  go_wp2_with (at_builtin; refine wpList_append_new rfl _ _ rfl (w.heap.size + 1) a10 m10 c10 _ rfl own10 [_] 1 rfl [kd] (by first | rfl | (simp [bv]; done) | (simp [bv]; omega)) rfl (by omega) hS10 ?_; intro a11 m11 c11 w11 own11 hb11)
  go_ret
  refine ⟨a11, m11, c11, rfl, ?_, B10.trans (hb11.mono (Nat.le_of_lt hG))⟩
  rw [HKL.out]
  exact own11.mono (Nat.le_of_lt hG)
 ·have HKL : Hid (keyL ⟨vr, (fm : Int), vq, (t : Int), (sq : Int), (kd : Int), vv, row, qual, val⟩ = ((((((ordL row ++ [fm]) ++ [1]) ++ ordL qual) ++ [1]) ++ be8 (9223372036854775807 - t)) ++ be8 (9223372036854775807 - sq)) ++ [kd]) := by
   unfold Hid keyL mark
   have h4 : ¬ ((kd : Int) = 4) := by omega
   have h5 : ¬ ((kd : Int) = 5) := by omega
   simp [h4, h5]
  have hkn : ((kd : Int) == 5) = false := by simp; omega
  have hk4 : ((kd : Int) == 4) = false := by simp; omega
  have xkind2 := bxw2.out.kind
  simp only at xkind2
  go_wp2_with (at_builtin; refine wpList_append_new rfl _ _ rfl (w.heap.size + 1) a2 m2 c2 _ rfl own2 [_] 1 rfl [1] (by first | rfl | (simp [bv]; done) | (simp [bv]; omega)) rfl (by omega) hS2 ?_; intro a3 m3 c3 w3 own3 hb3; refine Hid.out ?_)
  refine Lib.hid ?_
  have hm3 : m3 ≤ 516 := by rw [own3.1, List.length_append, ← own2.1]; simp; omega
  have bxw3 : Hid (EBox w3 w.heap.size _) := bxw2.out.keep hb3 hG
  have B3 := B2.trans (hb3.mono (Nat.le_of_lt hG))
  have hS3 : w.heap.size + 1 ≤ w3.heap.size := Nat.le_trans hS2 hb3.size
  clear bxw2 B2 hS2 hb3 own2 hm2
  clear xkind2
  have xvq3 := bxw3.out.vq
  simp only at xvq3
  go_wp2_with fail
  refine (refOrdered_any (HRQ.out.later B3) (by have := HOQ.out.1; omega)).mono ?_
  rintro e4 w4 ⟨a4, m4, c4, rfl, own4, hb4⟩
  have hm4 : m4 ≤ 514 := by rw [own4.1]; exact HOQ.out.1
  have r4 : Rd w4 (.slice a4 m4 c4) _ := own4.rd HOQ.out.2 (by omega)
  have own34 := own3.later hb4
  have bxw4 : Hid (EBox w4 w.heap.size _) := bxw3.out.later hb4
  have B4 := B3.trans (hb4.mono B3.size)
  have hS4 : w.heap.size + 1 ≤ w4.heap.size := Nat.le_trans hS3 hb4.size
  have HL4 : Hid (m4 = (ordL qual).length) := own4.1
  clear bxw3 B3 hS3 hb4 own3 own4 xvq3
  go_wp2_with (at_builtin; refine wpList_append_at rfl _ _ rfl (w.heap.size + 1) a3 m3 c3 _ rfl own34 a4 m4 c4 _ rfl r4 (by omega) hS4 ?_; intro a5 m5 c5 w5 own5 hb5; refine Hid.out ?_)
  refine Lib.hid ?_
  have hm5 : m5 ≤ 1030 := by rw [own5.1, List.length_append, ← own34.1, ← HL4.out]; omega
  have bxw5 : Hid (EBox w5 w.heap.size _) := bxw4.out.keep hb5 hG
  have B5 := B4.trans (hb5.mono (Nat.le_of_lt hG))
  have hS5 : w.heap.size + 1 ≤ w5.heap.size := Nat.le_trans hS4 hb5.size
  clear bxw4 B4 hS4 hb5 own34 r4 hm3 hm4 HL4
  have xkind5 := bxw5.out.kind
  simp only at xkind5
  go_wp2_with (at_builtin; refine wpList_append_new rfl _ _ rfl (w.heap.size + 1) a5 m5 c5 _ rfl own5 [_] 1 rfl [1] (by first | rfl | (simp [bv]; done) | (simp [bv]; omega)) rfl (by omega) hS5 ?_; intro a6 m6 c6 w6 own6 hb6; refine Hid.out ?_)
  refine Lib.hid ?_
  have hm6 : m6 ≤ 1031 := by rw [own6.1, List.length_append, ← own5.1]; simp; omega
  have bxw6 : Hid (EBox w6 w.heap.size _) := bxw5.out.keep hb6 hG
  have B6 := B5.trans (hb6.mono (Nat.le_of_lt hG))
  have hS6 : w.heap.size + 1 ≤ w6.heap.size := Nat.le_trans hS5 hb6.size
  clear bxw5 B5 hS5 hb6 own5 hm5
  clear xkind5
  have xts6 := bxw6.out.ts
  simp only at xts6
  go_wp2_with fail
  refine (refFalling_any t hts _).mono ?_
  rintro e7 w7 ⟨a7, m7, c7, rfl, own7, hb7⟩
  have hm7 : m7 = 8 := own7.1
  subst hm7
  have r7 : Rd w7 (.slice a7 8 c7) _ := own7.rd (be8_bys _) (by omega)
  have own67 := own6.later hb7
  have bxw7 : Hid (EBox w7 w.heap.size _) := bxw6.out.later hb7
  have B7 := B6.trans (hb7.mono B6.size)
  have hS7 : w.heap.size + 1 ≤ w7.heap.size := Nat.le_trans hS6 hb7.size
  clear bxw6 B6 hS6 hb7 own6 own7 xts6
  have xseq7 := bxw7.out.seq
  simp only at xseq7
  go_wp2_with fail
  refine (refFalling_any sq hsq _).mono ?_
  rintro e8 w8 ⟨a8, m8, c8, rfl, own8, hb8⟩
  have hm8 : m8 = 8 := own8.1
  subst hm8
  have r78 := r7.later hb8
  have own68 := own67.later hb8
  have HLT : Hid (∀ g, (Value.slice a6 m6 c6).ownBlock = some g → g < w7.heap.size) := fun g hg => (own67.2.lt g hg).2
  have bxw8 : Hid (EBox w8 w.heap.size _) := bxw7.out.later hb8
  have B8 := B7.trans (hb8.mono B7.size)
  have hS8 : w.heap.size + 1 ≤ w8.heap.size := Nat.le_trans hS7 hb8.size
  have R8 : Hid (Own w8 w7.heap.size (.slice a8 8 c8) 8 (be8 (9223372036854775807 - sq)) ∧ Below w7.heap.size w7 w8) := ⟨own8, hb8⟩
  clear bxw7 B7 hb8 own67 own8 xseq7 r7
  go_wp2_with (at_builtin; refine wpList_append_gr rfl _ _ rfl (w.heap.size + 1) a6 m6 c6 _ rfl own68 a7 8 c7 _ rfl r78 (by omega) hS8 ?_; intro a9 m9 c9 w9 own9 hb9 gr9; refine Hid.out ?_)
  refine Lib.hid ?_
  have hm9 : m9 ≤ 1039 := by rw [own9.1, List.length_append, ← own68.1]; simp [be8]; omega
  have r9 : Rd w9 (.slice a8 8 c8) _ := (R8.out.1.grown gr9 HLT.out).rd (be8_bys _) (by omega)
  have bxw9 : Hid (EBox w9 w.heap.size _) := bxw8.out.keep hb9 hG
  have B9 := B8.trans (hb9.mono (Nat.le_of_lt hG))
  have hS9 : w.heap.size + 1 ≤ w9.heap.size := Nat.le_trans hS8 hb9.size
  clear bxw8 B8 hS8 hb9 own68 r78 R8 HLT gr9 hS7 hm6
  go_wp2_with (at_builtin; refine wpList_append_at rfl _ _ rfl (w.heap.size + 1) a9 m9 c9 _ rfl own9 a8 8 c8 _ rfl r9 (by omega) hS9 ?_; intro a10 m10 c10 w10 own10 hb10; refine Hid.out ?_)
  refine Lib.hid ?_
  have hm10 : m10 ≤ 1047 := by rw [own10.1, List.length_append, ← own9.1]; simp [be8]; omega
  have bxw10 : Hid (EBox w10 w.heap.size _) := bxw9.out.keep hb10 hG
  have B10 := B9.trans (hb10.mono (Nat.le_of_lt hG))
  have hS10 : w.heap.size + 1 ≤ w10.heap.size := Nat.le_trans hS9 hb10.size
  clear bxw9 B9 hS9 hb10 own9 r9 hm9
  have xkind10 := bxw10.out.kind
  simp only at xkind10
  go_wp2_with (at_builtin; refine wpList_append_new rfl _ _ rfl (w.heap.size + 1) a10 m10 c10 _ rfl own10 [_] 1 rfl [kd] (by first | rfl | (simp [bv]; done) | (simp [bv]; omega)) rfl (by omega) hS10 ?_; intro a11 m11 c11 w11 own11 hb11)
  go_ret
  refine ⟨a11, m11, c11, rfl, ?_, B10.trans (hb11.mono (Nat.le_of_lt hG))⟩
  rw [HKL.out]
  exact own11.mono (Nat.le_of_lt hG)

set_option maxRecDepth 100000 in
set_option maxHeartbeats 4000000 in
theorem refKey_ok {e : EntD} {w : World} (hok : EntD.Ok w e) (hc : checkS e = 0) :
  Calls Tryz.prog 35 #[.agg e.cells] w fun r w' => ∃ a m c, r = .returned (.tuple #[.slice a m c, .int .i64 0]) ∧ Own w' w.heap.size (.slice a m c) m (keyL e) ∧ Below w.heap.size w w' := by
 have A1 := (Below.refl w.heap.size w).alloc (Nat.le_refl _) (.cells e.cells 40)
 have bx1 : Hid (EBox (w.alloc (.cells e.cells 40)) w.heap.size e) := EBox.new w e
 have HK : Hid (EntD.Ok w e) := hok
 have c1 := refCheck_any (hok.later A1)
 rw [hc] at c1
 have HC : Hid (Calls _ _ _ _ _) := c1
 have HC2 : Hid (∀ w', EntD.Ok w' e → Calls Tryz.prog 78 #[.agg e.cells] w' fun r w'' => ∃ a m c, r = .returned (.slice a m c) ∧ Own w'' w'.heap.size (.slice a m c) m (keyL e) ∧ Below w'.heap.size w' w'') := fun w' h => refkey_any h hc
 clear hok c1 hc
 simp only [EntD.cells] at *
 go_enter Tryz.func35, Tryz.ntmps35
 go_wp2_with fail
 refine HC.out.mono ?_
 rintro e1 w1 ⟨rfl, hb1⟩
 have B1 := A1.trans (hb1.mono A1.size)
 have bx2 := bx1.out.later hb1
 have x0 := bx2.vr
 have x1 := bx2.fam
 have x2 := bx2.vq
 have x3 := bx2.ts
 have x4 := bx2.seq
 have x5 := bx2.kind
 have x6 := bx2.vv
 clear bx1 hb1 bx2 A1
 go_wp2_with fail
 refine (HC2.out _ (HK.out.later B1)).mono ?_
 rintro e2 w2 ⟨a2, m2, c2, rfl, own2, hb2⟩
 go_wp2
 go_ret2
 exact ⟨a2, m2, c2, rfl, own2.mono B1.size, B1.trans (hb2.mono B1.size)⟩

set_option maxRecDepth 100000 in
set_option maxHeartbeats 4000000 in
theorem refKey_bad {e : EntD} {w : World} (hok : EntD.Ok w e) (hc : checkS e ≠ 0) :
  Calls Tryz.prog 35 #[.agg e.cells] w fun r w' => r = .returned (.tuple #[.slice none 0 0, .int .i64 ((checkS e : Nat) : Int)]) ∧ Below w.heap.size w w' := by
 obtain ⟨C, hC⟩ : ∃ C, C = checkS e := ⟨_, rfl⟩
 have A1 := (Below.refl w.heap.size w).alloc (Nat.le_refl _) (.cells e.cells 40)
 have c1 := refCheck_any (hok.later A1)
 rw [← hC] at c1 hc ⊢
 have HC1 : Hid (Calls _ _ _ _ _) := c1
 have h0 : ((C : Int) != 0) = true := by simp; omega
 have h1 : ¬ ((C : Int) = 0) := by omega
 clear c1 hC hok
 simp only [EntD.cells] at *
 go_enter Tryz.func35, Tryz.ntmps35
 go_wp2_with fail
 refine HC1.out.mono ?_
 rintro e1 w1 ⟨rfl, hb1⟩
 have B1 := A1.trans (hb1.mono A1.size)
 go_wp2
 go_ret2
 exact ⟨rfl, B1⟩

end Go.Proofs.YtchebhafabhabaaGreatDoor
