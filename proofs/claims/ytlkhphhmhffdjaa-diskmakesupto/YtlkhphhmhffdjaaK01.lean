import Derived.Test.YtlkhphhmhffdjaaK00
import Derived.Shelf.Pu.Clone
import Derived.Defers
import Derived.Deep.RegionHeld3
set_option linter.unusedSimpArgs false
set_option linter.unusedVariables false
namespace Go.Proofs.Ytlkhphhmhffdjaa
open Go.RowKit Go.MapKept

def DkBox (w : World) (dB mb : Nat) (cap arm : Int) (down : Bool) (c : Nat → Int) : Prop :=
 w.heap[dB]? = some (.cells #[.map (some mb), .int .i64 cap, .int .i64 arm, .bool down, .int .i64 (c 0), .int .i64 (c 1), .int .i64 (c 2), .int .i64 (c 3), .int .i64 (c 4), .int .i64 (c 5)] 79 (0, 0))
variable {w w' : World} {dB mb clock : Nat} {cap arm : Int} {down : Bool} {c : Nat → Int} {fs : List (ByteArray × Nat)} {es : Array MapEntry}
theorem DkBox.lt (h : DkBox w dB mb cap arm down c) : dB < w.heap.size := (Array.getElem?_eq_some_iff.1 h).1
theorem DkBox.kept (h : DkBox w dB mb cap arm down c) (k : w'.heap[dB]? = w.heap[dB]?) : DkBox w' dB mb cap arm down c := k.trans h
theorem DkBox.cells (h : DkBox w dB mb cap arm down c) : w.cell? ⟨dB, 0, none⟩ = some (.map (some mb)) ∧ w.cell? ⟨dB, 1, none⟩ = some (.int .i64 cap) ∧ w.cell? ⟨dB, 2, none⟩ = some (.int .i64 arm) ∧ w.cell? ⟨dB, 3, none⟩ = some (.bool down) ∧ w.cell? ⟨dB, 4, none⟩ = some (.int .i64 (c 0)) ∧ w.cell? ⟨dB, 5, none⟩ = some (.int .i64 (c 1)) ∧ w.cell? ⟨dB, 6, none⟩ = some (.int .i64 (c 2)) ∧ w.cell? ⟨dB, 7, none⟩ = some (.int .i64 (c 3)) ∧ w.cell? ⟨dB, 8, none⟩ = some (.int .i64 (c 4)) ∧ w.cell? ⟨dB, 9, none⟩ = some (.int .i64 (c 5)) := by
 unfold DkBox at h
 simp [World.cell?, h]
theorem DkBox.fz (h : DkBox w dB mb cap arm down c) (i : Nat) : w.frozen? ⟨dB, i, none⟩ = false := by
 unfold DkBox at h
 simp [World.frozen?, h]
set_option maxRecDepth 100000 in
theorem dfind_any (hb : DkBox w dB mb cap arm down c) (hm : MpB w mb fs es clock) (s : ByteArray) : Calls Try.prog 50 #[.pointer (some ⟨dB, 0, none⟩), .string s] w fun e w' => e = .returned (.tuple #[ptrO (atN fs s), .int .i64 (if (atN fs s).isSome then 0 else 42)]) ∧ w' = w := by
 have c0 := hb.cells.1
 have hl := hm.look s
 cases ho : atN fs s with
 | none =>
  rw [ho] at hl
  unfold ptrO at *
  simp only [Option.map_none] at *
  clear ho hb hm
  go_enter Try.func50, Try.ntmps50
  go_wp2
  go_ret2
  exact ⟨rfl, rfl⟩
 | some b =>
  rw [ho] at hl
  unfold ptrO at *
  simp only [Option.map_some] at *
  clear ho hb hm
  go_enter Try.func50, Try.ntmps50
  go_wp2
  go_ret2
  exact ⟨rfl, rfl⟩
end Go.Proofs.Ytlkhphhmhffdjaa

namespace Go.Proofs.Ytlkhphhmhffdjaa
open Go.RowKit Go.MapKept

structure RdN4 (w : World) (a : Option Addr) (cap : Nat) (ss : List ByteArray) : Prop where
 cap : ss.length ≤ cap ∧ cap ≤ maxLen
 cel : ∀ i s, ss[i]? = some s → ∃ b off, a = some ⟨b, off, none⟩ ∧ w.cell? ⟨b, off + i, none⟩ = some (.string s)
def chkN (ss : List ByteArray) : Int := if ∀ s ∈ ss, DkName s then 0 else 40
set_option maxRecDepth 100000 in
set_option maxHeartbeats 4000000 in
theorem checkNames_any {w : World} {a : Option Addr} {cap : Nat} {ss : List ByteArray} (hr : RdN4 w a cap ss) : Calls Try.prog 73 #[.slice a ss.length cap] w fun e w' => e = .returned (.int .i64 (chkN ss)) ∧ w' = w := by
 obtain ⟨m, hm⟩ : ∃ m, m = ss.length := ⟨_, rfl⟩
 rw [← hm]
 obtain ⟨R, hR⟩ : ∃ R, R = chkN ss := ⟨_, rfl⟩
 rw [← hR]
 have HRR := Lib.hid hR
 have HR := Lib.hid hr
 have HM := Lib.hid hm
 have hmx : m ≤ 9223372036854775807 := by have := hr.cap; unfold maxLen at this; omega
 clear hr hm hR
 go_enter Try.func73, Try.ntmps73
 go_wp2
 go_loopw [4, 7] (fun _ i wr => ∃ t : Nat, t ≤ m ∧ i = .int .i64 (t : Int) ∧ wr = w ∧ ∀ j s, j < t → ss[j]? = some s → DkName s) (fun _ i _ => m - (intOf i).toNat)
 case atStart => exact ⟨0, by omega, rfl, rfl, fun j s hj => absurd hj (by omega)⟩
 case round =>
  obtain ⟨t, ht, rfl, rfl, hj⟩ := hrel
  have HJ : Hid (∀ j s, j < t → ss[j]? = some s → DkName s) := hj
  clear hj
  by_cases hlt : t < m
  ·have j1 : (t : Int) < (m : Int) := by omega
   have j2 : (0 : Int) ≤ (t : Int) := by omega
   obtain ⟨s, hs⟩ : ∃ s, ss[t]? = some s := ⟨_, List.getElem?_eq_getElem (by rw [← HM.out]; exact hlt)⟩
   obtain ⟨b, off, rfl, hc⟩ := HR.out.cel t s hs
   have HC := Lib.hid (dkName_any s wr)
   have HS := Lib.hid hs
   clear hs
   by_cases hok : DkName s
   ·rw [decide_eq_true hok] at HC
    have HOK := Lib.hid hok
    clear hok
    go_wp2_with fail
    refine HC.out.mono ?_
    rintro e w2 ⟨rfl, rfl⟩
    go_wp2
    go_roundw
    case rel => exact ⟨t + 1, by omega, by go_num, trivial, fun j s' hj hs' => by
     by_cases e : j = t
     ·subst e
      rw [HS.out] at hs'
      cases hs'
      exact HOK.out
     ·exact HJ.out j s' (by omega) hs'⟩
    case measure => simp [intOf]; omega
   ·rw [decide_eq_false hok] at HC
    have e0 : chkN ss = 40 := by unfold chkN; rw [if_neg (fun h => hok (h s (List.mem_of_getElem? HS.out)))]
    obtain rfl : R = 40 := HRR.out.trans e0
    clear hok e0
    go_wp2_with fail
    refine HC.out.mono ?_
    rintro e w2 ⟨rfl, rfl⟩
    go_wp2
    go_ret
    exact ⟨rfl, rfl⟩
  ·have j1 : (m : Int) ≤ (t : Int) := by omega
   have e0 : chkN ss = 0 := by
    unfold chkN
    rw [if_pos (fun s hs => ?_)]
    obtain ⟨j, hj⟩ := List.getElem?_of_mem hs
    exact HJ.out j s (by have := (List.getElem?_eq_some_iff.1 hj).1; have := HM.out; omega) hj
   obtain rfl : R = 0 := HRR.out.trans e0
   clear e0
   go_wp2
   go_ret
   exact ⟨rfl, rfl⟩
variable {w : World} {dB mb clock : Nat} {cap arm : Int} {down : Bool} {c : Nat → Int} {fs : List (ByteArray × Nat)} {es : Array MapEntry}
def rdyN (down : Bool) (ss : List ByteArray) : Int := if down = true then 3 else chkN ss
set_option maxRecDepth 100000 in
theorem ready_any {a : Option Addr} {cp : Nat} {ss : List ByteArray} (hb : DkBox w dB mb cap arm down c) (hr : RdN4 w a cp ss) : Calls Try.prog 48 #[.pointer (some ⟨dB, 0, none⟩), .slice a ss.length cp] w fun e w' => e = .returned (.int .i64 (rdyN down ss)) ∧ w' = w := by
 have c3 := hb.cells.2.2.2.1
 have HC := Lib.hid (checkNames_any hr)
 clear hb hr
 unfold rdyN
 cases down with
 | true =>
  go_enter Try.func48, Try.ntmps48
  go_wp2
  go_ret
  exact ⟨rfl, rfl⟩
 | false =>
  go_enter Try.func48, Try.ntmps48
  go_wp2_with fail
  refine HC.out.mono ?_
  rintro e w2 ⟨rfl, rfl⟩
  go_wp2
  go_ret
  exact ⟨by simp, rfl⟩
end Go.Proofs.Ytlkhphhmhffdjaa

namespace Go.Proofs.Ytlkhphhmhffdjaa
open Go.RowKit Go.MapKept
variable {w : World} {dB mb clock : Nat} {cap arm : Int} {down : Bool} {c : Nat → Int} {fs : List (ByteArray × Nat)} {es : Array MapEntry}

theorem rdN1 (w : World) (s : ByteArray) : RdN4 (w.alloc (.cells #[.string s] 9)) (some ⟨w.heap.size, 0, none⟩) 1 [s] := by
 refine ⟨⟨by simp, by decide⟩, fun i x hx => ?_⟩
 match i, hx with
 | 0, hx =>
  simp at hx
  subst hx
  have h : (w.alloc (.cells #[.string s] 9)).heap[w.heap.size]? = some (.cells #[.string s] 9) := by
   show (w.heap.push _)[w.heap.size]? = _
   simp
  exact ⟨_, _, rfl, by simp only [World.cell?, h]; rfl⟩
 | i + 1, hx => simp at hx
def reaN (down : Bool) (fs : List (ByteArray × Nat)) (s : ByteArray) : Option Nat × Int :=
 if rdyN down [s] = 0 then (atN fs s, if (atN fs s).isSome then 0 else 42) else (none, rdyN down [s])
set_option maxRecDepth 100000 in
theorem reach_any (hb : DkBox w dB mb cap arm down c) (hm : MpB w mb fs es clock) (s : ByteArray) : Calls Try.prog 80 #[.pointer (some ⟨dB, 0, none⟩), .string s] w fun e w' => e = .returned (.tuple #[ptrO (reaN down fs s).1, .int .i64 (reaN down fs s).2]) ∧ Below w.heap.size w w' := by
 have b1 := (Below.refl w.heap.size w).alloc (Nat.le_refl _) (.cells #[.string s] 9)
 have r1 := rdN1 w s
 obtain ⟨W1, hW1⟩ : ∃ W, W = w.alloc (.cells #[.string s] 9) := ⟨_, rfl⟩
 rw [← hW1] at b1 r1
 have hb1 : DkBox W1 dB mb cap arm down c := hb.kept (b1.block _ hb.lt)
 have hm1 : MpB W1 mb fs es clock := hm.kept (b1.block _ hm.lt)
 have HR := Lib.hid (ready_any hb1 r1)
 have HF := Lib.hid (dfind_any hb1 hm1 s)
 have HW := Lib.hid hW1
 have HB := Lib.hid b1
 clear hb hm hb1 hm1 b1 r1 hW1
 obtain ⟨k, hk⟩ : ∃ k, k = rdyN down [s] := ⟨_, rfl⟩
 unfold reaN
 simp only [List.length_cons, List.length_nil, Nat.zero_add] at HR
 rw [← hk] at HR ⊢
 by_cases h0 : k = 0
 ·rw [if_pos h0]
  subst h0
  clear hk
  obtain ⟨p, hp⟩ : ∃ p, p = ptrO (atN fs s) := ⟨_, rfl⟩
  obtain ⟨q, hq⟩ : ∃ q : Int, q = (if (atN fs s).isSome then 0 else 42) := ⟨_, rfl⟩
  rw [← hp, ← hq] at HF
  simp only
  rw [← hp, ← hq]
  clear hp hq
  go_enter Try.func80, Try.ntmps80
  go_wp2_with fail
  rw [← HW.out]
  refine HR.out.mono ?_
  rintro e w2 ⟨rfl, rfl⟩
  go_wp2_with fail
  refine HF.out.mono ?_
  rintro e w3 ⟨rfl, rfl⟩
  go_wp2
  go_ret2
  exact ⟨rfl, HB.out⟩
 ·rw [if_neg h0]
  have h0b : (k == 0) = false := by simp; exact h0
  have h0n : (k != 0) = true := by simp; exact h0
  clear hk HF
  go_enter Try.func80, Try.ntmps80
  go_wp2_with fail
  rw [← HW.out]
  refine HR.out.mono ?_
  rintro e w2 ⟨rfl, rfl⟩
  go_wp2
  go_ret2
  exact ⟨rfl, HB.out⟩
end Go.Proofs.Ytlkhphhmhffdjaa

namespace Go.Proofs.Ytlkhphhmhffdjaa
open Go.RowKit Go.MapKept

def setN : List (ByteArray × Nat) → ByteArray → Nat → List (ByteArray × Nat)
 | [], s, b => [(s, b)]
 | f :: fs, s, b => if f.1 = s then (s, b) :: fs else f :: setN fs s b
theorem setN_new {s : ByteArray} {b : Nat} : ∀ {fs : List (ByteArray × Nat)}, (∀ f ∈ fs, f.1 ≠ s) → setN fs s b = fs ++ [(s, b)]
 | [], _ => rfl
 | f :: fs, h => by
  rw [setN, if_neg (h f (by simp)), setN_new (fun g hg => h g (by simp [hg]))]
  rfl
theorem setN_at {s : ByteArray} {b : Nat} : ∀ {fs : List (ByteArray × Nat)} {i : Nat} {f : ByteArray × Nat}, (fs.map (·.1)).Nodup → fs[i]? = some f → f.1 = s → setN fs s b = fs.set i (s, b)
 | g :: fs, 0, f, _, hf, he => by
  simp at hf
  subst hf
  rw [setN, if_pos he]
  rfl
 | g :: fs, i + 1, f, hn, hf, he => by
  rw [List.map_cons, List.nodup_cons] at hn
  simp at hf
  rw [setN, if_neg (fun e => hn.1 (by rw [e, ← he]; exact List.mem_map.2 ⟨_, List.mem_of_getElem? hf, rfl⟩)), setN_at hn.2 hf he]
  rfl
def setMap (w : World) (mb : Nat) (es : Array MapEntry) (clock : Nat) : World := { w with heap := w.heap.setIfInBounds mb (.map es clock) }
variable {w : World} {mb clock : Nat} {fs : List (ByteArray × Nat)} {es : Array MapEntry}
theorem setMap_at (h : mb < w.heap.size) : (setMap w mb es clock).heap[mb]? = some (.map es clock) := by
 unfold setMap
 simp [h]
theorem setMap_ne {i : Nat} (h : i ≠ mb) : (setMap w mb es clock).heap[i]? = w.heap[i]? := by
 unfold setMap
 simp [Ne.symm h]
theorem setMap_size : (setMap w mb es clock).heap.size = w.heap.size := by unfold setMap; simp
theorem MpB.put (h : MpB w mb fs es clock) (s : ByteArray) (b : Nat) : ∃ es' clock', (Instr.mapUpdate 77 (.map (some mb)) (.string s) (.pointer (some ⟨b, 0, none⟩))).run Try.prog w = .ok () (setMap w mb es' clock') ∧ MpB (setMap w mb es' clock') mb (setN fs s b) es' clock' := by
 have hk : IsKey .string (.string s) := trivial
 rcases findNow_spec hk es.toList 0 h.keys with ⟨h1, h2⟩ | ⟨j, e, h1, h2, h3⟩
 ·have hne : ∀ f ∈ fs, f.1 ≠ s := fun f hf e => by
   have : entOf f ∈ es.toList.map (fun e => (e.key, e.val)) := by rw [h.ent]; exact List.mem_map.2 ⟨f, hf, rfl⟩
   obtain ⟨x, hx, ex⟩ := List.mem_map.1 this
   refine h2 x hx ?_
   have := congrArg Prod.fst ex
   simp only [entOf] at this
   rw [this, e]
  refine ⟨es.push { key := .string s, val := .pointer (some ⟨b, 0, none⟩), born := clock }, clock + 1, ?_, setMap_at h.lt, stamped_push h.st h2, ?_⟩
  ·simp [Instr.mapUpdate, run_underlying und_fmap, MapKept.run_getObj_map h.blk, run_checkKey und_str4 hk, run_findKey und_str4 h1, MapKept.run_setObj_map _ h.blk, Result.andThen, setMap]
  ·rw [setN_new hne]
   simp [h.ent, entOf]
 ·have hj : es[j]? = some e := by simpa using h2
  have hmj : (fs.map entOf)[j]? = some (e.key, e.val) := by rw [← h.ent]; simp [hj]
  rw [List.getElem?_map] at hmj
  obtain ⟨f, hf, ef⟩ := Option.map_eq_some_iff.1 hmj
  have e3 : f.1 = s := by
   have := congrArg Prod.fst ef
   simp only [entOf] at this
   rw [h3] at this
   injection this
  have hst := run_keyThatStays (P := Try.prog) (w := w) hk
  refine ⟨es.modify j (fun e => { e with key := .string s, val := .pointer (some ⟨b, 0, none⟩) }), clock, ?_, setMap_at h.lt, stamped_modify h.st j _ (fun _ _ => rfl) (fun e' _ he' => by rw [hj] at he'; cases he'; exact h3.symm), ?_⟩
  ·simp [Instr.mapUpdate, run_underlying und_fmap, MapKept.run_getObj_map h.blk, run_checkKey und_str4 hk, run_findKey und_str4 h1, MapKept.run_setObj_map _ h.blk, Result.andThen, setMap, hj, h3, hst]
  ·rw [setN_at h.nodup hf e3]
   apply List.ext_getElem?
   intro n
   have hn := congrArg (fun l => l[n]?) h.ent
   simp only [List.getElem?_map, Array.getElem?_toList, Array.getElem?_modify, List.getElem?_set] at hn ⊢
   by_cases hnj : j = n
   ·subst hnj
    have hlt := (List.getElem?_eq_some_iff.1 hf).1
    simp [hj, hlt, entOf]
   ·simp only [hnj, if_false]
    exact hn
end Go.Proofs.Ytlkhphhmhffdjaa

namespace Go.Proofs.Ytlkhphhmhffdjaa
open Go.RowKit Go.MapKept

def delN : List (ByteArray × Nat) → ByteArray → List (ByteArray × Nat)
 | [], _ => []
 | f :: fs, s => if f.1 = s then fs else f :: delN fs s
theorem delN_none {s : ByteArray} : ∀ {fs : List (ByteArray × Nat)}, (∀ f ∈ fs, f.1 ≠ s) → delN fs s = fs
 | [], _ => rfl
 | f :: fs, h => by rw [delN, if_neg (h f (by simp)), delN_none (fun g hg => h g (by simp [hg]))]
theorem delN_at {s : ByteArray} : ∀ {fs : List (ByteArray × Nat)} {i : Nat} {f : ByteArray × Nat}, (fs.map (·.1)).Nodup → fs[i]? = some f → f.1 = s → delN fs s = fs.eraseIdx i
 | g :: fs, 0, f, _, hf, he => by
  simp at hf
  subst hf
  rw [delN, if_pos he]
  rfl
 | g :: fs, i + 1, f, hn, hf, he => by
  rw [List.map_cons, List.nodup_cons] at hn
  simp at hf
  rw [delN, if_neg (fun e => hn.1 (by rw [e, ← he]; exact List.mem_map.2 ⟨_, List.mem_of_getElem? hf, rfl⟩)), delN_at hn.2 hf he]
  rfl
theorem map_eraseIdx4 {α β : Type} (f : α → β) : ∀ (l : List α) (i : Nat), (l.eraseIdx i).map f = (l.map f).eraseIdx i
 | [], _ => rfl
 | a :: l, 0 => rfl
 | a :: l, i + 1 => by simp only [List.eraseIdx_cons_succ, List.map_cons, map_eraseIdx4 f l i]
variable {w : World} {mb clock : Nat} {fs : List (ByteArray × Nat)} {es : Array MapEntry}
theorem MpB.del (h : MpB w mb fs es clock) (s : ByteArray) (ty : TypeId) : ∃ es', (Builtin.delete_ #[77, 9] ty #[.map (some mb), .string s]).run Try.prog w = .ok (.tuple #[]) (setMap w mb es' clock) ∧ MpB (setMap w mb es' clock) mb (delN fs s) es' clock := by
 have hk : IsKey .string (.string s) := trivial
 rcases findNow_spec hk es.toList 0 h.keys with ⟨h1, h2⟩ | ⟨j, e, h1, h2, h3⟩
 ·have hne : ∀ f ∈ fs, f.1 ≠ s := fun f hf e => by
   have : entOf f ∈ es.toList.map (fun e => (e.key, e.val)) := by rw [h.ent]; exact List.mem_map.2 ⟨f, hf, rfl⟩
   obtain ⟨x, hx, ex⟩ := List.mem_map.1 this
   refine h2 x hx ?_
   have := congrArg Prod.fst ex
   simp only [entOf] at this
   rw [this, e]
  refine ⟨es, ?_, setMap_at h.lt, h.st, ?_⟩
  ·simp [Builtin.delete_, run_underlying und_fmap, MapKept.run_getObj_map h.blk, run_checkKey und_str4 hk, run_findKey und_str4 h1, MapKept.run_setObj_map _ h.blk, Result.andThen, setMap]
  ·rw [delN_none hne]
   exact h.ent
 ·have hj : es[j]? = some e := by simpa using h2
  have hmj : (fs.map entOf)[j]? = some (e.key, e.val) := by rw [← h.ent]; simp [hj]
  rw [List.getElem?_map] at hmj
  obtain ⟨f, hf, ef⟩ := Option.map_eq_some_iff.1 hmj
  have e3 : f.1 = s := by
   have := congrArg Prod.fst ef
   simp only [entOf] at this
   rw [h3] at this
   injection this
  have hlt : j < es.size := (Array.getElem?_eq_some_iff.1 hj).1
  refine ⟨es.eraseIdxIfInBounds j, ?_, setMap_at h.lt, stamped_erase h.st j, ?_⟩
  ·simp [Builtin.delete_, run_underlying und_fmap, MapKept.run_getObj_map h.blk, run_checkKey und_str4 hk, run_findKey und_str4 h1, MapKept.run_setObj_map _ h.blk, Result.andThen, setMap]
  ·rw [delN_at h.nodup hf e3]
   unfold Array.eraseIdxIfInBounds
   rw [dif_pos hlt]
   simp only [Array.toList_eraseIdx]
   rw [map_eraseIdx4, h.ent, map_eraseIdx4]
end Go.Proofs.Ytlkhphhmhffdjaa

namespace Go.Proofs.Ytlkhphhmhffdjaa
open Go.RowKit Go.MapKept

def preB (p s : ByteArray) : Bool := if p.size ≤ s.size then (s.extract 0 p.size).toList == p.toList else false
set_option maxRecDepth 100000 in
theorem slPrefix_any (s p : ByteArray) (w : World) : Calls Try.prog 75 #[.string s, .string p] w fun e w' => e = .returned (.bool (preB p s)) ∧ w' = w := by
 unfold preB
 by_cases h : p.size ≤ s.size
 ·rw [if_pos h]
  have h1 : (p.size : Int) ≤ (s.size : Int) := by omega
  have h2 : (0 : Int) ≤ (p.size : Int) := by omega
  go_enter Try.func75, Try.ntmps75
  go_wp2
  go_ret
  exact ⟨by simp, rfl⟩
 ·rw [if_neg h]
  have h1 : ¬ (p.size : Int) ≤ (s.size : Int) := by omega
  go_enter Try.func75, Try.ntmps75
  go_wp2
  go_ret
  exact ⟨by simp_all, rfl⟩
set_option maxRecDepth 100000 in
theorem hasPrefix_any (s p : ByteArray) (w : World) : Calls Try.prog 53 #[.string s, .string p] w fun e w' => e = .returned (.bool (preB p s)) ∧ w' = w := by
 have HC := Lib.hid (slPrefix_any s p w)
 go_enter Try.func53, Try.ntmps53
 go_wp2_with fail
 refine HC.out.mono ?_
 rintro e w2 ⟨rfl, rfl⟩
 go_wp2
 go_ret
 exact ⟨rfl, rfl⟩
end Go.Proofs.Ytlkhphhmhffdjaa

namespace Go.Proofs.Ytlkhphhmhffdjaa
open Go.RowKit Go.MapKept Go.Shelf

def laidClone : Go.Shelf.Ren := ⟨fun | 25 => 84 | n => n, fun | 0 => 0 | 3 => 3 | 4 => 4 | 5 => 5 | 9 => 9 | 37 => 27 | 47 => 130 | n => n, fun n => n⟩
theorem laysClone : LaysPu.n25 Try.prog laidClone := {
 mixed := by kernel_rfl,
 f25 := Try.func84.trans (congrArg some (by kernel_rfl)),
 t0 := Try.underlying0,
 a0 := Try.isAgg0,
 z0 := Try.sizeOf0,
 v0 := Try.zeroValue0,
 i0 := by kernel_rfl,
 t3 := Try.underlying3,
 a3 := Try.isAgg3,
 z3 := Try.sizeOf3,
 v3 := Try.zeroValue3,
 i3 := by kernel_rfl,
 t4 := Try.underlying4,
 a4 := Try.isAgg4,
 z4 := Try.sizeOf4,
 v4 := Try.zeroValue4,
 i4 := by kernel_rfl,
 t5 := Try.underlying5,
 a5 := Try.isAgg5,
 z5 := Try.sizeOf5,
 v5 := Try.zeroValue5,
 i5 := by kernel_rfl,
 t9 := Try.underlying9,
 a9 := Try.isAgg9,
 z9 := Try.sizeOf9,
 v9 := Try.zeroValue9,
 i9 := by kernel_rfl,
 t37 := Try.underlying27,
 a37 := Try.isAgg27,
 z37 := Try.sizeOf27,
 v37 := Try.zeroValue27,
 i37 := by kernel_rfl,
 t47 := Try.underlying130,
 a47 := Try.isAgg130,
 z47 := Try.sizeOf130,
 v47 := Try.zeroValue130,
 i47 := by kernel_rfl }
theorem clone_any {s : ByteArray} (hs : s.size ≤ 281474976710656) (w : World) : Calls Try.prog 74 #[.string s] w fun e w' => e = .returned (.string s) ∧ Below w.heap.size w w' := by
 have HC : Hid (Calls Try.prog 84 #[.string s] w fun e w' => e = .returned (.string s) ∧ Below w.heap.size w w') := AnyPu.stringslite_Clone laysClone s w hs
 clear hs
 go_enter Try.func74, Try.ntmps74
 go_wp2_with fail
 refine HC.out.mono ?_
 rintro e w2 ⟨rfl, b⟩
 go_wp2
 go_ret
 exact ⟨rfl, b⟩
end Go.Proofs.Ytlkhphhmhffdjaa

namespace Go.Proofs.Ytlkhphhmhffdjaa
open Go.RowKit Go.MapKept

structure FE where
 nm : ByteArray
 b : Nat
 v : Value
 dat : List Nat
 syn : Nat
def FBox (w : World) (b : Nat) (v : Value) (syn : Nat) : Prop := w.heap[b]? = some (.cells #[v, .int .i64 (syn : Int)] 81 (0, 0))
theorem FBox.lt {w : World} {b syn : Nat} {v : Value} (h : FBox w b v syn) : b < w.heap.size := (Array.getElem?_eq_some_iff.1 h).1
theorem FBox.kept {w w' : World} {b syn : Nat} {v : Value} (h : FBox w b v syn) (k : w'.heap[b]? = w.heap[b]?) : FBox w' b v syn := k.trans h
theorem FBox.cells {w : World} {b syn : Nat} {v : Value} (h : FBox w b v syn) : w.cell? ⟨b, 0, none⟩ = some v ∧ w.cell? ⟨b, 1, none⟩ = some (.int .i64 (syn : Int)) := by
 unfold FBox at h
 simp [World.cell?, h]
theorem FBox.fz {w : World} {b syn : Nat} {v : Value} (h : FBox w b v syn) (i : Nat) : w.frozen? ⟨b, i, none⟩ = false := by
 unfold FBox at h
 simp [World.frozen?, h]
structure OwnO (w : World) (O : Nat → Prop) (v : Value) (xs : List Nat) : Prop where
 own : w.ownsRow 0 5 1 v xs.length (bv xs)
 bys : Bys xs
 blk : ∀ g, v.ownBlock = some g → O g
theorem OwnO.typ {w : World} {O : Nat → Prop} {v : Value} {xs : List Nat} (h : OwnO w O v xs) {g : Nat} (hg : v.ownBlock = some g) : ∃ cur, w.heap[g]? = some (.cells cur 5 (0, 0)) := by
 rcases h.own.2 with ⟨rfl, _⟩ | ⟨g', cap, cur, rfl, _, hh, _⟩
 ·cases hg
 ·simp only [Value.ownBlock, Option.some.injEq] at hg
  subst hg
  exact ⟨cur, hh⟩
theorem OwnO.kept {w w' : World} {O O' : Nat → Prop} {v : Value} {xs : List Nat} (h : OwnO w O v xs) (k : ∀ g, v.ownBlock = some g → w'.heap[g]? = w.heap[g]? ∧ O' g) : OwnO w' O' v xs := by
 refine ⟨⟨h.own.1, ?_⟩, h.bys, fun g hg => (k g hg).2⟩
 rcases h.own.2 with h1 | ⟨g, cap, cur, e, h2, h3, h4⟩
 ·exact .inl h1
 ·refine .inr ⟨g, cap, cur, e, h2, ?_, h4⟩
  rw [(k g (by rw [e]; rfl)).1]
  exact h3
theorem OwnO.form {w : World} {O : Nat → Prop} {v : Value} {xs : List Nat} (h : OwnO w O v xs) : ∃ a c, v = .slice a xs.length c := by
 rcases h.own.2 with ⟨rfl, h2⟩ | ⟨g, cap, cur, rfl, _⟩
 ·rw [h2]; exact ⟨_, _, rfl⟩
 ·exact ⟨_, _, rfl⟩
theorem OwnO.nil (w : World) (O : Nat → Prop) : OwnO w O (.slice none 0 0) [] := ⟨⟨rfl, .inl ⟨rfl, rfl⟩⟩, by intro x hx; simp at hx, by intro g hg; cases hg⟩
theorem OwnO.rd {w : World} {O : Nat → Prop} {v : Value} {xs : List Nat} (h : OwnO w O v xs) (hl : xs.length ≤ 281474976710656) : Rd w v xs := Rd.of_owns rfl h.own h.bys hl

structure DskM (w : World) (O : Nat → Prop) (dB mb : Nat) (fl : List FE) (cap arm : Int) (down : Bool) (c : Nat → Int) : Prop where
 box : DkBox w dB mb cap arm down c
 map : ∃ es clock, MpB w mb (fl.map fun f => (f.nm, f.b)) es clock
 fil : ∀ f ∈ fl, FBox w f.b f.v f.syn ∧ OwnO w O f.v f.dat ∧ O f.b
 nob : (fl.map (·.b)).Nodup
 nod : fl.Pairwise (fun f g => ∀ k, f.v.ownBlock = some k → g.v.ownBlock ≠ some k)
 odb : O dB
 omb : O mb
 lt : ∀ i, O i → i < w.heap.size
variable {w w' : World} {O O' : Nat → Prop} {dB mb : Nat} {fl : List FE} {cap arm : Int} {down : Bool} {c : Nat → Int}
theorem DskM.kept (h : DskM w O dB mb fl cap arm down c) (k : ∀ i, O i → w'.heap[i]? = w.heap[i]?) (hs : w.heap.size ≤ w'.heap.size) : DskM w' O dB mb fl cap arm down c := by
 obtain ⟨es, clock, hm⟩ := h.map
 exact ⟨h.box.kept (k _ h.odb), ⟨es, clock, hm.kept (k _ h.omb)⟩, fun f hf => ⟨(h.fil f hf).1.kept (k _ (h.fil f hf).2.2), (h.fil f hf).2.1.kept (fun g hg => ⟨k _ ((h.fil f hf).2.1.blk g hg), (h.fil f hf).2.1.blk g hg⟩), (h.fil f hf).2.2⟩, h.nob, h.nod, h.odb, h.omb, fun i hi => Nat.lt_of_lt_of_le (h.lt i hi) hs⟩
theorem DskM.below (h : DskM w O dB mb fl cap arm down c) (hb : Below w.heap.size w w') : DskM w' O dB mb fl cap arm down c := h.kept (fun i hi => hb.block i (h.lt i hi)) hb.size
theorem DskM.neMap (h : DskM w O dB mb fl cap arm down c) : mb ≠ dB := by
 obtain ⟨es, clock, hm⟩ := h.map
 have h1 := h.box
 unfold DkBox at h1
 rintro rfl
 have := hm.blk
 rw [h1] at this
 cases this
theorem DskM.neFil (h : DskM w O dB mb fl cap arm down c) {f : FE} (hf : f ∈ fl) : f.b ≠ dB ∧ f.b ≠ mb := by
 obtain ⟨es, clock, hm⟩ := h.map
 have h1 := h.box
 have h2 := (h.fil f hf).1
 unfold DkBox at h1
 unfold FBox at h2
 constructor
 ·intro e
  rw [e, h1] at h2
  simp only [Option.some.injEq, Obj.cells.injEq] at h2
  exact absurd h2.2.1 (by decide)
 ·intro e
  have := hm.blk
  rw [e, this] at h2
  cases h2
theorem DskM.neDat (h : DskM w O dB mb fl cap arm down c) {f : FE} (hf : f ∈ fl) {g : Nat} (hg : f.v.ownBlock = some g) : g ≠ dB ∧ g ≠ mb ∧ ∀ f' ∈ fl, g ≠ f'.b := by
 obtain ⟨es, clock, hm⟩ := h.map
 have h1 := h.box
 obtain ⟨cur, h2⟩ := (h.fil f hf).2.1.typ hg
 unfold DkBox at h1
 refine ⟨?_, ?_, ?_⟩
 ·intro e
  rw [e, h1] at h2
  simp only [Option.some.injEq, Obj.cells.injEq] at h2
  exact absurd h2.2.1 (by decide)
 ·intro e
  have := hm.blk
  rw [e, this] at h2
  cases h2
 ·intro f' hf' e
  have h3 := (h.fil f' hf').1
  unfold FBox at h3
  rw [e, h3] at h2
  simp only [Option.some.injEq, Obj.cells.injEq] at h2
  exact absurd h2.2.1 (by decide)
theorem DskM.setBox (h : DskM w O dB mb fl cap arm down c) {cap' arm' : Int} {down' : Bool} {c' : Nat → Int} (hb : DkBox w' dB mb cap' arm' down' c') (k : ∀ i, i ≠ dB → w'.heap[i]? = w.heap[i]?) (hs : w.heap.size ≤ w'.heap.size) : DskM w' O dB mb fl cap' arm' down' c' := by
 obtain ⟨es, clock, hm⟩ := h.map
 exact ⟨hb, ⟨es, clock, hm.kept (k _ h.neMap)⟩, fun f hf => ⟨(h.fil f hf).1.kept (k _ (h.neFil hf).1), (h.fil f hf).2.1.kept (fun g hg => ⟨k _ (h.neDat hf hg).1, (h.fil f hf).2.1.blk g hg⟩), (h.fil f hf).2.2⟩, h.nob, h.nod, h.odb, h.omb, fun i hi => Nat.lt_of_lt_of_le (h.lt i hi) hs⟩
theorem DkBox.setArm {cap arm : Int} (h : DkBox w dB mb cap arm down c) (x : Int) : DkBox (w.setCell ⟨dB, 2, none⟩ (.int .i64 x)) dB mb cap x down c := by
 unfold DkBox at h ⊢
 rw [heap_setCell_same w dB 2 _ _ _ h]
 simp
theorem DkBox.setDown {cap arm : Int} (h : DkBox w dB mb cap arm down c) (x : Bool) : DkBox (w.setCell ⟨dB, 3, none⟩ (.bool x)) dB mb cap arm x c := by
 unfold DkBox at h ⊢
 rw [heap_setCell_same w dB 3 _ _ _ h]
 simp
def setCt (c : Nat → Int) (k : Nat) (x : Int) : Nat → Int := fun i => if i = k then x else c i
theorem DkBox.setCt {cap arm : Int} (h : DkBox w dB mb cap arm down c) (k : Nat) (hk : k < 6) (x : Int) : DkBox (w.setCell ⟨dB, 4 + k, none⟩ (.int .i64 x)) dB mb cap arm down (setCt c k x) := by
 unfold DkBox at h ⊢
 rw [heap_setCell_same w dB (4 + k) _ _ _ h]
 match k, hk with
 | 0, _ => simp [Proofs.Ytlkhphhmhffdjaa.setCt]
 | 1, _ => simp [Proofs.Ytlkhphhmhffdjaa.setCt]
 | 2, _ => simp [Proofs.Ytlkhphhmhffdjaa.setCt]
 | 3, _ => simp [Proofs.Ytlkhphhmhffdjaa.setCt]
 | 4, _ => simp [Proofs.Ytlkhphhmhffdjaa.setCt]
 | 5, _ => simp [Proofs.Ytlkhphhmhffdjaa.setCt]
theorem DskM.setArm (h : DskM w O dB mb fl cap arm down c) (x : Int) : DskM (w.setCell ⟨dB, 2, none⟩ (.int .i64 x)) O dB mb fl cap x down c := h.setBox (h.box.setArm x) (fun i hi => heap_setCell_other _ _ _ _ hi) (by simp [World.setCell])
theorem DskM.setDown (h : DskM w O dB mb fl cap arm down c) (x : Bool) : DskM (w.setCell ⟨dB, 3, none⟩ (.bool x)) O dB mb fl cap arm x c := h.setBox (h.box.setDown x) (fun i hi => heap_setCell_other _ _ _ _ hi) (by simp [World.setCell])
theorem DskM.setCt (h : DskM w O dB mb fl cap arm down c) (k : Nat) (hk : k < 6) (x : Int) : DskM (w.setCell ⟨dB, 4 + k, none⟩ (.int .i64 x)) O dB mb fl cap arm down (setCt c k x) := h.setBox (h.box.setCt k hk x) (fun i hi => heap_setCell_other _ _ _ _ hi) (by simp [World.setCell])
theorem DskM.off (h : DskM w O dB mb fl cap arm down c) (a : Addr) (ha : ¬ O a.block) (v : Value) : DskM (w.setCell a v) O dB mb fl cap arm down c := h.kept (fun i hi => heap_setCell_other _ _ _ _ (fun e => ha (e ▸ hi))) (by simp [World.setCell])

structure Go4 (w w' : World) (O O' : Nat → Prop) : Prop where
 os : w'.os = w.os
 tape : w'.tape = w.tape
 output : w'.output = w.output
 size : w.heap.size ≤ w'.heap.size
 block : ∀ k, k < w.heap.size → ¬ O k → w'.heap[k]? = w.heap[k]?
 new : ∀ k, O' k → O k ∨ w.heap.size ≤ k
theorem Go4.refl (w : World) (O : Nat → Prop) : Go4 w w O O := ⟨rfl, rfl, rfl, Nat.le_refl _, fun _ _ _ => rfl, fun _ h => .inl h⟩
theorem Go4.trans {a b c : World} {O O1 O2 : Nat → Prop} (h : Go4 a b O O1) (k : Go4 b c O1 O2) : Go4 a c O O2 :=
 ⟨k.os.trans h.os, k.tape.trans h.tape, k.output.trans h.output, Nat.le_trans h.size k.size, fun i hi ho => (k.block i (Nat.lt_of_lt_of_le hi h.size) (fun z => (h.new i z).elim ho (fun q => by omega))).trans (h.block i hi ho), fun i hi => (k.new i hi).elim (fun z => h.new i z) (fun q => .inr (Nat.le_trans h.size q))⟩
theorem Go4.of_below {w w' : World} {O : Nat → Prop} (h : Below w.heap.size w w') : Go4 w w' O O := ⟨h.os, h.tape, h.output, h.size, fun i hi _ => h.block i hi, fun _ h => .inl h⟩
theorem Go4.of_set {w : World} {O : Nat → Prop} {a : Addr} (ha : O a.block) (v : Value) : Go4 w (w.setCell a v) O O := ⟨rfl, rfl, rfl, by simp [World.setCell], fun i hi ho => heap_setCell_other _ _ _ _ (fun e => ho (e ▸ ha)), fun _ h => .inl h⟩
theorem Go4.less {w w' : World} {O O1 O' : Nat → Prop} (h : Go4 w w' O O') (k : ∀ i, O1 i → O' i) : Go4 w w' O O1 := ⟨h.os, h.tape, h.output, h.size, h.block, fun i hi => h.new i (k i hi)⟩
theorem Go4.wide {w w' : World} {O O1 O' O2 : Nat → Prop} (h : Go4 w w' O O') (k : ∀ i, O i → O1 i) (k2 : ∀ i, O2 i → O' i ∨ O1 i) : Go4 w w' O1 O2 := ⟨h.os, h.tape, h.output, h.size, fun i hi ho => h.block i hi (fun z => ho (k i z)), fun i hi => (k2 i hi).elim (fun z => (h.new i z).imp (k i) id) .inl⟩
theorem Go4.below {w w' : World} {O O' : Nat → Prop} {B : Nat} (h : Go4 w w' O O') (hB : B ≤ w.heap.size) (k : ∀ i, O i → B ≤ i) : Below B w w' := ⟨h.os, h.tape, h.output, h.size, fun i hi => h.block i (by omega) (fun z => by have := k i z; omega)⟩
theorem Go4.open_ {w W w' : World} {O O' : Nat → Prop} {n : Nat} (b : Below w.heap.size w W) (hn : w.heap.size ≤ n) (h : Go4 W w' (fun i => O i ∨ i = n) (fun i => O' i ∨ i = n)) : Go4 w w' O O' :=
 ⟨h.os.trans b.os, h.tape.trans b.tape, h.output.trans b.output, Nat.le_trans b.size h.size, fun i hi ho => (h.block i (Nat.lt_of_lt_of_le hi b.size) (fun z => z.elim ho (fun e => by omega))).trans (b.block i hi), fun i hi => by
  rcases h.new i (.inl hi) with (h1 | h1) | h1
  ·exact .inl h1
  ·exact .inr (by omega)
  ·exact .inr (Nat.le_trans b.size h1)⟩
end Go.Proofs.Ytlkhphhmhffdjaa

namespace Go.Proofs.Ytlkhphhmhffdjaa
open Go.RowKit Go.MapKept
variable {w : World} {O : Nat → Prop} {dB mb : Nat} {fl : List FE} {cap arm : Int} {down : Bool} {c : Nat → Int}

def DoesQ (w : World) (O : Nat → Prop) (dB mb : Nat) (fl : List FE) (cap : Int) (c : Nat → Int) (ea : Nat) (g : Nat) (caps : Array Value) (Q : List FE → (Nat → Int) → Prop) : Prop :=
 ∀ (arm1 : Int) (down1 : Bool) (W : World), DskM W O dB mb fl cap arm1 down1 c → Go4 w W (fun i => O i ∨ i = ea) (fun i => O i ∨ i = ea) → Calls Try.prog g caps W fun e w' => e = .returned (.tuple #[]) ∧ ∃ O2 fl2 c2, Q fl2 c2 ∧ DskM w' O2 dB mb fl2 cap arm1 down1 c2 ∧ Go4 W w' O O2
set_option maxRecDepth 100000 in
set_option maxHeartbeats 1000000 in
theorem settle_err {g : Nat} {caps : Array Value} {torn : Bool} {ea : Nat} {x : Int} {u : FrameMode} (hx : ¬ x = 0) (he : w.cell? ⟨ea, 0, none⟩ = some (.int .i64 x)) :
  CallsD Try.prog 45 #[.pointer (some ⟨dB, 0, none⟩), .pointer (some ⟨ea, 0, none⟩), .agg #[.func (Fn.func g) #[] caps, .bool torn]] u w fun e u' w' => u' = u ∧ (e = .returned (.tuple #[]) ∧ w'.cell? ⟨ea, 0, none⟩ = some (.int .i64 x) ∧ Below w.heap.size w w') := by
 have hxb : (x != 0) = true := by simp [hx]
 have l1 := World.block_lt_of_cell? _ _ he
 go_enter_d Try.func45, Try.ntmps45
 go_wp2
 refine bodyPost_ret (v := .tuple #[]) ?_ rfl ⟨rfl, ?_, (Below.refl _ _).alloc (Nat.le_refl _) _⟩
 ·simp [results, Try.results45, go_sem]
 ·exact (((Below.refl w.heap.size w).alloc (Nat.le_refl _) _).cell (p := ⟨ea, 0, none⟩) l1).trans he

set_option maxRecDepth 100000 in
set_option maxHeartbeats 2000000 in
theorem settle_more {g : Nat} {caps : Array Value} {torn : Bool} {ea : Nat} {u : FrameMode} {Q : List FE → (Nat → Int) → Prop} (ha : 1 < arm) (ha2 : arm ≤ 9223372036854775807) (hD : DskM w O dB mb fl cap arm down c) (he : w.cell? ⟨ea, 0, none⟩ = some (.int .i64 0)) (hz : w.frozen? ⟨ea, 0, none⟩ = false) (hn : ¬ O ea)
  (hg : ∀ w, (callFunc g caps).run Try.prog w = .ok (.enter g caps) w) (hQ : DoesQ w O dB mb fl cap c ea g caps Q) :
  CallsD Try.prog 45 #[.pointer (some ⟨dB, 0, none⟩), .pointer (some ⟨ea, 0, none⟩), .agg #[.func (Fn.func g) #[] caps, .bool torn]] u w fun e u' w' => u' = u ∧ (e = .returned (.tuple #[]) ∧ w'.cell? ⟨ea, 0, none⟩ = some (.int .i64 0) ∧ ∃ O2 fl2 c2, Q fl2 c2 ∧ DskM w' O2 dB mb fl2 cap (arm - 1) down (setCt c2 0 (wrap64 (c2 0 + 1))) ∧ Go4 w w' (fun i => O i ∨ i = ea) (fun i => O2 i ∨ i = ea)) := by
 obtain ⟨c0, c1, c2, c3, c4, -⟩ := hD.box.cells
 have z2 := hD.box.fz 2
 have z3 := hD.box.fz 3
 have l1 := World.block_lt_of_cell? _ _ he
 have l2 := hD.box.lt
 have n1 : ea ≠ dB := fun e => hn (e ▸ hD.odb)
 have n2 : dB ≠ ea := Ne.symm n1
 have a1 : (arm == 1) = false := by simp; omega
 have a2 : (0 : Int) < arm := by omega
 have HD := Lib.hid hD
 have HQ := Lib.hid hQ
 have HN := Lib.hid hn
 have HE := Lib.hid he
 clear hD hQ hn
 go_enter_d Try.func45, Try.ntmps45
 go_wp2_with fail
 obtain ⟨W, hW⟩ : ∃ W, W = (w.setCell ⟨dB, 2, none⟩ (.int .i64 (arm - 1))).alloc (Obj.cells #[.func (Fn.func g) #[] caps, .bool torn] 90) := ⟨_, rfl⟩
 rw [← hW]
 have D1 : DskM W O dB mb fl cap (arm - 1) down c := by
  rw [hW]
  exact (HD.out.setArm _).below (((Below.refl _ _).alloc (Nat.le_refl _) _))
 have G1 : Go4 w W (fun i => O i ∨ i = ea) (fun i => O i ∨ i = ea) := by
  rw [hW]
  exact (Go4.of_set (a := ⟨dB, 2, none⟩) (.inl HD.out.odb) _).trans (Go4.of_below ((Below.refl _ _).alloc (Nat.le_refl _) _))
 have E1 : W.cell? ⟨ea, 0, none⟩ = some (.int .i64 0) := by
  rw [hW]
  simp [go_sem, HE.out, n1, n2, l1, l2]
 have hC := HQ.out _ _ _ D1 G1
 have HG := Lib.hid G1
 have HE1 := Lib.hid E1
 have LW : w.heap.size ≤ W.heap.size := G1.size
 clear hW D1 G1 E1 c0 c1 c2 c3 c4 z2 z3 he
 refine hC.mono ?_
 rintro e w2 ⟨rfl, O2, fl2, k2, hq, d2, g2⟩
 have b4 := d2.box.cells.2.2.2.2.1
 have zz := d2.box.fz 4
 have E2 : w2.cell? ⟨ea, 0, none⟩ = some (.int .i64 0) := by
  rw [← HE1.out]
  have : w2.heap[ea]? = W.heap[ea]? := g2.block ea (by omega) HN.out
  simp [World.cell?, this]
 have HE2 := Lib.hid E2
 have HD2 := Lib.hid d2
 have HQ2 := Lib.hid hq
 have HG2 := Lib.hid g2
 clear E2 d2 hq g2 hC
 go_wp2
 go_end0
 refine ⟨rfl, ?_, O2, fl2, k2, HQ2.out, HD2.out.setCt 0 (by omega) _, ?_⟩
 ·exact (World.cell?_of_block (a := ⟨ea, 0, none⟩) (heap_setCell_other _ _ _ _ n1)).trans HE2.out
 ·refine (HG.out.trans (HG2.out.wide (fun i h => .inl h) (fun i h => ?_))).trans (Go4.of_set (a := ⟨dB, 4, none⟩) (.inl HD2.out.odb) _)
  exact h.imp id (fun e => .inr e)

set_option maxRecDepth 100000 in
set_option maxHeartbeats 2000000 in
theorem settle_free {g : Nat} {caps : Array Value} {torn : Bool} {ea : Nat} {u : FrameMode} {Q : List FE → (Nat → Int) → Prop} (ha : arm = 0) (hD : DskM w O dB mb fl cap arm down c) (he : w.cell? ⟨ea, 0, none⟩ = some (.int .i64 0)) (hz : w.frozen? ⟨ea, 0, none⟩ = false) (hn : ¬ O ea)
  (hg : ∀ w, (callFunc g caps).run Try.prog w = .ok (.enter g caps) w) (hQ : DoesQ w O dB mb fl cap c ea g caps Q) :
  CallsD Try.prog 45 #[.pointer (some ⟨dB, 0, none⟩), .pointer (some ⟨ea, 0, none⟩), .agg #[.func (Fn.func g) #[] caps, .bool torn]] u w fun e u' w' => u' = u ∧ (e = .returned (.tuple #[]) ∧ w'.cell? ⟨ea, 0, none⟩ = some (.int .i64 0) ∧ ∃ O2 fl2 c2, Q fl2 c2 ∧ DskM w' O2 dB mb fl2 cap 0 down (setCt c2 0 (wrap64 (c2 0 + 1))) ∧ Go4 w w' (fun i => O i ∨ i = ea) (fun i => O2 i ∨ i = ea)) := by
 obtain ⟨c0, c1, c2, c3, c4, -⟩ := hD.box.cells
 have z2 := hD.box.fz 2
 have z3 := hD.box.fz 3
 have l1 := World.block_lt_of_cell? _ _ he
 have l2 := hD.box.lt
 have n1 : ea ≠ dB := fun e => hn (e ▸ hD.odb)
 have n2 : dB ≠ ea := Ne.symm n1
 subst ha
 have HD := Lib.hid hD
 have HQ := Lib.hid hQ
 have HN := Lib.hid hn
 have HE := Lib.hid he
 clear hD hQ hn
 go_enter_d Try.func45, Try.ntmps45
 go_wp2_with fail
 obtain ⟨W, hW⟩ : ∃ W, W = w.alloc (Obj.cells #[.func (Fn.func g) #[] caps, .bool torn] 90) := ⟨_, rfl⟩
 rw [← hW]
 have D1 : DskM W O dB mb fl cap 0 down c := by
  rw [hW]
  exact HD.out.below ((Below.refl _ _).alloc (Nat.le_refl _) _)
 have G1 : Go4 w W (fun i => O i ∨ i = ea) (fun i => O i ∨ i = ea) := by
  rw [hW]
  exact Go4.of_below ((Below.refl _ _).alloc (Nat.le_refl _) _)
 have E1 : W.cell? ⟨ea, 0, none⟩ = some (.int .i64 0) := by
  rw [hW]
  simp [go_sem, HE.out, n1, n2, l1, l2]
 have hC := HQ.out _ _ _ D1 G1
 have HG := Lib.hid G1
 have HE1 := Lib.hid E1
 have LW : w.heap.size ≤ W.heap.size := G1.size
 clear hW D1 G1 E1 c0 c1 c2 c3 c4 z2 z3 he
 refine hC.mono ?_
 rintro e w2 ⟨rfl, O2, fl2, k2, hq, d2, g2⟩
 have b4 := d2.box.cells.2.2.2.2.1
 have zz := d2.box.fz 4
 have E2 : w2.cell? ⟨ea, 0, none⟩ = some (.int .i64 0) := by
  rw [← HE1.out]
  have : w2.heap[ea]? = W.heap[ea]? := g2.block ea (by omega) HN.out
  simp [World.cell?, this]
 have HE2 := Lib.hid E2
 have HD2 := Lib.hid d2
 have HQ2 := Lib.hid hq
 have HG2 := Lib.hid g2
 clear E2 d2 hq g2 hC
 go_wp2
 go_end0
 refine ⟨rfl, ?_, O2, fl2, k2, HQ2.out, HD2.out.setCt 0 (by omega) _, ?_⟩
 ·exact (World.cell?_of_block (a := ⟨ea, 0, none⟩) (heap_setCell_other _ _ _ _ n1)).trans HE2.out
 ·refine (HG.out.trans (HG2.out.wide (fun i h => .inl h) (fun i h => ?_))).trans (Go4.of_set (a := ⟨dB, 4, none⟩) (.inl HD2.out.odb) _)
  exact h.imp id (fun e => .inr e)

set_option maxRecDepth 100000 in
set_option maxHeartbeats 2000000 in
theorem settle_torn {g : Nat} {caps : Array Value} {ea : Nat} {u : FrameMode} {Q : List FE → (Nat → Int) → Prop} (ha : arm = 1) (hD : DskM w O dB mb fl cap arm down c) (he : w.cell? ⟨ea, 0, none⟩ = some (.int .i64 0)) (hz : w.frozen? ⟨ea, 0, none⟩ = false) (hn : ¬ O ea)
  (hg : ∀ w, (callFunc g caps).run Try.prog w = .ok (.enter g caps) w) (hQ : DoesQ w O dB mb fl cap c ea g caps Q) :
  CallsD Try.prog 45 #[.pointer (some ⟨dB, 0, none⟩), .pointer (some ⟨ea, 0, none⟩), .agg #[.func (Fn.func g) #[] caps, .bool true]] u w fun e u' w' => u' = u ∧ (e = .returned (.tuple #[]) ∧ w'.cell? ⟨ea, 0, none⟩ = some (.int .i64 3) ∧ ∃ O2 fl2 c2, Q fl2 c2 ∧ DskM w' O2 dB mb fl2 cap 0 true (setCt c2 0 (wrap64 (c2 0 + 1))) ∧ Go4 w w' (fun i => O i ∨ i = ea) (fun i => O2 i ∨ i = ea)) := by
 obtain ⟨c0, c1, c2, c3, c4, -⟩ := hD.box.cells
 have z2 := hD.box.fz 2
 have z3 := hD.box.fz 3
 have l1 := World.block_lt_of_cell? _ _ he
 have l2 := hD.box.lt
 have n1 : ea ≠ dB := fun e => hn (e ▸ hD.odb)
 have n2 : dB ≠ ea := Ne.symm n1
 subst ha
 have HD := Lib.hid hD
 have HQ := Lib.hid hQ
 have HN := Lib.hid hn
 have HE := Lib.hid he
 clear hD hQ hn
 go_enter_d Try.func45, Try.ntmps45
 go_wp2_with fail
 obtain ⟨W, hW⟩ : ∃ W, W = (((w.setCell ⟨dB, 2, none⟩ (.int .i64 0)).setCell ⟨dB, 3, none⟩ (.bool true)).setCell ⟨ea, 0, none⟩ (.int .i64 3)).alloc (Obj.cells #[.func (Fn.func g) #[] caps, .bool true] 90) := ⟨_, rfl⟩
 rw [← hW]
 have D1 : DskM W O dB mb fl cap 0 true c := by
  rw [hW]
  exact (((HD.out.setArm _).setDown _).off _ HN.out _).below ((Below.refl _ _).alloc (Nat.le_refl _) _)
 have G1 : Go4 w W (fun i => O i ∨ i = ea) (fun i => O i ∨ i = ea) := by
  rw [hW]
  exact (((Go4.of_set (a := ⟨dB, 2, none⟩) (.inl HD.out.odb) _).trans (Go4.of_set (a := ⟨dB, 3, none⟩) (.inl HD.out.odb) _)).trans (Go4.of_set (a := ⟨ea, 0, none⟩) (.inr rfl) _)).trans (Go4.of_below ((Below.refl _ _).alloc (Nat.le_refl _) _))
 have E1 : W.cell? ⟨ea, 0, none⟩ = some (.int .i64 3) := by
  rw [hW]
  simp [go_sem, HE.out, n1, n2, l1, l2]
 have hC := HQ.out _ _ _ D1 G1
 have HG := Lib.hid G1
 have HE1 := Lib.hid E1
 have LW : w.heap.size ≤ W.heap.size := G1.size
 clear hW D1 G1 E1 c0 c1 c2 c3 c4 z2 z3 he
 refine hC.mono ?_
 rintro e w2 ⟨rfl, O2, fl2, k2, hq, d2, g2⟩
 have b4 := d2.box.cells.2.2.2.2.1
 have zz := d2.box.fz 4
 have E2 : w2.cell? ⟨ea, 0, none⟩ = some (.int .i64 3) := by
  rw [← HE1.out]
  have : w2.heap[ea]? = W.heap[ea]? := g2.block ea (by omega) HN.out
  simp [World.cell?, this]
 have HE2 := Lib.hid E2
 have HD2 := Lib.hid d2
 have HQ2 := Lib.hid hq
 have HG2 := Lib.hid g2
 clear E2 d2 hq g2 hC
 go_wp2
 go_end0
 refine ⟨rfl, ?_, O2, fl2, k2, HQ2.out, HD2.out.setCt 0 (by omega) _, ?_⟩
 ·exact (World.cell?_of_block (a := ⟨ea, 0, none⟩) (heap_setCell_other _ _ _ _ n1)).trans HE2.out
 ·refine (HG.out.trans (HG2.out.wide (fun i h => .inl h) (fun i h => ?_))).trans (Go4.of_set (a := ⟨dB, 4, none⟩) (.inl HD2.out.odb) _)
  exact h.imp id (fun e => .inr e)

set_option maxRecDepth 100000 in
set_option maxHeartbeats 2000000 in
theorem settle_stop {g : Nat} {caps : Array Value} {ea : Nat} {u : FrameMode} (ha : arm = 1) (hD : DskM w O dB mb fl cap arm down c) (he : w.cell? ⟨ea, 0, none⟩ = some (.int .i64 0)) (hz : w.frozen? ⟨ea, 0, none⟩ = false) (hn : ¬ O ea) :
  CallsD Try.prog 45 #[.pointer (some ⟨dB, 0, none⟩), .pointer (some ⟨ea, 0, none⟩), .agg #[.func (Fn.func g) #[] caps, .bool false]] u w fun e u' w' => u' = u ∧ (e = .returned (.tuple #[]) ∧ w'.cell? ⟨ea, 0, none⟩ = some (.int .i64 3) ∧ DskM w' O dB mb fl cap 0 true c ∧ Go4 w w' (fun i => O i ∨ i = ea) (fun i => O i ∨ i = ea)) := by
 obtain ⟨c0, c1, c2, c3, c4, -⟩ := hD.box.cells
 have z2 := hD.box.fz 2
 have z3 := hD.box.fz 3
 have l1 := World.block_lt_of_cell? _ _ he
 have l2 := hD.box.lt
 have n1 : ea ≠ dB := fun e => hn (e ▸ hD.odb)
 have n2 : dB ≠ ea := Ne.symm n1
 subst ha
 have HD := Lib.hid hD
 have HN := Lib.hid hn
 have HE := Lib.hid he
 clear hD hn
 go_enter_d Try.func45, Try.ntmps45
 go_wp2
 go_end0
 refine ⟨rfl, ?_, (((HD.out.setArm _).setDown _).off _ HN.out _).below ((Below.refl _ _).alloc (Nat.le_refl _) _), (((Go4.of_set (a := ⟨dB, 2, none⟩) (.inl HD.out.odb) _).trans (Go4.of_set (a := ⟨dB, 3, none⟩) (.inl HD.out.odb) _)).trans (Go4.of_set (a := ⟨ea, 0, none⟩) (.inr rfl) _)).trans (Go4.of_below ((Below.refl _ _).alloc (Nat.le_refl _) _))⟩
 simp [go_sem, HE.out, n1, n2, l1, l2]
end Go.Proofs.Ytlkhphhmhffdjaa

namespace Go.Proofs.Ytlkhphhmhffdjaa
open Go.RowKit

section
variable {P : Program} {ops : Array Oper} {Q : Exit → Act → World → Prop} {md : Region.Mode} {S : World → Prop} {E : Nat → Bool}

def AnyE (P : Program) (md : Region.Mode) (ops : Array Oper) (Q : Exit → Act → World → Prop) (S : World → Prop) (E : Nat → Bool) : Nat → Array Bool → Act → World → Prop
 | 0, listed, a, w => Region.ready md ops listed = [] ∧ Q .normal a w
 | fuel + 1, listed, a, w => (Region.ready md ops listed = [] → Q .normal a w) ∧
  ∀ i ∈ Region.ready md ops listed, wpOp P ops Q i (fun a' w' => (E i = true → S w') ∧ AnyE P md ops Q S E fuel (listed.setIfInBounds i true) a' w') a w
theorem AnyE.any : ∀ (fuel : Nat) (listed : Array Bool) (a : Act) (w : World), AnyE P md ops Q S E fuel listed a w → wpAny P md ops Q fuel listed a w
 | 0, _, _, _, h => h
 | fuel + 1, _, _, _, h => ⟨h.1, fun i hi => wpOp_mono (fun a' w' k => AnyE.any fuel _ a' w' k.2) (h.2 i hi)⟩
theorem wp_region_anyE {id : Nat} {a : Act} {w : World} (hm : P.follows .mixedOrders = true) (h : AnyE P .any ops Q S E ops.size (Array.replicate ops.size false) a w.drew) : (Code.region id ops true).wp P Q a w := wp_region_any hm (AnyE.any _ _ _ _ h)
def eFree (md : Region.Mode) (ops : Array Oper) (listed : Array Bool) (i : Nat) (E : Nat → Bool) : Bool :=
 (List.range ops.size).all fun j => j == i || listed.getD j true || E j || (match ops[j]? with
  | none => true
  | some oj => oj.after.any fun e => Region.binds md e && e.on == i)
theorem eFree_spec {i : Nat} {listed : Array Bool} (h : eFree md ops listed i E = true) (j : Nat) (oj : Oper) (hj : ops[j]? = some oj) (hne : j ≠ i) (hun : listed.getD j true = false) (hno : ∀ e ∈ oj.after, Region.binds md e = true → e.on ≠ i) : E j = true := by
 have hlt : j < ops.size := (Array.getElem?_eq_some_iff.1 hj).1
 have := List.all_eq_true.1 h j (List.mem_range.2 hlt)
 simp only [hj, Bool.or_eq_true, beq_iff_eq, hne, hun, false_or] at this
 rcases this with (h1 | h1) | h1
 ·cases h1
 ·exact h1
 ·obtain ⟨k, hk, he⟩ := Array.any_eq_true.1 h1
  simp only [Bool.and_eq_true, beq_iff_eq] at he
  exact absurd he.2 (hno _ (Array.getElem_mem hk) he.1)
theorem AnyE.first {i : Nat} {oi : Oper} {v : Value} (hi : ops[i]? = some oi) (hs : Region.noSelect ops = true) (hQ : ∀ c a w, Q (.panic c) (a.put oi.dst v) w → Q (.panic c) a w) : ∀ (fuel : Nat) (listed : Array Bool) (a : Act) (w : World),
  (∀ j oj, ops[j]? = some oj → j ≠ i → listed.getD j true = false → (∀ e ∈ oj.after, Region.binds md e = true → e.on ≠ i) → oi.apart ops oj = true ∧ E j = true) →
  i ∈ Region.ready md ops listed → YieldsIf P ops S oi v a → S w → AnyE P md ops Q S E fuel (listed.setIfInBounds i true) (a.put oi.dst v) w → AnyE P md ops Q S E (fuel + 1) listed a w := by
 intro fuel
 have sel := Region.noSelect_spec hs
 induction fuel with
 | zero =>
  intro listed a w _ hr hy hS H
  refine ⟨fun h => (by rw [h] at hr; cases hr), fun j hj => ?_⟩
  rcases Decidable.em (j = i) with rfl | hne
  ·exact hy.wpOp hi hS ⟨fun _ => hS, H⟩
  ·have k := ready_mono hj hne
   rw [H.1] at k; cases k
 | succ fuel ih =>
  intro listed a w hf hr hy hS H
  refine ⟨fun h => (by rw [h] at hr; cases hr), fun j hj => ?_⟩
  rcases Decidable.em (j = i) with rfl | hne
  ·exact hy.wpOp hi hS ⟨fun _ => hS, H⟩
  ·obtain ⟨hun, oj, hoj, hall⟩ := mem_ready.1 hj
   have hno : ∀ e ∈ oj.after, Region.binds md e = true → e.on ≠ i := fun e he hb heq => by
    have k1 := hall e he hb
    have k0 := (mem_ready.1 hr).1
    rw [heq] at k1
    by_cases hlt : i < listed.size
    ·simp [hlt] at k0 k1; rw [k0] at k1; cases k1
    ·simp [Array.getElem?_eq_none (Nat.le_of_not_lt hlt)] at k1
   obtain ⟨hap, hEj⟩ := hf j oj hoj hne hun hno
   refine wpOp_mono (fun a' w' h3 => ⟨h3.2.1, ?_⟩) (wpOp_putIf hoj hap (fun cs b => sel i oi cs b hi) (fun cs b => sel j oj cs b hoj) hQ hy (H.2 j (ready_mono hj hne)))
   refine ih (listed.setIfInBounds j true) a' w' (fun k ok hk hki hun' hno' => hf k ok hk hki ?_ hno') (ready_mono hr (Ne.symm hne)) h3.1 (h3.2.1 hEj) ?_
   ·rcases Decidable.em (j = k) with rfl | e
    ·exact hun
    ·rwa [getD_set_ne true e] at hun'
   ·rw [Array.setIfInBounds_comm _ _ hne]; exact h3.2.2
theorem AnyE.take {i : Nat} {oi : Oper} {fuel : Nat} {listed : Array Bool} {a : Act} {w : World} (v : Value) (hi : ops[i]? = some oi) (hs : Region.noSelect ops = true) (hf : Region.free md ops listed i = true) (he : eFree md ops listed i E = true) (hr : (Region.ready md ops listed).contains i = true)
  (hQ : ∀ c a w, Q (.panic c) (a.put oi.dst v) w → Q (.panic c) a w) (hy : YieldsIf P ops S oi v a) (hS : S w) (h : AnyE P md ops Q S E fuel (listed.setIfInBounds i true) (a.put oi.dst v) w) : AnyE P md ops Q S E (fuel + 1) listed a w :=
 AnyE.first hi hs hQ fuel listed a w (fun j oj hj hne hun hno => ⟨Region.free_spec hi hf j oj hj hne hun hno, eFree_spec he j oj hj hne hun hno⟩) (by simpa using hr) hy hS h
theorem AnyE.one {i : Nat} {o : Oper} {fuel : Nat} {listed : Array Bool} {a : Act} {w : World} (ho : ops[i]? = some o) (hr : Region.ready md ops listed = [i]) (hw : Region.wanted o (yielded ops a.tmps) = true)
  (h : ∀ K : Act → World → Prop, Hid (∀ a' w', ((E i = true → S w') ∧ AnyE P md ops Q S E fuel (listed.setIfInBounds i true) a' w') → K a' w') → Oper.wp P o a w K Q) : AnyE P md ops Q S E (fuel + 1) listed a w :=
 ⟨fun k => (by rw [hr] at k; cases k), fun j hj => by
  rw [hr] at hj
  obtain rfl : j = i := by simpa using hj
  exact wpOp_step ho (fun K' hK => by rw [if_pos hw]; exact h K' hK)⟩
theorem AnyE.done {listed : Array Bool} {a : Act} {w : World} (hr : Region.ready md ops listed = []) (h : Q .normal a w) : ∀ fuel, AnyE P md ops Q S E fuel listed a w
 | 0 => ⟨hr, h⟩
 | _ + 1 => ⟨fun _ => h, by rw [hr]; simp⟩
end
end Go.Proofs.Ytlkhphhmhffdjaa

namespace Go.Proofs.Ytlkhphhmhffdjaa
open Go.RowKit Go.MapKept
variable {w w' : World} {O : Nat → Prop} {dB mb clock : Nat} {fl : List FE} {cap arm : Int} {down : Bool} {c : Nat → Int} {fs : List (ByteArray × Nat)} {es : Array MapEntry}
theorem setMap_go (w : World) (mb : Nat) (es : Array MapEntry) (clock : Nat) : Go4 w (setMap w mb es clock) (fun i => i = mb) (fun i => i = mb) :=
 ⟨rfl, rfl, rfl, by rw [setMap_size]; exact Nat.le_refl _, fun k _ h => setMap_ne h, fun k h => .inl h⟩
set_option maxRecDepth 100000 in
set_option maxHeartbeats 2000000 in
theorem hold_any {fb : Nat} {s : ByteArray} (hb : DkBox w dB mb cap arm down c) (hm : MpB w mb fs es clock) (hs : s.size ≤ 281474976710656) :
  Calls Try.prog 47 #[.pointer (some ⟨dB, 0, none⟩), .string s, .pointer (some ⟨fb, 0, none⟩)] w fun e w' => e = .returned (.tuple #[]) ∧ ∃ es' clock', MpB w' mb (setN fs s fb) es' clock' ∧ Go4 w w' (fun i => i = mb) (fun i => i = mb) := by
 have HBX := Lib.hid hb
 have HM := Lib.hid hm
 have HC := fun W => Lib.hid (clone_any hs W)
 have lb := hb.lt
 clear hb hm
 go_enter Try.func47, Try.ntmps47
 have BD : Below w.heap.size w w.drew := (Below.refl _ _).drew
 refine wp_region_noPanic ?_
 refine wp_region_anyE (S := fun wx => Below w.heap.size w wx) (E := fun j => !(decide (j = 7))) (by kernel_rfl) ?_
 have hHeld : Below w.heap.size w w.drew := BD
 have HB := Lib.hid BD
 obtain ⟨Z0, hZ0⟩ : ∃ z, z = w.drew := ⟨_, rfl⟩
 rw [← hZ0] at HB hHeld ⊢
 clear hZ0 BD
 refine AnyE.take (i := 0) (.pointer (some ⟨dB, 0, none⟩)) rfl (by kernel_rfl) (by kernel_rfl) (by kernel_rfl) (by kernel_rfl) (fun _ _ _ h => h) (.inl ⟨by kernel_rfl, fun wy hy => by (go_simp; done)⟩) hHeld ?_
 try simp only [Act.put, List.setIfInBounds_toArray, List.set_cons_zero, List.set_cons_succ]
 refine AnyE.take (i := 1) (.pointer (some ⟨dB, 0, none⟩)) rfl (by kernel_rfl) (by kernel_rfl) (by kernel_rfl) (by kernel_rfl) (fun _ _ _ h => h) (.inl ⟨by kernel_rfl, fun wy hy => by (go_simp; done)⟩) hHeld ?_
 try simp only [Act.put, List.setIfInBounds_toArray, List.set_cons_zero, List.set_cons_succ]
 refine AnyE.take (i := 2) (.pointer (some ⟨dB, 0, none⟩)) rfl (by kernel_rfl) (by kernel_rfl) (by kernel_rfl) (by kernel_rfl) (fun _ _ _ h => h) (.inl ⟨by kernel_rfl, fun wy hy => by (go_simp; done)⟩) hHeld ?_
 try simp only [Act.put, List.setIfInBounds_toArray, List.set_cons_zero, List.set_cons_succ]
 refine AnyE.take (i := 3) (.map (some mb)) rfl (by kernel_rfl) (by kernel_rfl) (by kernel_rfl) (by kernel_rfl) (fun _ _ _ h => h) (.inl ⟨by kernel_rfl, fun wy hy => by (have q := (HBX.out.kept (hy.block _ lb)).cells.1; go_simp; done)⟩) hHeld ?_
 try simp only [Act.put, List.setIfInBounds_toArray, List.set_cons_zero, List.set_cons_succ]
 refine AnyE.take (i := 4) (.string s) rfl (by kernel_rfl) (by kernel_rfl) (by kernel_rfl) (by kernel_rfl) (fun _ _ _ h => h) (.inl ⟨by kernel_rfl, fun wy hy => by (go_simp; done)⟩) hHeld ?_
 try simp only [Act.put, List.setIfInBounds_toArray, List.set_cons_zero, List.set_cons_succ]
 refine AnyE.take (i := 6) (.pointer (some ⟨fb, 0, none⟩)) rfl (by kernel_rfl) (by kernel_rfl) (by kernel_rfl) (by kernel_rfl) (fun _ _ _ h => h) (.inl ⟨by kernel_rfl, fun wy hy => by (go_simp; done)⟩) hHeld ?_
 try simp only [Act.put, List.setIfInBounds_toArray, List.set_cons_zero, List.set_cons_succ]
 refine AnyE.one (i := 5) rfl (by kernel_rfl) (by kernel_rfl) (fun KK hK => ?_)
 go_simp
 go_at_call 74
 refine (HC Z0).out.mono ?_
 rintro e9 Z2 ⟨rfl, b1⟩
 have HB := Lib.hid (HB.out.trans (b1.mono HB.out.size))
 clear b1
 go_wp2_with fail
 refine hK.out _ _ ⟨fun _ => HB.out, ?_⟩
 have hHeld := HB.out
 clear hK
 try simp only [Act.put, List.setIfInBounds_toArray, List.set_cons_zero, List.set_cons_succ]
 refine AnyE.one (i := 7) rfl (by kernel_rfl) (by kernel_rfl) (fun KK hK => ?_)
 obtain ⟨es', ck', hrun, hm'⟩ := (HM.out.kept (HB.out.block _ HM.out.lt)).put s fb
 have G := Lib.hid ((Go4.of_below (O := fun i => i = mb) HB.out).trans (setMap_go Z2 mb es' ck'))
 have HM2 := Lib.hid hm'
 clear hm'
 go_simp
 refine hK.out _ _ ⟨fun h => (by cases h), ?_⟩
 clear hK
 try simp only [Act.put, List.setIfInBounds_toArray, List.set_cons_zero, List.set_cons_succ]
 refine AnyE.done (by kernel_rfl) (NoPanic.normal ?_) _
 obtain ⟨Z3, hZ3⟩ : ∃ z, z = setMap Z2 mb es' ck' := ⟨_, rfl⟩
 rw [← hZ3] at HM2 G ⊢
 clear hrun hZ3
 go_simp
 go_end0
 exact ⟨rfl, ⟨es', ck', HM2.out⟩, G.out⟩
end Go.Proofs.Ytlkhphhmhffdjaa
