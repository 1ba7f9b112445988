import Derived.Test.YtiiencopchpajaaDoorProg
import Derived.WalkKit
import Derived.WalkSpells
import Derived.WalkLawsBesides
import Derived.Great.BuildSlice
import Derived.BigFrame
namespace Go.Proofs.YtiiencopchpajaaDoor
open Go.RowKit
set_option linter.unusedVariables false

def errsZ : List Int := [0, 1, 2, 3, 4, 10, 11, 12, 13, 20, 21, 22, 23, 24, 25, 26, 27, 28, 29, 30, 31, 32, 40, 41, 42, 43, 44, 51, 52, 53, 54, 60, 61, 62, 63, 71, 72, 73, 74, 80, 81, 90, 91, 100, 101, 102, 110, 111, 112, 113, 114, 115, 116, 117, 118, 120, 121, 122, 123, 124, 130, 131, 132, 133, 140, 141, 142, 143, 144, 145, 146, 147, 148, 152, 153, 154, 155, 156, 157, 158, 160, 161, 162, 163, 164, 166, 170, 171, 172, 173, 174, 175, 180, 182, 183, 184, 185, 190, 191, 192, 193, 200, 201, 202, 203]
def limitsZ : List Int := [256, 256, 4096, 16, 8, 8, 32, 16, 1099511627776, 1099511627776, 1099511627776, 17592186044431, 256, 64, 32, 67108864, 1048576, 64, 65536, 131072, 16, 20, 1048576, 16777216, 64, 64, 64, 4194304, 131072, 16, 512, 16, 1000, 98304, 16, 64, 1000, 65536, 16, 256, 1048576, 16384, 8, 7, 512, 65536, 512, 1, 2, 3, 4, 5, 1, 2, 3, 4, 5, 1, 2, 3, 4, 5, 6, 1, 2, 3, 4, 5, 6, 7, 1, 2, 3, 4, 5, 6, 7, 8, 1, 2, 3, 4, 5, 6, 7, 1, 2, 3, 4, 1, 2, 3]
/-- The cells of pairs. -/
def pairs (zs : List Int) : List Value := zs.flatMap fun z => [.int .i64 z, .int .i64 z]
/-- The operation that makes a pair. -/
def pairOp (pos : String) (x : Int × Nat) : Oper := { dst := some x.2, op := .build 25 #[(0, .const (.int .i64 x.1)), (1, .const (.int .i64 x.1))], type := 25, pos := pos, after := #[], guard := none }
def putAll : List Int → Nat → Act → Act
  | [], _, a => a
  | z :: zs, k, a => putAll zs (k + 1) (a.put (some k) (.agg #[.int .i64 z, .int .i64 z]))

theorem built_pair (z : Int) : Tryd.prog.built 25 [(0, .int .i64 z), (1, .int .i64 z)] = some #[.int .i64 z, .int .i64 z] := by kernel_rfl
theorem und_pairs : Tryd.prog.underlying 22 = some (.slice 25) := by kernel_rfl
theorem info_pair : (Tryd.prog.info? 25).map (fun i => (i.zero, i.size, i.bytes)) = some (some (.agg #[.int .i64 0, .int .i64 0]), 2, 16) := by kernel_rfl

theorem wpList_pairs {ops : Array Oper} {rest : List Oper} {w : World} {Q : Exit → Act → World → Prop} (pos : String) : ∀ (zs : List Int) (k : Nat) (a : Act), wpList Tryd.prog ops Q rest (putAll zs k a) w → wpList Tryd.prog ops Q ((zs.zipIdx k).map (pairOp pos) ++ rest) a w := by
  intro zs
  induction zs with
  | nil => intro k a h; simpa [putAll] using h
  | cons z zs ih =>
    intro k a h
    rw [List.zipIdx_cons, List.map_cons, List.cons_append]
    have e : ((#[(0, Operand.const (.int .i64 z)), (1, Operand.const (.int .i64 z))] : Array (Nat × Operand)).map fun (i, x) => (i, a.eval x)).toList = [(0, .int .i64 z), (1, .int .i64 z)] := by simp [Act.eval]
    have hb : Tryd.prog.built 25 ((#[(0, Operand.const (.int .i64 z)), (1, Operand.const (.int .i64 z))] : Array (Nat × Operand)).map fun (i, x) => (i, a.eval x)).toList = some #[.int .i64 z, .int .i64 z] := by rw [e, built_pair]
    refine wpList_build rfl 25 _ rfl (by rw [hb]; rfl) ?_
    rw [hb]
    exact ih (k + 1) _ h

theorem region_pairs {id : Nat} {l : List Oper} {Q : Exit → Act → World → Prop} {a : Act} {w : World} (zs : List Int) (pos : String) (N d1 : Nat) (o1 o2 : Oper) (parts : Array (Nat × Operand)) (hl : l = (zs.zipIdx 1).map (pairOp pos) ++ [o1, o2])
    (hg1 : o1.guard = none) (ho1 : o1.op = .buildSlice 22 N parts) (hd1 : o1.dst = some d1) (hg2 : o2.guard = none) (ho2 : o2.op = .assign (.tmp d1)) (hd2 : o2.dst = some 0) (hN : 0 < N) (hN2 : N ≤ 1000)
    (hf : ∀ z : Value, z = .agg #[.int .i64 0, .int .i64 0] → Instr.fill (fun i => some (i * 2, 2)) ((Array.range (N * 2)).map (z.cells[· % z.cells.size]!)) (parts.map fun (i, x) => (i, (putAll zs 1 a).eval x)).toList = some (pairs zs).toArray)
    (hv : ∀ v, ((putAll zs 1 a).put (some d1) v).eval (.tmp d1) = v)
    (h : Q .normal (((putAll zs 1 a).put (some d1) (.slice (some ⟨w.heap.size, 0, none⟩) N N)).put (some 0) (.slice (some ⟨w.heap.size, 0, none⟩) N N)) (w.alloc (.cells (pairs zs).toArray 25))) : (Code.region id l.toArray false).wp Tryd.prog Q a w := by
  refine wp_region_lit ?_
  obtain ⟨i0, hi, hz0, hz1, hz2⟩ := info_parts info_pair
  have key : wpList Tryd.prog l.toArray Q ((zs.zipIdx 1).map (pairOp pos) ++ [o1, o2]) a w := by
    refine wpList_pairs pos zs 1 a ?_
    refine wpList_buildSlice hg1 22 25 N parts ho1 (pairs zs).toArray i0 _ und_pairs hi hz0 (by rw [hz1]; omega) (by rw [hz1]; omega) (by rw [hz1]; exact hf _ rfl) ?_
    rw [hd1]
    refine wpList_plain hg2 fun K hK => ?_
    refine Go.BigFrame.wp_assign _ ho2 ?_
    rw [hd2, hv]
    exact hK _ _ (wpList_nil h)
  rw [← hl] at key
  exact key


/-- The operations of the literal. -/
noncomputable def errsOps : List Oper := match Tryd.f7.body with
  | some (.seq _ (.seq (.region _ ops _) _)) => ops.toList
  | _ => []
noncomputable def errsAt (k : Nat) : Oper := errsOps.getD k { dst := none, op := .assign (.tmp 0), type := 0, pos := "", after := #[], guard := none }
noncomputable def errsParts : Array (Nat × Operand) := match (errsAt 105).op with
  | .buildSlice _ _ parts => parts
  | _ => #[]

set_option maxRecDepth 100000 in
theorem errs_any (w : World) : Calls Tryd.prog 7 #[] w fun e w' => e = .returned (.slice (some ⟨w.heap.size, 0, none⟩) 105 105) ∧ w' = w.alloc (.cells (pairs errsZ).toArray 25) := by
  go_enter Tryd.func7, Tryd.ntmps7
  refine wp_seq_k fun K1 hK1 => ?_
  refine wp_region_lit ?_
  refine wpList_plain rfl fun K hK => ?_
  refine Go.BigFrame.wp_assign _ rfl ?_
  refine hK _ _ (wpList_nil ?_)
  refine hK1 _ _ ?_
  refine wp_seq_k fun K2 hK2 => ?_
  refine region_pairs errsZ "names.go:14" 105 106 (errsAt 105) (errsAt 106) errsParts (by kernel_rfl) (by kernel_rfl) (by kernel_rfl) (by kernel_rfl) (by kernel_rfl) (by kernel_rfl) (by kernel_rfl) (by decide) (by decide) (fun z hz => by subst hz; kernel_rfl) (fun v => by kernel_rfl) ?_
  refine hK2 _ _ ?_
  refine wp_ret ?_
  refine bodyPost_ret (v := .slice (some ⟨w.heap.size, 0, none⟩) 105 105) (by kernel_rfl) (by kernel_rfl) ?_
  exact ⟨rfl, rfl⟩

/-- The operations of the literal. -/
noncomputable def limitsOps : List Oper := match Tryd.f8.body with
  | some (.seq _ (.seq (.region _ ops _) _)) => ops.toList
  | _ => []
noncomputable def limitsAt (k : Nat) : Oper := limitsOps.getD k { dst := none, op := .assign (.tmp 0), type := 0, pos := "", after := #[], guard := none }
noncomputable def limitsParts : Array (Nat × Operand) := match (limitsAt 92).op with
  | .buildSlice _ _ parts => parts
  | _ => #[]

set_option maxRecDepth 100000 in
theorem limits_any (w : World) : Calls Tryd.prog 8 #[] w fun e w' => e = .returned (.slice (some ⟨w.heap.size, 0, none⟩) 92 92) ∧ w' = w.alloc (.cells (pairs limitsZ).toArray 25) := by
  go_enter Tryd.func8, Tryd.ntmps8
  refine wp_seq_k fun K1 hK1 => ?_
  refine wp_region_lit ?_
  refine wpList_plain rfl fun K hK => ?_
  refine Go.BigFrame.wp_assign _ rfl ?_
  refine hK _ _ (wpList_nil ?_)
  refine hK1 _ _ ?_
  refine wp_seq_k fun K2 hK2 => ?_
  refine region_pairs limitsZ "names.go:125" 92 93 (limitsAt 92) (limitsAt 93) limitsParts (by kernel_rfl) (by kernel_rfl) (by kernel_rfl) (by kernel_rfl) (by kernel_rfl) (by kernel_rfl) (by kernel_rfl) (by decide) (by decide) (fun z hz => by subst hz; kernel_rfl) (fun v => by kernel_rfl) ?_
  refine hK2 _ _ ?_
  refine wp_ret ?_
  refine bodyPost_ret (v := .slice (some ⟨w.heap.size, 0, none⟩) 92 92) (by kernel_rfl) (by kernel_rfl) ?_
  exact ⟨rfl, rfl⟩

end Go.Proofs.YtiiencopchpajaaDoor
