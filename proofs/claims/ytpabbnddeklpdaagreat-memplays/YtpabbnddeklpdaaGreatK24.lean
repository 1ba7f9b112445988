import Derived.Test.YtpabbnddeklpdaaGreatK23
import Derived.Deep.CutBlock
namespace Go.Proofs.YtpabbnddeklpdaaGreat
open Go.RowKit Go.Shelf
set_option linter.unusedVariables false
set_option linter.unusedSimpArgs false
attribute [local go_sem] Oper.semAt_some

set_option maxRecDepth 100000 in
theorem frame198 {T : Array Value} {v0 v2 v3 v4 v5 v6 : Value} (hs : T.size = 198) (h0 : T.getD 0 undef = v0) (h2 : T.getD 2 undef = v2) (h3 : T.getD 3 undef = v3) (h4 : T.getD 4 undef = v4) (h5 : T.getD 5 undef = v5) (h6 : T.getD 6 undef = v6) : ∃ U : Nat → Value, T = List.toArray ((v0 : Value) :: (U 1 : Value) :: (v2 : Value) :: (v3 : Value) :: (v4 : Value) :: (v5 : Value) :: (v6 : Value) :: (U 7 : Value) :: (U 8 : Value) :: (U 9 : Value) :: (U 10 : Value) :: (U 11 : Value) :: (U 12 : Value) :: (U 13 : Value) :: (U 14 : Value) :: (U 15 : Value) :: (U 16 : Value) :: (U 17 : Value) :: (U 18 : Value) :: (U 19 : Value) :: (U 20 : Value) :: (U 21 : Value) :: (U 22 : Value) :: (U 23 : Value) :: (U 24 : Value) :: (U 25 : Value) :: (U 26 : Value) :: (U 27 : Value) :: (U 28 : Value) :: (U 29 : Value) :: (U 30 : Value) :: (U 31 : Value) :: (U 32 : Value) :: (U 33 : Value) :: (U 34 : Value) :: (U 35 : Value) :: (U 36 : Value) :: (U 37 : Value) :: (U 38 : Value) :: (U 39 : Value) :: (U 40 : Value) :: (U 41 : Value) :: (U 42 : Value) :: (U 43 : Value) :: (U 44 : Value) :: (U 45 : Value) :: (U 46 : Value) :: (U 47 : Value) :: (U 48 : Value) :: (U 49 : Value) :: (U 50 : Value) :: (U 51 : Value) :: (U 52 : Value) :: (U 53 : Value) :: (U 54 : Value) :: (U 55 : Value) :: (U 56 : Value) :: (U 57 : Value) :: (U 58 : Value) :: (U 59 : Value) :: (U 60 : Value) :: (U 61 : Value) :: (U 62 : Value) :: (U 63 : Value) :: (U 64 : Value) :: (U 65 : Value) :: (U 66 : Value) :: (U 67 : Value) :: (U 68 : Value) :: (U 69 : Value) :: (U 70 : Value) :: (U 71 : Value) :: (U 72 : Value) :: (U 73 : Value) :: (U 74 : Value) :: (U 75 : Value) :: (U 76 : Value) :: (U 77 : Value) :: (U 78 : Value) :: (U 79 : Value) :: (U 80 : Value) :: (U 81 : Value) :: (U 82 : Value) :: (U 83 : Value) :: (U 84 : Value) :: (U 85 : Value) :: (U 86 : Value) :: (U 87 : Value) :: (U 88 : Value) :: (U 89 : Value) :: (U 90 : Value) :: (U 91 : Value) :: (U 92 : Value) :: (U 93 : Value) :: (U 94 : Value) :: (U 95 : Value) :: (U 96 : Value) :: (U 97 : Value) :: (U 98 : Value) :: (U 99 : Value) :: (U 100 : Value) :: (U 101 : Value) :: (U 102 : Value) :: (U 103 : Value) :: (U 104 : Value) :: (U 105 : Value) :: (U 106 : Value) :: (U 107 : Value) :: (U 108 : Value) :: (U 109 : Value) :: (U 110 : Value) :: (U 111 : Value) :: (U 112 : Value) :: (U 113 : Value) :: (U 114 : Value) :: (U 115 : Value) :: (U 116 : Value) :: (U 117 : Value) :: (U 118 : Value) :: (U 119 : Value) :: (U 120 : Value) :: (U 121 : Value) :: (U 122 : Value) :: (U 123 : Value) :: (U 124 : Value) :: (U 125 : Value) :: (U 126 : Value) :: (U 127 : Value) :: (U 128 : Value) :: (U 129 : Value) :: (U 130 : Value) :: (U 131 : Value) :: (U 132 : Value) :: (U 133 : Value) :: (U 134 : Value) :: (U 135 : Value) :: (U 136 : Value) :: (U 137 : Value) :: (U 138 : Value) :: (U 139 : Value) :: (U 140 : Value) :: (U 141 : Value) :: (U 142 : Value) :: (U 143 : Value) :: (U 144 : Value) :: (U 145 : Value) :: (U 146 : Value) :: (U 147 : Value) :: (U 148 : Value) :: (U 149 : Value) :: (U 150 : Value) :: (U 151 : Value) :: (U 152 : Value) :: (U 153 : Value) :: (U 154 : Value) :: (U 155 : Value) :: (U 156 : Value) :: (U 157 : Value) :: (U 158 : Value) :: (U 159 : Value) :: (U 160 : Value) :: (U 161 : Value) :: (U 162 : Value) :: (U 163 : Value) :: (U 164 : Value) :: (U 165 : Value) :: (U 166 : Value) :: (U 167 : Value) :: (U 168 : Value) :: (U 169 : Value) :: (U 170 : Value) :: (U 171 : Value) :: (U 172 : Value) :: (U 173 : Value) :: (U 174 : Value) :: (U 175 : Value) :: (U 176 : Value) :: (U 177 : Value) :: (U 178 : Value) :: (U 179 : Value) :: (U 180 : Value) :: (U 181 : Value) :: (U 182 : Value) :: (U 183 : Value) :: (U 184 : Value) :: (U 185 : Value) :: (U 186 : Value) :: (U 187 : Value) :: (U 188 : Value) :: (U 189 : Value) :: (U 190 : Value) :: (U 191 : Value) :: (U 192 : Value) :: (U 193 : Value) :: (U 194 : Value) :: (U 195 : Value) :: (U 196 : Value) :: (U 197 : Value) :: []) := by
 refine ⟨fun k => T.getD k undef, ?_⟩
 rw [← h0, ← h2, ← h3, ← h4, ← h5, ← h6]
 exact arr_of8 T 198 hs
set_option maxRecDepth 100000 in
theorem frame198p {T : Array Value} {v0 v2 v3 v4 v5 v6 v7 : Value} (hs : T.size = 198) (h0 : T.getD 0 undef = v0) (h2 : T.getD 2 undef = v2) (h3 : T.getD 3 undef = v3) (h4 : T.getD 4 undef = v4) (h5 : T.getD 5 undef = v5) (h6 : T.getD 6 undef = v6) (h7 : T.getD 7 undef = v7) : ∃ U : Nat → Value, T = List.toArray ((v0 : Value) :: (U 1 : Value) :: (v2 : Value) :: (v3 : Value) :: (v4 : Value) :: (v5 : Value) :: (v6 : Value) :: (v7 : Value) :: (U 8 : Value) :: (U 9 : Value) :: (U 10 : Value) :: (U 11 : Value) :: (U 12 : Value) :: (U 13 : Value) :: (U 14 : Value) :: (U 15 : Value) :: (U 16 : Value) :: (U 17 : Value) :: (U 18 : Value) :: (U 19 : Value) :: (U 20 : Value) :: (U 21 : Value) :: (U 22 : Value) :: (U 23 : Value) :: (U 24 : Value) :: (U 25 : Value) :: (U 26 : Value) :: (U 27 : Value) :: (U 28 : Value) :: (U 29 : Value) :: (U 30 : Value) :: (U 31 : Value) :: (U 32 : Value) :: (U 33 : Value) :: (U 34 : Value) :: (U 35 : Value) :: (U 36 : Value) :: (U 37 : Value) :: (U 38 : Value) :: (U 39 : Value) :: (U 40 : Value) :: (U 41 : Value) :: (U 42 : Value) :: (U 43 : Value) :: (U 44 : Value) :: (U 45 : Value) :: (U 46 : Value) :: (U 47 : Value) :: (U 48 : Value) :: (U 49 : Value) :: (U 50 : Value) :: (U 51 : Value) :: (U 52 : Value) :: (U 53 : Value) :: (U 54 : Value) :: (U 55 : Value) :: (U 56 : Value) :: (U 57 : Value) :: (U 58 : Value) :: (U 59 : Value) :: (U 60 : Value) :: (U 61 : Value) :: (U 62 : Value) :: (U 63 : Value) :: (U 64 : Value) :: (U 65 : Value) :: (U 66 : Value) :: (U 67 : Value) :: (U 68 : Value) :: (U 69 : Value) :: (U 70 : Value) :: (U 71 : Value) :: (U 72 : Value) :: (U 73 : Value) :: (U 74 : Value) :: (U 75 : Value) :: (U 76 : Value) :: (U 77 : Value) :: (U 78 : Value) :: (U 79 : Value) :: (U 80 : Value) :: (U 81 : Value) :: (U 82 : Value) :: (U 83 : Value) :: (U 84 : Value) :: (U 85 : Value) :: (U 86 : Value) :: (U 87 : Value) :: (U 88 : Value) :: (U 89 : Value) :: (U 90 : Value) :: (U 91 : Value) :: (U 92 : Value) :: (U 93 : Value) :: (U 94 : Value) :: (U 95 : Value) :: (U 96 : Value) :: (U 97 : Value) :: (U 98 : Value) :: (U 99 : Value) :: (U 100 : Value) :: (U 101 : Value) :: (U 102 : Value) :: (U 103 : Value) :: (U 104 : Value) :: (U 105 : Value) :: (U 106 : Value) :: (U 107 : Value) :: (U 108 : Value) :: (U 109 : Value) :: (U 110 : Value) :: (U 111 : Value) :: (U 112 : Value) :: (U 113 : Value) :: (U 114 : Value) :: (U 115 : Value) :: (U 116 : Value) :: (U 117 : Value) :: (U 118 : Value) :: (U 119 : Value) :: (U 120 : Value) :: (U 121 : Value) :: (U 122 : Value) :: (U 123 : Value) :: (U 124 : Value) :: (U 125 : Value) :: (U 126 : Value) :: (U 127 : Value) :: (U 128 : Value) :: (U 129 : Value) :: (U 130 : Value) :: (U 131 : Value) :: (U 132 : Value) :: (U 133 : Value) :: (U 134 : Value) :: (U 135 : Value) :: (U 136 : Value) :: (U 137 : Value) :: (U 138 : Value) :: (U 139 : Value) :: (U 140 : Value) :: (U 141 : Value) :: (U 142 : Value) :: (U 143 : Value) :: (U 144 : Value) :: (U 145 : Value) :: (U 146 : Value) :: (U 147 : Value) :: (U 148 : Value) :: (U 149 : Value) :: (U 150 : Value) :: (U 151 : Value) :: (U 152 : Value) :: (U 153 : Value) :: (U 154 : Value) :: (U 155 : Value) :: (U 156 : Value) :: (U 157 : Value) :: (U 158 : Value) :: (U 159 : Value) :: (U 160 : Value) :: (U 161 : Value) :: (U 162 : Value) :: (U 163 : Value) :: (U 164 : Value) :: (U 165 : Value) :: (U 166 : Value) :: (U 167 : Value) :: (U 168 : Value) :: (U 169 : Value) :: (U 170 : Value) :: (U 171 : Value) :: (U 172 : Value) :: (U 173 : Value) :: (U 174 : Value) :: (U 175 : Value) :: (U 176 : Value) :: (U 177 : Value) :: (U 178 : Value) :: (U 179 : Value) :: (U 180 : Value) :: (U 181 : Value) :: (U 182 : Value) :: (U 183 : Value) :: (U 184 : Value) :: (U 185 : Value) :: (U 186 : Value) :: (U 187 : Value) :: (U 188 : Value) :: (U 189 : Value) :: (U 190 : Value) :: (U 191 : Value) :: (U 192 : Value) :: (U 193 : Value) :: (U 194 : Value) :: (U 195 : Value) :: (U 196 : Value) :: (U 197 : Value) :: []) := by
 refine ⟨fun k => T.getD k undef, ?_⟩
 rw [← h0, ← h2, ← h3, ← h4, ← h5, ← h6, ← h7]
 exact arr_of8 T 198 hs
def Fr7 (T : Array Value) (sa : Option Addr) (N sc rB aB bB gB i : Nat) : Prop := T.size = 198 ∧ T.getD 0 undef = .slice sa N sc ∧ T.getD 2 undef = .pointer (some ⟨rB, 0, none⟩) ∧ T.getD 3 undef = .pointer (some ⟨aB, 0, none⟩) ∧ T.getD 4 undef = .pointer (some ⟨bB, 0, none⟩) ∧ T.getD 5 undef = .pointer (some ⟨gB, 0, none⟩) ∧ T.getD 6 undef = .int .i64 (i : Int)
structure MpI (w : World) (SE : Nat → Prop) (sa : Option Addr) (sc : Nat) (ts : List StepD) (aB bB gB n : Nat) (Ds : List Nat) (W : World) : Prop where
 tw : Tw W aB bB gB n (w.heap.size + 1)
 rd : RdS SE W sa sc ts
 rb : Bxd W w.heap.size 4 (.bool false)
 mq : MkQ W (w.heap.size + 1) Ds
 bel : Below w.heap.size w W
 size : w.heap.size + 1 ≤ W.heap.size
def MI (w : World) (SE : Nat → Prop) (sa : Option Addr) (sc : Nat) (ts : List StepD) (aB bB gB : Nat) (A : Act) (W : World) : Prop := ∃ (i : Nat) (Ds : List Nat), i ≤ ts.length ∧ MpI w SE sa sc ts aB bB gB i Ds W ∧ Fr7 A.tmps sa ts.length sc w.heap.size aB bB gB i ∧ A.defers = Ds.map mkD8
theorem MpI.later {w W Z : World} {SE : Nat → Prop} {sa : Option Addr} {sc : Nat} {ts : List StepD} {aB bB gB n : Nat} {Ds : List Nat} (h : MpI w SE sa sc ts aB bB gB n Ds W) (b : Below W.heap.size W Z) : MpI w SE sa sc ts aB bB gB n Ds Z :=
 ⟨h.tw.later b, h.rd.keptC (KpC.of_below b), h.rb.later8 b, h.mq.fb (C := fun _ => False) (Fb.of_below b) (fun _ h => h.elim), h.bel.trans (b.mono h.bel.size), Nat.le_trans h.size b.size⟩
theorem MpI.swap {w W : World} {SE : Nat → Prop} {sa : Option Addr} {sc : Nat} {ts : List StepD} {aB bB gB n : Nat} {Ds : List Nat} (h : MpI w SE sa sc ts aB bB gB n Ds W) : MpI w SE sa sc ts bB aB gB n Ds W := ⟨h.tw.swap, h.rd, h.rb, h.mq, h.bel, h.size⟩
theorem Gm.cAt {w : World} {pB tB g : Nat} {X FO : Nat → Prop} {L R : List EntD} {lv : Value} {f : Bool} (h : Gm w pB tB g X FO L R lv f) : ∀ k, (k = pB ∨ k = tB ∨ FO k) → k < w.heap.size → CellsAt w k := fun k hk _ => by
 rcases hk with rfl | rfl | q
 ·exact ⟨_, h.pl.box, rfl⟩
 ·obtain ⟨p, T, h1, _⟩ := h.pl.tab.tree
  exact ⟨_, h1, rfl⟩
 ·exact h.fc k q
theorem MpI.step {w W W' : World} {SE : Nat → Prop} {sa : Option Addr} {sc : Nat} {ts : List StepD} {aB bB gB n m tP : Nat} {Ds : List Nat} {X FO X' FO' : Nat → Prop} {L R : List EntD} {lv : Value} {f : Bool} (h : MpI w SE sa sc ts aB bB gB n Ds W) (hSE : ∀ k, SE k → k < w.heap.size) (gm : Gm W aB tP gB X FO L R lv f) (hlo : ∀ k, (PlB aB tP X k ∨ FO k) → w.heap.size + 1 ≤ k) (go : GoTo W W' aB tP X FO X' FO') (tw : Tw W' aB bB gB m (w.heap.size + 1)) : MpI w SE sa sc ts aB bB gB m Ds W' := by
 have hC : ∀ k, (k = aB ∨ k = tP ∨ FO k) → w.heap.size + 1 ≤ k := fun k hk => by
  rcases hk with q | q | q
  ·exact hlo k (.inl (.inl q))
  ·exact hlo k (.inl (.inr (.inl q)))
  ·exact hlo k (.inr q)
 refine ⟨tw, h.rd.keptC (KpC.of_fb go.fb (fun k hk e => by have := hSE k hk; have := hC k e; omega)), h.rb.keep (go.fb.block _ h.rb.lt (fun e => by have := hC _ e; omega)), h.mq.fb go.fb gm.cAt, h.bel.trans (go.fb.belowB (fun k e => by have := hC k e; omega) h.bel.size), Nat.le_trans h.size go.fb.size⟩
set_option maxRecDepth 100000 in
theorem frame198k {T : Array Value} {v0 v2 v3 v4 v5 v6 v7 v10 v11 v12 : Value} (hs : T.size = 198) (h0 : T.getD 0 undef = v0) (h2 : T.getD 2 undef = v2) (h3 : T.getD 3 undef = v3) (h4 : T.getD 4 undef = v4) (h5 : T.getD 5 undef = v5) (h6 : T.getD 6 undef = v6) (h7 : T.getD 7 undef = v7) (h10 : T.getD 10 undef = v10) (h11 : T.getD 11 undef = v11) (h12 : T.getD 12 undef = v12) : ∃ U : Nat → Value, T = List.toArray ((v0 : Value) :: (U 1 : Value) :: (v2 : Value) :: (v3 : Value) :: (v4 : Value) :: (v5 : Value) :: (v6 : Value) :: (v7 : Value) :: (U 8 : Value) :: (U 9 : Value) :: (v10 : Value) :: (v11 : Value) :: (v12 : Value) :: (U 13 : Value) :: (U 14 : Value) :: (U 15 : Value) :: (U 16 : Value) :: (U 17 : Value) :: (U 18 : Value) :: (U 19 : Value) :: (U 20 : Value) :: (U 21 : Value) :: (U 22 : Value) :: (U 23 : Value) :: (U 24 : Value) :: (U 25 : Value) :: (U 26 : Value) :: (U 27 : Value) :: (U 28 : Value) :: (U 29 : Value) :: (U 30 : Value) :: (U 31 : Value) :: (U 32 : Value) :: (U 33 : Value) :: (U 34 : Value) :: (U 35 : Value) :: (U 36 : Value) :: (U 37 : Value) :: (U 38 : Value) :: (U 39 : Value) :: (U 40 : Value) :: (U 41 : Value) :: (U 42 : Value) :: (U 43 : Value) :: (U 44 : Value) :: (U 45 : Value) :: (U 46 : Value) :: (U 47 : Value) :: (U 48 : Value) :: (U 49 : Value) :: (U 50 : Value) :: (U 51 : Value) :: (U 52 : Value) :: (U 53 : Value) :: (U 54 : Value) :: (U 55 : Value) :: (U 56 : Value) :: (U 57 : Value) :: (U 58 : Value) :: (U 59 : Value) :: (U 60 : Value) :: (U 61 : Value) :: (U 62 : Value) :: (U 63 : Value) :: (U 64 : Value) :: (U 65 : Value) :: (U 66 : Value) :: (U 67 : Value) :: (U 68 : Value) :: (U 69 : Value) :: (U 70 : Value) :: (U 71 : Value) :: (U 72 : Value) :: (U 73 : Value) :: (U 74 : Value) :: (U 75 : Value) :: (U 76 : Value) :: (U 77 : Value) :: (U 78 : Value) :: (U 79 : Value) :: (U 80 : Value) :: (U 81 : Value) :: (U 82 : Value) :: (U 83 : Value) :: (U 84 : Value) :: (U 85 : Value) :: (U 86 : Value) :: (U 87 : Value) :: (U 88 : Value) :: (U 89 : Value) :: (U 90 : Value) :: (U 91 : Value) :: (U 92 : Value) :: (U 93 : Value) :: (U 94 : Value) :: (U 95 : Value) :: (U 96 : Value) :: (U 97 : Value) :: (U 98 : Value) :: (U 99 : Value) :: (U 100 : Value) :: (U 101 : Value) :: (U 102 : Value) :: (U 103 : Value) :: (U 104 : Value) :: (U 105 : Value) :: (U 106 : Value) :: (U 107 : Value) :: (U 108 : Value) :: (U 109 : Value) :: (U 110 : Value) :: (U 111 : Value) :: (U 112 : Value) :: (U 113 : Value) :: (U 114 : Value) :: (U 115 : Value) :: (U 116 : Value) :: (U 117 : Value) :: (U 118 : Value) :: (U 119 : Value) :: (U 120 : Value) :: (U 121 : Value) :: (U 122 : Value) :: (U 123 : Value) :: (U 124 : Value) :: (U 125 : Value) :: (U 126 : Value) :: (U 127 : Value) :: (U 128 : Value) :: (U 129 : Value) :: (U 130 : Value) :: (U 131 : Value) :: (U 132 : Value) :: (U 133 : Value) :: (U 134 : Value) :: (U 135 : Value) :: (U 136 : Value) :: (U 137 : Value) :: (U 138 : Value) :: (U 139 : Value) :: (U 140 : Value) :: (U 141 : Value) :: (U 142 : Value) :: (U 143 : Value) :: (U 144 : Value) :: (U 145 : Value) :: (U 146 : Value) :: (U 147 : Value) :: (U 148 : Value) :: (U 149 : Value) :: (U 150 : Value) :: (U 151 : Value) :: (U 152 : Value) :: (U 153 : Value) :: (U 154 : Value) :: (U 155 : Value) :: (U 156 : Value) :: (U 157 : Value) :: (U 158 : Value) :: (U 159 : Value) :: (U 160 : Value) :: (U 161 : Value) :: (U 162 : Value) :: (U 163 : Value) :: (U 164 : Value) :: (U 165 : Value) :: (U 166 : Value) :: (U 167 : Value) :: (U 168 : Value) :: (U 169 : Value) :: (U 170 : Value) :: (U 171 : Value) :: (U 172 : Value) :: (U 173 : Value) :: (U 174 : Value) :: (U 175 : Value) :: (U 176 : Value) :: (U 177 : Value) :: (U 178 : Value) :: (U 179 : Value) :: (U 180 : Value) :: (U 181 : Value) :: (U 182 : Value) :: (U 183 : Value) :: (U 184 : Value) :: (U 185 : Value) :: (U 186 : Value) :: (U 187 : Value) :: (U 188 : Value) :: (U 189 : Value) :: (U 190 : Value) :: (U 191 : Value) :: (U 192 : Value) :: (U 193 : Value) :: (U 194 : Value) :: (U 195 : Value) :: (U 196 : Value) :: (U 197 : Value) :: []) := by
 refine ⟨fun k => T.getD k undef, ?_⟩
 rw [← h0, ← h2, ← h3, ← h4, ← h5, ← h6, ← h7, ← h10, ← h11, ← h12]
 exact arr_of8 T 198 hs
set_option maxRecDepth 100000 in
theorem frame198n {T : Array Value} {v13 v14 v15 : Value} (hs : T.size = 198) (h13 : T.getD 13 undef = v13) (h14 : T.getD 14 undef = v14) (h15 : T.getD 15 undef = v15) : ∃ U : Nat → Value, T = List.toArray ((U 0 : Value) :: (U 1 : Value) :: (U 2 : Value) :: (U 3 : Value) :: (U 4 : Value) :: (U 5 : Value) :: (U 6 : Value) :: (U 7 : Value) :: (U 8 : Value) :: (U 9 : Value) :: (U 10 : Value) :: (U 11 : Value) :: (U 12 : Value) :: (v13 : Value) :: (v14 : Value) :: (v15 : Value) :: (U 16 : Value) :: (U 17 : Value) :: (U 18 : Value) :: (U 19 : Value) :: (U 20 : Value) :: (U 21 : Value) :: (U 22 : Value) :: (U 23 : Value) :: (U 24 : Value) :: (U 25 : Value) :: (U 26 : Value) :: (U 27 : Value) :: (U 28 : Value) :: (U 29 : Value) :: (U 30 : Value) :: (U 31 : Value) :: (U 32 : Value) :: (U 33 : Value) :: (U 34 : Value) :: (U 35 : Value) :: (U 36 : Value) :: (U 37 : Value) :: (U 38 : Value) :: (U 39 : Value) :: (U 40 : Value) :: (U 41 : Value) :: (U 42 : Value) :: (U 43 : Value) :: (U 44 : Value) :: (U 45 : Value) :: (U 46 : Value) :: (U 47 : Value) :: (U 48 : Value) :: (U 49 : Value) :: (U 50 : Value) :: (U 51 : Value) :: (U 52 : Value) :: (U 53 : Value) :: (U 54 : Value) :: (U 55 : Value) :: (U 56 : Value) :: (U 57 : Value) :: (U 58 : Value) :: (U 59 : Value) :: (U 60 : Value) :: (U 61 : Value) :: (U 62 : Value) :: (U 63 : Value) :: (U 64 : Value) :: (U 65 : Value) :: (U 66 : Value) :: (U 67 : Value) :: (U 68 : Value) :: (U 69 : Value) :: (U 70 : Value) :: (U 71 : Value) :: (U 72 : Value) :: (U 73 : Value) :: (U 74 : Value) :: (U 75 : Value) :: (U 76 : Value) :: (U 77 : Value) :: (U 78 : Value) :: (U 79 : Value) :: (U 80 : Value) :: (U 81 : Value) :: (U 82 : Value) :: (U 83 : Value) :: (U 84 : Value) :: (U 85 : Value) :: (U 86 : Value) :: (U 87 : Value) :: (U 88 : Value) :: (U 89 : Value) :: (U 90 : Value) :: (U 91 : Value) :: (U 92 : Value) :: (U 93 : Value) :: (U 94 : Value) :: (U 95 : Value) :: (U 96 : Value) :: (U 97 : Value) :: (U 98 : Value) :: (U 99 : Value) :: (U 100 : Value) :: (U 101 : Value) :: (U 102 : Value) :: (U 103 : Value) :: (U 104 : Value) :: (U 105 : Value) :: (U 106 : Value) :: (U 107 : Value) :: (U 108 : Value) :: (U 109 : Value) :: (U 110 : Value) :: (U 111 : Value) :: (U 112 : Value) :: (U 113 : Value) :: (U 114 : Value) :: (U 115 : Value) :: (U 116 : Value) :: (U 117 : Value) :: (U 118 : Value) :: (U 119 : Value) :: (U 120 : Value) :: (U 121 : Value) :: (U 122 : Value) :: (U 123 : Value) :: (U 124 : Value) :: (U 125 : Value) :: (U 126 : Value) :: (U 127 : Value) :: (U 128 : Value) :: (U 129 : Value) :: (U 130 : Value) :: (U 131 : Value) :: (U 132 : Value) :: (U 133 : Value) :: (U 134 : Value) :: (U 135 : Value) :: (U 136 : Value) :: (U 137 : Value) :: (U 138 : Value) :: (U 139 : Value) :: (U 140 : Value) :: (U 141 : Value) :: (U 142 : Value) :: (U 143 : Value) :: (U 144 : Value) :: (U 145 : Value) :: (U 146 : Value) :: (U 147 : Value) :: (U 148 : Value) :: (U 149 : Value) :: (U 150 : Value) :: (U 151 : Value) :: (U 152 : Value) :: (U 153 : Value) :: (U 154 : Value) :: (U 155 : Value) :: (U 156 : Value) :: (U 157 : Value) :: (U 158 : Value) :: (U 159 : Value) :: (U 160 : Value) :: (U 161 : Value) :: (U 162 : Value) :: (U 163 : Value) :: (U 164 : Value) :: (U 165 : Value) :: (U 166 : Value) :: (U 167 : Value) :: (U 168 : Value) :: (U 169 : Value) :: (U 170 : Value) :: (U 171 : Value) :: (U 172 : Value) :: (U 173 : Value) :: (U 174 : Value) :: (U 175 : Value) :: (U 176 : Value) :: (U 177 : Value) :: (U 178 : Value) :: (U 179 : Value) :: (U 180 : Value) :: (U 181 : Value) :: (U 182 : Value) :: (U 183 : Value) :: (U 184 : Value) :: (U 185 : Value) :: (U 186 : Value) :: (U 187 : Value) :: (U 188 : Value) :: (U 189 : Value) :: (U 190 : Value) :: (U 191 : Value) :: (U 192 : Value) :: (U 193 : Value) :: (U 194 : Value) :: (U 195 : Value) :: (U 196 : Value) :: (U 197 : Value) :: []) := by
 refine ⟨fun k => T.getD k undef, ?_⟩
 rw [← h13, ← h14, ← h15]
 exact arr_of8 T 198 hs
def Fr12 (T : Array Value) (sa : Option Addr) (N sc rB aB bB gB i pB Bt Bf dB k : Nat) : Prop := Fr7 T sa N sc rB aB bB gB i ∧ T.getD 7 undef = .pointer (some ⟨pB, 0, none⟩) ∧ T.getD 10 undef = .func (.func 25) #[] #[.pointer (some ⟨Bt, 0, none⟩), .pointer (some ⟨Bf, 0, none⟩)] ∧ T.getD 11 undef = .pointer (some ⟨dB, 0, none⟩) ∧ T.getD 12 undef = .int .i64 (k : Int)
theorem MpI.fbC {w W W' : World} {SE C : Nat → Prop} {sa : Option Addr} {sc : Nat} {ts : List StepD} {aB bB gB n m : Nat} {Ds : List Nat} (h : MpI w SE sa sc ts aB bB gB n Ds W) (hSE : ∀ k, SE k → k < w.heap.size) (f : Fb W W' C) (hC : ∀ k, C k → w.heap.size + 1 ≤ k) (hc : ∀ k, C k → k < W.heap.size → CellsAt W k) (tw : Tw W' aB bB gB m (w.heap.size + 1)) : MpI w SE sa sc ts aB bB gB m Ds W' :=
 ⟨tw, h.rd.keptC (KpC.of_fb f (fun k hk e => by have := hSE k hk; have := hC k e; omega)), h.rb.keep (f.block _ h.rb.lt (fun e => by have := hC _ e; omega)), h.mq.fb f hc, h.bel.trans (f.belowB (fun k e => by have := hC k e; omega) h.bel.size), Nat.le_trans h.size f.size⟩
theorem MpI.cons {w W : World} {SE : Nat → Prop} {sa : Option Addr} {sc : Nat} {ts : List StepD} {aB bB gB n D : Nat} {Ds : List Nat} (h : MpI w SE sa sc ts aB bB gB n Ds W) (hB : w.heap.size + 1 ≤ D) (hd : W.heap[D]? = some (.deferred (some []))) (hn : D ∉ Ds) : MpI w SE sa sc ts aB bB gB n (D :: Ds) W := ⟨h.tw, h.rd, h.rb, h.mq.cons hB hd hn, h.bel, h.size⟩
theorem Fb.turn8 {B : Nat} {w Y Z : World} {C : Nat → Prop} (f : Fb w Y C) (tu : Turn B Y Z) (hB : w.heap.size ≤ B) : Fb w Z C := ⟨tu.below.os.trans f.os, tu.below.tape.trans f.tape, tu.below.output.trans f.output, Nat.le_trans f.size tu.below.size, fun i hi ho => (tu.below.block i (by omega)).trans (f.block i hi ho)⟩
def MJ (w : World) (SE : Nat → Prop) (sa : Option Addr) (sc : Nat) (ts : List StepD) (aB bB pB qB gB i : Nat) (Ds : List Nat) (A6 B6 dB Bt Bf tP : Nat) (D2 x0 : EntD) (A : Act) (W : World) : Prop := ∃ k : Nat, (i + 1 ≤ k ∧ k ≤ ts.length ∧ k ≤ i + 4) ∧ MpI w SE sa sc ts pB qB gB k Ds W ∧ TwK W pB qB gB k (w.heap.size + 1) (fun q => A6 ≤ q ∧ q < B6) tP ∧ KeepB A6 B6 dB Bt Bf tP D2 x0 W ∧ Fr12 A.tmps sa ts.length sc w.heap.size aB bB gB i pB Bt Bf dB k ∧ A.defers = Ds.map mkD8
set_option maxRecDepth 100000 in
set_option maxHeartbeats 16000000 in
theorem memPlays_walk {w : World} {SE : Nat → Prop} {a : Option Addr} {c : Nat} {ss : List StepD} (hr : RdS SE w a c ss) (hSE : ∀ k, SE k → k < w.heap.size) : Calls Tryz.prog 3 #[.slice a ss.length c] w fun z w' => z = .returned (.bool true) ∧ Below w.heap.size w w' := by
 obtain ⟨X0, hX0, b0, s0, xr⟩ := bxd_new w 4 (.bool false)
 have HX0 := Lib.hid hX0
 have HTo := Lib.hid (told8_any X0)
 have HR := Lib.hid (And.intro hr hSE)
 have HB0 := Lib.hid (And.intro b0 (And.intro s0 xr))
 obtain ⟨m0, hm0⟩ : ∃ m0, m0 = ss.length := ⟨_, rfl⟩
 rw [← hm0]
 have HM0 := Lib.hid hm0
 have hmc : m0 ≤ c := by rw [hm0]; exact hr.cap.1
 clear hX0 b0 s0 xr hr hSE hm0
 refine (callsIn_wide (n := 9)).1 ?_
 refine callsIn_of_wp_marks Tryz.func3 rfl trivial ?_ rfl
 simp only [Tryz.ntmps3, List.size_toArray, List.length_cons, List.length_nil, Nat.reduceAdd, Nat.reduceSub, Array.replicate_succ, Array.replicate_zero, List.push_toArray, List.append_toArray, List.nil_append, List.cons_append]
 refine wpIn_wide.2 ?_
 refine wp_seq_k (fun Ka hKa => ?_)
 have HKa := Lib.hid hKa
 clear hKa
 go_wp2
 refine HKa.out _ _ ?_
 clear HKa
 rw [← HX0.out]
 clear HX0
 refine wp_seq_k (fun Kb hKb => ?_)
 have HKb := Lib.hid hKb
 clear hKb
 go_wp2_with fail
 refine HTo.out.mono ?_
 rintro z X1 ⟨rfl, b1⟩
 have HB1 := Lib.hid b1
 clear b1 HTo
 go_wp2
 refine HKb.out _ _ ?_
 clear HKb
 refine wp_seq_k (fun Kc hKc => ?_)
 have HKc := Lib.hid hKc
 clear hKc
 have hrest : ∀ (ts : List StepD) (cc : Nat) (v18 v19 v20 v21 v22 : Value), RdS SE w a cc ts → ts.length ≤ 200 → Kc { tmps := List.toArray ((.slice a ts.length cc : Value) :: (undef : Value) :: (.pointer (some ⟨w.heap.size, 0, none⟩) : Value) :: (undef : Value) :: (undef : Value) :: (undef : Value) :: (undef : Value) :: (undef : Value) :: (undef : Value) :: (undef : Value) :: (undef : Value) :: (undef : Value) :: (undef : Value) :: (undef : Value) :: (undef : Value) :: (undef : Value) :: (.bool true : Value) :: (.bool false : Value) :: (v18 : Value) :: (v19 : Value) :: (v20 : Value) :: (v21 : Value) :: (v22 : Value) :: (undef : Value) :: (undef : Value) :: (undef : Value) :: (undef : Value) :: (undef : Value) :: (undef : Value) :: (undef : Value) :: (undef : Value) :: (undef : Value) :: (undef : Value) :: (undef : Value) :: (undef : Value) :: (undef : Value) :: (undef : Value) :: (undef : Value) :: (undef : Value) :: (undef : Value) :: (undef : Value) :: (undef : Value) :: (undef : Value) :: (undef : Value) :: (undef : Value) :: (undef : Value) :: (undef : Value) :: (undef : Value) :: (undef : Value) :: (undef : Value) :: (undef : Value) :: (undef : Value) :: (undef : Value) :: (undef : Value) :: (undef : Value) :: (undef : Value) :: (undef : Value) :: (undef : Value) :: (undef : Value) :: (undef : Value) :: (undef : Value) :: (undef : Value) :: (undef : Value) :: (undef : Value) :: (undef : Value) :: (undef : Value) :: (undef : Value) :: (undef : Value) :: (undef : Value) :: (undef : Value) :: (undef : Value) :: (undef : Value) :: (undef : Value) :: (undef : Value) :: (undef : Value) :: (undef : Value) :: (undef : Value) :: (undef : Value) :: (undef : Value) :: (undef : Value) :: (undef : Value) :: (undef : Value) :: (undef : Value) :: (undef : Value) :: (undef : Value) :: (undef : Value) :: (undef : Value) :: (undef : Value) :: (undef : Value) :: (undef : Value) :: (undef : Value) :: (undef : Value) :: (undef : Value) :: (undef : Value) :: (undef : Value) :: (undef : Value) :: (undef : Value) :: (undef : Value) :: (undef : Value) :: (undef : Value) :: (undef : Value) :: (undef : Value) :: (undef : Value) :: (undef : Value) :: (undef : Value) :: (undef : Value) :: (undef : Value) :: (undef : Value) :: (undef : Value) :: (undef : Value) :: (undef : Value) :: (undef : Value) :: (undef : Value) :: (undef : Value) :: (undef : Value) :: (undef : Value) :: (undef : Value) :: (undef : Value) :: (undef : Value) :: (undef : Value) :: (undef : Value) :: (undef : Value) :: (undef : Value) :: (undef : Value) :: (undef : Value) :: (undef : Value) :: (undef : Value) :: (undef : Value) :: (undef : Value) :: (undef : Value) :: (undef : Value) :: (undef : Value) :: (undef : Value) :: (undef : Value) :: (undef : Value) :: (undef : Value) :: (undef : Value) :: (undef : Value) :: (undef : Value) :: (undef : Value) :: (undef : Value) :: (undef : Value) :: (undef : Value) :: (undef : Value) :: (undef : Value) :: (undef : Value) :: (undef : Value) :: (undef : Value) :: (undef : Value) :: (undef : Value) :: (undef : Value) :: (undef : Value) :: (undef : Value) :: (undef : Value) :: (undef : Value) :: (undef : Value) :: (undef : Value) :: (undef : Value) :: (undef : Value) :: (undef : Value) :: (undef : Value) :: (undef : Value) :: (undef : Value) :: (undef : Value) :: (undef : Value) :: (undef : Value) :: (undef : Value) :: (undef : Value) :: (undef : Value) :: (undef : Value) :: (undef : Value) :: (undef : Value) :: (undef : Value) :: (undef : Value) :: (undef : Value) :: (undef : Value) :: (undef : Value) :: (undef : Value) :: (undef : Value) :: (undef : Value) :: (undef : Value) :: (undef : Value) :: (undef : Value) :: (undef : Value) :: (undef : Value) :: (undef : Value) :: (undef : Value) :: (undef : Value) :: (undef : Value) :: (undef : Value) :: (undef : Value) :: (undef : Value) :: (undef : Value) :: (undef : Value) :: (undef : Value) :: (undef : Value) :: (undef : Value) :: (undef : Value) :: []), defers := [] } X1 := by
  intro ts cc v18 v19 v20 v21 v22 hts h200
  obtain ⟨N, hN⟩ : ∃ N, N = ts.length := ⟨_, rfl⟩
  rw [← hN]
  have HTs := Lib.hid (And.intro hts (And.intro h200 hN))
  have hN200 : N ≤ 200 := by omega
  clear hts h200 hN
  refine HKc.out _ _ ?_
  go_wp2_with fail
  refine Calls.mono (new_any X1) ?_
  rintro z X2 ⟨rfl, tA, sA, bA⟩
  have bX3 := (Below.refl X2.heap.size X2).alloc (Nat.le_refl _) (.cells #[.pointer (some ⟨X1.heap.size, 0, none⟩), .slice none 0 0, .bool false] 31)
  have xX3 : (X2.alloc (.cells #[.pointer (some ⟨X1.heap.size, 0, none⟩), .slice none 0 0, .bool false] 31)).heap[X2.heap.size]? = some (.cells #[.pointer (some ⟨X1.heap.size, 0, none⟩), .slice none 0 0, .bool false] 31 (0, 0)) := World.alloc_heap_new X2 _
  obtain ⟨X3, hX3⟩ : ∃ X3, X3 = X2.alloc (.cells #[.pointer (some ⟨X1.heap.size, 0, none⟩), .slice none 0 0, .bool false] 31) := ⟨_, rfl⟩
  have sX3 : X3.heap.size = X2.heap.size + 1 := by rw [hX3]; simp
  rw [← hX3] at bX3 xX3
  have HX3 := Lib.hid hX3
  have HA3 := Lib.hid (And.intro tA (And.intro sA (And.intro bA (And.intro bX3 (And.intro xX3 sX3)))))
  clear tA sA bA bX3 xX3 sX3 hX3
  go_wp2_with fail
  rw [← HX3.out]
  refine Calls.mono (new_any X3) ?_
  rintro z X4 ⟨rfl, tB, sB, bB⟩
  have bX5 := (Below.refl X4.heap.size X4).alloc (Nat.le_refl _) (.cells #[.pointer (some ⟨X3.heap.size, 0, none⟩), .slice none 0 0, .bool false] 31)
  have xX5 : (X4.alloc (.cells #[.pointer (some ⟨X3.heap.size, 0, none⟩), .slice none 0 0, .bool false] 31)).heap[X4.heap.size]? = some (.cells #[.pointer (some ⟨X3.heap.size, 0, none⟩), .slice none 0 0, .bool false] 31 (0, 0)) := World.alloc_heap_new X4 _
  obtain ⟨X5, hX5⟩ : ∃ X5, X5 = X4.alloc (.cells #[.pointer (some ⟨X3.heap.size, 0, none⟩), .slice none 0 0, .bool false] 31) := ⟨_, rfl⟩
  have sX5 : X5.heap.size = X4.heap.size + 1 := by rw [hX5]; simp
  rw [← hX5] at bX5 xX5
  have b35 := bB.trans (bX5.mono bB.size)
  have xa5 : X5.heap[X2.heap.size]? = _ := (b35.block X2.heap.size (Array.getElem?_eq_some_iff.1 HA3.out.2.2.2.2.1).1).trans HA3.out.2.2.2.2.1
  have ca : X5.cell? ⟨X2.heap.size, 0, none⟩ = some (.pointer (some ⟨X1.heap.size, 0, none⟩)) := by simp [World.cell?, xa5]
  have cb : X5.cell? ⟨X4.heap.size, 0, none⟩ = some (.pointer (some ⟨X3.heap.size, 0, none⟩)) := by simp [World.cell?, xX5]
  have bX6 := (Below.refl X5.heap.size X5).alloc (Nat.le_refl _) (.cells #[.slice none 0 0, .slice none 0 0, .int .i64 0] 36)
  have xX6 : (X5.alloc (.cells #[.slice none 0 0, .slice none 0 0, .int .i64 0] 36)).heap[X5.heap.size]? = some (.cells #[.slice none 0 0, .slice none 0 0, .int .i64 0] 36 (0, 0)) := World.alloc_heap_new X5 _
  obtain ⟨X6, hX6⟩ : ∃ X6, X6 = X5.alloc (.cells #[.slice none 0 0, .slice none 0 0, .int .i64 0] 36) := ⟨_, rfl⟩
  have sX6 : X6.heap.size = X5.heap.size + 1 := by rw [hX6]; simp
  rw [← hX6] at bX6 xX6
  have hM0 : MpI w SE a cc ts X2.heap.size X4.heap.size X5.heap.size 0 [] X6 := by
   obtain ⟨k1, k2, k3, k4, k5, k6⟩ := HA3.out
   have bt := HB0.out.1.trans (HB1.out.mono HB0.out.1.size)
   have hs1 := HB1.out.size
   have hs0 := HB0.out.2.1
   have h46 : Below X4.heap.size X4 X6 := bX5.trans (bX6.mono bX5.size)
   have h36 : Below X3.heap.size X3 X6 := bB.trans (h46.mono bB.size)
   have h26 : Below X2.heap.size X2 X6 := k4.trans (h36.mono k4.size)
   have h16 : Below X1.heap.size X1 X6 := k3.trans (h26.mono k3.size)
   have hw6 : Below w.heap.size w X6 := bt.trans (h16.mono bt.size)
   have tA6 := k1.later h26
   have tB6 := tB.later h46
   have s4 := bB.size
   have tb : ∀ {t : Nat}, TBox X6 t none 0 0 false → Tb (fun _ => False) X6 t [] ((pk [] : Nat) : Int) false := fun h => ⟨id, List.Pairwise.nil, by simp, by simp [pk], none, .leaf, h, rfl, rfl⟩
   refine ⟨⟨X1.heap.size, X3.heap.size, fun _ => False, fun _ => False, fun k => k = X5.heap.size, [], [], .slice none 0 0, false, [], [], .slice none 0 0, false, ⟨⟨(h36.block _ (by omega)).trans k5, tb tA6, RdX.nil _ _, trivial, fun k h => h.elim, id, by omega⟩, ⟨(bX6.block _ (by omega)).trans xX5, tb tB6, RdX.nil _ _, trivial, fun k h => h.elim, id, by omega⟩, fu_new xX6, fun k hk => by subst hk; exact ⟨_, xX6, rfl⟩, ?_, ?_, ?_⟩, Nat.le_refl _, Nat.le_refl _, ?_⟩, HTs.out.1.keptC (KpC.of_below hw6), HB0.out.2.2.later8 (HB1.out.trans (h16.mono HB1.out.size)), MkQ.nil _ _, hw6, by omega⟩
   ·rintro k (e | e | e) hk
    ·omega
    ·omega
    ·exact e
   ·rintro k (e | e | e) hk
    ·omega
    ·omega
    ·exact e
   ·rintro k (e | e | e) (e' | e' | e')
    all_goals first | omega | exact e | exact e'
   ·rintro k ((e | e | e) | (e | e | e) | e)
    all_goals first | omega | exact e.elim
  have HM := Lib.hid hM0
  have HX56 := Lib.hid (And.intro hX5 hX6)
  clear tB sB bB bX5 xX5 sX5 xa5 bX6 xX6 hM0 b35 sX6 hX5 hX6
  go_upto_region 6 with fail
  rw [← HX56.out.1]
  go_upto_region 9 with fail
  rw [← HX56.out.2]
  generalize X2.heap.size = aB at HM ⊢
  generalize X4.heap.size = bB at HM ⊢
  generalize X5.heap.size = gB at HM ⊢
  clear HX56 HX3 HA3 ca cb
  go_wp2_with fail
  refine wp_loop (MI w SE a cc ts aB bB gB) (fun A _ => N - (intOf (A.tmps.getD 6 undef)).toNat) ⟨0, [], Nat.zero_le _, HM.out, by rw [← HTs.out.2.2]; exact ⟨rfl, rfl, rfl, rfl, rfl, rfl, rfl⟩, rfl⟩ ?_
  clear HM
  rintro ⟨T, ds⟩ X ⟨i, Ds, hi, hM, ⟨z198, z0, z2, z3, z4, z5, z6⟩, hds⟩
  simp only at z198 z0 z2 z3 z4 z5 z6 hds
  rw [← HTs.out.2.2] at z0 hi
  obtain ⟨U, hU⟩ := frame198 z198 z0 z2 z3 z4 z5 z6
  subst hU hds
  clear z198 z0 z2 z3 z4 z5 z6
  have HM := Lib.hid hM
  clear hM
  by_cases hiN : i < N
  case neg =>
   as_aux_lemma =>
    have h1 : ¬ (i : Int) < (N : Int) := by omega
    obtain ⟨tA, XA, FO, LA, RA, lA, fA, gA, hlA, hloA, backA⟩ := HM.out.tw.fst
    have HAa := Lib.hid (pall_any (C := fun _ => False) (J := fun _ => True) gA (nothing_doer aB tA gB i fA) trivial (fun _ h => h.elim) hlA (by omega))
    have HBk := Lib.hid (And.intro backA (And.intro gA hloA))
    clear gA hlA hloA backA
    go_wp2_with fail
    refine HAa.out.mono ?_
    rintro z Y hp
    obtain rfl : z = .returned (.bool true) := hp.1
    obtain ⟨-, X', FO', L', R', lv', gm, go, hl⟩ := hp
    have HM2 := Lib.hid (HM.out.step HR.out.2 HBk.out.2.1 HBk.out.2.2 go (HBk.out.1 Y X' FO' L' R' lv' fA i (Nat.le_refl _) gm go hl)).swap
    clear gm go hl HAa HBk
    obtain ⟨tB, XB, FOb, LB, RB, lB, fB, gB', hlB, hloB, backB⟩ := HM2.out.tw.fst
    have HAb := Lib.hid (pall_any (C := fun _ => False) (J := fun _ => True) gB' (nothing_doer bB tB gB i fB) trivial (fun _ h => h.elim) hlB (by omega))
    have HBk := Lib.hid (And.intro backB (And.intro gB' hloB))
    clear gB' hlB hloB backB
    go_wp2_with fail
    refine HAb.out.mono ?_
    rintro z Y2 hp
    obtain rfl : z = .returned (.bool true) := hp.1
    obtain ⟨-, X', FO', L', R', lv', gm, go, hl⟩ := hp
    have HM3 := Lib.hid (HM2.out.step HR.out.2 HBk.out.2.1 HBk.out.2.2 go (HBk.out.1 Y2 X' FO' L' R' lv' fB i (Nat.le_refl _) gm go hl))
    have HWh := Lib.hid (whole_any gm.fu)
    clear gm go hl HAb HBk
    go_wp2_with fail
    refine HWh.out.mono ?_
    rintro z Y3 ⟨rfl, bY3⟩
    have HM4 := Lib.hid (HM3.out.later bY3)
    have rc := HM4.out.rb.cell
    have rf := HM4.out.rb.fz
    clear bY3 HWh
    go_wp2
    have hsz := HM4.out.size
    have fs : Fb Y3 (Y3.setCell ⟨w.heap.size, 0, none⟩ (.bool true)) (fun k => k = w.heap.size) := Fb.set1 (O := fun k => k = w.heap.size) rfl _
    refine leaves_marks8 (B := w.heap.size + 1) Ds _ (by rw [World.size_setCell]; exact hsz) (HM4.out.mq.fb fs (fun k hk _ => by subst hk; exact HM4.out.rb.cellsAt)) (fun w' hs => ?_)
    have hcw : w'.cell? ⟨w.heap.size, 0, none⟩ = some (.bool true) := Bxd.cell (t := 4) (hs.cells _ _ (HM4.out.rb.set (.bool true)) rfl)
    exact ⟨.bool true, by simp [results, Tryz.results3, go_sem, hcw], rfl, (HM4.out.bel.setCell (p := ⟨w.heap.size, 0, none⟩) (Nat.le_refl _) _).trans (hs.below.mono (by omega))⟩
  case pos =>
   have h1 : (i : Int) < (N : Int) := by omega
   have hi0 : (0 : Int) ≤ (i : Int) := by omega
   obtain ⟨s, hs⟩ : ∃ s, ts[i]? = some s := ⟨_, List.getElem?_eq_getElem (by rw [← HTs.out.2.2]; exact hiN)⟩
   obtain ⟨sb, so, ea, hsb, hcs⟩ := HM.out.rd.cel i s hs
   subst ea
   have ck : X.cell? ⟨sb, so + i * 17, none⟩ = some (.int .i64 s.k) := hcs 0 _ rfl
   have co : X.cell? ⟨sb, so + i * 17 + 1, none⟩ = some (.bool s.o) := hcs 1 _ rfl
   have HS := Lib.hid (And.intro hs (And.intro hsb hcs))
   clear hs hsb hcs
   go_upto_region 13 with fail
   rename_i Kb hKb Ka hKa
   have HKb := Lib.hid hKb
   clear hKb
   have hrest : ∀ (pB qB : Nat) (v54 v55 : Value), ((pB = aB ∧ qB = bB) ∨ (pB = bB ∧ qB = aB)) → Kb { tmps := List.toArray ((.slice (some ⟨sb, so, none⟩) N cc : Value) :: (U 1 : Value) :: (.pointer (some ⟨w.heap.size, 0, none⟩) : Value) :: (.pointer (some ⟨aB, 0, none⟩) : Value) :: (.pointer (some ⟨bB, 0, none⟩) : Value) :: (.pointer (some ⟨gB, 0, none⟩) : Value) :: (.int .i64 (i : Int) : Value) :: (.pointer (some ⟨pB, 0, none⟩) : Value) :: (U 8 : Value) :: (U 9 : Value) :: (U 10 : Value) :: (U 11 : Value) :: (U 12 : Value) :: (U 13 : Value) :: (U 14 : Value) :: (U 15 : Value) :: (U 16 : Value) :: (U 17 : Value) :: (U 18 : Value) :: (U 19 : Value) :: (U 20 : Value) :: (U 21 : Value) :: (U 22 : Value) :: (U 23 : Value) :: (U 24 : Value) :: (U 25 : Value) :: (U 26 : Value) :: (U 27 : Value) :: (U 28 : Value) :: (U 29 : Value) :: (U 30 : Value) :: (U 31 : Value) :: (U 32 : Value) :: (U 33 : Value) :: (U 34 : Value) :: (U 35 : Value) :: (U 36 : Value) :: (U 37 : Value) :: (U 38 : Value) :: (U 39 : Value) :: (U 40 : Value) :: (U 41 : Value) :: (U 42 : Value) :: (.int .i64 (i : Int) : Value) :: (.slice (some ⟨sb, so, none⟩) N cc : Value) :: (.int .i64 (N : Int) : Value) :: (.bool true : Value) :: (U 47 : Value) :: (U 48 : Value) :: (.pointer (some ⟨aB, 0, none⟩) : Value) :: (.slice (some ⟨sb, so, none⟩) N cc : Value) :: (.int .i64 (i : Int) : Value) :: (.pointer (some ⟨sb, so + i * 17, none⟩) : Value) :: (.pointer (some ⟨sb, so + i * 17 + 1, none⟩) : Value) :: (v54 : Value) :: (v55 : Value) :: (U 56 : Value) :: (U 57 : Value) :: (U 58 : Value) :: (U 59 : Value) :: (U 60 : Value) :: (U 61 : Value) :: (U 62 : Value) :: (U 63 : Value) :: (U 64 : Value) :: (U 65 : Value) :: (U 66 : Value) :: (U 67 : Value) :: (U 68 : Value) :: (U 69 : Value) :: (U 70 : Value) :: (U 71 : Value) :: (U 72 : Value) :: (U 73 : Value) :: (U 74 : Value) :: (U 75 : Value) :: (U 76 : Value) :: (U 77 : Value) :: (U 78 : Value) :: (U 79 : Value) :: (U 80 : Value) :: (U 81 : Value) :: (U 82 : Value) :: (U 83 : Value) :: (U 84 : Value) :: (U 85 : Value) :: (U 86 : Value) :: (U 87 : Value) :: (U 88 : Value) :: (U 89 : Value) :: (U 90 : Value) :: (U 91 : Value) :: (U 92 : Value) :: (U 93 : Value) :: (U 94 : Value) :: (U 95 : Value) :: (U 96 : Value) :: (U 97 : Value) :: (U 98 : Value) :: (U 99 : Value) :: (U 100 : Value) :: (U 101 : Value) :: (U 102 : Value) :: (U 103 : Value) :: (U 104 : Value) :: (U 105 : Value) :: (U 106 : Value) :: (U 107 : Value) :: (U 108 : Value) :: (U 109 : Value) :: (U 110 : Value) :: (U 111 : Value) :: (U 112 : Value) :: (U 113 : Value) :: (U 114 : Value) :: (U 115 : Value) :: (U 116 : Value) :: (U 117 : Value) :: (U 118 : Value) :: (U 119 : Value) :: (U 120 : Value) :: (U 121 : Value) :: (U 122 : Value) :: (U 123 : Value) :: (U 124 : Value) :: (U 125 : Value) :: (U 126 : Value) :: (U 127 : Value) :: (U 128 : Value) :: (U 129 : Value) :: (U 130 : Value) :: (U 131 : Value) :: (U 132 : Value) :: (U 133 : Value) :: (U 134 : Value) :: (U 135 : Value) :: (U 136 : Value) :: (U 137 : Value) :: (U 138 : Value) :: (U 139 : Value) :: (U 140 : Value) :: (U 141 : Value) :: (U 142 : Value) :: (U 143 : Value) :: (U 144 : Value) :: (U 145 : Value) :: (U 146 : Value) :: (U 147 : Value) :: (U 148 : Value) :: (U 149 : Value) :: (U 150 : Value) :: (U 151 : Value) :: (U 152 : Value) :: (U 153 : Value) :: (U 154 : Value) :: (U 155 : Value) :: (U 156 : Value) :: (U 157 : Value) :: (U 158 : Value) :: (U 159 : Value) :: (U 160 : Value) :: (U 161 : Value) :: (U 162 : Value) :: (U 163 : Value) :: (U 164 : Value) :: (U 165 : Value) :: (U 166 : Value) :: (U 167 : Value) :: (U 168 : Value) :: (U 169 : Value) :: (U 170 : Value) :: (U 171 : Value) :: (U 172 : Value) :: (U 173 : Value) :: (U 174 : Value) :: (U 175 : Value) :: (U 176 : Value) :: (U 177 : Value) :: (U 178 : Value) :: (U 179 : Value) :: (U 180 : Value) :: (U 181 : Value) :: (U 182 : Value) :: (U 183 : Value) :: (U 184 : Value) :: (U 185 : Value) :: (U 186 : Value) :: (U 187 : Value) :: (U 188 : Value) :: (U 189 : Value) :: (U 190 : Value) :: (U 191 : Value) :: (U 192 : Value) :: (U 193 : Value) :: (U 194 : Value) :: (U 195 : Value) :: (U 196 : Value) :: (U 197 : Value) :: []), defers := Ds.map mkD8 } X := by
    intro pB qB v54 v55 hpq
    have hMp : MpI w SE (some ⟨sb, so, none⟩) cc ts pB qB gB i Ds X := by
     rcases hpq with ⟨rfl, rfl⟩ | ⟨rfl, rfl⟩
     ·exact HM.out
     ·exact HM.out.swap
    have HMp := Lib.hid hMp
    have hback : ∀ (n : Nat) (Ds' : List Nat) (Z : World), MpI w SE (some ⟨sb, so, none⟩) cc ts pB qB gB n Ds' Z → MpI w SE (some ⟨sb, so, none⟩) cc ts aB bB gB n Ds' Z := fun n Ds' Z h => by
     rcases hpq with ⟨rfl, rfl⟩ | ⟨rfl, rfl⟩
     ·exact h
     ·exact h.swap
    have HBack := Lib.hid hback
    clear hMp hback hpq HM
    refine HKb.out _ _ ?_
    clear HKb co Ka hKa
    refine wp_seq_k (fun K38 hK38 => ?_)
    have HK38 := Lib.hid hK38
    clear hK38
    have htail : ∀ (T : Array Value) (j : Nat) (Ds' : List Nat) (Z : World), Fr7 T (some ⟨sb, so, none⟩) N cc w.heap.size aB bB gB j → T.getD 7 undef = .pointer (some ⟨pB, 0, none⟩) → i ≤ j → j < N → MpI w SE (some ⟨sb, so, none⟩) cc ts pB qB gB (j + 1) Ds' Z → K38 { tmps := T, defers := Ds'.map mkD8 } Z := by
     as_aux_lemma =>
      intro T j Ds' Z ⟨z198, z0, z2, z3, z4, z5, z6⟩ z7 hij hjN hM
      obtain ⟨U, hU⟩ := frame198p z198 z0 z2 z3 z4 z5 z6 z7
      subst hU
      clear z198 z0 z2 z3 z4 z5 z6 z7 ck h1 hi0
      refine HK38.out _ _ ?_
      clear HK38
      obtain ⟨tP, XP, FO, L, R, lv, f, gP, hlP, hloP, backP⟩ := hM.tw.fst
      obtain ⟨am, cm, hlv⟩ := gP.pl.ref.rd.slice
      obtain ⟨mz, hmz⟩ : ∃ mz, mz = R.length := ⟨_, rfl⟩
      rw [← hmz] at hlv
      subst hlv
      obtain ⟨p, T2, t1, t2, t3⟩ := gP.pl.tab.tree
      have hRL := gP.pl.sm.len
      have hpk := pk_sm gP.pl.sm
      have hgd : ∀ x ∈ R, checkS x = 0 := fun x hx => by
       obtain ⟨n, hn⟩ := List.getElem?_of_mem hx
       obtain ⟨x1, y1, q1, q2, q3⟩ := gP.pl.sm.at (i := n) (List.getElem?_eq_some_iff.1 hn).1
       rw [hn] at q1
       cases q1
       exact lens_good gP.pl.tab.good q3 (List.mem_of_getElem? q2)
      have HM := Lib.hid hM
      have HG := Lib.hid gP
      have hL : Hid (∀ Y, Below Z.heap.size Z Y → Calls Tryz.prog 12 #[.pointer (some ⟨tP, 0, none⟩)] Y (fun e w' => e = .returned (.int .i64 (mz : Int)) ∧ Below Y.heap.size Y w')) := fun Y b => by
       refine (len_any (t1.later b)).mono ?_
       rintro e w' ⟨rfl, rfl⟩
       exact ⟨by rw [hmz, hRL], Below.refl _ _⟩
      have hBy : Hid (∀ Y, Below Z.heap.size Z Y → Calls Tryz.prog 13 #[.pointer (some ⟨tP, 0, none⟩)] Y (fun e w' => e = .returned (.int .i64 ((pk L : Nat) : Int)) ∧ Below Y.heap.size Y w')) := fun Y b => by
       refine (tbytes_any (t1.later b)).mono ?_
       rintro e w' ⟨rfl, rfl⟩
       exact ⟨rfl, Below.refl _ _⟩
      have hRb : Hid (∀ Y, Below Z.heap.size Z Y → Calls Tryz.prog 14 #[.agg #[.slice am mz cm, .bool f]] Y (fun e w' => e = .returned (.int .i64 ((pk L : Nat) : Int)) ∧ Below Y.heap.size Y w')) := fun Y b => by
       rw [← hpk]
       exact refBytes8_any (gP.later b).pl.ref.rd hgd
      have hFz : Hid (∀ Y, Below Z.heap.size Z Y → Calls Tryz.prog 15 #[.pointer (some ⟨tP, 0, none⟩)] Y (fun e w' => e = .returned (.bool f) ∧ Below Y.heap.size Y w')) := fun Y b => by
       refine (frozen_any (t1.later b)).mono ?_
       rintro e w' ⟨rfl, rfl⟩
       exact ⟨rfl, Below.refl _ _⟩
      have hpc := gP.pl.cells
      clear gP hlP hloP backP t1 t2 t3 hRL hpk hgd hM hmz
      go_upto_region 38 with fail
      refine mp38_region hpc hL hBy hRb hFz (Lib.hid ?_)
      intro Z2 bZ2
      have HM2 := Lib.hid (HBack.out _ _ _ (HM.out.later bZ2))
      clear hpc hL hBy hRb hFz bZ2
      go_wp2
      refine ⟨⟨j + 1, Ds', by rw [← HTs.out.2.2]; omega, HM2.out, by rw [← HTs.out.2.2]; exact ⟨rfl, rfl, rfl, rfl, rfl, rfl, rfl⟩, rfl⟩, ?_⟩
      simp [intOf]
      omega
    have hlss : ∀ (j : Nat) (t : StepD), ts[j]? = some t → ∀ (Y : World) (n : Nat) (Ds' : List Nat), n ≤ 250 → MpI w SE (some ⟨sb, so, none⟩) cc ts pB qB gB n Ds' Y → Calls Tryz.prog 9 #[.pointer (some ⟨pB, 0, none⟩), .agg t.cells, .pointer (some ⟨gB, 0, none⟩)] Y (fun z Z => z = .returned (.bool true) ∧ MpI w SE (some ⟨sb, so, none⟩) cc ts pB qB gB (n + 1) Ds' Z) := by
     as_aux_lemma =>
      intro j t ht Y n Ds' hn250 hM
      obtain ⟨tP, XP, FO, L, R, lv, f, gP, hlP, hloP, backP⟩ := hM.tw.fst
      have hok := hM.rd.ok t (List.mem_of_getElem? ht)
      refine (pstep_any (n := n + 1) gP hok.1 hok.2 (fun k hk => ?_) (by omega) (by omega)).mono ?_
      ·have h1 := HR.out.2 k hk
       have h2 := hM.bel.size
       exact ⟨by omega, fun e => by have := hloP k (.inl e); omega, fun e => by have := hloP k (.inr e); omega⟩
      ·rintro z Z ⟨rfl, f', X', FO', L', R', lv', gm, go, hl⟩
       exact ⟨rfl, hM.step HR.out.2 gP hloP go (backP Z X' FO' L' R' lv' f' (n + 1) (by omega) gm go hl)⟩
    have HLs := Lib.hid hlss
    have HTail := Lib.hid htail
    clear htail hlss HK38 HBack
    by_cases hk7 : s.k = 7
    case neg =>
     as_aux_lemma =>
      have hk7' : (s.k == 7) = false := by simp; exact hk7
      have HSt := Lib.hid (HLs.out i s HS.out.1 X i Ds (by omega) HMp.out)
      unfold StepD.cells at HSt
      have c1 := HS.out.2.2 1 _ rfl
      have c2 := HS.out.2.2 2 _ rfl
      have c3 := HS.out.2.2 3 _ rfl
      have c4 := HS.out.2.2 4 _ rfl
      have c5 := HS.out.2.2 5 _ rfl
      have c6 := HS.out.2.2 6 _ rfl
      have c7 := HS.out.2.2 7 _ rfl
      have c8 := HS.out.2.2 8 _ rfl
      have c9 := HS.out.2.2 9 _ rfl
      have c10 := HS.out.2.2 10 _ rfl
      have c11 := HS.out.2.2 11 _ rfl
      have c12 := HS.out.2.2 12 _ rfl
      have c13 := HS.out.2.2 13 _ rfl
      have c14 := HS.out.2.2 14 _ rfl
      have c15 := HS.out.2.2 15 _ rfl
      have c16 := HS.out.2.2 16 _ rfl
      clear hk7
      go_wp2_with fail
      refine HSt.out.mono ?_
      rintro z Z ⟨rfl, hM⟩
      have HMz := Lib.hid hM
      clear hM HSt
      go_wp2
      exact HTail.out _ i Ds Z ⟨rfl, rfl, rfl, rfl, rfl, rfl, rfl⟩ rfl (Nat.le_refl _) hiN HMz.out
    case pos =>
     rw [hk7] at ck
     obtain ⟨sk, s_o, se, sg, s_n⟩ := s
     simp only at hk7 ck
     subst hk7
     have hoke : EntD.Ok X se := (HMp.out.rd.ok _ (List.mem_of_getElem? HS.out.1)).1.ok
     have hokg : EntD.Ok X sg := (HMp.out.rd.ok _ (List.mem_of_getElem? HS.out.1)).2.ok
     obtain ⟨vr0, fam0, vq0, ts0, seq0, kind0, vv0, row0, qual0, val0⟩ := se
     obtain ⟨vr9, fam9, vq9, ts9, seq9, kind9, vv9, row9, qual9, val9⟩ := sg
     obtain ⟨ar0, nr0, kr0, er0⟩ := rd_slice hoke.1
     obtain ⟨aq0, nq0, kq0, eq0⟩ := rd_slice hoke.2.1
     obtain ⟨av0, nv0, kv0, ev0⟩ := rd_slice hoke.2.2
     obtain ⟨ar9, nr9, kr9, er9⟩ := rd_slice hokg.1
     obtain ⟨aq9, nq9, kq9, eq9⟩ := rd_slice hokg.2.1
     obtain ⟨av9, nv9, kv9, ev9⟩ := rd_slice hokg.2.2
     simp only at er0 eq0 ev0 er9 eq9 ev9
     subst er0 eq0 ev0 er9 eq9 ev9
     have c1 : X.cell? ⟨sb, so + i * 17 + 1, none⟩ = some (.bool s_o) := HS.out.2.2 1 _ rfl
     have c2 : X.cell? ⟨sb, so + i * 17 + 2, none⟩ = some (.slice ar0 nr0 kr0) := HS.out.2.2 2 _ rfl
     have c3 : X.cell? ⟨sb, so + i * 17 + 3, none⟩ = some (.int .i64 fam0) := HS.out.2.2 3 _ rfl
     have c4 : X.cell? ⟨sb, so + i * 17 + 4, none⟩ = some (.slice aq0 nq0 kq0) := HS.out.2.2 4 _ rfl
     have c5 : X.cell? ⟨sb, so + i * 17 + 5, none⟩ = some (.int .i64 ts0) := HS.out.2.2 5 _ rfl
     have c6 : X.cell? ⟨sb, so + i * 17 + 6, none⟩ = some (.int .i64 seq0) := HS.out.2.2 6 _ rfl
     have c7 : X.cell? ⟨sb, so + i * 17 + 7, none⟩ = some (.int .i64 kind0) := HS.out.2.2 7 _ rfl
     have c8 : X.cell? ⟨sb, so + i * 17 + 8, none⟩ = some (.slice av0 nv0 kv0) := HS.out.2.2 8 _ rfl
     have c9 : X.cell? ⟨sb, so + i * 17 + 9, none⟩ = some (.slice ar9 nr9 kr9) := HS.out.2.2 9 _ rfl
     have c10 : X.cell? ⟨sb, so + i * 17 + 10, none⟩ = some (.int .i64 fam9) := HS.out.2.2 10 _ rfl
     have c11 : X.cell? ⟨sb, so + i * 17 + 11, none⟩ = some (.slice aq9 nq9 kq9) := HS.out.2.2 11 _ rfl
     have c12 : X.cell? ⟨sb, so + i * 17 + 12, none⟩ = some (.int .i64 ts9) := HS.out.2.2 12 _ rfl
     have c13 : X.cell? ⟨sb, so + i * 17 + 13, none⟩ = some (.int .i64 seq9) := HS.out.2.2 13 _ rfl
     have c14 : X.cell? ⟨sb, so + i * 17 + 14, none⟩ = some (.int .i64 kind9) := HS.out.2.2 14 _ rfl
     have c15 : X.cell? ⟨sb, so + i * 17 + 15, none⟩ = some (.slice av9 nv9 kv9) := HS.out.2.2 15 _ rfl
     have c16 : X.cell? ⟨sb, so + i * 17 + 16, none⟩ = some (.int .i64 s_n) := HS.out.2.2 16 _ rfl
     have sb1 : SBox (X.alloc (.cells (StepD.mk 7 s_o ⟨.slice ar0 nr0 kr0, fam0, .slice aq0 nq0 kq0, ts0, seq0, kind0, .slice av0 nv0 kv0, row0, qual0, val0⟩ ⟨.slice ar9 nr9 kr9, fam9, .slice aq9 nq9 kq9, ts9, seq9, kind9, .slice av9 nv9 kv9, row9, qual9, val9⟩ s_n).cells 40)) X.heap.size (StepD.mk 7 s_o ⟨.slice ar0 nr0 kr0, fam0, .slice aq0 nq0 kq0, ts0, seq0, kind0, .slice av0 nv0 kv0, row0, qual0, val0⟩ ⟨.slice ar9 nr9 kr9, fam9, .slice aq9 nq9 kq9, ts9, seq9, kind9, .slice av9 nv9 kv9, row9, qual9, val9⟩ s_n) := World.alloc_heap_new X _
     have bX1 := (Below.refl X.heap.size X).alloc (Nat.le_refl _) (.cells (StepD.mk 7 s_o ⟨.slice ar0 nr0 kr0, fam0, .slice aq0 nq0 kq0, ts0, seq0, kind0, .slice av0 nv0 kv0, row0, qual0, val0⟩ ⟨.slice ar9 nr9 kr9, fam9, .slice aq9 nq9 kq9, ts9, seq9, kind9, .slice av9 nv9 kv9, row9, qual9, val9⟩ s_n).cells 40)
     have sX1 : (X.alloc (.cells (StepD.mk 7 s_o ⟨.slice ar0 nr0 kr0, fam0, .slice aq0 nq0 kq0, ts0, seq0, kind0, .slice av0 nv0 kv0, row0, qual0, val0⟩ ⟨.slice ar9 nr9 kr9, fam9, .slice aq9 nq9 kq9, ts9, seq9, kind9, .slice av9 nv9 kv9, row9, qual9, val9⟩ s_n).cells 40)).heap.size = X.heap.size + 1 := by simp
     obtain ⟨X1, hX1⟩ : ∃ Y, Y = X.alloc (.cells (StepD.mk 7 s_o ⟨.slice ar0 nr0 kr0, fam0, .slice aq0 nq0 kq0, ts0, seq0, kind0, .slice av0 nv0 kv0, row0, qual0, val0⟩ ⟨.slice ar9 nr9 kr9, fam9, .slice aq9 nq9 kq9, ts9, seq9, kind9, .slice av9 nv9 kv9, row9, qual9, val9⟩ s_n).cells 40) := ⟨_, rfl⟩
     rw [← hX1] at sb1 bX1 sX1
     unfold StepD.cells at hX1
     simp only at hX1
     have HX1 := Lib.hid hX1
     have hok1 : EntD.Ok X1 ⟨.slice ar0 nr0 kr0, fam0, .slice aq0 nq0 kq0, ts0, seq0, kind0, .slice av0 nv0 kv0, row0, qual0, val0⟩ := ((HMp.out.rd.ok _ (List.mem_of_getElem? HS.out.1)).1.keptC (KpC.of_below bX1)).ok
     have HEn := Lib.hid (entry8_any hok1)
     unfold EntD.cells at HEn
     simp only at HEn
     have HSb := Lib.hid (And.intro sb1 (And.intro bX1 (And.intro sX1 hok1)))
     have e0 := sb1.all.2.2.1
     obtain ⟨f0, f1, f2, f3, f4, f5, f6⟩ := e0
     clear sb1 bX1 sX1 hX1 hok1 hoke hokg
     go_wp2_with fail
     rw [← HX1.out]
     refine HEn.out.mono ?_
     rintro z X2 ⟨⟨vr1, fam1, vq1, ts1, seq1, kind1, vv1, row1, qual1, val1⟩, rfl, sm1, ld1, bX2, ap1⟩
     clear HX1 HEn f0 f1 f2 f3 f4 f5 f6 c1 c2 c3 c4 c5 c6 c7 c8 c9 c10 c11 c12 c13 c14 c15 c16 ck
     obtain ⟨a1, n1, k1, e1⟩ := ld1.1.form
     obtain ⟨a2, n2, k2, e2⟩ := ld1.2.1.form
     obtain ⟨a3, n3, k3, e3⟩ := ld1.2.2.form
     simp only at e1 e2 e3
     subst e1 e2 e3
     obtain ⟨D1, hD1⟩ : ∃ D, D = EntD.mk (.slice a1 n1 k1) fam1 (.slice a2 n2 k2) ts1 seq1 kind1 (.slice a3 n3 k3) row1 qual1 val1 := ⟨_, rfl⟩
     have eb1 := EBox.new X2 D1
     have bX3 := (Below.refl X2.heap.size X2).alloc (Nat.le_refl _) (.cells D1.cells 38)
     have sX3 : (X2.alloc (.cells D1.cells 38)).heap.size = X2.heap.size + 1 := by simp
     obtain ⟨X3, hX3⟩ : ∃ Y, Y = X2.alloc (.cells D1.cells 38) := ⟨_, rfl⟩
     rw [← hX3] at eb1 bX3 sX3
     rw [← hD1] at sm1 ld1 ap1
     rw [hD1] at hX3
     unfold EntD.cells at hX3
     simp only at hX3
     have HX3 := Lib.hid hX3
     have hsb3 := HSb.out.1.later (bX2.trans (bX3.mono bX2.size))
     have bX13 := HSb.out.2.1.trans ((bX2.trans (bX3.mono bX2.size)).mono HSb.out.2.1.size)
     have hf1 : EntD.Fine D1 := fine_same8 sm1 (EntD.cut_fine HSb.out.2.2.2)
     have hok3 : EntD.Ok X3 D1 := (ld1.later bX3).ok hf1
     have HD1 := Lib.hid (And.intro sm1 (And.intro (ld1.later bX3) (And.intro ap1 (And.intro hf1 (And.intro eb1 (And.intro bX13 (And.intro hsb3 (And.intro sX3 (And.intro bX2.size (HSb.out.2.2.1))))))))))
     have HOk := Lib.hid (HSb.out.2.2.2.later (bX2.trans (bX3.mono bX2.size)))
     have ec1 := eb1.cells7
     obtain ⟨tP, XP, FO, L, R, lv, f, gP, hlP, hloP, backP⟩ := HMp.out.tw.fst
     have hp3 := (gP.later bX13).pl.cells.1
     have HPb := Lib.hid gP.pl.cells.1
     have hAf : Hid (∀ Y, Below X3.heap.size X3 Y → Calls Tryz.prog 7 #[.pointer (some ⟨tP, 0, none⟩), .agg #[D1.vr, .int .i64 D1.fam, D1.vq, .int .i64 D1.ts, .int .i64 D1.seq, .int .i64 D1.kind, D1.vv]] Y (fun z w' => ∃ Bf x0, z = .returned (.func (.func 25) #[] #[.pointer (some ⟨Y.heap.size, 0, none⟩), .pointer (some ⟨Bf, 0, none⟩)]) ∧ Bxd w' Y.heap.size 25 (.pointer (some ⟨tP, 0, none⟩)) ∧ EBox w' Bf x0 ∧ EntD.Same x0 { D1 with vv := .slice none 0 0, val := [] } ∧ EOk (fun i => Y.heap.size ≤ i) w' x0 ∧ Below Y.heap.size Y w' ∧ Y.heap.size + 2 ≤ w'.heap.size ∧ Y.heap.size + 2 ≤ Bf ∧ Bf < w'.heap.size)) := fun Y b => by
      have hl := HD1.out.2.2.2.1
      exact from_ans2 (((HD1.out.2.1).ok hl).later b) ⟨by have := hl.1.2; omega, by have := hl.2.1.2; omega⟩
     clear gP hlP hloP backP hok3 hf1 bX13 hsb3 eb1 bX3 sX3 bX2 hX3 hD1 sm1 ld1 ap1 XP FO L R lv f
     go_upto_region 18 with fail
     rw [← HX3.out]
     refine mp18_region hp3 ec1 hAf (Lib.hid ?_)
     intro Bt Bf x0 Zs X4 h4
     have H4 := Lib.hid h4
     clear h4 hp3 ec1 hAf HX3
     have HB34 := Lib.hid H4.out.2.1
     have hs4 := HD1.out.2.2.2.2.2.2.1.later HB34.out
     obtain ⟨f0, f1, f2, f3, f4, f5, f6⟩ := hs4.all.2.2.1
     have HEn4 := Lib.hid (entry8_any (HOk.out.later HB34.out))
     unfold EntD.cells at HEn4
     simp only at HEn4
     clear hs4
     go_wp2_with fail
     refine HEn4.out.mono ?_
     rintro z X5 ⟨⟨vr2, fam2, vq2, ts2, seq2, kind2, vv2, row2, qual2, val2⟩, rfl, sm2, ld2, bX5, ap2⟩
     clear HEn4 f0 f1 f2 f3 f4 f5 f6
     obtain ⟨a1, n1, k1, e1⟩ := ld2.1.form
     obtain ⟨a2, n2, k2, e2⟩ := ld2.2.1.form
     obtain ⟨a3, n3, k3, e3⟩ := ld2.2.2.form
     simp only at e1 e2 e3
     subst e1 e2 e3
     obtain ⟨D2, hD2⟩ : ∃ D, D = EntD.mk (.slice a1 n1 k1) fam2 (.slice a2 n2 k2) ts2 seq2 kind2 (.slice a3 n3 k3) row2 qual2 val2 := ⟨_, rfl⟩
     have eb2 := EBox.new X5 D2
     have bX6 := (Below.refl X5.heap.size X5).alloc (Nat.le_refl _) (.cells D2.cells 38)
     have sX6 : (X5.alloc (.cells D2.cells 38)).heap.size = X5.heap.size + 1 := by simp
     obtain ⟨X6, hX6⟩ : ∃ Y, Y = X5.alloc (.cells D2.cells 38) := ⟨_, rfl⟩
     rw [← hX6] at eb2 bX6 sX6
     rw [← hD2] at sm2 ld2 ap2
     rw [hD2] at hX6
     unfold EntD.cells at hX6
     simp only at hX6
     have HX6 := Lib.hid hX6
     have hf2 : EntD.Fine D2 := fine_same8 sm2 (EntD.cut_fine HSb.out.2.2.2)
     have b46 := bX5.trans (bX6.mono bX5.size)
     have b36 := HB34.out.trans (b46.mono HB34.out.size)
     have b06 := HD1.out.2.2.2.2.2.1.trans (b36.mono HD1.out.2.2.2.2.2.1.size)
     have hsX := HMp.out.size
     have hsX1 := HSb.out.2.2.1
     have hs03 := HD1.out.2.2.2.2.2.1.size
     have hs34 := HB34.out.size
     have hs45 := bX5.size
     have hd1b : ∀ k, D1.blk k → X1.heap.size ≤ k ∧ k < X3.heap.size := fun k hk => HD1.out.2.1.rng8 hk
     have hd2b : ∀ k, D2.blk k → X4.heap.size ≤ k ∧ k < X5.heap.size := fun k hk => ld2.rng8 hk
     have he6 : E3 X6 D1 := (HD1.out.2.1.later b36).e38 HD1.out.2.2.2.1 HD1.out.2.2.1
     obtain ⟨FO, hfu, hFO, hback7⟩ := HMp.out.tw.keepK HPb.out (K := fun q => X3.heap.size ≤ q ∧ q < X6.heap.size) (Y := fun k => D1.blk k) b06 (fun k hk => by have := hd1b k hk; omega) (fun k hk => ⟨by omega, hk.2, fun e => by have := hd1b k e; omega⟩)
     have HFe := Lib.hid (fentry_any hfu he6 (fun k hk hf => by have := hd1b k hk; have := hFO k hf; omega))
     unfold EntD.cells at HFe
     have ec6 := (HD1.out.2.2.2.2.1.later b36).cells7
     obtain ⟨g0, g1, g2, g3, g4, g5, g6⟩ := ec6
     have hkb : KeepB X3.heap.size X6.heap.size X5.heap.size Bt Bf tP D2 x0 X6 := by
      obtain ⟨q1, q2, q3, q4, q5, q6, q7, q8, q9⟩ := H4.out
      exact ⟨eb2, (ld2.later bX6).mono hs34, q3.later8 b46, q4.later b46, ((q6.rng).keptC (KpC.of_below b46)).mono (fun k hk => ⟨by omega, by omega⟩), ⟨by omega, by omega⟩, ⟨by omega, by omega⟩, ⟨by omega, by omega⟩, fun k hk => by have := hd2b k hk; omega⟩
     have HKb6 := Lib.hid hkb
     have H6 := Lib.hid (And.intro hback7 (And.intro hFO (And.intro b06 (And.intro he6.cellsAt (And.intro hd1b (And.intro hf2 sm2))))))
     clear eb2 bX6 sX6 hD2 hX6 sm2 ld2 ap2 bX5 hf2 b46 b36 b06 hs45 hd2b he6 hfu hFO hback7 hkb hd1b
     go_upto_region 20 with fail
     rw [← HX6.out]
     go_wp2_with fail
     refine HFe.out.mono ?_
     rintro z X7 ⟨⟨v7, rfl⟩, fu7, fb7⟩
     have hT7 := H6.out.1 X7 _ fu7 fb7 (fun k hk => by
      rcases hk with q | q | q
      ·exact .inl q
      ·exact .inr (.inl q)
      ·exact .inr (.inr q.1))
     have hM7 : MpI w SE (some ⟨sb, so, none⟩) cc ts pB qB gB i Ds X7 := (HMp.out.later H6.out.2.2.1).fbC HR.out.2 fb7 (fun k hk => by
      rcases hk with q | q
      ·exact (H6.out.2.1 k q).1
      ·have := H6.out.2.2.2.2.1 k q; omega) (fun k hk _ => by
      rcases hk with q | q
      ·exact (H6.out.2.1 k q).2.2
      ·exact H6.out.2.2.2.1 k q) hT7.tw
     have hK7 : KeepB X3.heap.size X6.heap.size X5.heap.size Bt Bf tP D2 x0 X7 := HKb6.out.keptC (KpC.of_fb fb7 (fun k hk e => by
      rcases e with q | q
      ·have := (H6.out.2.1 k q).2.1; omega
      ·have := H6.out.2.2.2.2.1 k q; omega))
     have HM7 := Lib.hid (And.intro hM7 (And.intro hT7 hK7))
     have HD := Lib.hid (And.intro H6.out.2.2.2.2.2.1 (And.intro HD1.out.1 (And.intro H6.out.2.2.2.2.2.2 H4.out.2.2.2.2.1)))
     clear hT7 hM7 hK7 fu7 fb7 HX6 HFe HKb6 H6 H4 HD1 HSb HMp HPb g0 g1 g2 g3 g4 g5 g6 hsX hsX1 hs03 hs34 HB34 HOk
     go_upto_block 2 with fail
     rename_i K26 hK26
     have HK26 := Lib.hid hK26
     clear hK26
     have hls2 : ∀ (k : Nat) (t : StepD), ts[k]? = some t → ∀ (W : World), k ≤ 250 → MpI w SE (some ⟨sb, so, none⟩) cc ts pB qB gB k Ds W → TwK W pB qB gB k (w.heap.size + 1) (fun q => X3.heap.size ≤ q ∧ q < X6.heap.size) tP → KeepB X3.heap.size X6.heap.size X5.heap.size Bt Bf tP D2 x0 W → Calls Tryz.prog 9 #[.pointer (some ⟨pB, 0, none⟩), .agg t.cells, .pointer (some ⟨gB, 0, none⟩)] W (fun z Z => z = .returned (.bool true) ∧ MpI w SE (some ⟨sb, so, none⟩) cc ts pB qB gB (k + 1) Ds Z ∧ TwK Z pB qB gB (k + 1) (w.heap.size + 1) (fun q => X3.heap.size ≤ q ∧ q < X6.heap.size) tP ∧ KeepB X3.heap.size X6.heap.size X5.heap.size Bt Bf tP D2 x0 Z) := by
      intro k t ht W hk250 hM hT hB
      obtain ⟨XP, FO, L, R, lv, f, gP, hlP, hloP, backP⟩ := hT.fst
      have hok := hM.rd.ok t (List.mem_of_getElem? ht)
      refine (pstep_any (n := k + 1) gP hok.1 hok.2 (fun q hq => ?_) (by omega) (by omega)).mono ?_
      ·have h1 := HR.out.2 q hq
       have h2 := hM.bel.size
       exact ⟨by omega, fun e => by have := (hloP q (.inl e)).1; omega, fun e => by have := (hloP q (.inr e)).1; omega⟩
      ·rintro z Z ⟨rfl, f', X', FO', L', R', lv', gm, go, hl⟩
       have hT2 := backP Z X' FO' L' R' lv' f' (k + 1) (by omega) gm go hl
       refine ⟨rfl, hM.step HR.out.2 gP (fun q hq => (hloP q hq).1) go hT2.tw, hT2, hB.keptC (KpC.of_fb go.fb (fun q hq e => ?_))⟩
       rcases e with e | e | e
       ·exact (hloP q (.inl (.inl e))).2 hq
       ·exact (hloP q (.inl (.inr (.inl e)))).2 hq
       ·exact (hloP q (.inr e)).2 hq
     have HLs2 := Lib.hid hls2
     clear hls2
     have hrest26 : ∀ (T : Array Value) (k : Nat) (W : World), Fr12 T (some ⟨sb, so, none⟩) N cc w.heap.size aB bB gB i pB Bt Bf X5.heap.size k → i + 1 ≤ k → k ≤ N → MpI w SE (some ⟨sb, so, none⟩) cc ts pB qB gB k Ds W → TwK W pB qB gB k (w.heap.size + 1) (fun q => X3.heap.size ≤ q ∧ q < X6.heap.size) tP → KeepB X3.heap.size X6.heap.size X5.heap.size Bt Bf tP D2 x0 W → K26 { tmps := T, defers := Ds.map mkD8 } W := by
      as_aux_lemma =>
       intro T k W ⟨⟨z198, z0, z2, z3, z4, z5, z6⟩, z7, z10, z11, z12⟩ hik hkN hM hT hB
       obtain ⟨U, hU⟩ := frame198k z198 z0 z2 z3 z4 z5 z6 z7 z10 z11 z12
       subst hU
       clear z198 z0 z2 z3 z4 z5 z6 z7 z10 z11 z12 h1 hi0
       obtain ⟨j, rfl⟩ : ∃ j, k = j + 1 := ⟨k - 1, by omega⟩
       refine HK26.out _ _ ?_
       clear HK26 HLs HLs2
       obtain ⟨XP, FO, L, R, lv, f, gP, hlP, hloP, -⟩ := hT.fst
       obtain ⟨am, cm, hlv⟩ := gP.pl.ref.rd.slice
       obtain ⟨mz, hmz⟩ : ∃ mz, mz = R.length := ⟨_, rfl⟩
       rw [← hmz] at hlv
       subst hlv
       have hpc := gP.pl.cells
       have hX : Hid (∀ k, XP k → k < W.heap.size) := gP.pl.lt
       have hR : Hid (RdX XP W (.slice am mz cm) R) := gP.pl.ref
       have hok2 : EntD.Ok W D2 := hB.ld.ok HD.out.1
       have ec2 := hB.eb.cells7
       have hA : Hid (∀ Z, Below W.heap.size W Z → Calls Tryz.prog 10 #[.agg #[.slice am mz cm, .bool f], .agg #[D2.vr, .int .i64 D2.fam, D2.vq, .int .i64 D2.ts, .int .i64 D2.seq, .int .i64 D2.kind, D2.vv]] Z (fun z w' => ∃ v, z = .returned v ∧ RdL w' v (R.dropWhile (fun y => decide (compareS y D2 < 0))) ∧ (∀ k, v.ownBlock = some k → (Value.slice am mz cm).ownBlock = some k) ∧ Below Z.heap.size Z w')) := fun Z b => refFrom2_any (gP.later b).pl.ref.rd (hok2.later b)
       have HG := Lib.hid (And.intro hM (And.intro gP (And.intro hB (And.intro hlP hmz))))
       clear hM hT hB gP hlP hloP hok2 hmz
       go_upto_region 26 with fail
       refine mp26_region ⟨hpc.2.1, hpc.2.2⟩ ec2 hX hR hA (Lib.hid ?_)
       intro a' m' k' b9 V1 h2
       have H2 := Lib.hid h2
       clear h2 hpc ec2 hR hA
       obtain ⟨V, hV, bV, sV, xn⟩ := bxd_new V1 3 (.int .i64 0)
       have HV := Lib.hid hV
       have HBV := Lib.hid (And.intro bV (And.intro sV xn))
       clear hV bV sV xn
       rename_i K9 hK9
       refine hK9 _ _ ?_
       clear hK9
       refine (wpIn_wide (n := 9)).1 ?_
       gi_wp2
       rw [← HV.out]
       have bWV : Below W.heap.size W V := H2.out.bel.trans (HBV.out.1.mono H2.out.bel.size)
       have hGV := HG.out.2.1.later bWV
       have hKV := HG.out.2.2.1.keptC (KpC.of_below bWV)
       obtain ⟨p, T, h1, h2, h3⟩ := hGV.pl.tab.tree
       have hsm : Sm (R.dropWhile (fun y => decide (compareS y D2 < 0))) (fromS x0 T) := sm_from hGV.pl.sm h3 hGV.pl.tab.srt HD.out.2.2.2 (same_cross HD.out.2.1 HD.out.2.2.1)
       have hsub : ∀ y ∈ fromS x0 T, y ∈ L := fun y hy => by
        rw [fromS_drop _ _ (by rw [h3]; exact hGV.pl.tab.srt), h3] at hy
        exact (List.dropWhile_suffix _).subset hy
       have rdV : RdX XP V (.slice a' m' k') (R.dropWhile (fun y => decide (compareS y D2 < 0))) := H2.out.rd.keptC (KpC.of_below HBV.out.1)
       obtain ⟨aw, cw, eaw⟩ := rdV.rd.slice
       have hmw : m' = (R.dropWhile (fun y => decide (compareS y D2 < 0))).length := by injection eaw
       have hXl : ∀ k, XP k → k < V1.heap.size := fun k hk => Nat.lt_of_lt_of_le (hX.out k hk) H2.out.bel.size
       have hL100 : L.length ≤ 200 := by have := HG.out.2.2.2.1; omega
       have hRl : (R.dropWhile (fun y => decide (compareS y D2 < 0))).length ≤ 200 := by
        have h := (List.dropWhile_suffix (l := R) (fun y => decide (compareS y D2 < 0))).length_le
        have := hGV.pl.sm.len
        omega
       have hb9V : Bxd V b9 27 (.slice a' m' k') := H2.out.box.later8 HBV.out.1
       have HSub := Lib.hid hsub
       have HSm := Lib.hid hsm
       have HMw := Lib.hid (And.intro hmw hRl)
       have HGd := Lib.hid hGV.pl.tab.good
       have HLn := Lib.hid (show ∀ y ∈ fromS x0 T, y.row.length ≤ 140737488355328 ∧ y.qual.length ≤ 140737488355328 ∧ y.val.length ≤ 140737488355328 from fun y hy => hGV.pl.tab.lens y (hsub y hy))
       have HRd := Lib.hid (And.intro rdV (And.intro hXl hb9V))
       have HbWV := Lib.hid bWV
       have hs1 := HBV.out.2.1
       have hsW := bWV.size
       have hb9l := H2.out.box.lt
       have hsV1 := H2.out.bel.size
       have hw1 := HG.out.1.size
       clear hsub hsm hmw hRl eaw bWV rdV hXl hb9V hX HV hL100
       refine range_o (w := V) rfl (enters_of Tryz.func25 (by kernel_rfl) rfl) (encs := fun x : EntD => #[.agg x.cells]) (from_seqO hKV.bf (hKV.ok.mono (fun _ _ => trivial)) hKV.bt h1 h2 HLn.out) (fun h k => h.trans k) (fun X o o' ho hc => KpO.put o o' (by omega) ho hc) (fun _ => rfl)
        (fun pre Y => Fb V Y (fun q => q = V1.heap.size) ∧ Bxd Y V1.heap.size 3 (.int .i64 ((pre.length : Nat) : Int)))
        (fun _ _ _ => False)
        (fun s Y h => h.1.size)
        (fun s Y Z hY h tu => ⟨h.1.turn8 tu (Nat.le_refl _), tu.cells _ _ h.2 rfl⟩)
        (fun _ _ _ _ _ h _ => h)
        ⟨Fb.refl _ _, HBV.out.2.2⟩
        (fun pre x a2 Y => ∃ Bx, EBox Y Bx x ∧ NxC (fromS x0 T) (V.heap.size + 2) pre x Y ∧ a2.defers = [] ∧ a2.tmps.size = 198 ∧ a2.tmps.getD 13 undef = .pointer (some ⟨b9, 0, none⟩) ∧ a2.tmps.getD 14 undef = .pointer (some ⟨V1.heap.size, 0, none⟩) ∧ a2.tmps.getD 15 undef = .pointer (some ⟨Bx, 0, none⟩))
        (fun pre x a2 _ Y Z hY ⟨Bx, k0, k1, k2⟩ tu => ⟨Bx, tu.cells _ _ k0 rfl, ⟨Nat.le_trans k1.1 tu.below.size, k1.2.1, k1.2.2.keptC tu.toC⟩, k2⟩)
        ?assign ?body ?done ?stop (fun cd s Y h => h.elim)
       case assign =>
        intro l' pre x Wp Y0 K hip hi hsY hgd0 hK
        obtain ⟨hnx, -, -, -⟩ := hgd0
        obtain ⟨vr, fam, vq, tsx, seq, kind, vv, row, qual, val⟩ := x
        have r1 : Rd Y0 vr row := hnx.2.2.1.1
        have r2 : Rd Y0 vq qual := hnx.2.2.2.1.1
        have r3 : Rd Y0 vv val := hnx.2.2.2.2.1
        obtain ⟨ar, nr, cr, rfl⟩ := rd_slice r1
        obtain ⟨aq, nq, cq, rfl⟩ := rd_slice r2
        obtain ⟨av, nv, cv, rfl⟩ := rd_slice r3
        have hbb := (Below.refl Y0.heap.size Y0).alloc (Nat.le_refl _) (.cells (EntD.mk (.slice ar nr cr) fam (.slice aq nq cq) tsx seq kind (.slice av nv cv) row qual val).cells 38)
        have tu := Turn.of (B := V.heap.size) hbb (by omega)
        have HAx := Lib.hid (And.intro (EBox.new Y0 (EntD.mk (.slice ar nr cr) fam (.slice aq nq cq) tsx seq kind (.slice av nv cv) row qual val)) (show NxC (fromS x0 T) (V.heap.size + 2) pre (EntD.mk (.slice ar nr cr) fam (.slice aq nq cq) tsx seq kind (.slice av nv cv) row qual val) (Y0.alloc (.cells (EntD.mk (.slice ar nr cr) fam (.slice aq nq cq) tsx seq kind (.slice av nv cv) row qual val).cells 38)) from ⟨Nat.le_trans hnx.1 tu.below.size, hnx.2.1, hnx.2.2.keptC tu.toC⟩))
        have HT9 := Lib.hid (show KpO XP (V.heap.size + 2) Y0 (Y0.alloc (.cells (EntD.mk (.slice ar nr cr) fam (.slice aq nq cq) tsx seq kind (.slice av nv cv) row qual val).cells 38)) from ⟨tu.toC, Oth.of hbb⟩)
        have HI := Lib.hid (And.intro (hi.1.turn8 tu (Nat.le_refl _)) (hi.2.later8 hbb))
        have HKK := Lib.hid hK
        clear hbb tu hi hip hnx r1 r2 r3 hGV hKV h1 h2 h3 hK
        unfold EntD.cells at HAx HT9 HI
        unfold EntD.cells
        gi_wp2
        exact HKK.out _ _ ((KeepsOthers.alloc _ _).from _) HT9.out HI.out ⟨Y0.heap.size, HAx.out.1, HAx.out.2, rfl, rfl, rfl, rfl, rfl⟩
       case body =>
        rintro l' pre x ⟨T2, ds2⟩ Y0 ⟨hF0, hn0⟩ ⟨Bx, hbx, hnx, hds, z198, z13, z14, z15⟩
        simp only at hds z198 z13 z14 z15
        obtain ⟨U2, hU2⟩ := frame198n z198 z13 z14 z15
        subst hU2 hds
        clear z198 z13 z14 z15 hGV hKV h1 h2 h3
        obtain ⟨n, hn⟩ : ∃ n, n = pre.length := ⟨_, rfl⟩
        rw [← hn] at hn0
        have hsm := HSm.out
        obtain ⟨q, hq1, hq2⟩ := hnx.2.1
        have e1 := hq2.len
        have e2 := hq1.length_le
        have e3 := hsm.len
        simp only [List.length_append, List.length_cons, List.length_nil] at e1
        have hnm : n < m' := by have := HMw.out.1; omega
        obtain ⟨y, hy⟩ : ∃ y, (R.dropWhile (fun y => decide (compareS y D2 < 0)))[n]? = some y := ⟨_, List.getElem?_eq_getElem (by have := HMw.out.1; omega)⟩
        have hxy : EntD.Same x y := by
         obtain ⟨x1, z1, k1, k2, k3⟩ := hq2.at (i := n) (by simp; omega)
         obtain ⟨y1, z2, k4, k5, k6⟩ := hsm.at (i := n) (by have := HMw.out.1; omega)
         have kx : x1 = x := by
          rw [hn] at k1
          simpa using k1.symm
         obtain ⟨t, ht⟩ := hq1
         have kz : (fromS x0 T)[n]? = some z1 := by
          rw [← ht, List.getElem?_append_left (by omega)]
          exact k2
         rw [kz] at k5
         cases k5
         rw [hy] at k4
         cases k4
         subst kx
         exact same_cross k3 k6
        have rd0 := HRd.out.1.keptC (KpC.of_fb hF0 (fun k hk e => by have e' : k = V1.heap.size := e; have := HRd.out.2.1 k hk; omega))
        obtain ⟨a0, cap0, ea, -, -, -, -, h5⟩ := rd0.rd
        obtain ⟨hyok, bz, oz, eb, hcs⟩ := h5 n y hy
        have eam : a' = some ⟨bz, oz, none⟩ := by
         injection ea with e4
         rw [e4, eb]
        clear h5 ea eb rd0
        subst eam
        have HSe : Hid (∀ Z, Below Y0.heap.size Y0 Z → Calls Tryz.prog 11 #[.agg #[x.vr, .int .i64 x.fam, x.vq, .int .i64 x.ts, .int .i64 x.seq, .int .i64 x.kind, x.vv], .agg #[y.vr, .int .i64 y.fam, y.vq, .int .i64 y.ts, .int .i64 y.seq, .int .i64 y.kind, y.vv]] Z fun r w' => r = .returned (.bool true) ∧ Below Z.heap.size Z w') := fun Z b => by
         refine (se_any (hnx.2.2.ok.later b) (hyok.later b)).mono ?_
         rintro r w' ⟨rfl, hb⟩
         exact ⟨by rw [decide_eq_true hxy], hb⟩
        have kc := hn0.cell
        have wc := (HRd.out.2.2.keep (hF0.block b9 (by omega) (fun e => by have e' : b9 = V1.heap.size := e; omega))).cell
        have xc := hbx.cells7
        have HX := Lib.hid (And.intro hF0 hn0)
        have HN := Lib.hid hn
        clear hF0 hn0 hbx hnx hq1 hq2 e1 e2 e3 hsm hn hxy hyok hy
        gi_wp2_with fail
        refine wpIn_eq8 _ (mp30_region hnm ⟨kc, wc, xc, hcs⟩ HSe) ?_
        intro Y hbY
        have hnY := HX.out.2.later8 hbY
        have HnY := Lib.hid hnY
        have kc := hnY.cell
        have kf := hnY.fz
        have hn100 : n < 100000 := by have := HMw.out.1; have := HMw.out.2; omega
        have HWn : Hid (IntKind.i64.wrap ((n : Int) + 1) = ((n + 1 : Nat) : Int)) := by
         have := wrap_ok ((n : Int) + 1) (by omega) (by omega)
         unfold Hid; rw [this]; simp
        have HbY := Lib.hid hbY
        clear hnY hbY wc xc hcs HSe
        gi_wp2
        have hlen : (pre ++ [x]).length = n + 1 := by rw [List.length_append, ← HN.out]; rfl
        have ecast : (n : Int) + 1 = ((n + 1 : Nat) : Int) := by simp
        rw [ecast]
        have f : Fb Y0 (Y.setCell ⟨V1.heap.size, 0, none⟩ (.int .i64 ((n + 1 : Nat) : Int))) (fun q => q = V1.heap.size) := (Fb.of_below HbY.out).trans (Fb.set1 (O := fun q => q = V1.heap.size) rfl _)
        have hc : ∀ k, k = V1.heap.size → k < Y0.heap.size → CellsAt Y0 k := fun k e _ => by rw [e]; exact HX.out.2.cellsAt
        refine ⟨keeps_of f hc, kpo_of f hc (fun k e => ⟨fun h => by have e' : k = V1.heap.size := e; have := HRd.out.2.1 k h; omega, by have e' : k = V1.heap.size := e; omega⟩), HX.out.1.trans f, ?_⟩
        rw [hlen]
        exact HnY.out.set _
       case done =>
        rintro D xs Y hDd hsmx ⟨hF, hnb⟩ hdf
        have e1 := hsmx.len
        have e2 := HSm.out.len
        have hxs : xs.length = m' := by have := HMw.out.1; omega
        rw [hxs] at hnb
        have kc := hnb.cell
        have wc := (HRd.out.2.2.keep (hF.block b9 (by omega) (fun e => by have e' : b9 = V1.heap.size := e; omega))).cell
        have bWY : Below W.heap.size W Y := HbWV.out.trans (hF.belowB (fun k e => by have e' : k = V1.heap.size := e; omega) (by omega))
        have hMf := (HG.out.1.later bWY).cons (by omega) hdf (fun h => by have := HG.out.1.mq.lt D h; omega)
        have HMf := Lib.hid hMf
        clear hMf bWY hF hnb hdf hGV hKV h1 h2 h3 e1 e2 hsmx hxs
        gi_wp2
        refine HTail.out _ j (D :: Ds) Y ?_ ?_ (by omega) (by omega) HMf.out
        ·exact ⟨rfl, rfl, rfl, rfl, rfl, rfl, rfl⟩
        ·rfl
       case stop =>
        intro D cd pre Y hDd hsp h hdf
        exact h.elim
     have HRest := Lib.hid hrest26
     clear hrest26 HK26
     go_wp2_with fail
     refine wp_loop (MJ w SE (some ⟨sb, so, none⟩) cc ts aB bB pB qB gB i Ds X3.heap.size X6.heap.size X5.heap.size Bt Bf tP D2 x0) (fun A _ => N - (intOf (A.tmps.getD 12 undef)).toNat) ⟨i + 1, ⟨Nat.le_refl _, by rw [← HTs.out.2.2]; omega, by omega⟩, ⟨HM7.out.1.tw.mono (by omega), HM7.out.1.rd, HM7.out.1.rb, HM7.out.1.mq, HM7.out.1.bel, HM7.out.1.size⟩, HM7.out.2.1.mono (by omega), HM7.out.2.2, ⟨by rw [← HTs.out.2.2]; exact ⟨rfl, rfl, rfl, rfl, rfl, rfl, rfl⟩, rfl, rfl, rfl, rfl⟩, rfl⟩ ?_
     clear HM7
     rintro ⟨T, ds⟩ W ⟨k, ⟨hk1, hk2, hk3⟩, hM, hT, hB, ⟨⟨z198, z0, z2, z3, z4, z5, z6⟩, z7, z10, z11, z12⟩, hds⟩
     simp only at z198 z0 z2 z3 z4 z5 z6 z7 z10 z11 z12 hds
     rw [← HTs.out.2.2] at z0 hk2
     obtain ⟨U, hU⟩ := frame198k z198 z0 z2 z3 z4 z5 z6 z7 z10 z11 z12
     subst hU hds
     clear z198 z0 z2 z3 z4 z5 z6 z7 z10 z11 z12
     have HMk := Lib.hid (And.intro hM (And.intro hT hB))
     clear hM hT hB h1 hi0
     as_aux_lemma =>
      by_cases hkN : k < N
      case neg =>
       have g1 : ¬ (k : Int) < (N : Int) := by omega
       go_wp2
       exact HRest.out _ k W ⟨⟨rfl, rfl, rfl, rfl, rfl, rfl, rfl⟩, rfl, rfl, rfl, rfl⟩ hk1 (by omega) HMk.out.1 HMk.out.2.1 HMk.out.2.2
      case pos =>
       have g1 : (k : Int) < (N : Int) := by omega
       have g0 : (0 : Int) ≤ (k : Int) := by omega
       by_cases hk4 : k < i + 4
       case neg =>
        have g2 : ¬ (k : Int) < (i : Int) + 4 := by omega
        go_wp2
        exact HRest.out _ k W ⟨⟨rfl, rfl, rfl, rfl, rfl, rfl, rfl⟩, rfl, rfl, rfl, rfl⟩ hk1 (by omega) HMk.out.1 HMk.out.2.1 HMk.out.2.2
       case pos =>
        have g2 : (k : Int) < (i : Int) + 4 := by omega
        obtain ⟨t, ht⟩ : ∃ t, ts[k]? = some t := ⟨_, List.getElem?_eq_getElem (by rw [← HTs.out.2.2]; exact hkN)⟩
        obtain ⟨sb2, so2, ea, -, hcs⟩ := HMk.out.1.rd.cel k t ht
        injection ea with ea
        injection ea with eb1 eb2
        subst eb1 eb2
        have d0 := hcs 0 _ rfl
        have HT2 := Lib.hid (And.intro ht hcs)
        by_cases ht7 : t.k = 7
        case pos =>
         have d0 : W.cell? ⟨sb, so + k * 17, none⟩ = some (.int .i64 7) := by rw [← ht7]; exact hcs 0 _ rfl
         clear hcs ht ht7
         go_wp2
         refine ⟨⟨k + 1, ⟨by omega, by rw [← HTs.out.2.2]; omega, by omega⟩, ⟨HMk.out.1.tw.mono (by omega), HMk.out.1.rd, HMk.out.1.rb, HMk.out.1.mq, HMk.out.1.bel, HMk.out.1.size⟩, HMk.out.2.1.mono (by omega), HMk.out.2.2, ⟨by rw [← HTs.out.2.2]; exact ⟨rfl, rfl, rfl, rfl, rfl, rfl, rfl⟩, rfl, rfl, rfl, rfl⟩, rfl⟩, ?_⟩
         simp [intOf]
         omega
        case neg =>
         have hk7' : (t.k != 7) = true := by simp; exact ht7
         have d0 : W.cell? ⟨sb, so + k * 17, none⟩ = some (.int .i64 t.k) := hcs 0 _ rfl
         have HSt := Lib.hid (HLs2.out k t ht W (by omega) HMk.out.1 HMk.out.2.1 HMk.out.2.2)
         unfold StepD.cells at HSt
         have d1 := hcs 1 _ rfl
         have d2 := hcs 2 _ rfl
         have d3 := hcs 3 _ rfl
         have d4 := hcs 4 _ rfl
         have d5 := hcs 5 _ rfl
         have d6 := hcs 6 _ rfl
         have d7 := hcs 7 _ rfl
         have d8 := hcs 8 _ rfl
         have d9 := hcs 9 _ rfl
         have d10 := hcs 10 _ rfl
         have d11 := hcs 11 _ rfl
         have d12 := hcs 12 _ rfl
         have d13 := hcs 13 _ rfl
         have d14 := hcs 14 _ rfl
         have d15 := hcs 15 _ rfl
         have d16 := hcs 16 _ rfl
         clear hcs ht
         go_wp2_with fail
         refine HSt.out.mono ?_
         rintro z Z ⟨rfl, hMz⟩
         have HMz := Lib.hid hMz
         clear hMz HSt
         go_wp2
         refine ⟨⟨k + 1, ⟨by omega, by rw [← HTs.out.2.2]; omega, by omega⟩, HMz.out.1, HMz.out.2.1, HMz.out.2.2, ⟨by rw [← HTs.out.2.2]; exact ⟨rfl, rfl, rfl, rfl, rfl, rfl, rfl⟩, rfl, rfl, rfl, rfl⟩, rfl⟩, ?_⟩
         simp [intOf]
         omega
   clear HKb
   cases ho : s.o with
   | false =>
    rw [ho] at co
    clear ho
    go_wp2
    exact hrest aB bB _ _ (.inl ⟨rfl, rfl⟩)
   | true =>
    rw [ho] at co
    clear ho
    go_wp2
    exact hrest bB aB _ _ (.inr ⟨rfl, rfl⟩)
 by_cases hl : 200 < m0
 ·have hl1 : (200 : Int) < (m0 : Int) := by omega
  have hl2 : (200 : Int) ≤ (m0 : Int) := by omega
  have hl3 : (200 : Int) ≤ (c : Int) := by omega
  go_wp2
  have ht : (ss.take 200).length = 200 := by rw [List.length_take]; have := HM0.out; omega
  have := hrest (ss.take 200) c (.slice a m0 c) (.int .i64 (m0 : Int)) (.bool true) (.slice a m0 c) (.slice a 200 c) ⟨⟨by omega, HR.out.1.cap.2⟩, fun i s hs => HR.out.1.cel i s (by rw [List.getElem?_take] at hs; split at hs; exact hs; cases hs), fun s hs => HR.out.1.ok s (List.mem_of_mem_take hs), fun h => HR.out.1.nn (fun e => by subst e; exact h rfl)⟩ (by omega)
  rw [ht] at this
  exact this
 ·have hl1 : ¬ (200 : Int) < (m0 : Int) := by omega
  go_wp2
  have := hrest ss c (.slice a m0 c) (.int .i64 (m0 : Int)) (.bool false) undef undef HR.out.1 (by have := HM0.out; omega)
  rw [← HM0.out] at this
  exact this
end Go.Proofs.YtpabbnddeklpdaaGreat
