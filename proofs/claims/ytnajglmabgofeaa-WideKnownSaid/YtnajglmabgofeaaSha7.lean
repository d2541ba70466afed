/- The end of a block in the document's Wide: the eight are each more by what came of it. -/
import Derived.Test.YtnajglmabgofeaaSha6
import Derived.Deep.DeepCutAuto
import Derived.Deep.CutBlock
import Derived.StillTailTactics
namespace Go.Proofs.Ytnajglmabgofeaa
open Go.RowKit
set_option linter.unusedVariables false
noncomputable def shaB7 : Code := (loopsOf shaB3).getD 3 .skip
theorem cell_setCell_other (w : World) (g h j : Nat) {k : Nat} {v : Value} (hn : g ≠ h) : (w.setCell ⟨h, k, none⟩ v).cell? ⟨g, j, none⟩ = w.cell? ⟨g, j, none⟩ := by
  unfold World.cell?
  rw [heap_setCell_other _ _ _ _ (show g ≠ (⟨h, k, none⟩ : Addr).block from hn)]
theorem rowOf_setL (kd : IntKind) (n : Nat) (f : Nat → Nat) (k v : Nat) : (rowOf kd n f).set k (.int kd v) = rowOf kd n (upd f k v) := by
  have h := congrArg Array.toList (rowOf_set kd n f k v)
  simpa using h
set_option maxRecDepth 100000 in
set_option maxHeartbeats 2000000 in
theorem sha7_ok (s t : St) (B gh ch gv cv : Nat) (W5 : World) (Q : Exit → Act → World → Prop) (c0 c1 c2 c3 c4 c6 c7 c8 c9 c10 c11 c12 c13 c14 c15 c17 c18 c19 c20 c21 c23 c24 c25 c26 c27 c28 c29 c30 c31 c32 c33 c34 c35 c36 c37 c38 c39 c40 c41 c42 c43 c44 c45 c46 c47 c48 c49 c50 c51 c52 c53 c54 c55 c56 c57 c58 c59 c60 c61 c62 c63 c64 c65 c66 c67 c68 c69 c70 c71 c72 c73 c74 c75 c76 c77 c78 c79 c80 c81 c82 c83 c84 c85 c86 c87 c88 c89 c90 c91 c92 c93 c94 c95 c96 c97 c98 c99 c100 c101 c102 c103 c104 c105 c106 c107 c108 c109 c110 c111 c112 c113 c114 c115 c116 c117 c118 c119 c120 c121 c122 c123 c124 c125 c126 c127 c128 c129 c130 c131 c132 c133 c134 c135 c136 c137 c138 c139 c140 c141 c142 c143 c144 c145 c146 c147 c148 c149 c150 c151 c152 c153 c154 c155 c156 c157 c158 c159 c160 c161 c162 c163 c164 c165 c166 c167 c168 c169 c170 c171 c172 c173 c174 c175 c176 c177 c178 c179 c180 c181 c182 c183 c184 c185 c186 c187 c188 c189 c190 c191 c192 c193 c194 c195 c196 c197 c198 c199 c200 c201 c202 c203 c204 c205 c206 c207 c208 c209 c210 c211 c212 c213 c214 c215 c216 c217 c218 c219 c220 c221 c222 c223 c224 c225 c226 c227 c228 c229 c230 c231 c232 c233 c234 c235 c236 c237 c238 c239 c240 c241 c242 c243 c244 c245 c246 c247 c248 c249 c250 c251 c252 c253 c254 c255 c256 c257 c258 c259 c260 c261 c262 : Value)
    (hch : 8 ≤ ch) (hcv : 8 ≤ cv) (hne : Hid (gv ≠ gh)) (hown : Hid (W5.ownsRow B 27 1 (.slice (some ⟨gh, 0, none⟩) 8 ch) 8 (rowOf .u64 8 s.at))) (hv : Hid (∀ j, j < 8 → W5.cell? ⟨gv, j, none⟩ = some (.int .u64 (t.at j))))
    (hexit : ∀ (u235 u236 u237 u238 u239 u240 u241 u242 u243 u244 u245 u246 u247 u248 u249 u250 : Value) (wx : World), Hid (wx.ownsRow B 27 1 (.slice (some ⟨gh, 0, none⟩) 8 ch) 8 (rowOf .u64 8 (plus s t).at)) → Hid (Below B W5 wx) → Q (.exit 12) ⟨(c0 :: c1 :: c2 :: c3 :: c4 :: (.slice (some ⟨gh, 0, none⟩) 8 ch) :: c6 :: c7 :: c8 :: c9 :: c10 :: c11 :: c12 :: c13 :: c14 :: c15 :: (.slice (some ⟨gv, 0, none⟩) 8 cv) :: c17 :: c18 :: c19 :: c20 :: c21 :: (.int .i64 8) :: c23 :: c24 :: c25 :: c26 :: c27 :: c28 :: c29 :: c30 :: c31 :: c32 :: c33 :: c34 :: c35 :: c36 :: c37 :: c38 :: c39 :: c40 :: c41 :: c42 :: c43 :: c44 :: c45 :: c46 :: c47 :: c48 :: c49 :: c50 :: c51 :: c52 :: c53 :: c54 :: c55 :: c56 :: c57 :: c58 :: c59 :: c60 :: c61 :: c62 :: c63 :: c64 :: c65 :: c66 :: c67 :: c68 :: c69 :: c70 :: c71 :: c72 :: c73 :: c74 :: c75 :: c76 :: c77 :: c78 :: c79 :: c80 :: c81 :: c82 :: c83 :: c84 :: c85 :: c86 :: c87 :: c88 :: c89 :: c90 :: c91 :: c92 :: c93 :: c94 :: c95 :: c96 :: c97 :: c98 :: c99 :: c100 :: c101 :: c102 :: c103 :: c104 :: c105 :: c106 :: c107 :: c108 :: c109 :: c110 :: c111 :: c112 :: c113 :: c114 :: c115 :: c116 :: c117 :: c118 :: c119 :: c120 :: c121 :: c122 :: c123 :: c124 :: c125 :: c126 :: c127 :: c128 :: c129 :: c130 :: c131 :: c132 :: c133 :: c134 :: c135 :: c136 :: c137 :: c138 :: c139 :: c140 :: c141 :: c142 :: c143 :: c144 :: c145 :: c146 :: c147 :: c148 :: c149 :: c150 :: c151 :: c152 :: c153 :: c154 :: c155 :: c156 :: c157 :: c158 :: c159 :: c160 :: c161 :: c162 :: c163 :: c164 :: c165 :: c166 :: c167 :: c168 :: c169 :: c170 :: c171 :: c172 :: c173 :: c174 :: c175 :: c176 :: c177 :: c178 :: c179 :: c180 :: c181 :: c182 :: c183 :: c184 :: c185 :: c186 :: c187 :: c188 :: c189 :: c190 :: c191 :: c192 :: c193 :: c194 :: c195 :: c196 :: c197 :: c198 :: c199 :: c200 :: c201 :: c202 :: c203 :: c204 :: c205 :: c206 :: c207 :: c208 :: c209 :: c210 :: c211 :: c212 :: c213 :: c214 :: c215 :: c216 :: c217 :: c218 :: c219 :: c220 :: c221 :: c222 :: c223 :: c224 :: c225 :: c226 :: c227 :: c228 :: c229 :: c230 :: c231 :: c232 :: c233 :: c234 :: u235 :: u236 :: u237 :: u238 :: u239 :: u240 :: u241 :: u242 :: u243 :: u244 :: u245 :: u246 :: u247 :: u248 :: u249 :: u250 :: c251 :: c252 :: c253 :: c254 :: c255 :: c256 :: c257 :: c258 :: c259 :: c260 :: c261 :: c262 :: []).toArray, []⟩ wx) :
    Code.wp Try.prog (Code.loop shaB7) Q ⟨(c0 :: c1 :: c2 :: c3 :: c4 :: (.slice (some ⟨gh, 0, none⟩) 8 ch) :: c6 :: c7 :: c8 :: c9 :: c10 :: c11 :: c12 :: c13 :: c14 :: c15 :: (.slice (some ⟨gv, 0, none⟩) 8 cv) :: c17 :: c18 :: c19 :: c20 :: c21 :: (.int .i64 0) :: c23 :: c24 :: c25 :: c26 :: c27 :: c28 :: c29 :: c30 :: c31 :: c32 :: c33 :: c34 :: c35 :: c36 :: c37 :: c38 :: c39 :: c40 :: c41 :: c42 :: c43 :: c44 :: c45 :: c46 :: c47 :: c48 :: c49 :: c50 :: c51 :: c52 :: c53 :: c54 :: c55 :: c56 :: c57 :: c58 :: c59 :: c60 :: c61 :: c62 :: c63 :: c64 :: c65 :: c66 :: c67 :: c68 :: c69 :: c70 :: c71 :: c72 :: c73 :: c74 :: c75 :: c76 :: c77 :: c78 :: c79 :: c80 :: c81 :: c82 :: c83 :: c84 :: c85 :: c86 :: c87 :: c88 :: c89 :: c90 :: c91 :: c92 :: c93 :: c94 :: c95 :: c96 :: c97 :: c98 :: c99 :: c100 :: c101 :: c102 :: c103 :: c104 :: c105 :: c106 :: c107 :: c108 :: c109 :: c110 :: c111 :: c112 :: c113 :: c114 :: c115 :: c116 :: c117 :: c118 :: c119 :: c120 :: c121 :: c122 :: c123 :: c124 :: c125 :: c126 :: c127 :: c128 :: c129 :: c130 :: c131 :: c132 :: c133 :: c134 :: c135 :: c136 :: c137 :: c138 :: c139 :: c140 :: c141 :: c142 :: c143 :: c144 :: c145 :: c146 :: c147 :: c148 :: c149 :: c150 :: c151 :: c152 :: c153 :: c154 :: c155 :: c156 :: c157 :: c158 :: c159 :: c160 :: c161 :: c162 :: c163 :: c164 :: c165 :: c166 :: c167 :: c168 :: c169 :: c170 :: c171 :: c172 :: c173 :: c174 :: c175 :: c176 :: c177 :: c178 :: c179 :: c180 :: c181 :: c182 :: c183 :: c184 :: c185 :: c186 :: c187 :: c188 :: c189 :: c190 :: c191 :: c192 :: c193 :: c194 :: c195 :: c196 :: c197 :: c198 :: c199 :: c200 :: c201 :: c202 :: c203 :: c204 :: c205 :: c206 :: c207 :: c208 :: c209 :: c210 :: c211 :: c212 :: c213 :: c214 :: c215 :: c216 :: c217 :: c218 :: c219 :: c220 :: c221 :: c222 :: c223 :: c224 :: c225 :: c226 :: c227 :: c228 :: c229 :: c230 :: c231 :: c232 :: c233 :: c234 :: c235 :: c236 :: c237 :: c238 :: c239 :: c240 :: c241 :: c242 :: c243 :: c244 :: c245 :: c246 :: c247 :: c248 :: c249 :: c250 :: c251 :: c252 :: c253 :: c254 :: c255 :: c256 :: c257 :: c258 :: c259 :: c260 :: c261 :: c262 :: []).toArray, []⟩ W5 := by
  conv =>
    arg 2
    arg 1
    whnf
  go_loopw [22] (fun i wr => ∃ k : Nat, k ≤ 8 ∧ i = .int .i64 k ∧ wr.ownsRow B 27 1 (.slice (some ⟨gh, 0, none⟩) 8 ch) 8 (rowOf .u64 8 (PTo s t k)) ∧ (∀ j, j < 8 → wr.cell? ⟨gv, j, none⟩ = some (.int .u64 (t.at j))) ∧ Below B W5 wr) (fun i _ => 8 - (intOf i).toNat)
  case atStart => exact ⟨0, by omega, rfl, by rw [show rowOf .u64 8 (PTo s t 0) = rowOf .u64 8 s.at from rfl]; exact hown.out, hv.out, Below.refl _ _⟩
  case round =>
    clear hown hv
    obtain ⟨k, hk, rfl, ho, hvv, hb⟩ := hrel
    have HO := Lib.hid ho
    have HV := Lib.hid hvv
    have HB := Lib.hid hb
    clear ho hvv hb
    by_cases hlt : k < 8
    · clear hexit
      have hk8 : (k : Int) < 8 := by omega
      have ck : wr.cell? ⟨gh, k, none⟩ = some (.int .u64 (s.at k)) := by
        rw [HO.out.cellAt k (by omega), rowOf_get _ _ _ _ hlt]
        unfold PTo
        rw [if_neg (by omega)]
      have fk : wr.frozen? ⟨gh, k, none⟩ = false := HO.out.frozenAt k
      have cv1 : wr.cell? ⟨gv, k, none⟩ = some (.int .u64 (t.at k)) := HV.out k hlt
      have hq : Hid (IntKind.u64.wrap ((s.at k : Int) + (t.at k : Int)) = ((add (s.at k) (t.at k) : Nat) : Int)) := Lib.hid (wadd _ _)
      have HO2 : Hid ((wr.drew.setCell ⟨gh, k, none⟩ (.int .u64 (add (s.at k) (t.at k)))).ownsRow B 27 1 (.slice (some ⟨gh, 0, none⟩) 8 ch) 8 (rowOf .u64 8 (PTo s t (k + 1)))) := by
        unfold Hid
        have h := (HO.out.drew.stored k (.int .u64 (add (s.at k) (t.at k)))).1
        rw [rowOf_setL, rowOf_ext (PTo_step s t k)] at h
        exact h
      have HB2 : Hid (Below B W5 (wr.drew.setCell ⟨gh, k, none⟩ (.int .u64 (add (s.at k) (t.at k))))) := Lib.hid (HB.out.drew.setCell (p := ⟨gh, k, none⟩) (HO.out.lt gh rfl).1 _)
      have HV2 : Hid (∀ j, j < 8 → (wr.drew.setCell ⟨gh, k, none⟩ (.int .u64 (add (s.at k) (t.at k)))).cell? ⟨gv, j, none⟩ = some (.int .u64 (t.at j))) := fun j hj => (cell_setCell_other _ _ _ _ hne.out).trans (HV.out j hj)
      generalize add (s.at k) (t.at k) = q at *
      generalize s.at k = x1 at *
      generalize t.at k = y1 at *
      go_wp2
      go_still_tail 12, (by kernel_rfl)
      change wpList _ _ _ _ _ wr.drew
      go_wp2
      go_roundw
      case rel =>
        rw [hq.out]
        exact ⟨k + 1, by omega, by go_num, HO2.out, HV2.out, HB2.out⟩
      case measure => simp [intOf]; omega
    · obtain rfl : k = 8 := by omega
      have HE := Lib.hid hexit
      have HO3 : Hid (wr.ownsRow B 27 1 (.slice (some ⟨gh, 0, none⟩) 8 ch) 8 (rowOf .u64 8 (plus s t).at)) := HO
      clear hexit HO HV
      rw [show ((8 : Nat) : Int) = (8 : Int) from rfl]
      go_wp2
      exact HE.out _ _ _ _ _ _ _ _ _ _ _ _ _ _ _ _ wr HO3 HB
end Go.Proofs.Ytnajglmabgofeaa
