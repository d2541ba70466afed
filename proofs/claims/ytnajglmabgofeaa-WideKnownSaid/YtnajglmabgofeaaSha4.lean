/- The document's Wide: the 16 numbers that a block begins with. -/
import Derived.Test.YtnajglmabgofeaaSha5
import Derived.Deep.DeepCutAuto
import Derived.Deep.CutBlock
import Derived.StillTailTactics
namespace Go.Proofs.Ytnajglmabgofeaa
open Go.RowKit
set_option linter.unusedVariables false
noncomputable def shaB4 : Code := (loopsOf shaB3).getD 0 .skip
theorem extract_size (T : ByteArray) (a b : Nat) (h : b ≤ T.size) : (T.extract a b).size = b - a := by
  rw [ByteArray.size_extract]; omega
set_option maxRecDepth 100000 in
set_option maxHeartbeats 2000000 in
theorem sha4_ok (T : ByteArray) (l : List UInt8) (AT B : Nat) (W5 : World) (Q : Exit → Act → World → Prop) (c1 c2 c3 c4 c5 c6 c7 c11 c12 c13 c14 c15 c16 c17 c18 c19 c20 c21 c22 c23 c24 c25 c26 c27 c28 c29 c30 c31 c32 c33 c34 c35 c36 c37 c38 c39 c40 c41 c42 c43 c44 c45 c46 c47 c48 c49 c50 c51 c52 c53 c54 c55 c56 c57 c58 c59 c60 c61 c62 c63 c64 c65 c66 c67 c68 c69 c70 c71 c72 c73 c74 c75 c76 c77 c78 c79 c80 c81 c82 c83 c84 c85 c86 c87 c88 c89 c90 c91 c92 c93 c94 c95 c96 c97 c98 c99 c100 c101 c102 c103 c104 c105 c106 c107 c108 c109 c110 c111 c112 c113 c114 c115 c116 c117 c118 c119 c120 c121 c122 c123 c124 c125 c126 c127 c128 c129 c130 c131 c132 c133 c134 c135 c136 c137 c138 c139 c140 c141 c142 c143 c144 c145 c146 c147 c148 c149 c150 c151 c152 c153 c154 c155 c156 c157 c158 c159 c160 c161 c162 c163 c164 c165 c166 c167 c168 c169 c170 c171 c172 c173 c174 c175 c176 c177 c178 c179 c180 c181 c182 c183 c184 c185 c186 c187 c188 c189 c190 c191 c192 c193 c194 c195 c196 c197 c198 c199 c200 c201 c202 c203 c204 c205 c206 c207 c208 c209 c210 c211 c212 c213 c214 c215 c216 c217 c218 c219 c220 c221 c222 c223 c224 c225 c226 c227 c228 c229 c230 c231 c232 c233 c234 c235 c236 c237 c238 c239 c240 c241 c242 c243 c244 c245 c246 c247 c248 c249 c250 c251 c252 c253 c254 c255 c256 c257 c258 c259 c260 c261 c262 : Value)
    (hB : B ≤ W5.heap.size) (hfit : AT + 128 ≤ T.size) (hsz : T.size ≤ 1000000) (hl : Hid (∀ i, i < 16 → be (T.extract (AT + 8 * i) (AT + 8 * i + 8)).data.toList 0 = W l i))
    (hexit : ∀ (u65 u66 u67 u68 u69 u70 u71 u72 u73 u74 u75 u76 u77 u78 u79 u80 u81 u82 u83 : Value) (p : Option Addr) (cz : Nat) (wx : World), Hid (wx.ownsRow B 27 1 (.slice p 16 cz) 16 (numsV .u64 (wl l 16))) → Hid (Below B W5 wx) → Q (.exit 6) ⟨((.string T) :: c1 :: c2 :: c3 :: c4 :: c5 :: c6 :: c7 :: (.int .i64 (AT : Nat)) :: (.slice p 16 cz) :: (.int .i64 16) :: c11 :: c12 :: c13 :: c14 :: c15 :: c16 :: c17 :: c18 :: c19 :: c20 :: c21 :: c22 :: c23 :: c24 :: c25 :: c26 :: c27 :: c28 :: c29 :: c30 :: c31 :: c32 :: c33 :: c34 :: c35 :: c36 :: c37 :: c38 :: c39 :: c40 :: c41 :: c42 :: c43 :: c44 :: c45 :: c46 :: c47 :: c48 :: c49 :: c50 :: c51 :: c52 :: c53 :: c54 :: c55 :: c56 :: c57 :: c58 :: c59 :: c60 :: c61 :: c62 :: c63 :: c64 :: u65 :: u66 :: u67 :: u68 :: u69 :: u70 :: u71 :: u72 :: u73 :: u74 :: u75 :: u76 :: u77 :: u78 :: u79 :: u80 :: u81 :: u82 :: u83 :: c84 :: c85 :: c86 :: c87 :: c88 :: c89 :: c90 :: c91 :: c92 :: c93 :: c94 :: c95 :: c96 :: c97 :: c98 :: c99 :: c100 :: c101 :: c102 :: c103 :: c104 :: c105 :: c106 :: c107 :: c108 :: c109 :: c110 :: c111 :: c112 :: c113 :: c114 :: c115 :: c116 :: c117 :: c118 :: c119 :: c120 :: c121 :: c122 :: c123 :: c124 :: c125 :: c126 :: c127 :: c128 :: c129 :: c130 :: c131 :: c132 :: c133 :: c134 :: c135 :: c136 :: c137 :: c138 :: c139 :: c140 :: c141 :: c142 :: c143 :: c144 :: c145 :: c146 :: c147 :: c148 :: c149 :: c150 :: c151 :: c152 :: c153 :: c154 :: c155 :: c156 :: c157 :: c158 :: c159 :: c160 :: c161 :: c162 :: c163 :: c164 :: c165 :: c166 :: c167 :: c168 :: c169 :: c170 :: c171 :: c172 :: c173 :: c174 :: c175 :: c176 :: c177 :: c178 :: c179 :: c180 :: c181 :: c182 :: c183 :: c184 :: c185 :: c186 :: c187 :: c188 :: c189 :: c190 :: c191 :: c192 :: c193 :: c194 :: c195 :: c196 :: c197 :: c198 :: c199 :: c200 :: c201 :: c202 :: c203 :: c204 :: c205 :: c206 :: c207 :: c208 :: c209 :: c210 :: c211 :: c212 :: c213 :: c214 :: c215 :: c216 :: c217 :: c218 :: c219 :: c220 :: c221 :: c222 :: c223 :: c224 :: c225 :: c226 :: c227 :: c228 :: c229 :: c230 :: c231 :: c232 :: c233 :: c234 :: c235 :: c236 :: c237 :: c238 :: c239 :: c240 :: c241 :: c242 :: c243 :: c244 :: c245 :: c246 :: c247 :: c248 :: c249 :: c250 :: c251 :: c252 :: c253 :: c254 :: c255 :: c256 :: c257 :: c258 :: c259 :: c260 :: c261 :: c262 :: []).toArray, []⟩ wx) :
    Code.wp Try.prog (Code.loop shaB4) Q ⟨((.string T) :: c1 :: c2 :: c3 :: c4 :: c5 :: c6 :: c7 :: (.int .i64 (AT : Nat)) :: (.slice none 0 0) :: (.int .i64 0) :: c11 :: c12 :: c13 :: c14 :: c15 :: c16 :: c17 :: c18 :: c19 :: c20 :: c21 :: c22 :: c23 :: c24 :: c25 :: c26 :: c27 :: c28 :: c29 :: c30 :: c31 :: c32 :: c33 :: c34 :: c35 :: c36 :: c37 :: c38 :: c39 :: c40 :: c41 :: c42 :: c43 :: c44 :: c45 :: c46 :: c47 :: c48 :: c49 :: c50 :: c51 :: c52 :: c53 :: c54 :: c55 :: c56 :: c57 :: c58 :: c59 :: c60 :: c61 :: c62 :: c63 :: c64 :: c65 :: c66 :: c67 :: c68 :: c69 :: c70 :: c71 :: c72 :: c73 :: c74 :: c75 :: c76 :: c77 :: c78 :: c79 :: c80 :: c81 :: c82 :: c83 :: c84 :: c85 :: c86 :: c87 :: c88 :: c89 :: c90 :: c91 :: c92 :: c93 :: c94 :: c95 :: c96 :: c97 :: c98 :: c99 :: c100 :: c101 :: c102 :: c103 :: c104 :: c105 :: c106 :: c107 :: c108 :: c109 :: c110 :: c111 :: c112 :: c113 :: c114 :: c115 :: c116 :: c117 :: c118 :: c119 :: c120 :: c121 :: c122 :: c123 :: c124 :: c125 :: c126 :: c127 :: c128 :: c129 :: c130 :: c131 :: c132 :: c133 :: c134 :: c135 :: c136 :: c137 :: c138 :: c139 :: c140 :: c141 :: c142 :: c143 :: c144 :: c145 :: c146 :: c147 :: c148 :: c149 :: c150 :: c151 :: c152 :: c153 :: c154 :: c155 :: c156 :: c157 :: c158 :: c159 :: c160 :: c161 :: c162 :: c163 :: c164 :: c165 :: c166 :: c167 :: c168 :: c169 :: c170 :: c171 :: c172 :: c173 :: c174 :: c175 :: c176 :: c177 :: c178 :: c179 :: c180 :: c181 :: c182 :: c183 :: c184 :: c185 :: c186 :: c187 :: c188 :: c189 :: c190 :: c191 :: c192 :: c193 :: c194 :: c195 :: c196 :: c197 :: c198 :: c199 :: c200 :: c201 :: c202 :: c203 :: c204 :: c205 :: c206 :: c207 :: c208 :: c209 :: c210 :: c211 :: c212 :: c213 :: c214 :: c215 :: c216 :: c217 :: c218 :: c219 :: c220 :: c221 :: c222 :: c223 :: c224 :: c225 :: c226 :: c227 :: c228 :: c229 :: c230 :: c231 :: c232 :: c233 :: c234 :: c235 :: c236 :: c237 :: c238 :: c239 :: c240 :: c241 :: c242 :: c243 :: c244 :: c245 :: c246 :: c247 :: c248 :: c249 :: c250 :: c251 :: c252 :: c253 :: c254 :: c255 :: c256 :: c257 :: c258 :: c259 :: c260 :: c261 :: c262 :: []).toArray, []⟩ W5 := by
  conv =>
    arg 2
    arg 1
    whnf
  go_loopw [9, 10] (fun v i wr => ∃ k : Nat, ∃ p cz, k ≤ 16 ∧ i = .int .i64 k ∧ v = .slice p k cz ∧ wr.ownsRow B 27 1 (.slice p k cz) k (numsV .u64 (wl l k)) ∧ Below B W5 wr ∧ B ≤ wr.heap.size) (fun _ i _ => 16 - (intOf i).toNat)
  case atStart => exact ⟨0, none, 0, by omega, rfl, rfl, World.ownsRow_nil _ _ _ _, Below.refl _ _, hB⟩
  case round =>
    obtain ⟨k, p, cc, hk, rfl, rfl, ho, hb, hBr⟩ := hrel
    have HO := Lib.hid ho
    have HB := Lib.hid hb
    clear ho hb
    by_cases hlt : k < 16
    · clear hexit
      have hk8 : (k : Int) < 16 := by omega
      have hes : (T.extract (AT + 8 * k) (AT + 8 * k + 8)).size = 8 := by rw [extract_size _ _ _ (by omega)]; omega
      have hbig := Lib.hid (big_any (T.extract (AT + 8 * k) (AT + 8 * k + 8)) hes)
      have hlk := hl.out k hlt
      rw [hlk] at hbig
      have hWl := W_lt l k
      obtain ⟨x, hx⟩ : ∃ x, Hid (x = W l k) := ⟨_, Lib.hid rfl⟩
      rw [← hx.out] at hbig hWl
      have hWI : (x : Int) < 18446744073709551616 := by omega
      obtain ⟨a1, ha1⟩ : ∃ a, Hid (a = AT + 8 * k) := ⟨_, Lib.hid rfl⟩
      have e1 : (AT : Int) + 8 * (k : Int) = (a1 : Int) := by rw [ha1.out]; omega
      have b1 : a1 + 8 ≤ T.size := by rw [ha1.out]; omega
      have w1 : (IntKind.i64.wrap (8 * (k : Int))) = 8 * (k : Int) := IntWalk.i64_in _ (by omega)
      have w2 : (IntKind.i64.wrap ((AT : Int) + 8 * (k : Int))) = (a1 : Int) := by rw [IntWalk.i64_in _ (by omega)]; exact e1
      rw [← ha1.out] at hbig
      obtain ⟨X, hX⟩ : ∃ X, Hid (X = T.extract a1 (a1 + 8)) := ⟨_, Lib.hid rfl⟩
      rw [← hX.out] at hbig
      obtain ⟨p', c', W3, happ, hown', hbel⟩ := nums_app 25 27 .u64 8 (by decide) Try.underlying25 info27 HO.out HB.out hBr x (by omega)
      have hbb : B ≤ W3.heap.size := hbel.size |> fun h => by omega
      rw [hx.out, ← wl_succ] at hown'
      have HAPP := Lib.hid happ
      have HO3 := Lib.hid hown'
      have HF := Lib.hid hbel
      clear happ hown' hbel HO HB hes hlk hl
      go_wp2_with (fail)
      rw [← hX.out]
      refine (hbig.out _).mono ?_
      rintro e w' ⟨rfl, rfl⟩
      go_wp2_with (at_builtin; refine wpList_run rfl _ (HAPP.out _ _ (.tmp 69) (.tmp 82) rfl rfl rfl) ?_)
      go_roundw
      case rel => exact ⟨k + 1, p', c', by omega, by go_num, rfl, HO3.out, HF.out, hbb⟩
      case measure => simp [intOf]; omega
    · obtain rfl : k = 16 := by omega
      have HE := Lib.hid hexit
      clear hexit
      rw [show ((16 : Nat) : Int) = (16 : Int) from rfl]
      go_wp2
      exact HE.out _ _ _ _ _ _ _ _ _ _ _ _ _ _ _ _ _ _ _ _ _ wr HO HB
end Go.Proofs.Ytnajglmabgofeaa
