/- The other loops of the document's Wide: the eight that it begins with, what fills up, and what is told. -/
import Derived.Test.YtnajglmabgofeaaSha3
import Derived.Test.YtnajglmabgofeaaTell
import Derived.Deep.DeepCutAuto
import Derived.Deep.CutBlock
import Derived.StillTailTactics
namespace Go.Proofs.Ytnajglmabgofeaa
open Go.RowKit
set_option linter.unusedVariables false
noncomputable def shaB1 : Code := ((Try.f8.body.map fun c => (loopsOf c).getD 0 .skip)).getD .skip
noncomputable def shaB2 : Code := ((Try.f8.body.map fun c => (loopsOf c).getD 1 .skip)).getD .skip
noncomputable def shaB8 : Code := ((Try.f8.body.map fun c => (loopsOf c).getD 3 .skip)).getD .skip
def fq (y : N4) : Nat := (rootL y false).a
def sqrF (p : Nat) : Nat := fq ⟨0, 0, p, 0⟩
theorem fq_eq (y : N4) : (rootL y false).a = fq y := rfl
theorem sqrF_eq (x : Nat) : (rootL ⟨0, 0, x, 0⟩ false).a = sqrF x := fq_eq _
theorem sqrF_all : (pL.take 8).map sqrF = [h0.a, h0.b, h0.c, h0.d, h0.e, h0.f, h0.g, h0.h] := by decide +kernel
def sqL8 (k : Nat) : List Nat := (pL.take k).map sqrF
theorem sqL8_get (k x : Nat) (hx : pL[k]? = some x) : sqL8 (k + 1) = sqL8 k ++ [sqrF x] := by
  unfold sqL8
  rw [List.take_add_one, hx, List.map_append]; rfl
theorem sqL8_all : numsV .u64 (sqL8 8) = rowOf .u64 8 h0.at := by
  unfold sqL8
  rw [sqrF_all]; rfl
set_option maxRecDepth 100000 in
set_option maxHeartbeats 2000000 in
theorem sha1_ok (gp cp B : Nat) (W5 : World) (Q : Exit → Act → World → Prop) (c0 c1 c2 c3 c7 c8 c9 c10 c11 c12 c13 c14 c15 c16 c17 c18 c19 c20 c21 c22 c23 c24 c25 c26 c27 c28 c29 c30 c31 c32 c33 c34 c35 c36 c37 c38 c39 c40 c41 c42 c43 c44 c45 c46 c47 c48 c49 c50 c51 c52 c53 c54 c55 c56 c57 c58 c59 c60 c61 c62 c63 c64 c65 c66 c67 c68 c69 c70 c71 c72 c73 c74 c75 c76 c77 c78 c79 c80 c81 c82 c83 c84 c85 c86 c87 c88 c89 c90 c91 c92 c93 c94 c95 c96 c97 c98 c99 c100 c101 c102 c103 c104 c105 c106 c107 c108 c109 c110 c111 c112 c113 c114 c115 c116 c117 c118 c119 c120 c121 c122 c123 c124 c125 c126 c127 c128 c129 c130 c131 c132 c133 c134 c135 c136 c137 c138 c139 c140 c141 c142 c143 c144 c145 c146 c147 c148 c149 c150 c151 c152 c153 c154 c155 c156 c157 c158 c159 c160 c161 c162 c163 c164 c165 c166 c167 c168 c169 c170 c171 c172 c173 c174 c175 c176 c177 c178 c179 c180 c181 c182 c183 c184 c185 c186 c187 c188 c189 c190 c191 c192 c193 c194 c195 c196 c197 c198 c199 c200 c201 c202 c203 c204 c205 c206 c207 c208 c209 c210 c211 c212 c213 c214 c215 c216 c217 c218 c219 c220 c221 c222 c223 c224 c225 c226 c227 c228 c229 c230 c231 c232 c233 c234 c235 c236 c237 c238 c239 c240 c241 c242 c243 c244 c245 c246 c247 c248 c249 c250 c251 c252 c253 c254 c255 c256 c257 c258 c259 c260 c261 c262 : Value)
    (hcp : 8 ≤ cp) (hgp : gp < B) (hB : B ≤ W5.heap.size) (hp : Hid (∀ j x : Nat, j < 8 → pL[j]? = some x → W5.cell? ⟨gp, j, none⟩ = some (.int .u64 x)))
    (hexit : ∀ (u27 u28 u29 u30 u31 u32 u33 u34 u35 u36 u37 u38 u39 u40 : Value) (p : Option Addr) (cz : Nat) (wx : World), Hid (wx.ownsRow B 27 1 (.slice p 8 cz) 8 (rowOf .u64 8 h0.at)) → Hid (Below B W5 wx) → Q (.exit 0) ⟨(c0 :: c1 :: c2 :: c3 :: (.slice (some ⟨gp, 0, none⟩) 8 cp) :: (.slice p 8 cz) :: (.int .i64 8) :: c7 :: c8 :: c9 :: c10 :: c11 :: c12 :: c13 :: c14 :: c15 :: c16 :: c17 :: c18 :: c19 :: c20 :: c21 :: c22 :: c23 :: c24 :: c25 :: c26 :: u27 :: u28 :: u29 :: u30 :: u31 :: u32 :: u33 :: u34 :: u35 :: u36 :: u37 :: u38 :: u39 :: u40 :: c41 :: c42 :: c43 :: c44 :: c45 :: c46 :: c47 :: c48 :: c49 :: c50 :: c51 :: c52 :: c53 :: c54 :: c55 :: c56 :: c57 :: c58 :: c59 :: c60 :: c61 :: c62 :: c63 :: c64 :: c65 :: c66 :: c67 :: c68 :: c69 :: c70 :: c71 :: c72 :: c73 :: c74 :: c75 :: c76 :: c77 :: c78 :: c79 :: c80 :: c81 :: c82 :: c83 :: c84 :: c85 :: c86 :: c87 :: c88 :: c89 :: c90 :: c91 :: c92 :: c93 :: c94 :: c95 :: c96 :: c97 :: c98 :: c99 :: c100 :: c101 :: c102 :: c103 :: c104 :: c105 :: c106 :: c107 :: c108 :: c109 :: c110 :: c111 :: c112 :: c113 :: c114 :: c115 :: c116 :: c117 :: c118 :: c119 :: c120 :: c121 :: c122 :: c123 :: c124 :: c125 :: c126 :: c127 :: c128 :: c129 :: c130 :: c131 :: c132 :: c133 :: c134 :: c135 :: c136 :: c137 :: c138 :: c139 :: c140 :: c141 :: c142 :: c143 :: c144 :: c145 :: c146 :: c147 :: c148 :: c149 :: c150 :: c151 :: c152 :: c153 :: c154 :: c155 :: c156 :: c157 :: c158 :: c159 :: c160 :: c161 :: c162 :: c163 :: c164 :: c165 :: c166 :: c167 :: c168 :: c169 :: c170 :: c171 :: c172 :: c173 :: c174 :: c175 :: c176 :: c177 :: c178 :: c179 :: c180 :: c181 :: c182 :: c183 :: c184 :: c185 :: c186 :: c187 :: c188 :: c189 :: c190 :: c191 :: c192 :: c193 :: c194 :: c195 :: c196 :: c197 :: c198 :: c199 :: c200 :: c201 :: c202 :: c203 :: c204 :: c205 :: c206 :: c207 :: c208 :: c209 :: c210 :: c211 :: c212 :: c213 :: c214 :: c215 :: c216 :: c217 :: c218 :: c219 :: c220 :: c221 :: c222 :: c223 :: c224 :: c225 :: c226 :: c227 :: c228 :: c229 :: c230 :: c231 :: c232 :: c233 :: c234 :: c235 :: c236 :: c237 :: c238 :: c239 :: c240 :: c241 :: c242 :: c243 :: c244 :: c245 :: c246 :: c247 :: c248 :: c249 :: c250 :: c251 :: c252 :: c253 :: c254 :: c255 :: c256 :: c257 :: c258 :: c259 :: c260 :: c261 :: c262 :: []).toArray, []⟩ wx) :
    Code.wp Try.prog (Code.loop shaB1) Q ⟨(c0 :: c1 :: c2 :: c3 :: (.slice (some ⟨gp, 0, none⟩) 8 cp) :: (.slice none 0 0) :: (.int .i64 0) :: c7 :: c8 :: c9 :: c10 :: c11 :: c12 :: c13 :: c14 :: c15 :: c16 :: c17 :: c18 :: c19 :: c20 :: c21 :: c22 :: c23 :: c24 :: c25 :: c26 :: c27 :: c28 :: c29 :: c30 :: c31 :: c32 :: c33 :: c34 :: c35 :: c36 :: c37 :: c38 :: c39 :: c40 :: c41 :: c42 :: c43 :: c44 :: c45 :: c46 :: c47 :: c48 :: c49 :: c50 :: c51 :: c52 :: c53 :: c54 :: c55 :: c56 :: c57 :: c58 :: c59 :: c60 :: c61 :: c62 :: c63 :: c64 :: c65 :: c66 :: c67 :: c68 :: c69 :: c70 :: c71 :: c72 :: c73 :: c74 :: c75 :: c76 :: c77 :: c78 :: c79 :: c80 :: c81 :: c82 :: c83 :: c84 :: c85 :: c86 :: c87 :: c88 :: c89 :: c90 :: c91 :: c92 :: c93 :: c94 :: c95 :: c96 :: c97 :: c98 :: c99 :: c100 :: c101 :: c102 :: c103 :: c104 :: c105 :: c106 :: c107 :: c108 :: c109 :: c110 :: c111 :: c112 :: c113 :: c114 :: c115 :: c116 :: c117 :: c118 :: c119 :: c120 :: c121 :: c122 :: c123 :: c124 :: c125 :: c126 :: c127 :: c128 :: c129 :: c130 :: c131 :: c132 :: c133 :: c134 :: c135 :: c136 :: c137 :: c138 :: c139 :: c140 :: c141 :: c142 :: c143 :: c144 :: c145 :: c146 :: c147 :: c148 :: c149 :: c150 :: c151 :: c152 :: c153 :: c154 :: c155 :: c156 :: c157 :: c158 :: c159 :: c160 :: c161 :: c162 :: c163 :: c164 :: c165 :: c166 :: c167 :: c168 :: c169 :: c170 :: c171 :: c172 :: c173 :: c174 :: c175 :: c176 :: c177 :: c178 :: c179 :: c180 :: c181 :: c182 :: c183 :: c184 :: c185 :: c186 :: c187 :: c188 :: c189 :: c190 :: c191 :: c192 :: c193 :: c194 :: c195 :: c196 :: c197 :: c198 :: c199 :: c200 :: c201 :: c202 :: c203 :: c204 :: c205 :: c206 :: c207 :: c208 :: c209 :: c210 :: c211 :: c212 :: c213 :: c214 :: c215 :: c216 :: c217 :: c218 :: c219 :: c220 :: c221 :: c222 :: c223 :: c224 :: c225 :: c226 :: c227 :: c228 :: c229 :: c230 :: c231 :: c232 :: c233 :: c234 :: c235 :: c236 :: c237 :: c238 :: c239 :: c240 :: c241 :: c242 :: c243 :: c244 :: c245 :: c246 :: c247 :: c248 :: c249 :: c250 :: c251 :: c252 :: c253 :: c254 :: c255 :: c256 :: c257 :: c258 :: c259 :: c260 :: c261 :: c262 :: []).toArray, []⟩ W5 := by
  conv =>
    arg 2
    arg 1
    whnf
  go_loopw [5, 6] (fun v i wr => ∃ k : Nat, ∃ p cz, k ≤ 8 ∧ i = .int .i64 k ∧ v = .slice p k cz ∧ wr.ownsRow B 27 1 (.slice p k cz) k (numsV .u64 (sqL8 k)) ∧ Below B W5 wr ∧ B ≤ wr.heap.size) (fun _ i _ => 8 - (intOf i).toNat)
  case atStart => exact ⟨0, none, 0, by omega, rfl, rfl, World.ownsRow_nil _ _ _ _, Below.refl _ _, hB⟩
  case round =>
    obtain ⟨k, p, cc, hk, rfl, rfl, ho, hb, hBr⟩ := hrel
    have HO := Lib.hid ho
    have HB := Lib.hid hb
    clear ho hb
    by_cases hlt : k < 8
    · clear hexit
      have hk8 : (k : Int) < 8 := by omega
      obtain ⟨x, hx⟩ : ∃ x, pL[k]? = some x := ⟨pL[k]'(by rw [pL_len]; omega), List.getElem?_eq_getElem _⟩
      have hcell : wr.cell? ⟨gp, k, none⟩ = some (.int .u64 x) := (HB.out.cell (p := ⟨gp, k, none⟩) hgp).trans (hp.out k x hlt hx)
      have HSG := Lib.hid (sqL8_get k x hx)
      have hx400 := (pL_pos x (List.mem_of_getElem? hx)).2
      clear hx
      have hok : N4.ok ⟨0, 0, x, 0⟩ := by
        unfold N4.ok; simp; omega
      have hroot := Lib.hid (root2_any ⟨0, 0, x, 0⟩ hok)
      have hl4 : Hid ((#[.int .u64 0, .int .u64 0, .int .u64 (x : Int), .int .u64 0] : Array Value) = (l4 ⟨0, 0, x, 0⟩).toArray) := Lib.hid rfl
      have HC : Hid ((rootL ⟨0, 0, x, 0⟩ false).a = sqrF x) := Lib.hid (sqrF_eq x)
      obtain ⟨R, hR⟩ : ∃ R, R = rootL ⟨0, 0, x, 0⟩ false := ⟨_, rfl⟩
      rw [← hR] at hroot HC
      clear hR hok
      rw [← hl4.out] at hroot
      go_wp2_with fail
      refine (hroot.out _).mono ?_
      rintro e w2 ⟨rfl, hb2⟩
      have hix := index47 R w2
      rw [HC.out] at hix
      have hb3 : Below B W5 w2 := HB.out.trans (hb2.mono hBr)
      have hBw : B ≤ w2.heap.size := Nat.le_trans hBr hb2.size
      have hown2 := own_below HO.out hb2 (Nat.le_refl _)
      obtain ⟨p', c', W3, happ, hown', hbel⟩ := nums_app 25 27 .u64 8 (by decide) Try.underlying25 info27 hown2 hb3 hBw (sqrF x) (by omega)
      have hbb : B ≤ W3.heap.size := Nat.le_trans hB hbel.size
      rw [← HSG.out] at hown'
      have HAPP := Lib.hid happ
      have HO3 := Lib.hid hown'
      have HF := Lib.hid hbel
      clear happ hown' hbel hown2 hb3 hb2 HO HB hcell hl4 hroot HC
      go_wp2_with (at_builtin; refine wpList_run rfl _ (HAPP.out _ _ (.tmp 31) (.tmp 39) rfl rfl rfl) ?_)
      go_roundw
      case rel => exact ⟨k + 1, p', c', by omega, by go_num, rfl, HO3.out, HF.out, hbb⟩
      case measure => simp [intOf]; omega
    · obtain rfl : k = 8 := by omega
      have HE := Lib.hid hexit
      have HO2 : Hid (wr.ownsRow B 27 1 (.slice p 8 cc) 8 (rowOf .u64 8 h0.at)) := by unfold Hid; rw [← sqL8_all]; exact HO.out
      clear hexit
      rw [show ((8 : Nat) : Int) = (8 : Int) from rfl]
      go_wp2
      exact HE.out _ _ _ _ _ _ _ _ _ _ _ _ _ _ _ _ wr HO2 HB
def strLen : Value → Nat
  | .string s => s.size
  | _ => 0
theorem data_append (a b : ByteArray) : (a ++ b).data.toList = a.data.toList ++ b.data.toList := by simp
set_option maxRecDepth 100000 in
set_option maxHeartbeats 2000000 in
theorem sha2_ok (S : ByteArray) (l : List UInt8) (W5 : World) (Q : Exit → Act → World → Prop) (c1 c2 c3 c4 c5 c6 c7 c8 c9 c10 c11 c12 c13 c14 c15 c16 c17 c18 c19 c20 c21 c22 c23 c24 c25 c26 c27 c28 c29 c30 c31 c32 c33 c34 c35 c36 c37 c38 c39 c40 c41 c42 c43 c44 c45 c46 c47 c48 c49 c50 c51 c52 c53 c54 c55 c56 c57 c58 c59 c60 c61 c62 c63 c64 c65 c66 c67 c68 c69 c70 c71 c72 c73 c74 c75 c76 c77 c78 c79 c80 c81 c82 c83 c84 c85 c86 c87 c88 c89 c90 c91 c92 c93 c94 c95 c96 c97 c98 c99 c100 c101 c102 c103 c104 c105 c106 c107 c108 c109 c110 c111 c112 c113 c114 c115 c116 c117 c118 c119 c120 c121 c122 c123 c124 c125 c126 c127 c128 c129 c130 c131 c132 c133 c134 c135 c136 c137 c138 c139 c140 c141 c142 c143 c144 c145 c146 c147 c148 c149 c150 c151 c152 c153 c154 c155 c156 c157 c158 c159 c160 c161 c162 c163 c164 c165 c166 c167 c168 c169 c170 c171 c172 c173 c174 c175 c176 c177 c178 c179 c180 c181 c182 c183 c184 c185 c186 c187 c188 c189 c190 c191 c192 c193 c194 c195 c196 c197 c198 c199 c200 c201 c202 c203 c204 c205 c206 c207 c208 c209 c210 c211 c212 c213 c214 c215 c216 c217 c218 c219 c220 c221 c222 c223 c224 c225 c226 c227 c228 c229 c230 c231 c232 c233 c234 c235 c236 c237 c238 c239 c240 c241 c242 c243 c244 c245 c246 c247 c248 c249 c250 c251 c252 c253 c254 c255 c256 c257 c258 c259 c260 c261 c262 : Value)
    (hS : Hid (S.data.toList = l ++ [128])) (hl : l.length ≤ 10000)
    (hexit : ∀ (u45 u46 u47 u48 u49 u50 : Value) (T : ByteArray), Hid (T.data.toList = l ++ 128 :: List.replicate (fill l.length) 0) → Q (.exit 2) ⟨((.string T) :: c1 :: c2 :: c3 :: c4 :: c5 :: c6 :: c7 :: c8 :: c9 :: c10 :: c11 :: c12 :: c13 :: c14 :: c15 :: c16 :: c17 :: c18 :: c19 :: c20 :: c21 :: c22 :: c23 :: c24 :: c25 :: c26 :: c27 :: c28 :: c29 :: c30 :: c31 :: c32 :: c33 :: c34 :: c35 :: c36 :: c37 :: c38 :: c39 :: c40 :: c41 :: c42 :: c43 :: c44 :: u45 :: u46 :: u47 :: u48 :: u49 :: u50 :: c51 :: c52 :: c53 :: c54 :: c55 :: c56 :: c57 :: c58 :: c59 :: c60 :: c61 :: c62 :: c63 :: c64 :: c65 :: c66 :: c67 :: c68 :: c69 :: c70 :: c71 :: c72 :: c73 :: c74 :: c75 :: c76 :: c77 :: c78 :: c79 :: c80 :: c81 :: c82 :: c83 :: c84 :: c85 :: c86 :: c87 :: c88 :: c89 :: c90 :: c91 :: c92 :: c93 :: c94 :: c95 :: c96 :: c97 :: c98 :: c99 :: c100 :: c101 :: c102 :: c103 :: c104 :: c105 :: c106 :: c107 :: c108 :: c109 :: c110 :: c111 :: c112 :: c113 :: c114 :: c115 :: c116 :: c117 :: c118 :: c119 :: c120 :: c121 :: c122 :: c123 :: c124 :: c125 :: c126 :: c127 :: c128 :: c129 :: c130 :: c131 :: c132 :: c133 :: c134 :: c135 :: c136 :: c137 :: c138 :: c139 :: c140 :: c141 :: c142 :: c143 :: c144 :: c145 :: c146 :: c147 :: c148 :: c149 :: c150 :: c151 :: c152 :: c153 :: c154 :: c155 :: c156 :: c157 :: c158 :: c159 :: c160 :: c161 :: c162 :: c163 :: c164 :: c165 :: c166 :: c167 :: c168 :: c169 :: c170 :: c171 :: c172 :: c173 :: c174 :: c175 :: c176 :: c177 :: c178 :: c179 :: c180 :: c181 :: c182 :: c183 :: c184 :: c185 :: c186 :: c187 :: c188 :: c189 :: c190 :: c191 :: c192 :: c193 :: c194 :: c195 :: c196 :: c197 :: c198 :: c199 :: c200 :: c201 :: c202 :: c203 :: c204 :: c205 :: c206 :: c207 :: c208 :: c209 :: c210 :: c211 :: c212 :: c213 :: c214 :: c215 :: c216 :: c217 :: c218 :: c219 :: c220 :: c221 :: c222 :: c223 :: c224 :: c225 :: c226 :: c227 :: c228 :: c229 :: c230 :: c231 :: c232 :: c233 :: c234 :: c235 :: c236 :: c237 :: c238 :: c239 :: c240 :: c241 :: c242 :: c243 :: c244 :: c245 :: c246 :: c247 :: c248 :: c249 :: c250 :: c251 :: c252 :: c253 :: c254 :: c255 :: c256 :: c257 :: c258 :: c259 :: c260 :: c261 :: c262 :: []).toArray, []⟩ W5) :
    Code.wp Try.prog (Code.loop shaB2) Q ⟨((.string S) :: c1 :: c2 :: c3 :: c4 :: c5 :: c6 :: c7 :: c8 :: c9 :: c10 :: c11 :: c12 :: c13 :: c14 :: c15 :: c16 :: c17 :: c18 :: c19 :: c20 :: c21 :: c22 :: c23 :: c24 :: c25 :: c26 :: c27 :: c28 :: c29 :: c30 :: c31 :: c32 :: c33 :: c34 :: c35 :: c36 :: c37 :: c38 :: c39 :: c40 :: c41 :: c42 :: c43 :: c44 :: c45 :: c46 :: c47 :: c48 :: c49 :: c50 :: c51 :: c52 :: c53 :: c54 :: c55 :: c56 :: c57 :: c58 :: c59 :: c60 :: c61 :: c62 :: c63 :: c64 :: c65 :: c66 :: c67 :: c68 :: c69 :: c70 :: c71 :: c72 :: c73 :: c74 :: c75 :: c76 :: c77 :: c78 :: c79 :: c80 :: c81 :: c82 :: c83 :: c84 :: c85 :: c86 :: c87 :: c88 :: c89 :: c90 :: c91 :: c92 :: c93 :: c94 :: c95 :: c96 :: c97 :: c98 :: c99 :: c100 :: c101 :: c102 :: c103 :: c104 :: c105 :: c106 :: c107 :: c108 :: c109 :: c110 :: c111 :: c112 :: c113 :: c114 :: c115 :: c116 :: c117 :: c118 :: c119 :: c120 :: c121 :: c122 :: c123 :: c124 :: c125 :: c126 :: c127 :: c128 :: c129 :: c130 :: c131 :: c132 :: c133 :: c134 :: c135 :: c136 :: c137 :: c138 :: c139 :: c140 :: c141 :: c142 :: c143 :: c144 :: c145 :: c146 :: c147 :: c148 :: c149 :: c150 :: c151 :: c152 :: c153 :: c154 :: c155 :: c156 :: c157 :: c158 :: c159 :: c160 :: c161 :: c162 :: c163 :: c164 :: c165 :: c166 :: c167 :: c168 :: c169 :: c170 :: c171 :: c172 :: c173 :: c174 :: c175 :: c176 :: c177 :: c178 :: c179 :: c180 :: c181 :: c182 :: c183 :: c184 :: c185 :: c186 :: c187 :: c188 :: c189 :: c190 :: c191 :: c192 :: c193 :: c194 :: c195 :: c196 :: c197 :: c198 :: c199 :: c200 :: c201 :: c202 :: c203 :: c204 :: c205 :: c206 :: c207 :: c208 :: c209 :: c210 :: c211 :: c212 :: c213 :: c214 :: c215 :: c216 :: c217 :: c218 :: c219 :: c220 :: c221 :: c222 :: c223 :: c224 :: c225 :: c226 :: c227 :: c228 :: c229 :: c230 :: c231 :: c232 :: c233 :: c234 :: c235 :: c236 :: c237 :: c238 :: c239 :: c240 :: c241 :: c242 :: c243 :: c244 :: c245 :: c246 :: c247 :: c248 :: c249 :: c250 :: c251 :: c252 :: c253 :: c254 :: c255 :: c256 :: c257 :: c258 :: c259 :: c260 :: c261 :: c262 :: []).toArray, []⟩ W5 := by
  conv =>
    arg 2
    arg 1
    whnf
  obtain ⟨n, hn⟩ : ∃ n, Hid (n = l.length) := ⟨_, Lib.hid rfl⟩
  obtain ⟨F, hF⟩ : ∃ F, Hid (F = fill n) := ⟨_, Lib.hid rfl⟩
  have hF64 : F < 128 := by rw [hF.out]; exact fill_lt n
  have hn1 : n ≤ 10000 := by rw [hn.out]; exact hl
  go_loop [0] (fun v => ∃ k : Nat, ∃ T : ByteArray, k ≤ F ∧ v = .string T ∧ Hid (T.data.toList = l ++ 128 :: List.replicate k 0)) (fun v => F + n + 1 - (strLen v))
  case atStart => exact ⟨0, S, Nat.zero_le _, rfl, hS⟩
  case round =>
    obtain ⟨k, T, hk, rfl, hT⟩ := hrel
    obtain ⟨sz, hsz⟩ : ∃ sz, T.size = sz := ⟨_, rfl⟩
    have hsz2 : Hid (sz = n + (k + 1)) := by
      unfold Hid
      rw [← hsz, hn.out, show T.size = T.data.toList.length from rfl, hT.out]
      simp
    have hszle : sz ≤ 20000 := by rw [hsz2.out]; omega
    by_cases hlt : k < F
    · have hne := fill_not n k (by rw [← hF.out]; exact hlt)
      have h2 : (((sz : Nat) : Int) % 128 != 112) = true := by rw [bne_iff_ne]; have := hsz2.out; omega
      have HT2 : Hid ((T ++ ({ data := #[0] } : ByteArray)).data.toList = l ++ 128 :: List.replicate (k + 1) 0) := by
        unfold Hid
        rw [data_append, hT.out, List.replicate_succ']
        simp
      have HSZ : Hid ((T ++ ({ data := #[0] } : ByteArray)).size = sz + 1) := by
        unfold Hid
        rw [ByteArray.size_append, hsz]; rfl
      clear hne hexit
      go_wp2
      go_round
      case rel => exact ⟨k + 1, _, by omega, rfl, HT2⟩
      case measure =>
        have := HSZ.out
        have := hsz2.out
        simp only [strLen]
        omega
    · obtain rfl : k = F := by omega
      have hne := fill_end n
      rw [← hF.out] at hne
      have h2 : (((sz : Nat) : Int) % 128 != 112) = false := by rw [bne_eq_false_iff_eq]; have := hsz2.out; omega
      have HE := Lib.hid hexit
      have HT2 : Hid (T.data.toList = l ++ 128 :: List.replicate (fill l.length) 0) := by unfold Hid; rw [← hn.out, ← hF.out]; exact hT.out
      clear hne hexit
      go_wp2
      exact HE.out _ _ _ _ _ _ T HT2
set_option maxRecDepth 100000 in
set_option maxHeartbeats 2000000 in
theorem sha8_ok (s : St) (gh ch B : Nat) (W5 : World) (Q : Exit → Act → World → Prop) (c0 c1 c2 c3 c4 c6 c7 c8 c9 c10 c11 c12 c13 c14 c15 c16 c17 c18 c19 c20 c21 c22 c25 c26 c27 c28 c29 c30 c31 c32 c33 c34 c35 c36 c37 c38 c39 c40 c41 c42 c43 c44 c45 c46 c47 c48 c49 c50 c51 c52 c53 c54 c55 c56 c57 c58 c59 c60 c61 c62 c63 c64 c65 c66 c67 c68 c69 c70 c71 c72 c73 c74 c75 c76 c77 c78 c79 c80 c81 c82 c83 c84 c85 c86 c87 c88 c89 c90 c91 c92 c93 c94 c95 c96 c97 c98 c99 c100 c101 c102 c103 c104 c105 c106 c107 c108 c109 c110 c111 c112 c113 c114 c115 c116 c117 c118 c119 c120 c121 c122 c123 c124 c125 c126 c127 c128 c129 c130 c131 c132 c133 c134 c135 c136 c137 c138 c139 c140 c141 c142 c143 c144 c145 c146 c147 c148 c149 c150 c151 c152 c153 c154 c155 c156 c157 c158 c159 c160 c161 c162 c163 c164 c165 c166 c167 c168 c169 c170 c171 c172 c173 c174 c175 c176 c177 c178 c179 c180 c181 c182 c183 c184 c185 c186 c187 c188 c189 c190 c191 c192 c193 c194 c195 c196 c197 c198 c199 c200 c201 c202 c203 c204 c205 c206 c207 c208 c209 c210 c211 c212 c213 c214 c215 c216 c217 c218 c219 c220 c221 c222 c223 c224 c225 c226 c227 c228 c229 c230 c231 c232 c233 c234 c235 c236 c237 c238 c239 c240 c241 c242 c243 c244 c245 c246 c247 c248 c249 c250 c251 c252 c253 c254 c255 c256 c257 c258 c259 c260 c261 c262 : Value)
    (hs : s.ok) (hch : 8 ≤ ch) (hgh : gh < W5.heap.size) (hown : Hid (W5.ownsRow B 27 1 (.slice (some ⟨gh, 0, none⟩) 8 ch) 8 (rowOf .u64 8 s.at)))
    (hexit : ∀ (u251 u252 u253 u254 u255 u256 u257 u258 u259 u260 u261 : Value) (T : ByteArray) (wx : World), Hid (T.data.toList = tell s) → Hid (Below W5.heap.size W5 wx) → Q (.exit 14) ⟨(c0 :: c1 :: c2 :: c3 :: c4 :: (.slice (some ⟨gh, 0, none⟩) 8 ch) :: c6 :: c7 :: c8 :: c9 :: c10 :: c11 :: c12 :: c13 :: c14 :: c15 :: c16 :: c17 :: c18 :: c19 :: c20 :: c21 :: c22 :: (.string T) :: (.int .i64 8) :: c25 :: c26 :: c27 :: c28 :: c29 :: c30 :: c31 :: c32 :: c33 :: c34 :: c35 :: c36 :: c37 :: c38 :: c39 :: c40 :: c41 :: c42 :: c43 :: c44 :: c45 :: c46 :: c47 :: c48 :: c49 :: c50 :: c51 :: c52 :: c53 :: c54 :: c55 :: c56 :: c57 :: c58 :: c59 :: c60 :: c61 :: c62 :: c63 :: c64 :: c65 :: c66 :: c67 :: c68 :: c69 :: c70 :: c71 :: c72 :: c73 :: c74 :: c75 :: c76 :: c77 :: c78 :: c79 :: c80 :: c81 :: c82 :: c83 :: c84 :: c85 :: c86 :: c87 :: c88 :: c89 :: c90 :: c91 :: c92 :: c93 :: c94 :: c95 :: c96 :: c97 :: c98 :: c99 :: c100 :: c101 :: c102 :: c103 :: c104 :: c105 :: c106 :: c107 :: c108 :: c109 :: c110 :: c111 :: c112 :: c113 :: c114 :: c115 :: c116 :: c117 :: c118 :: c119 :: c120 :: c121 :: c122 :: c123 :: c124 :: c125 :: c126 :: c127 :: c128 :: c129 :: c130 :: c131 :: c132 :: c133 :: c134 :: c135 :: c136 :: c137 :: c138 :: c139 :: c140 :: c141 :: c142 :: c143 :: c144 :: c145 :: c146 :: c147 :: c148 :: c149 :: c150 :: c151 :: c152 :: c153 :: c154 :: c155 :: c156 :: c157 :: c158 :: c159 :: c160 :: c161 :: c162 :: c163 :: c164 :: c165 :: c166 :: c167 :: c168 :: c169 :: c170 :: c171 :: c172 :: c173 :: c174 :: c175 :: c176 :: c177 :: c178 :: c179 :: c180 :: c181 :: c182 :: c183 :: c184 :: c185 :: c186 :: c187 :: c188 :: c189 :: c190 :: c191 :: c192 :: c193 :: c194 :: c195 :: c196 :: c197 :: c198 :: c199 :: c200 :: c201 :: c202 :: c203 :: c204 :: c205 :: c206 :: c207 :: c208 :: c209 :: c210 :: c211 :: c212 :: c213 :: c214 :: c215 :: c216 :: c217 :: c218 :: c219 :: c220 :: c221 :: c222 :: c223 :: c224 :: c225 :: c226 :: c227 :: c228 :: c229 :: c230 :: c231 :: c232 :: c233 :: c234 :: c235 :: c236 :: c237 :: c238 :: c239 :: c240 :: c241 :: c242 :: c243 :: c244 :: c245 :: c246 :: c247 :: c248 :: c249 :: c250 :: u251 :: u252 :: u253 :: u254 :: u255 :: u256 :: u257 :: u258 :: u259 :: u260 :: u261 :: c262 :: []).toArray, []⟩ wx) :
    Code.wp Try.prog (Code.loop shaB8) Q ⟨(c0 :: c1 :: c2 :: c3 :: c4 :: (.slice (some ⟨gh, 0, none⟩) 8 ch) :: c6 :: c7 :: c8 :: c9 :: c10 :: c11 :: c12 :: c13 :: c14 :: c15 :: c16 :: c17 :: c18 :: c19 :: c20 :: c21 :: c22 :: (.string { data := #[] }) :: (.int .i64 0) :: c25 :: c26 :: c27 :: c28 :: c29 :: c30 :: c31 :: c32 :: c33 :: c34 :: c35 :: c36 :: c37 :: c38 :: c39 :: c40 :: c41 :: c42 :: c43 :: c44 :: c45 :: c46 :: c47 :: c48 :: c49 :: c50 :: c51 :: c52 :: c53 :: c54 :: c55 :: c56 :: c57 :: c58 :: c59 :: c60 :: c61 :: c62 :: c63 :: c64 :: c65 :: c66 :: c67 :: c68 :: c69 :: c70 :: c71 :: c72 :: c73 :: c74 :: c75 :: c76 :: c77 :: c78 :: c79 :: c80 :: c81 :: c82 :: c83 :: c84 :: c85 :: c86 :: c87 :: c88 :: c89 :: c90 :: c91 :: c92 :: c93 :: c94 :: c95 :: c96 :: c97 :: c98 :: c99 :: c100 :: c101 :: c102 :: c103 :: c104 :: c105 :: c106 :: c107 :: c108 :: c109 :: c110 :: c111 :: c112 :: c113 :: c114 :: c115 :: c116 :: c117 :: c118 :: c119 :: c120 :: c121 :: c122 :: c123 :: c124 :: c125 :: c126 :: c127 :: c128 :: c129 :: c130 :: c131 :: c132 :: c133 :: c134 :: c135 :: c136 :: c137 :: c138 :: c139 :: c140 :: c141 :: c142 :: c143 :: c144 :: c145 :: c146 :: c147 :: c148 :: c149 :: c150 :: c151 :: c152 :: c153 :: c154 :: c155 :: c156 :: c157 :: c158 :: c159 :: c160 :: c161 :: c162 :: c163 :: c164 :: c165 :: c166 :: c167 :: c168 :: c169 :: c170 :: c171 :: c172 :: c173 :: c174 :: c175 :: c176 :: c177 :: c178 :: c179 :: c180 :: c181 :: c182 :: c183 :: c184 :: c185 :: c186 :: c187 :: c188 :: c189 :: c190 :: c191 :: c192 :: c193 :: c194 :: c195 :: c196 :: c197 :: c198 :: c199 :: c200 :: c201 :: c202 :: c203 :: c204 :: c205 :: c206 :: c207 :: c208 :: c209 :: c210 :: c211 :: c212 :: c213 :: c214 :: c215 :: c216 :: c217 :: c218 :: c219 :: c220 :: c221 :: c222 :: c223 :: c224 :: c225 :: c226 :: c227 :: c228 :: c229 :: c230 :: c231 :: c232 :: c233 :: c234 :: c235 :: c236 :: c237 :: c238 :: c239 :: c240 :: c241 :: c242 :: c243 :: c244 :: c245 :: c246 :: c247 :: c248 :: c249 :: c250 :: c251 :: c252 :: c253 :: c254 :: c255 :: c256 :: c257 :: c258 :: c259 :: c260 :: c261 :: c262 :: []).toArray, []⟩ W5 := by
  conv =>
    arg 2
    arg 1
    whnf
  have HS := Lib.hid hs
  clear hs
  go_loopw [23, 24] (fun v i wr => ∃ k : Nat, ∃ T : ByteArray, k ≤ 8 ∧ i = .int .i64 k ∧ v = .string T ∧ Hid (T.data.toList = tellTo s.at k) ∧ Below W5.heap.size W5 wr) (fun _ i _ => 8 - (intOf i).toNat)
  case atStart => exact ⟨0, _, by omega, rfl, rfl, Lib.hid rfl, Below.refl _ _⟩
  case round =>
    obtain ⟨k, T, hk, rfl, rfl, hT, hb⟩ := hrel
    have HB := Lib.hid hb
    clear hb
    by_cases hlt : k < 8
    · clear hexit
      have hk8 : (k : Int) < 8 := by omega
      have hcell : wr.cell? ⟨gh, k, none⟩ = some (.int .u64 (s.at k)) := by
        rw [HB.out.cell (p := ⟨gh, k, none⟩) hgh]
        exact own_eight hown.out k hlt
      have hx := St.at_lt HS.out k
      obtain ⟨x, hx0⟩ : ∃ x, Hid (x = s.at k) := ⟨_, Lib.hid rfl⟩
      rw [← hx0.out] at hcell hx
      have hxI : (x : Int) < 18446744073709551616 := by omega
      have hsz : T.size = 8 * k := by
        rw [show T.size = T.data.toList.length from rfl, hT.out, tellTo_length]
      have HSZ := Lib.hid hsz
      have hszI : T.size ≤ 64 := by omega
      clear hsz
      obtain ⟨X, hX⟩ : ∃ X : ByteArray, Hid (X = ⟨(be8 x).toArray⟩) := ⟨_, Lib.hid rfl⟩
      have hXs : X.size = 8 := by rw [hX.out]; rfl
      have HT2 : Hid ((T ++ X).data.toList = tellTo s.at (k + 1)) := by
        unfold Hid
        rw [data_append, hT.out, tellTo_succ, hX.out, ← hx0.out]
      have HBIG : Hid (∀ w : World, Calls Try.prog 19 #[.int .u64 x, .int .i64 8] w fun e w' => e = .returned (.string X) ∧ Below w.heap.size w w') := by
        unfold Hid
        rw [hX.out]
        exact fun w => Big8 x w
      clear hX
      go_wp2_with fail
      refine (HBIG.out _).mono ?_
      rintro e w2 ⟨rfl, hb2⟩
      have HB2 := Lib.hid (HB.out.trans (hb2.mono HB.out.size))
      clear hb2 HB hcell
      go_wp2
      go_roundw
      case rel => exact ⟨k + 1, _, by omega, by go_num, rfl, HT2, HB2.out⟩
      case measure => simp [intOf]; omega
    · obtain rfl : k = 8 := by omega
      have HE := Lib.hid hexit
      have HT2 : Hid (T.data.toList = tell s) := by unfold Hid; rw [← tell_to]; exact hT.out
      clear hexit
      rw [show ((8 : Nat) : Int) = (8 : Int) from rfl]
      go_wp2
      exact HE.out _ _ _ _ _ _ _ _ _ _ _ T wr HT2 HB
end Go.Proofs.Ytnajglmabgofeaa
