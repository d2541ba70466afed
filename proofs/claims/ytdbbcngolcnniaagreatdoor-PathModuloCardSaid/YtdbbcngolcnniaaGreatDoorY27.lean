/- Several texts, one behind the other; each says by itself what it proves, and on what conditions. -/
import Derived.Test.YtdbbcngolcnniaaGreatDoorY26
import Derived.Deep.DeepCutAuto
import Derived.Deep.CutBlock
import Derived.StillTailTactics
import Derived.Deep.RegionHeld3
/- The document's Sha: the 16 numbers that a block begins with. -/
namespace Go.Proofs.YtdbbcngolcnniaaGreatDoor.S3
set_option linter.unusedSimpArgs false
open Go.RowKit
set_option linter.unusedVariables false
noncomputable def shaB4 : Code := (loopsOf shaB3).getD 0 .skip
theorem extract_size (T : ByteArray) (a b : Nat) (h : b ≤ T.size) : (T.extract a b).size = b - a := by
 rw [ByteArray.size_extract]; omega
set_option maxRecDepth 100000 in
set_option maxHeartbeats 2000000 in
theorem sha4_ok (T : ByteArray) (l : List UInt8) (AT B : Nat) (W5 : World) (Q : Exit → Act → World → Prop) (c1 c2 c3 c4 c5 c6 c7 c11 c12 c13 c14 c15 c16 c17 c18 c19 c20 c21 c22 c23 c24 c25 c26 c27 c28 c29 c30 c31 c32 c33 c34 c35 c36 c37 c38 c39 c40 c41 c42 c43 c44 c45 c46 c47 c48 c49 c50 c51 c52 c53 c54 c55 c56 c57 c58 c59 c60 c61 c62 c63 c64 c65 c66 c67 c68 c69 c70 c71 c72 c73 c74 c75 c76 c77 c78 c79 c80 c81 c82 c83 c84 c85 c86 c87 c88 c89 c90 c91 c92 c93 c94 c95 c96 c97 c98 c99 c100 c101 c102 c103 c104 c105 c106 c107 c108 c109 c110 c111 c112 c113 c114 c115 c116 c117 c118 c119 c120 c121 c122 c123 c124 c125 c126 c127 c128 c129 c130 c131 c132 c133 c134 c135 c136 c137 c138 c139 c140 c141 c142 c143 c144 c145 c146 c147 c148 c149 c150 c151 c152 c153 c154 c155 c156 c157 c158 c159 c160 c161 c162 c163 c164 c165 c166 c167 c168 c169 c170 c171 c172 c173 c174 c175 c176 c177 c178 c179 c180 c181 c182 c183 c184 c185 c186 c187 c188 c189 c190 c191 c192 c193 c194 c195 c196 c197 c198 c199 c200 c201 c202 c203 c204 c205 c206 c207 c208 c209 c210 c211 c212 c213 c214 c215 c216 c217 c218 c219 c220 c221 c222 c223 c224 c225 c226 c227 c228 c229 c230 c231 c232 c233 c234 c235 c236 c237 c238 c239 c240 c241 c242 c243 c244 c245 c246 c247 c248 c249 c250 c251 c252 c253 c254 c255 c256 c257 c258 c259 c260 c261 c262 c263 : Value)
  (hB : B ≤ W5.heap.size) (hfit : AT + 64 ≤ T.size) (hsz : T.size ≤ 1000000) (hl : Hid (∀ i, i < 16 → be (T.extract (AT + 4 * i) (AT + 4 * i + 4)).data.toList 0 = W l i))
  (hexit : ∀ (u64 u65 u66 u67 u68 u69 u70 u71 u72 u73 u74 u75 u76 u77 u78 u79 u80 u81 u82 u83 : Value) (p : Option Addr) (cz : Nat) (wx : World), Hid (wx.ownsRow B 46 1 (.slice p 16 cz) 16 (numsV .u32 (wl l 16))) → Hid (Below B W5 wx) → Q (.exit 6) ⟨((.string T) :: c1 :: c2 :: c3 :: c4 :: c5 :: c6 :: c7 :: (.int .i64 (AT : Nat)) :: (.slice p 16 cz) :: (.int .i64 16) :: c11 :: c12 :: c13 :: c14 :: c15 :: c16 :: c17 :: c18 :: c19 :: c20 :: c21 :: c22 :: c23 :: c24 :: c25 :: c26 :: c27 :: c28 :: c29 :: c30 :: c31 :: c32 :: c33 :: c34 :: c35 :: c36 :: c37 :: c38 :: c39 :: c40 :: c41 :: c42 :: c43 :: c44 :: c45 :: c46 :: c47 :: c48 :: c49 :: c50 :: c51 :: c52 :: c53 :: c54 :: c55 :: c56 :: c57 :: c58 :: c59 :: c60 :: c61 :: c62 :: c63 :: u64 :: u65 :: u66 :: u67 :: u68 :: u69 :: u70 :: u71 :: u72 :: u73 :: u74 :: u75 :: u76 :: u77 :: u78 :: u79 :: u80 :: u81 :: u82 :: u83 :: c84 :: c85 :: c86 :: c87 :: c88 :: c89 :: c90 :: c91 :: c92 :: c93 :: c94 :: c95 :: c96 :: c97 :: c98 :: c99 :: c100 :: c101 :: c102 :: c103 :: c104 :: c105 :: c106 :: c107 :: c108 :: c109 :: c110 :: c111 :: c112 :: c113 :: c114 :: c115 :: c116 :: c117 :: c118 :: c119 :: c120 :: c121 :: c122 :: c123 :: c124 :: c125 :: c126 :: c127 :: c128 :: c129 :: c130 :: c131 :: c132 :: c133 :: c134 :: c135 :: c136 :: c137 :: c138 :: c139 :: c140 :: c141 :: c142 :: c143 :: c144 :: c145 :: c146 :: c147 :: c148 :: c149 :: c150 :: c151 :: c152 :: c153 :: c154 :: c155 :: c156 :: c157 :: c158 :: c159 :: c160 :: c161 :: c162 :: c163 :: c164 :: c165 :: c166 :: c167 :: c168 :: c169 :: c170 :: c171 :: c172 :: c173 :: c174 :: c175 :: c176 :: c177 :: c178 :: c179 :: c180 :: c181 :: c182 :: c183 :: c184 :: c185 :: c186 :: c187 :: c188 :: c189 :: c190 :: c191 :: c192 :: c193 :: c194 :: c195 :: c196 :: c197 :: c198 :: c199 :: c200 :: c201 :: c202 :: c203 :: c204 :: c205 :: c206 :: c207 :: c208 :: c209 :: c210 :: c211 :: c212 :: c213 :: c214 :: c215 :: c216 :: c217 :: c218 :: c219 :: c220 :: c221 :: c222 :: c223 :: c224 :: c225 :: c226 :: c227 :: c228 :: c229 :: c230 :: c231 :: c232 :: c233 :: c234 :: c235 :: c236 :: c237 :: c238 :: c239 :: c240 :: c241 :: c242 :: c243 :: c244 :: c245 :: c246 :: c247 :: c248 :: c249 :: c250 :: c251 :: c252 :: c253 :: c254 :: c255 :: c256 :: c257 :: c258 :: c259 :: c260 :: c261 :: c262 :: c263 :: []).toArray, []⟩ wx) :
  Code.wp Tryz.prog (Code.loop shaB4) Q ⟨((.string T) :: c1 :: c2 :: c3 :: c4 :: c5 :: c6 :: c7 :: (.int .i64 (AT : Nat)) :: (.slice none 0 0) :: (.int .i64 0) :: c11 :: c12 :: c13 :: c14 :: c15 :: c16 :: c17 :: c18 :: c19 :: c20 :: c21 :: c22 :: c23 :: c24 :: c25 :: c26 :: c27 :: c28 :: c29 :: c30 :: c31 :: c32 :: c33 :: c34 :: c35 :: c36 :: c37 :: c38 :: c39 :: c40 :: c41 :: c42 :: c43 :: c44 :: c45 :: c46 :: c47 :: c48 :: c49 :: c50 :: c51 :: c52 :: c53 :: c54 :: c55 :: c56 :: c57 :: c58 :: c59 :: c60 :: c61 :: c62 :: c63 :: c64 :: c65 :: c66 :: c67 :: c68 :: c69 :: c70 :: c71 :: c72 :: c73 :: c74 :: c75 :: c76 :: c77 :: c78 :: c79 :: c80 :: c81 :: c82 :: c83 :: c84 :: c85 :: c86 :: c87 :: c88 :: c89 :: c90 :: c91 :: c92 :: c93 :: c94 :: c95 :: c96 :: c97 :: c98 :: c99 :: c100 :: c101 :: c102 :: c103 :: c104 :: c105 :: c106 :: c107 :: c108 :: c109 :: c110 :: c111 :: c112 :: c113 :: c114 :: c115 :: c116 :: c117 :: c118 :: c119 :: c120 :: c121 :: c122 :: c123 :: c124 :: c125 :: c126 :: c127 :: c128 :: c129 :: c130 :: c131 :: c132 :: c133 :: c134 :: c135 :: c136 :: c137 :: c138 :: c139 :: c140 :: c141 :: c142 :: c143 :: c144 :: c145 :: c146 :: c147 :: c148 :: c149 :: c150 :: c151 :: c152 :: c153 :: c154 :: c155 :: c156 :: c157 :: c158 :: c159 :: c160 :: c161 :: c162 :: c163 :: c164 :: c165 :: c166 :: c167 :: c168 :: c169 :: c170 :: c171 :: c172 :: c173 :: c174 :: c175 :: c176 :: c177 :: c178 :: c179 :: c180 :: c181 :: c182 :: c183 :: c184 :: c185 :: c186 :: c187 :: c188 :: c189 :: c190 :: c191 :: c192 :: c193 :: c194 :: c195 :: c196 :: c197 :: c198 :: c199 :: c200 :: c201 :: c202 :: c203 :: c204 :: c205 :: c206 :: c207 :: c208 :: c209 :: c210 :: c211 :: c212 :: c213 :: c214 :: c215 :: c216 :: c217 :: c218 :: c219 :: c220 :: c221 :: c222 :: c223 :: c224 :: c225 :: c226 :: c227 :: c228 :: c229 :: c230 :: c231 :: c232 :: c233 :: c234 :: c235 :: c236 :: c237 :: c238 :: c239 :: c240 :: c241 :: c242 :: c243 :: c244 :: c245 :: c246 :: c247 :: c248 :: c249 :: c250 :: c251 :: c252 :: c253 :: c254 :: c255 :: c256 :: c257 :: c258 :: c259 :: c260 :: c261 :: c262 :: c263 :: []).toArray, []⟩ W5 := by
 conv =>
  arg 2
  arg 1
  whnf
 go_loopw [9, 10] (fun v i wr => ∃ k : Nat, ∃ p cz, k ≤ 16 ∧ i = .int .i64 k ∧ v = .slice p k cz ∧ wr.ownsRow B 46 1 (.slice p k cz) k (numsV .u32 (wl l k)) ∧ Below B W5 wr ∧ B ≤ wr.heap.size) (fun _ i _ => 16 - (intOf i).toNat)
 case atStart => exact ⟨0, none, 0, by omega, rfl, rfl, World.ownsRow_nil _ _ _ _, Below.refl _ _, hB⟩
 case round =>
  obtain ⟨k, p, cc, hk, rfl, rfl, ho, hb, hBr⟩ := hrel
  have HO := Lib.hid ho
  have HB := Lib.hid hb
  clear ho hb
  by_cases hlt : k < 16
  ·clear hexit
   have hk8 : (k : Int) < 16 := by omega
   have hes : (T.extract (AT + 4 * k) (AT + 4 * k + 4)).size = 4 := by rw [extract_size _ _ _ (by omega)]; omega
   have hbig := Lib.hid (big_any (T.extract (AT + 4 * k) (AT + 4 * k + 4)) hes)
   have hlk := hl.out k hlt
   rw [hlk] at hbig
   have hWl := W_lt l k
   obtain ⟨x, hx⟩ : ∃ x, Hid (x = W l k) := ⟨_, Lib.hid rfl⟩
   rw [← hx.out] at hbig hWl
   have hWI : (x : Int) < 4294967296 := by omega
   obtain ⟨a1, ha1⟩ : ∃ a, Hid (a = AT + 4 * k) := ⟨_, Lib.hid rfl⟩
   have e1 : (AT : Int) + 4 * (k : Int) = (a1 : Int) := by rw [ha1.out]; omega
   have b1 : a1 + 4 ≤ T.size := by rw [ha1.out]; omega
   have w1 : (IntKind.i64.wrap (4 * (k : Int))) = 4 * (k : Int) := IntWalk.i64_in _ (by omega)
   have w2 : (IntKind.i64.wrap ((AT : Int) + 4 * (k : Int))) = (a1 : Int) := by rw [IntWalk.i64_in _ (by omega)]; exact e1
   rw [← ha1.out] at hbig
   obtain ⟨X, hX⟩ : ∃ X, Hid (X = T.extract a1 (a1 + 4)) := ⟨_, Lib.hid rfl⟩
   rw [← hX.out] at hbig
   obtain ⟨p', c', W3, happ, hown', hbel⟩ := nums_app 69 46 .u32 4 (by decide) Tryz.underlying69 info28 HO.out HB.out hBr x (by omega)
   have hbb : B ≤ W3.heap.size := hbel.size |> fun h => by omega
   rw [hx.out, ← wl_succ] at hown'
   have HAPP := Lib.hid happ
   have HO3 := Lib.hid hown'
   have HF := Lib.hid hbel
   clear happ hown' hbel HO HB hes hlk hl
   go_wp2_with (fail)
   rw [← hX.out]
   refine (hbig.out _).mono ?_
   rintro e w' ⟨rfl, rfl⟩
   go_wp2_with (at_builtin; refine wpList_run rfl _ (HAPP.out _ _ (.tmp 68) (.tmp 82) rfl rfl rfl) ?_)
   go_roundw
   case rel => exact ⟨k + 1, p', c', by omega, by go_num, rfl, HO3.out, HF.out, hbb⟩
   case measure => simp [intOf]; omega
  ·obtain rfl : k = 16 := by omega
   have HE := Lib.hid hexit
   clear hexit
   rw [show ((16 : Nat) : Int) = (16 : Int) from rfl]
   go_wp2
   exact HE.out _ _ _ _ _ _ _ _ _ _ _ _ _ _ _ _ _ _ _ _ _ _ wr HO HB
end Go.Proofs.YtdbbcngolcnniaaGreatDoor.S3
/- The blocks of the document's Sha: the eight numbers behind all of them. -/
namespace Go.Proofs.YtdbbcngolcnniaaGreatDoor.S3
set_option linter.unusedSimpArgs false
open Go.RowKit
set_option linter.unusedVariables false
theorem chunk_be (T : ByteArray) (j i : Nat) (hi : i < 16) (hT : 64 * j + 64 ≤ T.size) : be (T.extract (64 * j + 4 * i) (64 * j + 4 * i + 4)).data.toList 0 = W (chunk T.data.toList j) i := by
 rw [W_low _ _ hi]
 have hl : T.data.toList.length = T.size := rfl
 have h : ∀ q, q < 4 → (T.extract (64 * j + 4 * i) (64 * j + 4 * i + 4)).data.toList.getD q 0 = (chunk T.data.toList j).getD (4 * i + q) 0 := by
  intro q hq
  unfold chunk
  rw [ByteArray.data_extract, Array.toList_extract, List.extract_eq_take_drop, List.getD_eq_getElem?_getD, List.getD_eq_getElem?_getD, List.getElem?_take_of_lt (by omega), List.getElem?_drop, List.getElem?_take_of_lt (by omega), List.getElem?_drop, Nat.add_assoc]
 have h0 := h 0 (by omega)
 have h1 := h 1 (by omega)
 have h2 := h 2 (by omega)
 have h3 := h 3 (by omega)
 unfold be
 simp only [Nat.mul_zero, Nat.zero_add]
 rw [h0, h1, h2, h3, Nat.add_zero]
theorem copy_eight {wr : World} {B gh ch : Nat} {f : Nat → Nat} (hown : wr.ownsRow B 46 1 (.slice (some ⟨gh, 0, none⟩) 8 ch) 8 (rowOf .u32 8 f)) :
  ∃ gv cv W3, (∀ (ρ : Operand → Value) (o : Oper) (s y : Operand), o.op = Op.call { callee := Callee.builtin Builtin.append, args := #[s, y], argTypes := #[69, 69] } → ρ s = .slice (some ⟨wr.heap.size, 0, none⟩) 0 0 → ρ y = .slice (some ⟨gh, 0, none⟩) 8 ch → (execOp ρ o).run Tryz.prog (wr.alloc (.cells #[] 46)) = .ok (.value (.slice (some ⟨gv, 0, none⟩) 8 cv)) W3) ∧
   W3.ownsRow wr.heap.size 46 1 (.slice (some ⟨gv, 0, none⟩) 8 cv) 8 (rowOf .u32 8 f) ∧ Below wr.heap.size wr W3 := by
 obtain ⟨i3, hi3, hz3, hs3, hb3⟩ := info_parts info28
 have hnil : (wr.alloc (.cells #[] 46)).ownsRow wr.heap.size 46 1 (.slice (some ⟨wr.heap.size, 0, none⟩) 0 0) 0 [] := ⟨rfl, Or.inr ⟨wr.heap.size, 0, #[], rfl, Nat.le_refl _, heap_alloc_new _ _, Nat.le_refl _, Nat.zero_le _, rfl, rfl⟩⟩
 have hnews : ∀ j u, (rowOf .u32 8 f)[j]? = some u → (wr.alloc (.cells #[] 46)).cell? ((⟨gh, 0, none⟩ : Addr).add j) = some u := (hown.alloc (.cells #[] 46)).cells rfl
 obtain ⟨v', W3, happ, hown', hgrow, hat⟩ := exec_append_own (P := Tryz.prog) (wr.alloc (.cells #[] 46)) wr.heap.size 69 46 i3 _ 1 4 Tryz.underlying69 hi3 hz3 hs3 hb3 rfl (by decide) _ 0 _ hnil ⟨gh, 0, none⟩ 8 ch (rowOf .u32 8 f) (by rw [rowOf_length]) hnews (rowOf_one _ _ _) (by unfold maxLen; omega) (by omega) (by simp)
 obtain ⟨p', c', rfl⟩ := own_form hown'
 obtain ⟨gv, rfl⟩ := own_some hown' (by omega)
 exact ⟨gv, c', W3, happ, hown', ((Below.refl _ wr).alloc (Nat.le_refl _) _).grown hgrow (by simp) (fun j hj => by injection hj with hj; exact Nat.le_of_eq hj)⟩
theorem own_eight {w : World} {B g c : Nat} {s : St} (h : w.ownsRow B 46 1 (.slice (some ⟨g, 0, none⟩) 8 c) 8 (rowOf .u32 8 s.at)) (j : Nat) (hj : j < 8) : w.cell? ⟨g, j, none⟩ = some (.int .u32 (s.at j)) := by
 rw [h.cellAt j (by omega), rowOf_get _ _ _ _ hj]
theorem own_below {a b : World} {B B' : Nat} {e : TypeId} {size : Nat} {v : Value} {n : Nat} {xs : List Value} (h : a.ownsRow B e size v n xs) (hb : Below B' a b) (hB : a.heap.size ≤ B') : b.ownsRow B e size v n xs := by
 refine ⟨h.1, ?_⟩
 rcases h.2 with h | ⟨g2, cap, cur, h1, h2, h3, h4⟩
 ·exact Or.inl h
 ·exact Or.inr ⟨g2, cap, cur, h1, h2, by rw [hb.block g2 (Nat.lt_of_lt_of_le (lt_of_block h3) hB)]; exact h3, h4⟩
set_option maxRecDepth 100000 in
set_option maxHeartbeats 4000000 in
theorem sha3_ok (T : ByteArray) (NB LN : Nat) (s0 : St) (gk ck gh ch B : Nat) (W0 : World) (Q : Exit → Act → World → Prop) (c1 c2 c4 c6 c7 c9 c10 c11 c12 c13 c14 c15 c16 c17 c18 c19 c20 c21 c22 c23 c24 c25 c26 c27 c28 c29 c30 c31 c32 c33 c34 c35 c36 c37 c38 c39 c40 c41 c42 c43 c44 c45 c46 c47 c48 c49 c50 c51 c52 c53 c54 c55 c56 c57 c58 c59 c60 c61 c62 c63 c64 c65 c66 c67 c68 c69 c70 c71 c72 c73 c74 c75 c76 c77 c78 c79 c80 c81 c82 c83 c84 c85 c86 c87 c88 c89 c90 c91 c92 c93 c94 c95 c96 c97 c98 c99 c100 c101 c102 c103 c104 c105 c106 c107 c108 c109 c110 c111 c112 c113 c114 c115 c116 c117 c118 c119 c120 c121 c122 c123 c124 c125 c126 c127 c128 c129 c130 c131 c132 c133 c134 c135 c136 c137 c138 c139 c140 c141 c142 c143 c144 c145 c146 c147 c148 c149 c150 c151 c152 c153 c154 c155 c156 c157 c158 c159 c160 c161 c162 c163 c164 c165 c166 c167 c168 c169 c170 c171 c172 c173 c174 c175 c176 c177 c178 c179 c180 c181 c182 c183 c184 c185 c186 c187 c188 c189 c190 c191 c192 c193 c194 c195 c196 c197 c198 c199 c200 c201 c202 c203 c204 c205 c206 c207 c208 c209 c210 c211 c212 c213 c214 c215 c216 c217 c218 c219 c220 c221 c222 c223 c224 c225 c226 c227 c228 c229 c230 c231 c232 c233 c234 c235 c236 c237 c238 c239 c240 c241 c242 c243 c244 c245 c246 c247 c248 c249 c250 c251 c252 c253 c254 c255 c256 c257 c258 c259 c260 c261 c262 c263 : Value)
  (hLN : LN = 64 * NB) (hTs : T.size = LN) (hN : NB ≤ 1000) (hs0 : s0.ok) (hck : 64 ≤ ck) (hch : 8 ≤ ch) (hgk : gk < B) (hBW : B ≤ W0.heap.size)
  (hkT : Hid (∀ j, j < 64 → W0.cell? ⟨gk, j, none⟩ = some (.int .u32 (kN j)))) (hown : Hid (W0.ownsRow B 46 1 (.slice (some ⟨gh, 0, none⟩) 8 ch) 8 (rowOf .u32 8 s0.at)))
  (hexit : ∀ (u9 u10 u11 u12 u13 u14 u15 u16 u17 u18 u19 u20 u21 u22 u58 u59 u60 u61 u62 u63 u64 u65 u66 u67 u68 u69 u70 u71 u72 u73 u74 u75 u76 u77 u78 u79 u80 u81 u82 u83 u84 u85 u86 u87 u88 u89 u90 u91 u92 u93 u94 u95 u96 u97 u98 u99 u100 u101 u102 u103 u104 u105 u106 u107 u108 u109 u110 u111 u112 u113 u114 u115 u116 u117 u118 u119 u120 u121 u122 u123 u124 u125 u126 u127 u128 u129 u130 u131 u132 u133 u134 u135 u136 u137 u138 u139 u140 u141 u142 u143 u144 u145 u146 u147 u148 u149 u150 u151 u152 u153 u154 u155 u156 u157 u158 u159 u160 u161 u162 u163 u164 u165 u166 u167 u168 u169 u170 u171 u172 u173 u174 u175 u176 u177 u178 u179 u180 u181 u182 u183 u184 u185 u186 u187 u188 u189 u190 u191 u192 u193 u194 u195 u196 u197 u198 u199 u200 u201 u202 u203 u204 u205 u206 u207 u208 u209 u210 u211 u212 u213 u214 u215 u216 u217 u218 u219 u220 u221 u222 u223 u224 u225 u226 u227 u228 u229 u230 u231 u232 u233 u234 u235 u236 u237 u238 u239 u240 u241 u242 u243 u244 u245 u246 u247 u248 u249 u250 : Value) (wx : World), Hid (wx.ownsRow B 46 1 (.slice (some ⟨gh, 0, none⟩) 8 ch) 8 (rowOf .u32 8 (mids s0 T.data.toList NB).at)) → Hid (Below B W0 wx) → Q (.exit 4) ⟨((.string T) :: c1 :: c2 :: (.slice (some ⟨gk, 0, none⟩) 64 ck) :: c4 :: (.slice (some ⟨gh, 0, none⟩) 8 ch) :: c6 :: c7 :: (.int .i64 (LN : Nat)) :: u9 :: u10 :: u11 :: u12 :: u13 :: u14 :: u15 :: u16 :: u17 :: u18 :: u19 :: u20 :: u21 :: u22 :: c23 :: c24 :: c25 :: c26 :: c27 :: c28 :: c29 :: c30 :: c31 :: c32 :: c33 :: c34 :: c35 :: c36 :: c37 :: c38 :: c39 :: c40 :: c41 :: c42 :: c43 :: c44 :: c45 :: c46 :: c47 :: c48 :: c49 :: c50 :: c51 :: c52 :: c53 :: c54 :: c55 :: c56 :: c57 :: u58 :: u59 :: u60 :: u61 :: u62 :: u63 :: u64 :: u65 :: u66 :: u67 :: u68 :: u69 :: u70 :: u71 :: u72 :: u73 :: u74 :: u75 :: u76 :: u77 :: u78 :: u79 :: u80 :: u81 :: u82 :: u83 :: u84 :: u85 :: u86 :: u87 :: u88 :: u89 :: u90 :: u91 :: u92 :: u93 :: u94 :: u95 :: u96 :: u97 :: u98 :: u99 :: u100 :: u101 :: u102 :: u103 :: u104 :: u105 :: u106 :: u107 :: u108 :: u109 :: u110 :: u111 :: u112 :: u113 :: u114 :: u115 :: u116 :: u117 :: u118 :: u119 :: u120 :: u121 :: u122 :: u123 :: u124 :: u125 :: u126 :: u127 :: u128 :: u129 :: u130 :: u131 :: u132 :: u133 :: u134 :: u135 :: u136 :: u137 :: u138 :: u139 :: u140 :: u141 :: u142 :: u143 :: u144 :: u145 :: u146 :: u147 :: u148 :: u149 :: u150 :: u151 :: u152 :: u153 :: u154 :: u155 :: u156 :: u157 :: u158 :: u159 :: u160 :: u161 :: u162 :: u163 :: u164 :: u165 :: u166 :: u167 :: u168 :: u169 :: u170 :: u171 :: u172 :: u173 :: u174 :: u175 :: u176 :: u177 :: u178 :: u179 :: u180 :: u181 :: u182 :: u183 :: u184 :: u185 :: u186 :: u187 :: u188 :: u189 :: u190 :: u191 :: u192 :: u193 :: u194 :: u195 :: u196 :: u197 :: u198 :: u199 :: u200 :: u201 :: u202 :: u203 :: u204 :: u205 :: u206 :: u207 :: u208 :: u209 :: u210 :: u211 :: u212 :: u213 :: u214 :: u215 :: u216 :: u217 :: u218 :: u219 :: u220 :: u221 :: u222 :: u223 :: u224 :: u225 :: u226 :: u227 :: u228 :: u229 :: u230 :: u231 :: u232 :: u233 :: u234 :: u235 :: u236 :: u237 :: u238 :: u239 :: u240 :: u241 :: u242 :: u243 :: u244 :: u245 :: u246 :: u247 :: u248 :: u249 :: u250 :: c251 :: c252 :: c253 :: c254 :: c255 :: c256 :: c257 :: c258 :: c259 :: c260 :: c261 :: c262 :: c263 :: []).toArray, []⟩ wx) :
  Code.wp Tryz.prog (Code.loop shaB3) Q ⟨((.string T) :: c1 :: c2 :: (.slice (some ⟨gk, 0, none⟩) 64 ck) :: c4 :: (.slice (some ⟨gh, 0, none⟩) 8 ch) :: c6 :: c7 :: (.int .i64 0) :: c9 :: c10 :: c11 :: c12 :: c13 :: c14 :: c15 :: c16 :: c17 :: c18 :: c19 :: c20 :: c21 :: c22 :: c23 :: c24 :: c25 :: c26 :: c27 :: c28 :: c29 :: c30 :: c31 :: c32 :: c33 :: c34 :: c35 :: c36 :: c37 :: c38 :: c39 :: c40 :: c41 :: c42 :: c43 :: c44 :: c45 :: c46 :: c47 :: c48 :: c49 :: c50 :: c51 :: c52 :: c53 :: c54 :: c55 :: c56 :: c57 :: c58 :: c59 :: c60 :: c61 :: c62 :: c63 :: c64 :: c65 :: c66 :: c67 :: c68 :: c69 :: c70 :: c71 :: c72 :: c73 :: c74 :: c75 :: c76 :: c77 :: c78 :: c79 :: c80 :: c81 :: c82 :: c83 :: c84 :: c85 :: c86 :: c87 :: c88 :: c89 :: c90 :: c91 :: c92 :: c93 :: c94 :: c95 :: c96 :: c97 :: c98 :: c99 :: c100 :: c101 :: c102 :: c103 :: c104 :: c105 :: c106 :: c107 :: c108 :: c109 :: c110 :: c111 :: c112 :: c113 :: c114 :: c115 :: c116 :: c117 :: c118 :: c119 :: c120 :: c121 :: c122 :: c123 :: c124 :: c125 :: c126 :: c127 :: c128 :: c129 :: c130 :: c131 :: c132 :: c133 :: c134 :: c135 :: c136 :: c137 :: c138 :: c139 :: c140 :: c141 :: c142 :: c143 :: c144 :: c145 :: c146 :: c147 :: c148 :: c149 :: c150 :: c151 :: c152 :: c153 :: c154 :: c155 :: c156 :: c157 :: c158 :: c159 :: c160 :: c161 :: c162 :: c163 :: c164 :: c165 :: c166 :: c167 :: c168 :: c169 :: c170 :: c171 :: c172 :: c173 :: c174 :: c175 :: c176 :: c177 :: c178 :: c179 :: c180 :: c181 :: c182 :: c183 :: c184 :: c185 :: c186 :: c187 :: c188 :: c189 :: c190 :: c191 :: c192 :: c193 :: c194 :: c195 :: c196 :: c197 :: c198 :: c199 :: c200 :: c201 :: c202 :: c203 :: c204 :: c205 :: c206 :: c207 :: c208 :: c209 :: c210 :: c211 :: c212 :: c213 :: c214 :: c215 :: c216 :: c217 :: c218 :: c219 :: c220 :: c221 :: c222 :: c223 :: c224 :: c225 :: c226 :: c227 :: c228 :: c229 :: c230 :: c231 :: c232 :: c233 :: c234 :: c235 :: c236 :: c237 :: c238 :: c239 :: c240 :: c241 :: c242 :: c243 :: c244 :: c245 :: c246 :: c247 :: c248 :: c249 :: c250 :: c251 :: c252 :: c253 :: c254 :: c255 :: c256 :: c257 :: c258 :: c259 :: c260 :: c261 :: c262 :: c263 :: []).toArray, []⟩ W0 := by
 conv =>
  arg 2
  arg 1
  whnf
 have HT := Lib.hid (And.intro hLN hTs)
 have hTI : (T.size : Int) = (LN : Int) := by omega
 have hLNs : LN ≤ 64000 := by omega
 clear hLN hTs
 go_loopw [8, 9, 10, 11, 12, 13, 14, 15, 16, 17, 18, 19, 20, 21, 22] (fun v8 _ _ _ _ _ _ _ _ _ _ _ _ _ _ wr => ∃ a j : Nat, j ≤ NB ∧ v8 = .int .i64 a ∧ Hid (a = 64 * j) ∧ wr.ownsRow B 46 1 (.slice (some ⟨gh, 0, none⟩) 8 ch) 8 (rowOf .u32 8 (mids s0 T.data.toList j).at) ∧ Below B W0 wr) (fun v8 _ _ _ _ _ _ _ _ _ _ _ _ _ _ _ => LN - (intOf v8).toNat)
 case atStart => exact ⟨0, 0, by omega, rfl, Lib.hid rfl, hown.out, Below.refl _ _⟩
 case round =>
  clear hown
  obtain ⟨a, j, hj, rfl, ha, ho, hb⟩ := hrel
  have HO := Lib.hid ho
  have HB := Lib.hid hb
  clear ho hb
  by_cases hlt : j < NB
  ·have HEX := Lib.hid hexit
   clear hexit
   have haL : a + 64 ≤ LN := by rw [ha.out, HT.out.1]; omega
   have haI : (a : Int) < (LN : Int) := by omega
   have hTfit : a + 64 ≤ T.size := by omega
   obtain ⟨s, hs⟩ : ∃ s, Hid (s = mids s0 T.data.toList j) := ⟨_, Lib.hid rfl⟩
   have hsok : Hid s.ok := by unfold Hid; rw [hs.out]; exact mids_ok hs0 _ _
   rw [← hs.out] at HO
   obtain ⟨l, hl⟩ : ∃ l, Hid (l = chunk T.data.toList j) := ⟨_, Lib.hid rfl⟩
   have HST : Hid (mids s0 T.data.toList (j + 1) = comp s l) := by unfold Hid; rw [hs.out, hl.out]; rfl
   have HBE : Hid (∀ i, i < 16 → be (T.extract (a + 4 * i) (a + 4 * i + 4)).data.toList 0 = W l i) := by
    intro i hi
    rw [ha.out, hl.out]
    exact chunk_be T j i hi (by rw [← ha.out]; omega)
   have hBr : B ≤ wr.heap.size := Nat.le_trans hBW HB.out.size
   have hT1 : T.size ≤ 1000000 := by omega
   have haI2 : (a : Int) < (T.size : Int) := by omega
   go_wp2
   refine sha4_ok T l a wr.heap.size wr _ _ _ _ _ _ _ _ _ _ _ _ _ _ _ _ _ _ _ _ _ _ _ _ _ _ _ _ _ _ _ _ _ _ _ _ _ _ _ _ _ _ _ _ _ _ _ _ _ _ _ _ _ _ _ _ _ _ _ _ _ _ _ _ _ _ _ _ _ _ _ _ _ _ _ _ _ _ _ _ _ _ _ _ _ _ _ _ _ _ _ _ _ _ _ _ _ _ _ _ _ _ _ _ _ _ _ _ _ _ _ _ _ _ _ _ _ _ _ _ _ _ _ _ _ _ _ _ _ _ _ _ _ _ _ _ _ _ _ _ _ _ _ _ _ _ _ _ _ _ _ _ _ _ _ _ _ _ _ _ _ _ _ _ _ _ _ _ _ _ _ _ _ _ _ _ _ _ _ _ _ _ _ _ _ _ _ _ _ _ _ _ _ _ _ _ _ _ _ _ _ _ _ _ _ _ _ _ _ _ _ _ _ _ _ _ _ _ _ _ _ _ _ _ _ _ _ _ _ _ _ _ _ _ _ _ _ _ _ _ _ _ _ _ _ _ _ _ _ _ _ _ _ _ _ _ _ _ _ _ _ (Nat.le_refl _) hTfit hT1 HBE ?_
   rintro a64 a65 a66 a67 a68 a69 a70 a71 a72 a73 a74 a75 a76 a77 a78 a79 a80 a81 a82 a83 p4 c4 w4 HO4 HB4
   go_wp2
   refine sha5_ok l wr.heap.size p4 c4 w4 _ _ _ _ _ _ _ _ _ _ _ _ _ _ _ _ _ _ _ _ _ _ _ _ _ _ _ _ _ _ _ _ _ _ _ _ _ _ _ _ _ _ _ _ _ _ _ _ _ _ _ _ _ _ _ _ _ _ _ _ _ _ _ _ _ _ _ _ _ _ _ _ _ _ _ _ _ _ _ _ _ _ _ _ _ _ _ _ _ _ _ _ _ _ _ _ _ _ _ _ _ _ _ _ _ _ _ _ _ _ _ _ _ _ _ _ _ _ _ _ _ _ _ _ _ _ _ _ _ _ _ _ _ _ _ _ _ _ _ _ _ _ _ _ _ _ _ _ _ _ _ _ _ _ _ _ _ _ _ _ _ _ _ _ _ _ _ _ _ _ _ _ _ _ _ _ _ _ _ _ _ _ _ _ _ _ _ _ _ _ _ _ _ _ _ _ _ _ _ _ _ _ _ _ _ _ _ _ _ _ _ _ _ _ _ _ _ _ _ _ _ _ _ _ _ _ _ _ _ _ _ _ _ _ _ _ _ _ _ _ _ _ _ _ _ _ _ _ _ _ _ _ _ _ _ _ _ _ _ _ _ _ _ HO4 ?_
   rintro b12 b13 b14 b15 b84 b85 b86 b87 b88 b89 b90 b91 b92 b93 b94 b95 b96 b97 b98 b99 b100 b101 b102 b103 b104 b105 b106 b107 b108 b109 b110 b111 b112 b113 b114 b115 b116 b117 b118 b119 b120 b121 b122 b123 b124 b125 b126 b127 b128 b129 b130 b131 p5 c5 w5 HO5 HB5
   obtain ⟨gw, rfl⟩ := own_some HO5.out (by omega)
   have hc5 := own_le HO5.out
   have HB45 : Hid (Below wr.heap.size wr w5) := HB4.out.trans HB5.out
   have HOh := Lib.hid (own_below HO.out HB45.out (Nat.le_refl _))
   obtain ⟨gv, cv, w6, happ, hown6, hb6⟩ := copy_eight HOh.out
   have HAPP := Lib.hid happ
   have HO6 := Lib.hid hown6
   have HB6 := Lib.hid hb6
   have hcv := own_le hown6
   clear happ hown6 hb6 HB4 HB5 HO4 HBE
   go_wp2_with (at_builtin; refine wpList_run rfl _ (HAPP.out _ _ (.tmp 132) (.tmp 133) rfl rfl rfl) ?_)
   have hgh : gh < wr.heap.size := (HO.out.lt gh rfl).2
   have hgw : gw < w5.heap.size := (HO5.out.lt gw rfl).2
   have hz5 : wr.heap.size ≤ w5.heap.size := HB45.out.size
   have hgv : w5.heap.size ≤ gv := (HO6.out.lt gv rfl).1
   have hz6 : w5.heap.size ≤ w6.heap.size := HB6.out.size
   have hgw1 : wr.heap.size ≤ gw := (HO5.out.lt gw rfl).1
   have HK6 : Hid (∀ j, j < 64 → w6.cell? ⟨gk, j, none⟩ = some (.int .u32 (kN j))) := fun i hi => by
    rw [HB6.out.cell (p := ⟨gk, i, none⟩) (by show gk < _; omega), HB45.out.cell (p := ⟨gk, i, none⟩) (by show gk < _; omega), HB.out.cell (p := ⟨gk, i, none⟩) hgk]
    exact hkT.out i hi
   have HW6 : Hid (∀ j, j < 64 → w6.cell? ⟨gw, j, none⟩ = some (.int .u32 (W l j))) := fun i hi => by
    rw [HB6.out.cell (p := ⟨gw, i, none⟩) hgw, HO5.out.cellAt i (by omega), wl_row, rowOf_get _ _ _ _ hi]
   have H8 := own_eight HO6.out
   refine sha6_ok s l gk ck gw c5 gv cv w6 _ _ _ _ _ _ _ _ _ _ _ _ _ _ _ _ _ _ _ _ _ _ _ _ _ _ _ _ _ _ _ _ _ _ _ _ _ _ _ _ _ _ _ _ _ _ _ _ _ _ _ _ _ _ _ _ _ _ _ _ _ _ _ _ _ _ _ _ _ _ _ _ _ _ _ _ _ _ _ _ _ _ _ _ _ _ _ _ _ _ _ _ _ _ _ _ _ _ _ _ _ _ _ _ _ _ _ _ _ _ _ _ _ _ _ _ _ _ _ _ _ _ _ _ _ _ _ _ _ _ _ _ _ _ _ _ _ _ _ _ _ _ _ _ _ _ _ _ _ _ _ _ _ _ _ _ _ _ _ _ _ _ _ _ _ _ _ _ _ _ _ _ _ _ _ _ _ _ _ _ _ _ _ _ _ _ _ _ _ _ _ _ _ _ _ _ _ _ _ _ _ _ _ _ _ _ _ _ _ _ _ _ _ _ _ _ _ _ _ _ _ _ _ _ _ _ _ _ _ _ _ _ _ _ _ _ _ _ _ _ _ _ _ _ _ _ _ _ _ _ _ _ _ _ _ _ _ _ _ _ _ hsok hck hc5 hcv HK6 HW6 (Lib.hid ⟨by omega, by omega, (HO6.out.lt gv rfl).2⟩) (Lib.hid ⟨H8 0 (by omega), H8 1 (by omega), H8 2 (by omega), H8 3 (by omega), H8 4 (by omega), H8 5 (by omega), H8 6 (by omega), H8 7 (by omega)⟩) ?_
   rintro d18 d19 d20 d21 d135 d136 d137 d138 d139 d140 d141 d142 d143 d144 d145 d146 d147 d148 d149 d150 d151 d152 d153 d154 d155 d156 d157 d158 d159 d160 d161 d162 d163 d164 d165 d166 d167 d168 d169 d170 d171 d172 d173 d174 d175 d176 d177 d178 d179 d180 d181 d182 d183 d184 d185 d186 d187 d188 d189 d190 d191 d192 d193 d194 d195 d196 d197 d198 d199 d200 d201 d202 d203 d204 d205 d206 d207 d208 d209 d210 d211 d212 d213 d214 d215 d216 d217 d218 d219 d220 d221 d222 d223 d224 d225 d226 d227 d228 d229 d230 d231 d232 d233 d234 gv7 cv7 t w7 hcv7 hgo ht HX
   have HOh7 : Hid (w7.ownsRow B 46 1 (.slice (some ⟨gh, 0, none⟩) 8 ch) 8 (rowOf .u32 8 s.at)) := own_below (own_below HOh.out HB6.out (Nat.le_refl _)) HX.out.2.2 (Nat.le_refl _)
   have hne : Hid (gv7 ≠ gh) := by
    unfold Hid
    rcases hgo.out with h | h <;> omega
   have HV7 : Hid (∀ i, i < 8 → w7.cell? ⟨gv7, i, none⟩ = some (.int .u32 (t.at i))) := fun i hi => by
    obtain ⟨q0, q1, q2, q3, q4, q5, q6, q7⟩ := HX.out.1
    rcases (show i = 0 ∨ i = 1 ∨ i = 2 ∨ i = 3 ∨ i = 4 ∨ i = 5 ∨ i = 6 ∨ i = 7 by omega) with rfl | rfl | rfl | rfl | rfl | rfl | rfl | rfl
    ·exact q0
    ·exact q1
    ·exact q2
    ·exact q3
    ·exact q4
    ·exact q5
    ·exact q6
    ·exact q7
   clear HK6 HW6 H8 HAPP
   go_wp2
   refine sha7_ok s t B gh ch gv7 cv7 w7 _ _ _ _ _ _ _ _ _ _ _ _ _ _ _ _ _ _ _ _ _ _ _ _ _ _ _ _ _ _ _ _ _ _ _ _ _ _ _ _ _ _ _ _ _ _ _ _ _ _ _ _ _ _ _ _ _ _ _ _ _ _ _ _ _ _ _ _ _ _ _ _ _ _ _ _ _ _ _ _ _ _ _ _ _ _ _ _ _ _ _ _ _ _ _ _ _ _ _ _ _ _ _ _ _ _ _ _ _ _ _ _ _ _ _ _ _ _ _ _ _ _ _ _ _ _ _ _ _ _ _ _ _ _ _ _ _ _ _ _ _ _ _ _ _ _ _ _ _ _ _ _ _ _ _ _ _ _ _ _ _ _ _ _ _ _ _ _ _ _ _ _ _ _ _ _ _ _ _ _ _ _ _ _ _ _ _ _ _ _ _ _ _ _ _ _ _ _ _ _ _ _ _ _ _ _ _ _ _ _ _ _ _ _ _ _ _ _ _ _ _ _ _ _ _ _ _ _ _ _ _ _ _ _ _ _ _ _ _ _ _ _ _ _ _ _ _ _ _ _ _ _ _ _ _ _ _ _ _ _ _ _ hch hcv7 hne HOh7 HV7 ?_
   rintro e235 e236 e237 e238 e239 e240 e241 e242 e243 e244 e245 e246 e247 e248 e249 e250 w8 HO8 HB8
   have HFO : Hid (w8.ownsRow B 46 1 (.slice (some ⟨gh, 0, none⟩) 8 ch) 8 (rowOf .u32 8 (mids s0 T.data.toList (j + 1)).at)) := by
    unfold Hid
    rw [HST.out]
    have h := HO8.out
    rw [ht.out] at h
    exact h
   have HFB : Hid (Below B W0 w8) := ((HB.out.trans (HB45.out.mono hBr)).trans (HB6.out.mono (Nat.le_trans hBr hz5))).trans ((HX.out.2.2.mono (by omega)).trans HB8.out)
   have HFA : Hid (a + 64 = 64 * (j + 1)) := by unfold Hid; rw [ha.out]; omega
   clear HO8 HB8 HX HOh7 HV7 ht HO6 HO5 HOh HB45 HB6 HB HO HST
   go_wp2
   go_roundw
   case rel => exact ⟨a + 64, j + 1, by omega, by go_num, HFA, HFO.out, HFB.out⟩
   case measure => simp [intOf]; omega
  ·obtain rfl : j = NB := by omega
   have HE := Lib.hid hexit
   have hal : a = LN := by rw [ha.out, HT.out.1]
   clear hexit
   subst hal
   go_wp2
   exact HE.out _ _ _ _ _ _ _ _ _ _ _ _ _ _ _ _ _ _ _ _ _ _ _ _ _ _ _ _ _ _ _ _ _ _ _ _ _ _ _ _ _ _ _ _ _ _ _ _ _ _ _ _ _ _ _ _ _ _ _ _ _ _ _ _ _ _ _ _ _ _ _ _ _ _ _ _ _ _ _ _ _ _ _ _ _ _ _ _ _ _ _ _ _ _ _ _ _ _ _ _ _ _ _ _ _ _ _ _ _ _ _ _ _ _ _ _ _ _ _ _ _ _ _ _ _ _ _ _ _ _ _ _ _ _ _ _ _ _ _ _ _ _ _ _ _ _ _ _ _ _ _ _ _ _ _ _ _ _ _ _ _ _ _ _ _ _ _ _ _ _ _ _ _ _ _ _ _ _ _ _ _ _ _ _ _ _ _ _ _ _ _ _ _ _ _ _ _ _ _ _ _ _ _ _ _ _ _ wr HO HB
end Go.Proofs.YtdbbcngolcnniaaGreatDoor.S3
/- The other loops of the document's Sha: the eight that it begins with, what fills up, and what is told. -/
namespace Go.Proofs.YtdbbcngolcnniaaGreatDoor.S3
set_option linter.unusedSimpArgs false
open Go.RowKit
set_option linter.unusedVariables false
noncomputable def shaB1 : Code := ((Tryz.f26.body.map fun c => (loopsOf c).getD 0 .skip)).getD .skip
noncomputable def shaB2 : Code := ((Tryz.f26.body.map fun c => (loopsOf c).getD 1 .skip)).getD .skip
noncomputable def shaB8 : Code := ((Tryz.f26.body.map fun c => (loopsOf c).getD 3 .skip)).getD .skip
def sqL8 (k : Nat) : List Nat := (pL.take k).map sqr
theorem sqL8_get (k x : Nat) (hx : pL[k]? = some x) : sqL8 (k + 1) = sqL8 k ++ [sqr x] := by
 unfold sqL8
 rw [List.take_add_one, hx, List.map_append]; rfl
theorem sqL8_all : numsV .u32 (sqL8 8) = rowOf .u32 8 h0.at := by
 unfold sqL8
 rw [sqr_all]; rfl
set_option maxRecDepth 100000 in
set_option maxHeartbeats 2000000 in
theorem sha1_ok (gp cp B : Nat) (W5 : World) (Q : Exit → Act → World → Prop) (c0 c1 c2 c3 c7 c8 c9 c10 c11 c12 c13 c14 c15 c16 c17 c18 c19 c20 c21 c22 c23 c24 c25 c26 c27 c28 c29 c30 c31 c32 c33 c34 c35 c36 c37 c38 c39 c40 c41 c42 c43 c44 c45 c46 c47 c48 c49 c50 c51 c52 c53 c54 c55 c56 c57 c58 c59 c60 c61 c62 c63 c64 c65 c66 c67 c68 c69 c70 c71 c72 c73 c74 c75 c76 c77 c78 c79 c80 c81 c82 c83 c84 c85 c86 c87 c88 c89 c90 c91 c92 c93 c94 c95 c96 c97 c98 c99 c100 c101 c102 c103 c104 c105 c106 c107 c108 c109 c110 c111 c112 c113 c114 c115 c116 c117 c118 c119 c120 c121 c122 c123 c124 c125 c126 c127 c128 c129 c130 c131 c132 c133 c134 c135 c136 c137 c138 c139 c140 c141 c142 c143 c144 c145 c146 c147 c148 c149 c150 c151 c152 c153 c154 c155 c156 c157 c158 c159 c160 c161 c162 c163 c164 c165 c166 c167 c168 c169 c170 c171 c172 c173 c174 c175 c176 c177 c178 c179 c180 c181 c182 c183 c184 c185 c186 c187 c188 c189 c190 c191 c192 c193 c194 c195 c196 c197 c198 c199 c200 c201 c202 c203 c204 c205 c206 c207 c208 c209 c210 c211 c212 c213 c214 c215 c216 c217 c218 c219 c220 c221 c222 c223 c224 c225 c226 c227 c228 c229 c230 c231 c232 c233 c234 c235 c236 c237 c238 c239 c240 c241 c242 c243 c244 c245 c246 c247 c248 c249 c250 c251 c252 c253 c254 c255 c256 c257 c258 c259 c260 c261 c262 c263 : Value)
  (hcp : 8 ≤ cp) (hgp : gp < B) (hB : B ≤ W5.heap.size) (hp : Hid (∀ j x : Nat, j < 8 → pL[j]? = some x → W5.cell? ⟨gp, j, none⟩ = some (.int .u64 x)))
  (hexit : ∀ (u27 u28 u29 u30 u31 u32 u33 u34 u35 u36 u37 u38 u39 u40 u41 : Value) (p : Option Addr) (cz : Nat) (wx : World), Hid (wx.ownsRow B 46 1 (.slice p 8 cz) 8 (rowOf .u32 8 h0.at)) → Hid (Below B W5 wx) → Q (.exit 0) ⟨(c0 :: c1 :: c2 :: c3 :: (.slice (some ⟨gp, 0, none⟩) 8 cp) :: (.slice p 8 cz) :: (.int .i64 8) :: c7 :: c8 :: c9 :: c10 :: c11 :: c12 :: c13 :: c14 :: c15 :: c16 :: c17 :: c18 :: c19 :: c20 :: c21 :: c22 :: c23 :: c24 :: c25 :: c26 :: u27 :: u28 :: u29 :: u30 :: u31 :: u32 :: u33 :: u34 :: u35 :: u36 :: u37 :: u38 :: u39 :: u40 :: u41 :: c42 :: c43 :: c44 :: c45 :: c46 :: c47 :: c48 :: c49 :: c50 :: c51 :: c52 :: c53 :: c54 :: c55 :: c56 :: c57 :: c58 :: c59 :: c60 :: c61 :: c62 :: c63 :: c64 :: c65 :: c66 :: c67 :: c68 :: c69 :: c70 :: c71 :: c72 :: c73 :: c74 :: c75 :: c76 :: c77 :: c78 :: c79 :: c80 :: c81 :: c82 :: c83 :: c84 :: c85 :: c86 :: c87 :: c88 :: c89 :: c90 :: c91 :: c92 :: c93 :: c94 :: c95 :: c96 :: c97 :: c98 :: c99 :: c100 :: c101 :: c102 :: c103 :: c104 :: c105 :: c106 :: c107 :: c108 :: c109 :: c110 :: c111 :: c112 :: c113 :: c114 :: c115 :: c116 :: c117 :: c118 :: c119 :: c120 :: c121 :: c122 :: c123 :: c124 :: c125 :: c126 :: c127 :: c128 :: c129 :: c130 :: c131 :: c132 :: c133 :: c134 :: c135 :: c136 :: c137 :: c138 :: c139 :: c140 :: c141 :: c142 :: c143 :: c144 :: c145 :: c146 :: c147 :: c148 :: c149 :: c150 :: c151 :: c152 :: c153 :: c154 :: c155 :: c156 :: c157 :: c158 :: c159 :: c160 :: c161 :: c162 :: c163 :: c164 :: c165 :: c166 :: c167 :: c168 :: c169 :: c170 :: c171 :: c172 :: c173 :: c174 :: c175 :: c176 :: c177 :: c178 :: c179 :: c180 :: c181 :: c182 :: c183 :: c184 :: c185 :: c186 :: c187 :: c188 :: c189 :: c190 :: c191 :: c192 :: c193 :: c194 :: c195 :: c196 :: c197 :: c198 :: c199 :: c200 :: c201 :: c202 :: c203 :: c204 :: c205 :: c206 :: c207 :: c208 :: c209 :: c210 :: c211 :: c212 :: c213 :: c214 :: c215 :: c216 :: c217 :: c218 :: c219 :: c220 :: c221 :: c222 :: c223 :: c224 :: c225 :: c226 :: c227 :: c228 :: c229 :: c230 :: c231 :: c232 :: c233 :: c234 :: c235 :: c236 :: c237 :: c238 :: c239 :: c240 :: c241 :: c242 :: c243 :: c244 :: c245 :: c246 :: c247 :: c248 :: c249 :: c250 :: c251 :: c252 :: c253 :: c254 :: c255 :: c256 :: c257 :: c258 :: c259 :: c260 :: c261 :: c262 :: c263 :: []).toArray, []⟩ wx) :
  Code.wp Tryz.prog (Code.loop shaB1) Q ⟨(c0 :: c1 :: c2 :: c3 :: (.slice (some ⟨gp, 0, none⟩) 8 cp) :: (.slice none 0 0) :: (.int .i64 0) :: c7 :: c8 :: c9 :: c10 :: c11 :: c12 :: c13 :: c14 :: c15 :: c16 :: c17 :: c18 :: c19 :: c20 :: c21 :: c22 :: c23 :: c24 :: c25 :: c26 :: c27 :: c28 :: c29 :: c30 :: c31 :: c32 :: c33 :: c34 :: c35 :: c36 :: c37 :: c38 :: c39 :: c40 :: c41 :: c42 :: c43 :: c44 :: c45 :: c46 :: c47 :: c48 :: c49 :: c50 :: c51 :: c52 :: c53 :: c54 :: c55 :: c56 :: c57 :: c58 :: c59 :: c60 :: c61 :: c62 :: c63 :: c64 :: c65 :: c66 :: c67 :: c68 :: c69 :: c70 :: c71 :: c72 :: c73 :: c74 :: c75 :: c76 :: c77 :: c78 :: c79 :: c80 :: c81 :: c82 :: c83 :: c84 :: c85 :: c86 :: c87 :: c88 :: c89 :: c90 :: c91 :: c92 :: c93 :: c94 :: c95 :: c96 :: c97 :: c98 :: c99 :: c100 :: c101 :: c102 :: c103 :: c104 :: c105 :: c106 :: c107 :: c108 :: c109 :: c110 :: c111 :: c112 :: c113 :: c114 :: c115 :: c116 :: c117 :: c118 :: c119 :: c120 :: c121 :: c122 :: c123 :: c124 :: c125 :: c126 :: c127 :: c128 :: c129 :: c130 :: c131 :: c132 :: c133 :: c134 :: c135 :: c136 :: c137 :: c138 :: c139 :: c140 :: c141 :: c142 :: c143 :: c144 :: c145 :: c146 :: c147 :: c148 :: c149 :: c150 :: c151 :: c152 :: c153 :: c154 :: c155 :: c156 :: c157 :: c158 :: c159 :: c160 :: c161 :: c162 :: c163 :: c164 :: c165 :: c166 :: c167 :: c168 :: c169 :: c170 :: c171 :: c172 :: c173 :: c174 :: c175 :: c176 :: c177 :: c178 :: c179 :: c180 :: c181 :: c182 :: c183 :: c184 :: c185 :: c186 :: c187 :: c188 :: c189 :: c190 :: c191 :: c192 :: c193 :: c194 :: c195 :: c196 :: c197 :: c198 :: c199 :: c200 :: c201 :: c202 :: c203 :: c204 :: c205 :: c206 :: c207 :: c208 :: c209 :: c210 :: c211 :: c212 :: c213 :: c214 :: c215 :: c216 :: c217 :: c218 :: c219 :: c220 :: c221 :: c222 :: c223 :: c224 :: c225 :: c226 :: c227 :: c228 :: c229 :: c230 :: c231 :: c232 :: c233 :: c234 :: c235 :: c236 :: c237 :: c238 :: c239 :: c240 :: c241 :: c242 :: c243 :: c244 :: c245 :: c246 :: c247 :: c248 :: c249 :: c250 :: c251 :: c252 :: c253 :: c254 :: c255 :: c256 :: c257 :: c258 :: c259 :: c260 :: c261 :: c262 :: c263 :: []).toArray, []⟩ W5 := by
 conv =>
  arg 2
  arg 1
  whnf
 go_loopw [5, 6] (fun v i wr => ∃ k : Nat, ∃ p cz, k ≤ 8 ∧ i = .int .i64 k ∧ v = .slice p k cz ∧ wr.ownsRow B 46 1 (.slice p k cz) k (numsV .u32 (sqL8 k)) ∧ Below B W5 wr ∧ B ≤ wr.heap.size) (fun _ i _ => 8 - (intOf i).toNat)
 case atStart => exact ⟨0, none, 0, by omega, rfl, rfl, World.ownsRow_nil _ _ _ _, Below.refl _ _, hB⟩
 case round =>
  obtain ⟨k, p, cc, hk, rfl, rfl, ho, hb, hBr⟩ := hrel
  have HO := Lib.hid ho
  have HB := Lib.hid hb
  clear ho hb
  by_cases hlt : k < 8
  ·clear hexit
   have hk8 : (k : Int) < 8 := by omega
   obtain ⟨x, hx⟩ : ∃ x, pL[k]? = some x := ⟨pL[k]'(by rw [pL_len]; omega), List.getElem?_eq_getElem _⟩
   have hcell : wr.cell? ⟨gp, k, none⟩ = some (.int .u64 x) := (HB.out.cell (p := ⟨gp, k, none⟩) hgp).trans (hp.out k x hlt hx)
   have HSG := Lib.hid (sqL8_get k x hx)
   have hx400 := (pL_pos x (List.mem_of_getElem? hx)).2
   clear hx
   have hok : N4.ok ⟨0, x, 0, 0⟩ := by
    unfold N4.ok; simp; omega
   have hroot := Lib.hid (root2_any ⟨0, x, 0, 0⟩ hok)
   have hl4 : Hid ((#[.int .u64 0, .int .u64 (x : Int), .int .u64 0, .int .u64 0] : Array Value) = (l4 ⟨0, x, 0, 0⟩).toArray) := Lib.hid rfl
   have HC : Hid ((rootL ⟨0, x, 0, 0⟩ false).a % 4294967296 = sqr x) := Lib.hid rfl
   obtain ⟨R, hR⟩ : ∃ R, R = rootL ⟨0, x, 0, 0⟩ false := ⟨_, rfl⟩
   rw [← hR] at hroot HC
   clear hR hok
   rw [← hl4.out] at hroot
   go_wp2_with fail
   refine (hroot.out _).mono ?_
   rintro e w2 ⟨rfl, hb2⟩
   have hix := index47 R w2
   have hwr := wrap32_nat R.a
   rw [HC.out] at hwr
   have hb3 : Below B W5 w2 := HB.out.trans (hb2.mono hBr)
   have hBw : B ≤ w2.heap.size := Nat.le_trans hBr hb2.size
   have hown2 := own_below HO.out hb2 (Nat.le_refl _)
   obtain ⟨p', c', W3, happ, hown', hbel⟩ := nums_app 69 46 .u32 4 (by decide) Tryz.underlying69 info28 hown2 hb3 hBw (sqr x) (by omega)
   have hbb : B ≤ W3.heap.size := Nat.le_trans hB hbel.size
   rw [← HSG.out] at hown'
   have HAPP := Lib.hid happ
   have HO3 := Lib.hid hown'
   have HF := Lib.hid hbel
   clear happ hown' hbel hown2 hb3 hb2 HO HB hcell hl4 hroot HC
   go_wp2_with (at_builtin; refine wpList_run rfl _ (HAPP.out _ _ (.tmp 31) (.tmp 40) rfl rfl rfl) ?_)
   go_roundw
   case rel => exact ⟨k + 1, p', c', by omega, by go_num, rfl, HO3.out, HF.out, hbb⟩
   case measure => simp [intOf]; omega
  ·obtain rfl : k = 8 := by omega
   have HE := Lib.hid hexit
   have HO2 : Hid (wr.ownsRow B 46 1 (.slice p 8 cc) 8 (rowOf .u32 8 h0.at)) := by unfold Hid; rw [← sqL8_all]; exact HO.out
   clear hexit
   rw [show ((8 : Nat) : Int) = (8 : Int) from rfl]
   go_wp2
   exact HE.out _ _ _ _ _ _ _ _ _ _ _ _ _ _ _ _ _ wr HO2 HB
def strLen : Value → Nat
 | .string s => s.size
 | _ => 0
theorem data_append (a b : ByteArray) : (a ++ b).data.toList = a.data.toList ++ b.data.toList := by simp
set_option maxRecDepth 100000 in
set_option maxHeartbeats 2000000 in
theorem sha2_ok (S : ByteArray) (l : List UInt8) (W5 : World) (Q : Exit → Act → World → Prop) (c1 c2 c3 c4 c5 c6 c7 c8 c9 c10 c11 c12 c13 c14 c15 c16 c17 c18 c19 c20 c21 c22 c23 c24 c25 c26 c27 c28 c29 c30 c31 c32 c33 c34 c35 c36 c37 c38 c39 c40 c41 c42 c43 c44 c45 c46 c47 c48 c49 c50 c51 c52 c53 c54 c55 c56 c57 c58 c59 c60 c61 c62 c63 c64 c65 c66 c67 c68 c69 c70 c71 c72 c73 c74 c75 c76 c77 c78 c79 c80 c81 c82 c83 c84 c85 c86 c87 c88 c89 c90 c91 c92 c93 c94 c95 c96 c97 c98 c99 c100 c101 c102 c103 c104 c105 c106 c107 c108 c109 c110 c111 c112 c113 c114 c115 c116 c117 c118 c119 c120 c121 c122 c123 c124 c125 c126 c127 c128 c129 c130 c131 c132 c133 c134 c135 c136 c137 c138 c139 c140 c141 c142 c143 c144 c145 c146 c147 c148 c149 c150 c151 c152 c153 c154 c155 c156 c157 c158 c159 c160 c161 c162 c163 c164 c165 c166 c167 c168 c169 c170 c171 c172 c173 c174 c175 c176 c177 c178 c179 c180 c181 c182 c183 c184 c185 c186 c187 c188 c189 c190 c191 c192 c193 c194 c195 c196 c197 c198 c199 c200 c201 c202 c203 c204 c205 c206 c207 c208 c209 c210 c211 c212 c213 c214 c215 c216 c217 c218 c219 c220 c221 c222 c223 c224 c225 c226 c227 c228 c229 c230 c231 c232 c233 c234 c235 c236 c237 c238 c239 c240 c241 c242 c243 c244 c245 c246 c247 c248 c249 c250 c251 c252 c253 c254 c255 c256 c257 c258 c259 c260 c261 c262 c263 : Value)
  (hS : Hid (S.data.toList = l ++ [128])) (hl : l.length ≤ 10000)
  (hexit : ∀ (u46 u47 u48 u49 u50 u51 : Value) (T : ByteArray), Hid (T.data.toList = l ++ 128 :: List.replicate (fill l.length) 0) → Q (.exit 2) ⟨((.string T) :: c1 :: c2 :: c3 :: c4 :: c5 :: c6 :: c7 :: c8 :: c9 :: c10 :: c11 :: c12 :: c13 :: c14 :: c15 :: c16 :: c17 :: c18 :: c19 :: c20 :: c21 :: c22 :: c23 :: c24 :: c25 :: c26 :: c27 :: c28 :: c29 :: c30 :: c31 :: c32 :: c33 :: c34 :: c35 :: c36 :: c37 :: c38 :: c39 :: c40 :: c41 :: c42 :: c43 :: c44 :: c45 :: u46 :: u47 :: u48 :: u49 :: u50 :: u51 :: c52 :: c53 :: c54 :: c55 :: c56 :: c57 :: c58 :: c59 :: c60 :: c61 :: c62 :: c63 :: c64 :: c65 :: c66 :: c67 :: c68 :: c69 :: c70 :: c71 :: c72 :: c73 :: c74 :: c75 :: c76 :: c77 :: c78 :: c79 :: c80 :: c81 :: c82 :: c83 :: c84 :: c85 :: c86 :: c87 :: c88 :: c89 :: c90 :: c91 :: c92 :: c93 :: c94 :: c95 :: c96 :: c97 :: c98 :: c99 :: c100 :: c101 :: c102 :: c103 :: c104 :: c105 :: c106 :: c107 :: c108 :: c109 :: c110 :: c111 :: c112 :: c113 :: c114 :: c115 :: c116 :: c117 :: c118 :: c119 :: c120 :: c121 :: c122 :: c123 :: c124 :: c125 :: c126 :: c127 :: c128 :: c129 :: c130 :: c131 :: c132 :: c133 :: c134 :: c135 :: c136 :: c137 :: c138 :: c139 :: c140 :: c141 :: c142 :: c143 :: c144 :: c145 :: c146 :: c147 :: c148 :: c149 :: c150 :: c151 :: c152 :: c153 :: c154 :: c155 :: c156 :: c157 :: c158 :: c159 :: c160 :: c161 :: c162 :: c163 :: c164 :: c165 :: c166 :: c167 :: c168 :: c169 :: c170 :: c171 :: c172 :: c173 :: c174 :: c175 :: c176 :: c177 :: c178 :: c179 :: c180 :: c181 :: c182 :: c183 :: c184 :: c185 :: c186 :: c187 :: c188 :: c189 :: c190 :: c191 :: c192 :: c193 :: c194 :: c195 :: c196 :: c197 :: c198 :: c199 :: c200 :: c201 :: c202 :: c203 :: c204 :: c205 :: c206 :: c207 :: c208 :: c209 :: c210 :: c211 :: c212 :: c213 :: c214 :: c215 :: c216 :: c217 :: c218 :: c219 :: c220 :: c221 :: c222 :: c223 :: c224 :: c225 :: c226 :: c227 :: c228 :: c229 :: c230 :: c231 :: c232 :: c233 :: c234 :: c235 :: c236 :: c237 :: c238 :: c239 :: c240 :: c241 :: c242 :: c243 :: c244 :: c245 :: c246 :: c247 :: c248 :: c249 :: c250 :: c251 :: c252 :: c253 :: c254 :: c255 :: c256 :: c257 :: c258 :: c259 :: c260 :: c261 :: c262 :: c263 :: []).toArray, []⟩ W5) :
  Code.wp Tryz.prog (Code.loop shaB2) Q ⟨((.string S) :: c1 :: c2 :: c3 :: c4 :: c5 :: c6 :: c7 :: c8 :: c9 :: c10 :: c11 :: c12 :: c13 :: c14 :: c15 :: c16 :: c17 :: c18 :: c19 :: c20 :: c21 :: c22 :: c23 :: c24 :: c25 :: c26 :: c27 :: c28 :: c29 :: c30 :: c31 :: c32 :: c33 :: c34 :: c35 :: c36 :: c37 :: c38 :: c39 :: c40 :: c41 :: c42 :: c43 :: c44 :: c45 :: c46 :: c47 :: c48 :: c49 :: c50 :: c51 :: c52 :: c53 :: c54 :: c55 :: c56 :: c57 :: c58 :: c59 :: c60 :: c61 :: c62 :: c63 :: c64 :: c65 :: c66 :: c67 :: c68 :: c69 :: c70 :: c71 :: c72 :: c73 :: c74 :: c75 :: c76 :: c77 :: c78 :: c79 :: c80 :: c81 :: c82 :: c83 :: c84 :: c85 :: c86 :: c87 :: c88 :: c89 :: c90 :: c91 :: c92 :: c93 :: c94 :: c95 :: c96 :: c97 :: c98 :: c99 :: c100 :: c101 :: c102 :: c103 :: c104 :: c105 :: c106 :: c107 :: c108 :: c109 :: c110 :: c111 :: c112 :: c113 :: c114 :: c115 :: c116 :: c117 :: c118 :: c119 :: c120 :: c121 :: c122 :: c123 :: c124 :: c125 :: c126 :: c127 :: c128 :: c129 :: c130 :: c131 :: c132 :: c133 :: c134 :: c135 :: c136 :: c137 :: c138 :: c139 :: c140 :: c141 :: c142 :: c143 :: c144 :: c145 :: c146 :: c147 :: c148 :: c149 :: c150 :: c151 :: c152 :: c153 :: c154 :: c155 :: c156 :: c157 :: c158 :: c159 :: c160 :: c161 :: c162 :: c163 :: c164 :: c165 :: c166 :: c167 :: c168 :: c169 :: c170 :: c171 :: c172 :: c173 :: c174 :: c175 :: c176 :: c177 :: c178 :: c179 :: c180 :: c181 :: c182 :: c183 :: c184 :: c185 :: c186 :: c187 :: c188 :: c189 :: c190 :: c191 :: c192 :: c193 :: c194 :: c195 :: c196 :: c197 :: c198 :: c199 :: c200 :: c201 :: c202 :: c203 :: c204 :: c205 :: c206 :: c207 :: c208 :: c209 :: c210 :: c211 :: c212 :: c213 :: c214 :: c215 :: c216 :: c217 :: c218 :: c219 :: c220 :: c221 :: c222 :: c223 :: c224 :: c225 :: c226 :: c227 :: c228 :: c229 :: c230 :: c231 :: c232 :: c233 :: c234 :: c235 :: c236 :: c237 :: c238 :: c239 :: c240 :: c241 :: c242 :: c243 :: c244 :: c245 :: c246 :: c247 :: c248 :: c249 :: c250 :: c251 :: c252 :: c253 :: c254 :: c255 :: c256 :: c257 :: c258 :: c259 :: c260 :: c261 :: c262 :: c263 :: []).toArray, []⟩ W5 := by
 conv =>
  arg 2
  arg 1
  whnf
 obtain ⟨n, hn⟩ : ∃ n, Hid (n = l.length) := ⟨_, Lib.hid rfl⟩
 obtain ⟨F, hF⟩ : ∃ F, Hid (F = fill n) := ⟨_, Lib.hid rfl⟩
 have hF64 : F < 64 := by rw [hF.out]; exact fill_lt n
 have hn1 : n ≤ 10000 := by rw [hn.out]; exact hl
 go_loop [0] (fun v => ∃ k : Nat, ∃ T : ByteArray, k ≤ F ∧ v = .string T ∧ Hid (T.data.toList = l ++ 128 :: List.replicate k 0)) (fun v => F + n + 1 - (strLen v))
 case atStart => exact ⟨0, S, Nat.zero_le _, rfl, hS⟩
 case round =>
  obtain ⟨k, T, hk, rfl, hT⟩ := hrel
  obtain ⟨sz, hsz⟩ : ∃ sz, T.size = sz := ⟨_, rfl⟩
  have hsz2 : Hid (sz = n + (k + 1)) := by
   unfold Hid
   rw [← hsz, hn.out, show T.size = T.data.toList.length from rfl, hT.out]
   simp
  have hszle : sz ≤ 20000 := by rw [hsz2.out]; omega
  by_cases hlt : k < F
  ·have hne := fill_not n k (by rw [← hF.out]; exact hlt)
   have h2 : (((sz : Nat) : Int) % 64 != 56) = true := by rw [bne_iff_ne]; have := hsz2.out; omega
   have HT2 : Hid ((T ++ ({ data := #[0] } : ByteArray)).data.toList = l ++ 128 :: List.replicate (k + 1) 0) := by
    unfold Hid
    rw [data_append, hT.out, List.replicate_succ']
    simp
   have HSZ : Hid ((T ++ ({ data := #[0] } : ByteArray)).size = sz + 1) := by
    unfold Hid
    rw [ByteArray.size_append, hsz]; rfl
   clear hne hexit
   go_wp2
   go_round
   case rel => exact ⟨k + 1, _, by omega, rfl, HT2⟩
   case measure =>
    have := HSZ.out
    have := hsz2.out
    simp only [strLen]
    omega
  ·obtain rfl : k = F := by omega
   have hne := fill_end n
   rw [← hF.out] at hne
   have h2 : (((sz : Nat) : Int) % 64 != 56) = false := by rw [bne_eq_false_iff_eq]; have := hsz2.out; omega
   have HE := Lib.hid hexit
   have HT2 : Hid (T.data.toList = l ++ 128 :: List.replicate (fill l.length) 0) := by unfold Hid; rw [← hn.out, ← hF.out]; exact hT.out
   clear hne hexit
   go_wp2
   exact HE.out _ _ _ _ _ _ T HT2
set_option maxRecDepth 100000 in
set_option maxHeartbeats 2000000 in
theorem sha8_ok (s : St) (gh ch B : Nat) (W5 : World) (Q : Exit → Act → World → Prop) (c0 c1 c2 c3 c4 c6 c7 c8 c9 c10 c11 c12 c13 c14 c15 c16 c17 c18 c19 c20 c21 c22 c25 c26 c27 c28 c29 c30 c31 c32 c33 c34 c35 c36 c37 c38 c39 c40 c41 c42 c43 c44 c45 c46 c47 c48 c49 c50 c51 c52 c53 c54 c55 c56 c57 c58 c59 c60 c61 c62 c63 c64 c65 c66 c67 c68 c69 c70 c71 c72 c73 c74 c75 c76 c77 c78 c79 c80 c81 c82 c83 c84 c85 c86 c87 c88 c89 c90 c91 c92 c93 c94 c95 c96 c97 c98 c99 c100 c101 c102 c103 c104 c105 c106 c107 c108 c109 c110 c111 c112 c113 c114 c115 c116 c117 c118 c119 c120 c121 c122 c123 c124 c125 c126 c127 c128 c129 c130 c131 c132 c133 c134 c135 c136 c137 c138 c139 c140 c141 c142 c143 c144 c145 c146 c147 c148 c149 c150 c151 c152 c153 c154 c155 c156 c157 c158 c159 c160 c161 c162 c163 c164 c165 c166 c167 c168 c169 c170 c171 c172 c173 c174 c175 c176 c177 c178 c179 c180 c181 c182 c183 c184 c185 c186 c187 c188 c189 c190 c191 c192 c193 c194 c195 c196 c197 c198 c199 c200 c201 c202 c203 c204 c205 c206 c207 c208 c209 c210 c211 c212 c213 c214 c215 c216 c217 c218 c219 c220 c221 c222 c223 c224 c225 c226 c227 c228 c229 c230 c231 c232 c233 c234 c235 c236 c237 c238 c239 c240 c241 c242 c243 c244 c245 c246 c247 c248 c249 c250 c251 c252 c253 c254 c255 c256 c257 c258 c259 c260 c261 c262 c263 : Value)
  (hs : s.ok) (hch : 8 ≤ ch) (hgh : gh < W5.heap.size) (hown : Hid (W5.ownsRow B 46 1 (.slice (some ⟨gh, 0, none⟩) 8 ch) 8 (rowOf .u32 8 s.at)))
  (hexit : ∀ (u251 u252 u253 u254 u255 u256 u257 u258 u259 u260 u261 u262 : Value) (T : ByteArray) (wx : World), Hid (T.data.toList = tell s) → Hid (Below W5.heap.size W5 wx) → Q (.exit 14) ⟨(c0 :: c1 :: c2 :: c3 :: c4 :: (.slice (some ⟨gh, 0, none⟩) 8 ch) :: c6 :: c7 :: c8 :: c9 :: c10 :: c11 :: c12 :: c13 :: c14 :: c15 :: c16 :: c17 :: c18 :: c19 :: c20 :: c21 :: c22 :: (.string T) :: (.int .i64 8) :: c25 :: c26 :: c27 :: c28 :: c29 :: c30 :: c31 :: c32 :: c33 :: c34 :: c35 :: c36 :: c37 :: c38 :: c39 :: c40 :: c41 :: c42 :: c43 :: c44 :: c45 :: c46 :: c47 :: c48 :: c49 :: c50 :: c51 :: c52 :: c53 :: c54 :: c55 :: c56 :: c57 :: c58 :: c59 :: c60 :: c61 :: c62 :: c63 :: c64 :: c65 :: c66 :: c67 :: c68 :: c69 :: c70 :: c71 :: c72 :: c73 :: c74 :: c75 :: c76 :: c77 :: c78 :: c79 :: c80 :: c81 :: c82 :: c83 :: c84 :: c85 :: c86 :: c87 :: c88 :: c89 :: c90 :: c91 :: c92 :: c93 :: c94 :: c95 :: c96 :: c97 :: c98 :: c99 :: c100 :: c101 :: c102 :: c103 :: c104 :: c105 :: c106 :: c107 :: c108 :: c109 :: c110 :: c111 :: c112 :: c113 :: c114 :: c115 :: c116 :: c117 :: c118 :: c119 :: c120 :: c121 :: c122 :: c123 :: c124 :: c125 :: c126 :: c127 :: c128 :: c129 :: c130 :: c131 :: c132 :: c133 :: c134 :: c135 :: c136 :: c137 :: c138 :: c139 :: c140 :: c141 :: c142 :: c143 :: c144 :: c145 :: c146 :: c147 :: c148 :: c149 :: c150 :: c151 :: c152 :: c153 :: c154 :: c155 :: c156 :: c157 :: c158 :: c159 :: c160 :: c161 :: c162 :: c163 :: c164 :: c165 :: c166 :: c167 :: c168 :: c169 :: c170 :: c171 :: c172 :: c173 :: c174 :: c175 :: c176 :: c177 :: c178 :: c179 :: c180 :: c181 :: c182 :: c183 :: c184 :: c185 :: c186 :: c187 :: c188 :: c189 :: c190 :: c191 :: c192 :: c193 :: c194 :: c195 :: c196 :: c197 :: c198 :: c199 :: c200 :: c201 :: c202 :: c203 :: c204 :: c205 :: c206 :: c207 :: c208 :: c209 :: c210 :: c211 :: c212 :: c213 :: c214 :: c215 :: c216 :: c217 :: c218 :: c219 :: c220 :: c221 :: c222 :: c223 :: c224 :: c225 :: c226 :: c227 :: c228 :: c229 :: c230 :: c231 :: c232 :: c233 :: c234 :: c235 :: c236 :: c237 :: c238 :: c239 :: c240 :: c241 :: c242 :: c243 :: c244 :: c245 :: c246 :: c247 :: c248 :: c249 :: c250 :: u251 :: u252 :: u253 :: u254 :: u255 :: u256 :: u257 :: u258 :: u259 :: u260 :: u261 :: u262 :: c263 :: []).toArray, []⟩ wx) :
  Code.wp Tryz.prog (Code.loop shaB8) Q ⟨(c0 :: c1 :: c2 :: c3 :: c4 :: (.slice (some ⟨gh, 0, none⟩) 8 ch) :: c6 :: c7 :: c8 :: c9 :: c10 :: c11 :: c12 :: c13 :: c14 :: c15 :: c16 :: c17 :: c18 :: c19 :: c20 :: c21 :: c22 :: (.string { data := #[] }) :: (.int .i64 0) :: c25 :: c26 :: c27 :: c28 :: c29 :: c30 :: c31 :: c32 :: c33 :: c34 :: c35 :: c36 :: c37 :: c38 :: c39 :: c40 :: c41 :: c42 :: c43 :: c44 :: c45 :: c46 :: c47 :: c48 :: c49 :: c50 :: c51 :: c52 :: c53 :: c54 :: c55 :: c56 :: c57 :: c58 :: c59 :: c60 :: c61 :: c62 :: c63 :: c64 :: c65 :: c66 :: c67 :: c68 :: c69 :: c70 :: c71 :: c72 :: c73 :: c74 :: c75 :: c76 :: c77 :: c78 :: c79 :: c80 :: c81 :: c82 :: c83 :: c84 :: c85 :: c86 :: c87 :: c88 :: c89 :: c90 :: c91 :: c92 :: c93 :: c94 :: c95 :: c96 :: c97 :: c98 :: c99 :: c100 :: c101 :: c102 :: c103 :: c104 :: c105 :: c106 :: c107 :: c108 :: c109 :: c110 :: c111 :: c112 :: c113 :: c114 :: c115 :: c116 :: c117 :: c118 :: c119 :: c120 :: c121 :: c122 :: c123 :: c124 :: c125 :: c126 :: c127 :: c128 :: c129 :: c130 :: c131 :: c132 :: c133 :: c134 :: c135 :: c136 :: c137 :: c138 :: c139 :: c140 :: c141 :: c142 :: c143 :: c144 :: c145 :: c146 :: c147 :: c148 :: c149 :: c150 :: c151 :: c152 :: c153 :: c154 :: c155 :: c156 :: c157 :: c158 :: c159 :: c160 :: c161 :: c162 :: c163 :: c164 :: c165 :: c166 :: c167 :: c168 :: c169 :: c170 :: c171 :: c172 :: c173 :: c174 :: c175 :: c176 :: c177 :: c178 :: c179 :: c180 :: c181 :: c182 :: c183 :: c184 :: c185 :: c186 :: c187 :: c188 :: c189 :: c190 :: c191 :: c192 :: c193 :: c194 :: c195 :: c196 :: c197 :: c198 :: c199 :: c200 :: c201 :: c202 :: c203 :: c204 :: c205 :: c206 :: c207 :: c208 :: c209 :: c210 :: c211 :: c212 :: c213 :: c214 :: c215 :: c216 :: c217 :: c218 :: c219 :: c220 :: c221 :: c222 :: c223 :: c224 :: c225 :: c226 :: c227 :: c228 :: c229 :: c230 :: c231 :: c232 :: c233 :: c234 :: c235 :: c236 :: c237 :: c238 :: c239 :: c240 :: c241 :: c242 :: c243 :: c244 :: c245 :: c246 :: c247 :: c248 :: c249 :: c250 :: c251 :: c252 :: c253 :: c254 :: c255 :: c256 :: c257 :: c258 :: c259 :: c260 :: c261 :: c262 :: c263 :: []).toArray, []⟩ W5 := by
 conv =>
  arg 2
  arg 1
  whnf
 have HS := Lib.hid hs
 clear hs
 go_loopw [23, 24] (fun v i wr => ∃ k : Nat, ∃ T : ByteArray, k ≤ 8 ∧ i = .int .i64 k ∧ v = .string T ∧ Hid (T.data.toList = tellTo s.at k) ∧ Below W5.heap.size W5 wr) (fun _ i _ => 8 - (intOf i).toNat)
 case atStart => exact ⟨0, _, by omega, rfl, rfl, Lib.hid rfl, Below.refl _ _⟩
 case round =>
  obtain ⟨k, T, hk, rfl, rfl, hT, hb⟩ := hrel
  have HB := Lib.hid hb
  clear hb
  by_cases hlt : k < 8
  ·clear hexit
   have hk8 : (k : Int) < 8 := by omega
   have hcell : wr.cell? ⟨gh, k, none⟩ = some (.int .u32 (s.at k)) := by
    rw [HB.out.cell (p := ⟨gh, k, none⟩) hgh]
    exact own_eight hown.out k hlt
   have hx := St.at_lt HS.out k
   obtain ⟨x, hx0⟩ : ∃ x, Hid (x = s.at k) := ⟨_, Lib.hid rfl⟩
   rw [← hx0.out] at hcell hx
   have hxI : (x : Int) < 4294967296 := by omega
   have hsz : T.size = 4 * k := by
    rw [show T.size = T.data.toList.length from rfl, hT.out, tellTo_length]
   have HSZ := Lib.hid hsz
   have hszI : T.size ≤ 32 := by omega
   clear hsz
   obtain ⟨X, hX⟩ : ∃ X : ByteArray, Hid (X = ⟨(be4 x).toArray⟩) := ⟨_, Lib.hid rfl⟩
   have hXs : X.size = 4 := by rw [hX.out]; rfl
   have HT2 : Hid ((T ++ X).data.toList = tellTo s.at (k + 1)) := by
    unfold Hid
    rw [data_append, hT.out, tellTo_succ, hX.out, ← hx0.out]
   have HBIG : Hid (∀ w : World, Calls Tryz.prog 51 #[.int .u64 x, .int .i64 4] w fun e w' => e = .returned (.string X) ∧ Below w.heap.size w w') := by
    unfold Hid
    rw [hX.out]
    exact fun w => Big4 x w
   clear hX
   go_wp2_with fail
   refine (HBIG.out _).mono ?_
   rintro e w2 ⟨rfl, hb2⟩
   have HB2 := Lib.hid (HB.out.trans (hb2.mono HB.out.size))
   clear hb2 HB hcell
   go_wp2
   go_roundw
   case rel => exact ⟨k + 1, _, by omega, by go_num, rfl, HT2, HB2.out⟩
   case measure => simp [intOf]; omega
  ·obtain rfl : k = 8 := by omega
   have HE := Lib.hid hexit
   have HT2 : Hid (T.data.toList = tell s) := by unfold Hid; rw [← tell_to]; exact hT.out
   clear hexit
   rw [show ((8 : Nat) : Int) = (8 : Int) from rfl]
   go_wp2
   exact HE.out _ _ _ _ _ _ _ _ _ _ _ _ T wr HT2 HB
end Go.Proofs.YtdbbcngolcnniaaGreatDoor.S3
/- The constants, one by one. No condition. -/
namespace Go.Proofs.YtdbbcngolcnniaaGreatDoor.S3
set_option linter.unusedSimpArgs false
open Go.RowKit
set_option linter.unusedVariables false
theorem kL_at (j : Nat) (hj : j < 64) : kL[j]? = some (kN j) := by
 unfold kN
 rw [List.getD_eq_getElem?_getD, List.getElem?_eq_getElem (by rw [kL_len]; exact hj)]; rfl
end Go.Proofs.YtdbbcngolcnniaaGreatDoor.S3
