/- The rounds of the document's Wide: the eight numbers behind 80 of them. -/
import Derived.Test.YtnajglmabgofeaaBigS
import Derived.Test.YtnajglmabgofeaaBehA
import Derived.Deep.DeepCutAuto
import Derived.Deep.CutBlock
import Derived.StillTailTactics
namespace Go.Proofs.Ytnajglmabgofeaa
open Go.RowKit
set_option linter.unusedVariables false
noncomputable def shaB3 : Code := ((Try.f8.body.map fun c => (loopsOf c).getD 2 .skip)).getD .skip
noncomputable def shaB6 : Code := (loopsOf shaB3).getD 2 .skip
theorem quiet_more {P : Program} {f : FuncId} {args : Array Value} {w : World} {n : Nat} {v : Value}
    (h : Calls P f args (w.drewN n) fun e w' => e = .returned v ∧ ∃ m, w' = (w.drewN n).drewN m) : Calls P f args (w.drewN n) fun e w'' => e = .returned v ∧ ∃ m, w'' = w.drewN m :=
  h.mono fun _ _ ⟨he, m, hm⟩ => ⟨he, n + m, by rw [hm, World.drewN_drewN]⟩
set_option maxRecDepth 100000 in
set_option maxHeartbeats 4000000 in
theorem sha6_ok (s : St) (l : List UInt8) (gk ck gw cw gv0 cv0 : Nat) (W5 : World) (Q : Exit → Act → World → Prop) (c0 c1 c2 c4 c5 c6 c7 c8 c10 c11 c12 c13 c14 c15 c18 c19 c20 c21 c22 c23 c24 c25 c26 c27 c28 c29 c30 c31 c32 c33 c34 c35 c36 c37 c38 c39 c40 c41 c42 c43 c44 c45 c46 c47 c48 c49 c50 c51 c52 c53 c54 c55 c56 c57 c58 c59 c60 c61 c62 c63 c64 c65 c66 c67 c68 c69 c70 c71 c72 c73 c74 c75 c76 c77 c78 c79 c80 c81 c82 c83 c84 c85 c86 c87 c88 c89 c90 c91 c92 c93 c94 c95 c96 c97 c98 c99 c100 c101 c102 c103 c104 c105 c106 c107 c108 c109 c110 c111 c112 c113 c114 c115 c116 c117 c118 c119 c120 c121 c122 c123 c124 c125 c126 c127 c128 c129 c130 c131 c132 c133 c134 c135 c136 c137 c138 c139 c140 c141 c142 c143 c144 c145 c146 c147 c148 c149 c150 c151 c152 c153 c154 c155 c156 c157 c158 c159 c160 c161 c162 c163 c164 c165 c166 c167 c168 c169 c170 c171 c172 c173 c174 c175 c176 c177 c178 c179 c180 c181 c182 c183 c184 c185 c186 c187 c188 c189 c190 c191 c192 c193 c194 c195 c196 c197 c198 c199 c200 c201 c202 c203 c204 c205 c206 c207 c208 c209 c210 c211 c212 c213 c214 c215 c216 c217 c218 c219 c220 c221 c222 c223 c224 c225 c226 c227 c228 c229 c230 c231 c232 c233 c234 c235 c236 c237 c238 c239 c240 c241 c242 c243 c244 c245 c246 c247 c248 c249 c250 c251 c252 c253 c254 c255 c256 c257 c258 c259 c260 c261 c262 : Value)
    (hs : Hid s.ok) (hck : 80 ≤ ck) (hcw : 80 ≤ cw) (hcv0 : 8 ≤ cv0) (hkT : Hid (∀ j, j < 80 → W5.cell? ⟨gk, j, none⟩ = some (.int .u64 (kN j)))) (hwT : Hid (∀ j, j < 80 → W5.cell? ⟨gw, j, none⟩ = some (.int .u64 (W l j))))
    (hlt3 : Hid (gk < W5.heap.size ∧ gw < W5.heap.size ∧ gv0 < W5.heap.size)) (hv0 : Hid (W5.cell? ⟨gv0, 0, none⟩ = some (.int .u64 s.a) ∧ W5.cell? ⟨gv0, 1, none⟩ = some (.int .u64 s.b) ∧ W5.cell? ⟨gv0, 2, none⟩ = some (.int .u64 s.c) ∧ W5.cell? ⟨gv0, 3, none⟩ = some (.int .u64 s.d) ∧ W5.cell? ⟨gv0, 4, none⟩ = some (.int .u64 s.e) ∧ W5.cell? ⟨gv0, 5, none⟩ = some (.int .u64 s.f) ∧ W5.cell? ⟨gv0, 6, none⟩ = some (.int .u64 s.g) ∧ W5.cell? ⟨gv0, 7, none⟩ = some (.int .u64 s.h)))
    (hexit : ∀ (u18 u19 u20 u21 u135 u136 u137 u138 u139 u140 u141 u142 u143 u144 u145 u146 u147 u148 u149 u150 u151 u152 u153 u154 u155 u156 u157 u158 u159 u160 u161 u162 u163 u164 u165 u166 u167 u168 u169 u170 u171 u172 u173 u174 u175 u176 u177 u178 u179 u180 u181 u182 u183 u184 u185 u186 u187 u188 u189 u190 u191 u192 u193 u194 u195 u196 u197 u198 u199 u200 u201 u202 u203 u204 u205 u206 u207 u208 u209 u210 u211 u212 u213 u214 u215 u216 u217 u218 u219 u220 u221 u222 u223 u224 u225 u226 u227 u228 u229 u230 u231 u232 u233 u234 : Value) (gv cv : Nat) (t : St) (wx : World), 8 ≤ cv → Hid (gv = gv0 ∨ W5.heap.size ≤ gv) → Hid (t = rnds l s 80) → Hid ((wx.cell? ⟨gv, 0, none⟩ = some (.int .u64 t.a) ∧ wx.cell? ⟨gv, 1, none⟩ = some (.int .u64 t.b) ∧ wx.cell? ⟨gv, 2, none⟩ = some (.int .u64 t.c) ∧ wx.cell? ⟨gv, 3, none⟩ = some (.int .u64 t.d) ∧ wx.cell? ⟨gv, 4, none⟩ = some (.int .u64 t.e) ∧ wx.cell? ⟨gv, 5, none⟩ = some (.int .u64 t.f) ∧ wx.cell? ⟨gv, 6, none⟩ = some (.int .u64 t.g) ∧ wx.cell? ⟨gv, 7, none⟩ = some (.int .u64 t.h)) ∧ gv < wx.heap.size ∧ Below W5.heap.size W5 wx) → Q (.exit 10) ⟨(c0 :: c1 :: c2 :: (.slice (some ⟨gk, 0, none⟩) 80 ck) :: c4 :: c5 :: c6 :: c7 :: c8 :: (.slice (some ⟨gw, 0, none⟩) 80 cw) :: c10 :: c11 :: c12 :: c13 :: c14 :: c15 :: (.slice (some ⟨gv, 0, none⟩) 8 cv) :: (.int .i64 80) :: u18 :: u19 :: u20 :: u21 :: c22 :: c23 :: c24 :: c25 :: c26 :: c27 :: c28 :: c29 :: c30 :: c31 :: c32 :: c33 :: c34 :: c35 :: c36 :: c37 :: c38 :: c39 :: c40 :: c41 :: c42 :: c43 :: c44 :: c45 :: c46 :: c47 :: c48 :: c49 :: c50 :: c51 :: c52 :: c53 :: c54 :: c55 :: c56 :: c57 :: c58 :: c59 :: c60 :: c61 :: c62 :: c63 :: c64 :: c65 :: c66 :: c67 :: c68 :: c69 :: c70 :: c71 :: c72 :: c73 :: c74 :: c75 :: c76 :: c77 :: c78 :: c79 :: c80 :: c81 :: c82 :: c83 :: c84 :: c85 :: c86 :: c87 :: c88 :: c89 :: c90 :: c91 :: c92 :: c93 :: c94 :: c95 :: c96 :: c97 :: c98 :: c99 :: c100 :: c101 :: c102 :: c103 :: c104 :: c105 :: c106 :: c107 :: c108 :: c109 :: c110 :: c111 :: c112 :: c113 :: c114 :: c115 :: c116 :: c117 :: c118 :: c119 :: c120 :: c121 :: c122 :: c123 :: c124 :: c125 :: c126 :: c127 :: c128 :: c129 :: c130 :: c131 :: c132 :: c133 :: c134 :: u135 :: u136 :: u137 :: u138 :: u139 :: u140 :: u141 :: u142 :: u143 :: u144 :: u145 :: u146 :: u147 :: u148 :: u149 :: u150 :: u151 :: u152 :: u153 :: u154 :: u155 :: u156 :: u157 :: u158 :: u159 :: u160 :: u161 :: u162 :: u163 :: u164 :: u165 :: u166 :: u167 :: u168 :: u169 :: u170 :: u171 :: u172 :: u173 :: u174 :: u175 :: u176 :: u177 :: u178 :: u179 :: u180 :: u181 :: u182 :: u183 :: u184 :: u185 :: u186 :: u187 :: u188 :: u189 :: u190 :: u191 :: u192 :: u193 :: u194 :: u195 :: u196 :: u197 :: u198 :: u199 :: u200 :: u201 :: u202 :: u203 :: u204 :: u205 :: u206 :: u207 :: u208 :: u209 :: u210 :: u211 :: u212 :: u213 :: u214 :: u215 :: u216 :: u217 :: u218 :: u219 :: u220 :: u221 :: u222 :: u223 :: u224 :: u225 :: u226 :: u227 :: u228 :: u229 :: u230 :: u231 :: u232 :: u233 :: u234 :: c235 :: c236 :: c237 :: c238 :: c239 :: c240 :: c241 :: c242 :: c243 :: c244 :: c245 :: c246 :: c247 :: c248 :: c249 :: c250 :: c251 :: c252 :: c253 :: c254 :: c255 :: c256 :: c257 :: c258 :: c259 :: c260 :: c261 :: c262 :: []).toArray, []⟩ wx) :
    Code.wp Try.prog (Code.loop shaB6) Q ⟨(c0 :: c1 :: c2 :: (.slice (some ⟨gk, 0, none⟩) 80 ck) :: c4 :: c5 :: c6 :: c7 :: c8 :: (.slice (some ⟨gw, 0, none⟩) 80 cw) :: c10 :: c11 :: c12 :: c13 :: c14 :: c15 :: (.slice (some ⟨gv0, 0, none⟩) 8 cv0) :: (.int .i64 0) :: c18 :: c19 :: c20 :: c21 :: c22 :: c23 :: c24 :: c25 :: c26 :: c27 :: c28 :: c29 :: c30 :: c31 :: c32 :: c33 :: c34 :: c35 :: c36 :: c37 :: c38 :: c39 :: c40 :: c41 :: c42 :: c43 :: c44 :: c45 :: c46 :: c47 :: c48 :: c49 :: c50 :: c51 :: c52 :: c53 :: c54 :: c55 :: c56 :: c57 :: c58 :: c59 :: c60 :: c61 :: c62 :: c63 :: c64 :: c65 :: c66 :: c67 :: c68 :: c69 :: c70 :: c71 :: c72 :: c73 :: c74 :: c75 :: c76 :: c77 :: c78 :: c79 :: c80 :: c81 :: c82 :: c83 :: c84 :: c85 :: c86 :: c87 :: c88 :: c89 :: c90 :: c91 :: c92 :: c93 :: c94 :: c95 :: c96 :: c97 :: c98 :: c99 :: c100 :: c101 :: c102 :: c103 :: c104 :: c105 :: c106 :: c107 :: c108 :: c109 :: c110 :: c111 :: c112 :: c113 :: c114 :: c115 :: c116 :: c117 :: c118 :: c119 :: c120 :: c121 :: c122 :: c123 :: c124 :: c125 :: c126 :: c127 :: c128 :: c129 :: c130 :: c131 :: c132 :: c133 :: c134 :: c135 :: c136 :: c137 :: c138 :: c139 :: c140 :: c141 :: c142 :: c143 :: c144 :: c145 :: c146 :: c147 :: c148 :: c149 :: c150 :: c151 :: c152 :: c153 :: c154 :: c155 :: c156 :: c157 :: c158 :: c159 :: c160 :: c161 :: c162 :: c163 :: c164 :: c165 :: c166 :: c167 :: c168 :: c169 :: c170 :: c171 :: c172 :: c173 :: c174 :: c175 :: c176 :: c177 :: c178 :: c179 :: c180 :: c181 :: c182 :: c183 :: c184 :: c185 :: c186 :: c187 :: c188 :: c189 :: c190 :: c191 :: c192 :: c193 :: c194 :: c195 :: c196 :: c197 :: c198 :: c199 :: c200 :: c201 :: c202 :: c203 :: c204 :: c205 :: c206 :: c207 :: c208 :: c209 :: c210 :: c211 :: c212 :: c213 :: c214 :: c215 :: c216 :: c217 :: c218 :: c219 :: c220 :: c221 :: c222 :: c223 :: c224 :: c225 :: c226 :: c227 :: c228 :: c229 :: c230 :: c231 :: c232 :: c233 :: c234 :: c235 :: c236 :: c237 :: c238 :: c239 :: c240 :: c241 :: c242 :: c243 :: c244 :: c245 :: c246 :: c247 :: c248 :: c249 :: c250 :: c251 :: c252 :: c253 :: c254 :: c255 :: c256 :: c257 :: c258 :: c259 :: c260 :: c261 :: c262 :: []).toArray, []⟩ W5 := by
  conv =>
    arg 2
    arg 1
    whnf
  go_loopw [16, 17, 18, 19, 20, 21] (fun v i _ _ _ _ wr => ∃ k gv cv : Nat, ∃ t : St, k ≤ 80 ∧ i = .int .i64 k ∧ v = .slice (some ⟨gv, 0, none⟩) 8 cv ∧ 8 ≤ cv ∧ Hid (gv = gv0 ∨ W5.heap.size ≤ gv) ∧ Hid (t = rnds l s k) ∧ (wr.cell? ⟨gv, 0, none⟩ = some (.int .u64 t.a) ∧ wr.cell? ⟨gv, 1, none⟩ = some (.int .u64 t.b) ∧ wr.cell? ⟨gv, 2, none⟩ = some (.int .u64 t.c) ∧ wr.cell? ⟨gv, 3, none⟩ = some (.int .u64 t.d) ∧ wr.cell? ⟨gv, 4, none⟩ = some (.int .u64 t.e) ∧ wr.cell? ⟨gv, 5, none⟩ = some (.int .u64 t.f) ∧ wr.cell? ⟨gv, 6, none⟩ = some (.int .u64 t.g) ∧ wr.cell? ⟨gv, 7, none⟩ = some (.int .u64 t.h)) ∧ gv < wr.heap.size ∧ Below W5.heap.size W5 wr) (fun _ i _ _ _ _ _ => 80 - (intOf i).toNat)
  case atStart => exact ⟨0, gv0, cv0, s, by omega, rfl, rfl, hcv0, Lib.hid (Or.inl rfl), Lib.hid rfl, hv0.out, hlt3.out.2.2, Below.refl _ _⟩
  case round =>
    clear hv0 hcv0
    obtain ⟨k, gv, cv, t, hk, rfl, rfl, hcv, hgo, ht, h8, hgv, hb⟩ := hrel
    have H8 := Lib.hid h8
    have HGV := Lib.hid hgv
    have HB := Lib.hid hb
    clear h8 hgv hb
    by_cases hlt : k < 80
    · clear hexit
      have hk64 : (k : Int) < 80 := by omega
      have cwk : wr.cell? ⟨gw, k, none⟩ = some (.int .u64 (W l k)) := (HB.out.cell (p := ⟨gw, k, none⟩) hlt3.out.2.1).trans (hwT.out k hlt)
      have ckk : wr.cell? ⟨gk, k, none⟩ = some (.int .u64 (kN k)) := (HB.out.cell (p := ⟨gk, k, none⟩) hlt3.out.1).trans (hkT.out k hlt)
      obtain ⟨v0, v1, v2, v3, v4, v5, v6, v7⟩ := H8.out
      have HT : Hid t.ok := by unfold Hid; rw [ht.out]; exact rnds_ok l hs.out k
      have r6 := Lib.hid (rror_any t.e 14 14 rfl HT.out.2.2.2.2.1 (by decide) (by decide))
      have r11 := Lib.hid (rror_any t.e 18 18 rfl HT.out.2.2.2.2.1 (by decide) (by decide))
      have r25 := Lib.hid (rror_any t.e 41 41 rfl HT.out.2.2.2.2.1 (by decide) (by decide))
      have r2 := Lib.hid (rror_any t.a 28 28 rfl HT.out.1 (by decide) (by decide))
      have r13 := Lib.hid (rror_any t.a 34 34 rfl HT.out.1 (by decide) (by decide))
      have r22 := Lib.hid (rror_any t.a 39 39 rfl HT.out.1 (by decide) (by decide))
      go_wp2
      have Fwr : Hid ((wr.cell? ⟨gv, 0, none⟩ = some (.int .u64 t.a) ∧ wr.cell? ⟨gv, 1, none⟩ = some (.int .u64 t.b) ∧ wr.cell? ⟨gv, 2, none⟩ = some (.int .u64 t.c) ∧ wr.cell? ⟨gv, 3, none⟩ = some (.int .u64 t.d) ∧ wr.cell? ⟨gv, 4, none⟩ = some (.int .u64 t.e) ∧ wr.cell? ⟨gv, 5, none⟩ = some (.int .u64 t.f) ∧ wr.cell? ⟨gv, 6, none⟩ = some (.int .u64 t.g) ∧ wr.cell? ⟨gv, 7, none⟩ = some (.int .u64 t.h)) ∧ wr.cell? ⟨gw, k, none⟩ = some (.int .u64 (W l k)) ∧ wr.cell? ⟨gk, k, none⟩ = some (.int .u64 (kN k)) ∧ gv < wr.heap.size ∧ Below W5.heap.size W5 wr) := ⟨H8.out, cwk, ckk, HGV.out, HB.out⟩
      clear H8 HGV HB
      go_quiet (fail)
      go_upto_region 33 with (fail)
      obtain ⟨wb, hwwb⟩ : ∃ wb, wb = wr.drewN nq := ⟨_, rfl⟩
      have Fwb : Hid ((wb.cell? ⟨gv, 0, none⟩ = some (.int .u64 t.a) ∧ wb.cell? ⟨gv, 1, none⟩ = some (.int .u64 t.b) ∧ wb.cell? ⟨gv, 2, none⟩ = some (.int .u64 t.c) ∧ wb.cell? ⟨gv, 3, none⟩ = some (.int .u64 t.d) ∧ wb.cell? ⟨gv, 4, none⟩ = some (.int .u64 t.e) ∧ wb.cell? ⟨gv, 5, none⟩ = some (.int .u64 t.f) ∧ wb.cell? ⟨gv, 6, none⟩ = some (.int .u64 t.g) ∧ wb.cell? ⟨gv, 7, none⟩ = some (.int .u64 t.h)) ∧ wb.cell? ⟨gw, k, none⟩ = some (.int .u64 (W l k)) ∧ wb.cell? ⟨gk, k, none⟩ = some (.int .u64 (kN k)) ∧ gv < wb.heap.size ∧ Below W5.heap.size W5 wb) := by
        rw [hwwb]
        exact ⟨Fwr.out.1, Fwr.out.2.1, Fwr.out.2.2.1, Fwr.out.2.2.2.1, Below.drewN' Fwr.out.2.2.2.2 _⟩
      rw [← hwwb]
      clear hwwb v0 v1 v2 v3 v4 v5 v6 v7 cwk ckk Fwr
      obtain ⟨⟨v0, v1, v2, v3, v4, v5, v6, v7⟩, cwk, ckk, -, -⟩ := Fwb.out
      go_quiet (first | (go_at_call 21; with_reducible exact quiet_more (r6.out _)) | (go_at_call 21; with_reducible exact quiet_more (r11.out _)) | (go_at_call 21; with_reducible exact quiet_more (r25.out _)))
      go_upto_region 34 with (fail)
      obtain ⟨wc, hwwc⟩ : ∃ wc, wc = wb.drewN nq := ⟨_, rfl⟩
      have Fwc : Hid ((wc.cell? ⟨gv, 0, none⟩ = some (.int .u64 t.a) ∧ wc.cell? ⟨gv, 1, none⟩ = some (.int .u64 t.b) ∧ wc.cell? ⟨gv, 2, none⟩ = some (.int .u64 t.c) ∧ wc.cell? ⟨gv, 3, none⟩ = some (.int .u64 t.d) ∧ wc.cell? ⟨gv, 4, none⟩ = some (.int .u64 t.e) ∧ wc.cell? ⟨gv, 5, none⟩ = some (.int .u64 t.f) ∧ wc.cell? ⟨gv, 6, none⟩ = some (.int .u64 t.g) ∧ wc.cell? ⟨gv, 7, none⟩ = some (.int .u64 t.h)) ∧ wc.cell? ⟨gw, k, none⟩ = some (.int .u64 (W l k)) ∧ wc.cell? ⟨gk, k, none⟩ = some (.int .u64 (kN k)) ∧ gv < wc.heap.size ∧ Below W5.heap.size W5 wc) := by
        rw [hwwc]
        exact ⟨Fwb.out.1, Fwb.out.2.1, Fwb.out.2.2.1, Fwb.out.2.2.2.1, Below.drewN' Fwb.out.2.2.2.2 _⟩
      rw [← hwwc]
      clear hwwc v0 v1 v2 v3 v4 v5 v6 v7 cwk ckk Fwb
      obtain ⟨⟨v0, v1, v2, v3, v4, v5, v6, v7⟩, cwk, ckk, -, -⟩ := Fwc.out
      have HUU := u_int t HT.out (kN k) (W l k)
      obtain ⟨U, hU⟩ : ∃ U, Hid (U = uN t (kN k) (W l k)) := ⟨_, Lib.hid rfl⟩
      rw [← hU.out] at HUU
      rw [HUU]
      clear HUU r6 r11 r25
      go_quiet (first | (go_at_call 21; with_reducible exact quiet_more (r2.out _)) | (go_at_call 21; with_reducible exact quiet_more (r13.out _)) | (go_at_call 21; with_reducible exact quiet_more (r22.out _)))
      go_upto_region 35 with (fail)
      obtain ⟨wd, hwwd⟩ : ∃ wd, wd = wc.drewN nq := ⟨_, rfl⟩
      have Fwd : Hid ((wd.cell? ⟨gv, 0, none⟩ = some (.int .u64 t.a) ∧ wd.cell? ⟨gv, 1, none⟩ = some (.int .u64 t.b) ∧ wd.cell? ⟨gv, 2, none⟩ = some (.int .u64 t.c) ∧ wd.cell? ⟨gv, 3, none⟩ = some (.int .u64 t.d) ∧ wd.cell? ⟨gv, 4, none⟩ = some (.int .u64 t.e) ∧ wd.cell? ⟨gv, 5, none⟩ = some (.int .u64 t.f) ∧ wd.cell? ⟨gv, 6, none⟩ = some (.int .u64 t.g) ∧ wd.cell? ⟨gv, 7, none⟩ = some (.int .u64 t.h)) ∧ wd.cell? ⟨gw, k, none⟩ = some (.int .u64 (W l k)) ∧ wd.cell? ⟨gk, k, none⟩ = some (.int .u64 (kN k)) ∧ gv < wd.heap.size ∧ Below W5.heap.size W5 wd) := by
        rw [hwwd]
        exact ⟨Fwc.out.1, Fwc.out.2.1, Fwc.out.2.2.1, Fwc.out.2.2.2.1, Below.drewN' Fwc.out.2.2.2.2 _⟩
      rw [← hwwd]
      clear hwwd v0 v1 v2 v3 v4 v5 v6 v7 cwk ckk Fwc
      obtain ⟨⟨v0, v1, v2, v3, v4, v5, v6, v7⟩, cwk, ckk, -, -⟩ := Fwd.out
      have HVV := v_int t HT.out
      obtain ⟨V, hV⟩ : ∃ V, Hid (V = vN t) := ⟨_, Lib.hid rfl⟩
      rw [← hV.out] at HVV
      rw [HVV]
      clear HVV r2 r13 r22
      go_still_tail 26, (by kernel_rfl)
      change wpList _ _ _ _ _ wd.drew
      obtain ⟨we, hwe⟩ : ∃ we, we = wd.drew := ⟨_, rfl⟩
      have Fwe : Hid ((we.cell? ⟨gv, 0, none⟩ = some (.int .u64 t.a) ∧ we.cell? ⟨gv, 1, none⟩ = some (.int .u64 t.b) ∧ we.cell? ⟨gv, 2, none⟩ = some (.int .u64 t.c) ∧ we.cell? ⟨gv, 3, none⟩ = some (.int .u64 t.d) ∧ we.cell? ⟨gv, 4, none⟩ = some (.int .u64 t.e) ∧ we.cell? ⟨gv, 5, none⟩ = some (.int .u64 t.f) ∧ we.cell? ⟨gv, 6, none⟩ = some (.int .u64 t.g) ∧ we.cell? ⟨gv, 7, none⟩ = some (.int .u64 t.h)) ∧ gv < we.heap.size ∧ Below W5.heap.size W5 we) := by
        rw [hwe]
        exact ⟨Fwd.out.1, Fwd.out.2.2.2.1, Below.drew Fwd.out.2.2.2.2⟩
      rw [← hwe]
      clear hwe v0 v1 v2 v3 v4 v5 v6 v7 cwk ckk Fwd
      obtain ⟨⟨v0, v1, v2, v3, v4, v5, v6, v7⟩, -, -⟩ := Fwe.out
      go_wp2
      have e0 : IntKind.u64.wrap ((U : Int) + (V : Int)) = (((rnd t (kN k) (W l k)).a : Nat) : Int) := by
        rw [hU.out, hV.out, wadd]
        rfl
      have e4 : IntKind.u64.wrap ((t.d : Int) + (U : Int)) = (((rnd t (kN k) (W l k)).e : Nat) : Int) := by
        rw [hU.out, wadd]
        rfl
      have HFE := Fwe
      clear v0 v1 v2 v3 v4 v5 v6 v7 Fwe
      go_roundw
      case rel =>
        refine ⟨k + 1, we.heap.size, 8, rnd t (kN k) (W l k), by omega, by go_num, rfl, by omega, Lib.hid (Or.inr HFE.out.2.2.size), Lib.hid (by rw [ht.out]; rfl), ⟨?_, ?_, ?_, ?_, ?_, ?_, ?_, ?_⟩, ?_, ?_⟩
        · rw [← e0]; exact cell_of_row _ _ _ _ _ _ (heap_alloc_new we _)
        · exact cell_of_row _ _ _ _ _ _ (heap_alloc_new we _)
        · exact cell_of_row _ _ _ _ _ _ (heap_alloc_new we _)
        · exact cell_of_row _ _ _ _ _ _ (heap_alloc_new we _)
        · rw [← e4]; exact cell_of_row _ _ _ _ _ _ (heap_alloc_new we _)
        · exact cell_of_row _ _ _ _ _ _ (heap_alloc_new we _)
        · exact cell_of_row _ _ _ _ _ _ (heap_alloc_new we _)
        · exact cell_of_row _ _ _ _ _ _ (heap_alloc_new we _)
        · simp
        · exact HFE.out.2.2.alloc HFE.out.2.2.size _
      case measure => simp [intOf]; omega
    · obtain rfl : k = 80 := by omega
      have HE := Lib.hid hexit
      have HX := Lib.hid (And.intro H8.out (And.intro HGV.out HB.out))
      clear hexit H8 HGV HB
      rw [show ((80 : Nat) : Int) = (80 : Int) from rfl]
      go_wp2
      exact HE.out _ _ _ _ _ _ _ _ _ _ _ _ _ _ _ _ _ _ _ _ _ _ _ _ _ _ _ _ _ _ _ _ _ _ _ _ _ _ _ _ _ _ _ _ _ _ _ _ _ _ _ _ _ _ _ _ _ _ _ _ _ _ _ _ _ _ _ _ _ _ _ _ _ _ _ _ _ _ _ _ _ _ _ _ _ _ _ _ _ _ _ _ _ _ _ _ _ _ _ _ _ _ _ _ gv cv t wr hcv hgo ht HX
end Go.Proofs.Ytnajglmabgofeaa
