/- Several texts, one behind the other; each says by itself what it proves, and on what conditions. -/
import Derived.Test.YtdbbcngolcnniaaGreatDoorY25
import Derived.Deep.DeepCutAuto
import Derived.Deep.CutBlock
import Derived.StillTailTactics
import Derived.Deep.RegionLaw
import Derived.BigRegion
import Derived.Deep.RegionHeld3
/- Big and big of the document's package: bytes of a number, and back. No condition but that the number has 64 bits, the bytes are four or eight. -/
namespace Go.Proofs.YtdbbcngolcnniaaGreatDoor.S3
set_option linter.unusedSimpArgs false
open Go.RowKit
set_option linter.unusedVariables false
def bigTo (l : List UInt8) : Nat → Nat
 | 0 => 0
 | k + 1 => bigTo l k * 256 + (l.getD k 0).toNat
theorem bigTo_lt (l : List UInt8) : ∀ k, bigTo l k < 256 ^ k
 | 0 => by show 0 < 1; omega
 | k + 1 => by
  have h := bigTo_lt l k
  have hc := (l.getD k 0).toNat_lt
  show bigTo l k * 256 + _ < 256 ^ k * 256
  omega
theorem bigTo_be (l : List UInt8) : bigTo l 4 = be l 0 := by
 show (((0 * 256 + (l.getD 0 0).toNat) * 256 + (l.getD 1 0).toNat) * 256 + (l.getD 2 0).toNat) * 256 + (l.getD 3 0).toNat = (l.getD (4 * 0) 0).toNat * 16777216 + (l.getD (4 * 0 + 1) 0).toNat * 65536 + (l.getD (4 * 0 + 2) 0).toNat * 256 + (l.getD (4 * 0 + 3) 0).toNat
 simp only [Nat.mul_zero, Nat.zero_add, Nat.zero_mul]
 omega
theorem or_low (N c : Nat) (hN : N < 16777216) (hc : c < 256) : bits .or .u64 ((N * 256 : Nat) : Int) (c : Int) = ((N * 256 + c : Nat) : Int) := by
 rw [bits_or_u64_nat (N * 256) c (by omega) (by omega)]
 have h := Nat.two_pow_add_eq_or_of_lt (i := 8) (b := c) (by omega) N
 rw [show N * 256 = 2 ^ 8 * N by omega, h]
set_option maxRecDepth 100000 in
set_option maxHeartbeats 1000000 in
theorem big_any (s : ByteArray) (hs : s.size = 4) (w : World) : Calls Tryz.prog 52 #[.string s] w fun e w' => e = .returned (.int .u64 (be s.data.toList 0)) ∧ w = w' := by
 obtain ⟨out, hout⟩ : ∃ out, Hid (out = be s.data.toList 0) := ⟨_, Lib.hid rfl⟩
 rw [← hout.out]
 have hsI : (s.size : Int) = 4 := by omega
 go_enter Tryz.func52, Tryz.ntmps52
 go_wp2
 go_loop [3, 4] (fun v i => ∃ k N : Nat, k ≤ 4 ∧ i = .int .i64 k ∧ v = .int .u64 N ∧ Hid (N = bigTo s.data.toList k)) (fun _ i => 4 - (intOf i).toNat)
 case atStart => exact ⟨0, 0, by omega, rfl, rfl, Lib.hid rfl⟩
 case round =>
  obtain ⟨k, N, hk, rfl, rfl, hN⟩ := hrel
  by_cases hlt : k < 4
  ·have hks : k < s.size := by omega
   have hN4 : Hid (N < 16777216) := by
    unfold Hid
    rw [hN.out]
    exact Nat.lt_of_lt_of_le (bigTo_lt _ k) (Nat.le_trans (Nat.pow_le_pow_right (by decide) (show k ≤ 3 by omega)) (by decide))
   obtain ⟨c, hc0⟩ : ∃ c, c = s[k].toNat := ⟨_, rfl⟩
   have hc : c < 256 := by rw [hc0]; exact UInt8.toNat_lt _
   have HST : Hid (N * 256 + c = bigTo s.data.toList (k + 1)) := by
    unfold Hid
    show _ = bigTo s.data.toList k * 256 + (s.data.toList.getD k 0).toNat
    rw [hc0, ← hN.out, List.getD_eq_getElem?_getD, List.getElem?_eq_getElem (show k < s.data.toList.length from hks)]
    rfl
   have hor := or_low N c hN4.out hc
   obtain ⟨M, hM⟩ : ∃ M, Hid (M = N * 256) := ⟨_, Lib.hid rfl⟩
   have hsh : IntKind.u64.wrap ((N : Int) * 2 ^ 8) = (M : Int) := by
    have h2 := hN4.out
    rw [show IntKind.u64.wrap ((N : Int) * 2 ^ 8) = ((N * 2 ^ 8 % 18446744073709551616 : Nat) : Int) from wrap64_shl N 8, hM.out]
    omega
   have hsh2 : IntKind.u64.wrap ((N : Int) * 256) = (M : Int) := hsh
   rw [← hM.out] at hor
   obtain ⟨R, hR⟩ : ∃ R, Hid (R = M + c) := ⟨_, Lib.hid rfl⟩
   rw [← hR.out] at hor
   have HST2 : Hid (R = bigTo s.data.toList (k + 1)) := by unfold Hid; rw [hR.out, hM.out]; exact HST.out
   clear hN HST hR hM
   have hcc : s[k].toNat = c := hc0.symm
   clear hc0
   go_wp2
   go_round
   case rel => exact ⟨k + 1, R, by omega, by go_num, rfl, HST2⟩
   case measure => simp [intOf]; omega
  ·obtain rfl : k = 4 := by omega
   have he : N = out := by rw [hN.out, hout.out]; exact bigTo_be _
   subst he
   clear hout hN
   rw [show ((4 : Nat) : Int) = (4 : Int) from rfl]
   go_wp2
   go_ret
   exact ⟨rfl, rfl⟩
def bigL (n m : Nat) : List UInt8 := (List.range m).map fun j => UInt8.ofNat (n / 2 ^ (8 * (m - 1 - j)))
theorem bigL8 (n : Nat) : bigL n 8 = be8 n := by
 show [UInt8.ofNat (n / 2 ^ 56), UInt8.ofNat (n / 2 ^ 48), UInt8.ofNat (n / 2 ^ 40), UInt8.ofNat (n / 2 ^ 32), UInt8.ofNat (n / 2 ^ 24), UInt8.ofNat (n / 2 ^ 16), UInt8.ofNat (n / 2 ^ 8), UInt8.ofNat (n / 2 ^ 0)] = _
 rw [show n / 2 ^ 0 = n by rw [Nat.pow_zero, Nat.div_one]]
 rfl
theorem bigL4 (n : Nat) : bigL n 4 = be4 n := by
 show [UInt8.ofNat (n / 2 ^ 24), UInt8.ofNat (n / 2 ^ 16), UInt8.ofNat (n / 2 ^ 8), UInt8.ofNat (n / 2 ^ 0)] = _
 rw [show n / 2 ^ 0 = n by rw [Nat.pow_zero, Nat.div_one]]
 rfl
def fTo (n m k j : Nat) : Nat := if j < k then n / 2 ^ (8 * (m - 1 - j)) % 256 else 0
theorem fTo_step (n m k v : Nat) (hv : v = n / 2 ^ (8 * (m - 1 - k)) % 256) : ∀ j, j < m → upd (fTo n m k) k v j = fTo n m (k + 1) j := by
 intro j _
 unfold upd fTo
 by_cases e : j = k
 ·subst e; rw [if_pos rfl, if_pos (by omega), hv]
 ·rw [if_neg e]
  by_cases h : j < k
  ·rw [if_pos h, if_pos (by omega)]
  ·rw [if_neg h, if_neg (by omega)]
theorem fTo_all (n m : Nat) : rowOf .u8 m (fTo n m m) = bytesV (bigL n m) := by
 apply List.ext_getElem?
 intro j
 by_cases hj : j < m
 ·rw [rowOf_get _ _ _ _ hj]
  unfold bytesV bigL fTo
  rw [List.map_map, List.getElem?_map, List.getElem?_range hj, if_pos hj]
  simp [UInt8.toNat_ofNat']
 ·rw [List.getElem?_eq_none (by rw [rowOf_length]; omega), List.getElem?_eq_none (by rw [bytesV_length]; unfold bigL; simp; omega)]
theorem make8 (W : World) : (Instr.makeSlice 22 (.int .i64 8) (.int .i64 8)).run Tryz.prog W = .ok (.slice (some ⟨W.heap.size, 0, none⟩) 8 8) (W.alloc (.cells (rowOf .u8 8 (fun _ => 0)).toArray 5)) := by kernel_rfl
theorem make4 (W : World) : (Instr.makeSlice 22 (.int .i64 4) (.int .i64 4)).run Tryz.prog W = .ok (.slice (some ⟨W.heap.size, 0, none⟩) 4 4) (W.alloc (.cells (rowOf .u8 4 (fun _ => 0)).toArray 5)) := by kernel_rfl
set_option maxRecDepth 100000 in
set_option maxHeartbeats 1000000 in
theorem Big_walk (n m : Nat) (hm : m ≤ 8) (hm0 : 0 < m) (hmk : ∀ W : World, (Instr.makeSlice 22 (.int .i64 m) (.int .i64 m)).run Tryz.prog W = .ok (.slice (some ⟨W.heap.size, 0, none⟩) m m) (W.alloc (.cells (rowOf .u8 m (fun _ => 0)).toArray 5))) (w : World) :
  Calls Tryz.prog 51 #[.int .u64 n, .int .i64 m] w fun e w' => e = .returned (.string ⟨(bigL n m).toArray⟩) ∧ Below w.heap.size w w' := by
 obtain ⟨tl, htl⟩ : ∃ tl : ByteArray, Hid (tl = ⟨(bigL n m).toArray⟩) := ⟨_, Lib.hid rfl⟩
 rw [← htl.out]
 have hr0 : Hid (Row (w.alloc (.cells (rowOf .u8 m (fun _ => 0)).toArray 5)) w.heap.size 5 .u8 m (fTo n m 0)) := Lib.hid (Row.ext (Row.new w 5 .u8 m (fun _ => 0)) (fun j _ => rfl))
 obtain ⟨z, hz⟩ : ∃ z, Hid (z = (rowOf .u8 m (fun _ => 0)).toArray) := ⟨_, Lib.hid rfl⟩
 rw [← hz.out] at hr0
 have hmk2 : ∀ W : World, (Instr.makeSlice 22 (.int .i64 m) (.int .i64 m)).run Tryz.prog W = .ok (.slice (some ⟨W.heap.size, 0, none⟩) m m) (W.alloc (.cells z 5)) := by rw [hz.out]; exact hmk
 clear hmk
 go_enter Tryz.func51, Tryz.ntmps51
 go_wp2
 go_loopw [6] (fun i wr => ∃ k : Nat, k ≤ m ∧ i = .int .i64 k ∧ Row wr w.heap.size 5 .u8 m (fTo n m k) ∧ Below w.heap.size w wr) (fun i _ => m - (intOf i).toNat)
 case atStart => exact ⟨0, by omega, rfl, hr0.out, (Below.refl _ w).alloc (Nat.le_refl _) _⟩
 case round =>
  clear hr0
  obtain ⟨k, hk, rfl, hrow, hb⟩ := hrel
  have HR := Lib.hid hrow
  have HB := Lib.hid hb
  clear hrow hb
  by_cases hlt : k < m
  ·obtain ⟨S, hS⟩ : ∃ S, Hid (S = 8 * (m - 1 - k)) := ⟨_, Lib.hid rfl⟩
   have hS1 : (8 : Int) * ((m : Int) - 1 - (k : Int)) = (S : Int) := by rw [hS.out]; omega
   have hS64 : S < 64 := by rw [hS.out]; omega
   obtain ⟨b, hb0⟩ : ∃ b, Hid (b = n / 2 ^ S % 256) := ⟨_, Lib.hid rfl⟩
   have hwr : IntKind.u8.wrap ((n : Int) / 2 ^ S) = (b : Int) := by
    rw [shr_cast, hb0.out]
    have h : ∀ x : Nat, IntKind.u8.wrap (x : Int) = (x : Int) % 256 := fun x => by simp [IntKind.wrap, IntKind.bits, IntKind.signed]
    rw [h]; omega
   have ck : wr.cell? ⟨w.heap.size, k, none⟩ = some (.int .u8 (fTo n m k k)) := HR.out.cell k hlt
   have fk : wr.frozen? ⟨w.heap.size, k, none⟩ = false := HR.out.free k
   have HN : Hid (Row (wr.setCell ⟨w.heap.size, k, none⟩ (.int .u8 b)) w.heap.size 5 .u8 m (fTo n m (k + 1))) := Lib.hid (Row.ext (Row.set (w := wr) HR.out k b) (fTo_step n m k b (by rw [hb0.out, hS.out])))
   have HN2 : Hid (Below w.heap.size w (wr.setCell ⟨w.heap.size, k, none⟩ (.int .u8 b))) := Lib.hid (HB.out.setCell (p := ⟨w.heap.size, k, none⟩) (Nat.le_refl _) _)
   generalize fTo n m k k = old at *
   have hltI : (k : Int) < m := by omega
   go_wp2
   go_roundw
   case rel => exact ⟨k + 1, by omega, by go_num, HN.out, HN2.out⟩
   case measure => simp [intOf]; omega
  ·obtain rfl : k = m := by omega
   have hown : wr.ownsRow w.heap.size 5 1 (.slice (some ⟨w.heap.size, 0, none⟩) k k) k (bytesV (bigL n k)) := by
    rw [← fTo_all]
    exact ⟨by rw [rowOf_length]; omega, Or.inr ⟨w.heap.size, k, _, rfl, Nat.le_refl _, HR.out, Nat.le_refl _, by unfold maxLen; omega, by rw [rowOf_size]; omega, by rw [Nat.mul_one]; exact List.take_of_length_le (by rw [rowOf_length]; exact Nat.le_refl _)⟩⟩
   obtain ⟨g, cap, he, hcv⟩ := bytes_str hown hm0
   injection he with he1 _ he2
   injection he1 with he1
   injection he1 with he1
   subst he1
   subst he2
   rw [← htl.out] at hcv
   clear hown HR hmk2
   go_wp2
   go_ret
   exact ⟨rfl, HB.out⟩
theorem Big8 (n : Nat) (w : World) : Calls Tryz.prog 51 #[.int .u64 n, .int .i64 8] w fun e w' => e = .returned (.string ⟨(be8 n).toArray⟩) ∧ Below w.heap.size w w' := by
 have h := Big_walk n 8 (by omega) (by omega) make8 w
 rw [bigL8] at h
 exact h
theorem Big4 (n : Nat) (w : World) : Calls Tryz.prog 51 #[.int .u64 n, .int .i64 4] w fun e w' => e = .returned (.string ⟨(be4 n).toArray⟩) ∧ Below w.heap.size w w' := by
 have h := Big_walk n 4 (by omega) (by omega) make4 w
 rw [bigL4] at h
 exact h
end Go.Proofs.YtdbbcngolcnniaaGreatDoor.S3
/- The rounds of the document's Sha: the eight numbers behind 64 of them. -/
namespace Go.Proofs.YtdbbcngolcnniaaGreatDoor.S3
set_option linter.unusedSimpArgs false
open Go.RowKit
set_option linter.unusedVariables false
noncomputable def shaB3 : Code := ((Tryz.f26.body.map fun c => (loopsOf c).getD 2 .skip)).getD .skip
noncomputable def shaB6 : Code := (loopsOf shaB3).getD 2 .skip
theorem u_int2 (t : St) (ht : t.ok) (k w : Nat) : ((((t.h : Int) + bits BinOp.xor IntKind.u32 (bits BinOp.xor IntKind.u32 ((rorN t.e 6 : Nat) : Int) ((rorN t.e 11 : Nat) : Int)) ((rorN t.e 25 : Nat) : Int) +
  bits BinOp.xor IntKind.u32 (bits BinOp.and IntKind.u32 (t.e : Int) (t.f : Int)) (bits BinOp.and IntKind.u32 (bits BinOp.xor IntKind.u32 (if IntKind.u32.signed = true then -1 else IntKind.u32.max) (t.e : Int)) (t.g : Int)) + (k : Int)) % 4294967296 + (w : Int)) % 4294967296) = ((uN t k w : Nat) : Int) := by
 rw [← u_int t ht k w, Int.emod_add_emod]
theorem quiet_more {P : Program} {f : FuncId} {args : Array Value} {w : World} {n : Nat} {v : Value}
  (h : Calls P f args (w.drewN n) fun e w' => e = .returned v ∧ ∃ m, w' = (w.drewN n).drewN m) : Calls P f args (w.drewN n) fun e w'' => e = .returned v ∧ ∃ m, w'' = w.drewN m :=
 h.mono fun _ _ ⟨he, m, hm⟩ => ⟨he, n + m, by rw [hm, World.drewN_drewN]⟩
set_option maxRecDepth 100000 in
set_option maxHeartbeats 4000000 in
theorem sha6_ok (s : St) (l : List UInt8) (gk ck gw cw gv0 cv0 : Nat) (W5 : World) (Q : Exit → Act → World → Prop) (c0 c1 c2 c4 c5 c6 c7 c8 c10 c11 c12 c13 c14 c15 c18 c19 c20 c21 c22 c23 c24 c25 c26 c27 c28 c29 c30 c31 c32 c33 c34 c35 c36 c37 c38 c39 c40 c41 c42 c43 c44 c45 c46 c47 c48 c49 c50 c51 c52 c53 c54 c55 c56 c57 c58 c59 c60 c61 c62 c63 c64 c65 c66 c67 c68 c69 c70 c71 c72 c73 c74 c75 c76 c77 c78 c79 c80 c81 c82 c83 c84 c85 c86 c87 c88 c89 c90 c91 c92 c93 c94 c95 c96 c97 c98 c99 c100 c101 c102 c103 c104 c105 c106 c107 c108 c109 c110 c111 c112 c113 c114 c115 c116 c117 c118 c119 c120 c121 c122 c123 c124 c125 c126 c127 c128 c129 c130 c131 c132 c133 c134 c135 c136 c137 c138 c139 c140 c141 c142 c143 c144 c145 c146 c147 c148 c149 c150 c151 c152 c153 c154 c155 c156 c157 c158 c159 c160 c161 c162 c163 c164 c165 c166 c167 c168 c169 c170 c171 c172 c173 c174 c175 c176 c177 c178 c179 c180 c181 c182 c183 c184 c185 c186 c187 c188 c189 c190 c191 c192 c193 c194 c195 c196 c197 c198 c199 c200 c201 c202 c203 c204 c205 c206 c207 c208 c209 c210 c211 c212 c213 c214 c215 c216 c217 c218 c219 c220 c221 c222 c223 c224 c225 c226 c227 c228 c229 c230 c231 c232 c233 c234 c235 c236 c237 c238 c239 c240 c241 c242 c243 c244 c245 c246 c247 c248 c249 c250 c251 c252 c253 c254 c255 c256 c257 c258 c259 c260 c261 c262 c263 : Value)
  (hs : Hid s.ok) (hck : 64 ≤ ck) (hcw : 64 ≤ cw) (hcv0 : 8 ≤ cv0) (hkT : Hid (∀ j, j < 64 → W5.cell? ⟨gk, j, none⟩ = some (.int .u32 (kN j)))) (hwT : Hid (∀ j, j < 64 → W5.cell? ⟨gw, j, none⟩ = some (.int .u32 (W l j))))
  (hlt3 : Hid (gk < W5.heap.size ∧ gw < W5.heap.size ∧ gv0 < W5.heap.size)) (hv0 : Hid (W5.cell? ⟨gv0, 0, none⟩ = some (.int .u32 s.a) ∧ W5.cell? ⟨gv0, 1, none⟩ = some (.int .u32 s.b) ∧ W5.cell? ⟨gv0, 2, none⟩ = some (.int .u32 s.c) ∧ W5.cell? ⟨gv0, 3, none⟩ = some (.int .u32 s.d) ∧ W5.cell? ⟨gv0, 4, none⟩ = some (.int .u32 s.e) ∧ W5.cell? ⟨gv0, 5, none⟩ = some (.int .u32 s.f) ∧ W5.cell? ⟨gv0, 6, none⟩ = some (.int .u32 s.g) ∧ W5.cell? ⟨gv0, 7, none⟩ = some (.int .u32 s.h)))
  (hexit : ∀ (u18 u19 u20 u21 u135 u136 u137 u138 u139 u140 u141 u142 u143 u144 u145 u146 u147 u148 u149 u150 u151 u152 u153 u154 u155 u156 u157 u158 u159 u160 u161 u162 u163 u164 u165 u166 u167 u168 u169 u170 u171 u172 u173 u174 u175 u176 u177 u178 u179 u180 u181 u182 u183 u184 u185 u186 u187 u188 u189 u190 u191 u192 u193 u194 u195 u196 u197 u198 u199 u200 u201 u202 u203 u204 u205 u206 u207 u208 u209 u210 u211 u212 u213 u214 u215 u216 u217 u218 u219 u220 u221 u222 u223 u224 u225 u226 u227 u228 u229 u230 u231 u232 u233 u234 : Value) (gv cv : Nat) (t : St) (wx : World), 8 ≤ cv → Hid (gv = gv0 ∨ W5.heap.size ≤ gv) → Hid (t = rnds l s 64) → Hid ((wx.cell? ⟨gv, 0, none⟩ = some (.int .u32 t.a) ∧ wx.cell? ⟨gv, 1, none⟩ = some (.int .u32 t.b) ∧ wx.cell? ⟨gv, 2, none⟩ = some (.int .u32 t.c) ∧ wx.cell? ⟨gv, 3, none⟩ = some (.int .u32 t.d) ∧ wx.cell? ⟨gv, 4, none⟩ = some (.int .u32 t.e) ∧ wx.cell? ⟨gv, 5, none⟩ = some (.int .u32 t.f) ∧ wx.cell? ⟨gv, 6, none⟩ = some (.int .u32 t.g) ∧ wx.cell? ⟨gv, 7, none⟩ = some (.int .u32 t.h)) ∧ gv < wx.heap.size ∧ Below W5.heap.size W5 wx) → Q (.exit 10) ⟨(c0 :: c1 :: c2 :: (.slice (some ⟨gk, 0, none⟩) 64 ck) :: c4 :: c5 :: c6 :: c7 :: c8 :: (.slice (some ⟨gw, 0, none⟩) 64 cw) :: c10 :: c11 :: c12 :: c13 :: c14 :: c15 :: (.slice (some ⟨gv, 0, none⟩) 8 cv) :: (.int .i64 64) :: u18 :: u19 :: u20 :: u21 :: c22 :: c23 :: c24 :: c25 :: c26 :: c27 :: c28 :: c29 :: c30 :: c31 :: c32 :: c33 :: c34 :: c35 :: c36 :: c37 :: c38 :: c39 :: c40 :: c41 :: c42 :: c43 :: c44 :: c45 :: c46 :: c47 :: c48 :: c49 :: c50 :: c51 :: c52 :: c53 :: c54 :: c55 :: c56 :: c57 :: c58 :: c59 :: c60 :: c61 :: c62 :: c63 :: c64 :: c65 :: c66 :: c67 :: c68 :: c69 :: c70 :: c71 :: c72 :: c73 :: c74 :: c75 :: c76 :: c77 :: c78 :: c79 :: c80 :: c81 :: c82 :: c83 :: c84 :: c85 :: c86 :: c87 :: c88 :: c89 :: c90 :: c91 :: c92 :: c93 :: c94 :: c95 :: c96 :: c97 :: c98 :: c99 :: c100 :: c101 :: c102 :: c103 :: c104 :: c105 :: c106 :: c107 :: c108 :: c109 :: c110 :: c111 :: c112 :: c113 :: c114 :: c115 :: c116 :: c117 :: c118 :: c119 :: c120 :: c121 :: c122 :: c123 :: c124 :: c125 :: c126 :: c127 :: c128 :: c129 :: c130 :: c131 :: c132 :: c133 :: c134 :: u135 :: u136 :: u137 :: u138 :: u139 :: u140 :: u141 :: u142 :: u143 :: u144 :: u145 :: u146 :: u147 :: u148 :: u149 :: u150 :: u151 :: u152 :: u153 :: u154 :: u155 :: u156 :: u157 :: u158 :: u159 :: u160 :: u161 :: u162 :: u163 :: u164 :: u165 :: u166 :: u167 :: u168 :: u169 :: u170 :: u171 :: u172 :: u173 :: u174 :: u175 :: u176 :: u177 :: u178 :: u179 :: u180 :: u181 :: u182 :: u183 :: u184 :: u185 :: u186 :: u187 :: u188 :: u189 :: u190 :: u191 :: u192 :: u193 :: u194 :: u195 :: u196 :: u197 :: u198 :: u199 :: u200 :: u201 :: u202 :: u203 :: u204 :: u205 :: u206 :: u207 :: u208 :: u209 :: u210 :: u211 :: u212 :: u213 :: u214 :: u215 :: u216 :: u217 :: u218 :: u219 :: u220 :: u221 :: u222 :: u223 :: u224 :: u225 :: u226 :: u227 :: u228 :: u229 :: u230 :: u231 :: u232 :: u233 :: u234 :: c235 :: c236 :: c237 :: c238 :: c239 :: c240 :: c241 :: c242 :: c243 :: c244 :: c245 :: c246 :: c247 :: c248 :: c249 :: c250 :: c251 :: c252 :: c253 :: c254 :: c255 :: c256 :: c257 :: c258 :: c259 :: c260 :: c261 :: c262 :: c263 :: []).toArray, []⟩ wx) :
  Code.wp Tryz.prog (Code.loop shaB6) Q ⟨(c0 :: c1 :: c2 :: (.slice (some ⟨gk, 0, none⟩) 64 ck) :: c4 :: c5 :: c6 :: c7 :: c8 :: (.slice (some ⟨gw, 0, none⟩) 64 cw) :: c10 :: c11 :: c12 :: c13 :: c14 :: c15 :: (.slice (some ⟨gv0, 0, none⟩) 8 cv0) :: (.int .i64 0) :: c18 :: c19 :: c20 :: c21 :: c22 :: c23 :: c24 :: c25 :: c26 :: c27 :: c28 :: c29 :: c30 :: c31 :: c32 :: c33 :: c34 :: c35 :: c36 :: c37 :: c38 :: c39 :: c40 :: c41 :: c42 :: c43 :: c44 :: c45 :: c46 :: c47 :: c48 :: c49 :: c50 :: c51 :: c52 :: c53 :: c54 :: c55 :: c56 :: c57 :: c58 :: c59 :: c60 :: c61 :: c62 :: c63 :: c64 :: c65 :: c66 :: c67 :: c68 :: c69 :: c70 :: c71 :: c72 :: c73 :: c74 :: c75 :: c76 :: c77 :: c78 :: c79 :: c80 :: c81 :: c82 :: c83 :: c84 :: c85 :: c86 :: c87 :: c88 :: c89 :: c90 :: c91 :: c92 :: c93 :: c94 :: c95 :: c96 :: c97 :: c98 :: c99 :: c100 :: c101 :: c102 :: c103 :: c104 :: c105 :: c106 :: c107 :: c108 :: c109 :: c110 :: c111 :: c112 :: c113 :: c114 :: c115 :: c116 :: c117 :: c118 :: c119 :: c120 :: c121 :: c122 :: c123 :: c124 :: c125 :: c126 :: c127 :: c128 :: c129 :: c130 :: c131 :: c132 :: c133 :: c134 :: c135 :: c136 :: c137 :: c138 :: c139 :: c140 :: c141 :: c142 :: c143 :: c144 :: c145 :: c146 :: c147 :: c148 :: c149 :: c150 :: c151 :: c152 :: c153 :: c154 :: c155 :: c156 :: c157 :: c158 :: c159 :: c160 :: c161 :: c162 :: c163 :: c164 :: c165 :: c166 :: c167 :: c168 :: c169 :: c170 :: c171 :: c172 :: c173 :: c174 :: c175 :: c176 :: c177 :: c178 :: c179 :: c180 :: c181 :: c182 :: c183 :: c184 :: c185 :: c186 :: c187 :: c188 :: c189 :: c190 :: c191 :: c192 :: c193 :: c194 :: c195 :: c196 :: c197 :: c198 :: c199 :: c200 :: c201 :: c202 :: c203 :: c204 :: c205 :: c206 :: c207 :: c208 :: c209 :: c210 :: c211 :: c212 :: c213 :: c214 :: c215 :: c216 :: c217 :: c218 :: c219 :: c220 :: c221 :: c222 :: c223 :: c224 :: c225 :: c226 :: c227 :: c228 :: c229 :: c230 :: c231 :: c232 :: c233 :: c234 :: c235 :: c236 :: c237 :: c238 :: c239 :: c240 :: c241 :: c242 :: c243 :: c244 :: c245 :: c246 :: c247 :: c248 :: c249 :: c250 :: c251 :: c252 :: c253 :: c254 :: c255 :: c256 :: c257 :: c258 :: c259 :: c260 :: c261 :: c262 :: c263 :: []).toArray, []⟩ W5 := by
 conv =>
  arg 2
  arg 1
  whnf
 go_loopw [16, 17, 18, 19, 20, 21] (fun v i _ _ _ _ wr => ∃ k gv cv : Nat, ∃ t : St, k ≤ 64 ∧ i = .int .i64 k ∧ v = .slice (some ⟨gv, 0, none⟩) 8 cv ∧ 8 ≤ cv ∧ Hid (gv = gv0 ∨ W5.heap.size ≤ gv) ∧ Hid (t = rnds l s k) ∧ (wr.cell? ⟨gv, 0, none⟩ = some (.int .u32 t.a) ∧ wr.cell? ⟨gv, 1, none⟩ = some (.int .u32 t.b) ∧ wr.cell? ⟨gv, 2, none⟩ = some (.int .u32 t.c) ∧ wr.cell? ⟨gv, 3, none⟩ = some (.int .u32 t.d) ∧ wr.cell? ⟨gv, 4, none⟩ = some (.int .u32 t.e) ∧ wr.cell? ⟨gv, 5, none⟩ = some (.int .u32 t.f) ∧ wr.cell? ⟨gv, 6, none⟩ = some (.int .u32 t.g) ∧ wr.cell? ⟨gv, 7, none⟩ = some (.int .u32 t.h)) ∧ gv < wr.heap.size ∧ Below W5.heap.size W5 wr) (fun _ i _ _ _ _ _ => 64 - (intOf i).toNat)
 case atStart => exact ⟨0, gv0, cv0, s, by omega, rfl, rfl, hcv0, Lib.hid (Or.inl rfl), Lib.hid rfl, hv0.out, hlt3.out.2.2, Below.refl _ _⟩
 case round =>
  clear hv0 hcv0
  obtain ⟨k, gv, cv, t, hk, rfl, rfl, hcv, hgo, ht, h8, hgv, hb⟩ := hrel
  have H8 := Lib.hid h8
  have HGV := Lib.hid hgv
  have HB := Lib.hid hb
  clear h8 hgv hb
  by_cases hlt : k < 64
  ·clear hexit
   have hk64 : (k : Int) < 64 := by omega
   have cwk : wr.cell? ⟨gw, k, none⟩ = some (.int .u32 (W l k)) := (HB.out.cell (p := ⟨gw, k, none⟩) hlt3.out.2.1).trans (hwT.out k hlt)
   have ckk : wr.cell? ⟨gk, k, none⟩ = some (.int .u32 (kN k)) := (HB.out.cell (p := ⟨gk, k, none⟩) hlt3.out.1).trans (hkT.out k hlt)
   obtain ⟨v0, v1, v2, v3, v4, v5, v6, v7⟩ := H8.out
   have HT : Hid t.ok := by unfold Hid; rw [ht.out]; exact rnds_ok l hs.out k
   have r6 := Lib.hid (rror_any t.e 6 6 rfl HT.out.2.2.2.2.1 (by decide) (by decide))
   have r11 := Lib.hid (rror_any t.e 11 11 rfl HT.out.2.2.2.2.1 (by decide) (by decide))
   have r25 := Lib.hid (rror_any t.e 25 25 rfl HT.out.2.2.2.2.1 (by decide) (by decide))
   have r2 := Lib.hid (rror_any t.a 2 2 rfl HT.out.1 (by decide) (by decide))
   have r13 := Lib.hid (rror_any t.a 13 13 rfl HT.out.1 (by decide) (by decide))
   have r22 := Lib.hid (rror_any t.a 22 22 rfl HT.out.1 (by decide) (by decide))
   go_wp2
   have Fwr : Hid ((wr.cell? ⟨gv, 0, none⟩ = some (.int .u32 t.a) ∧ wr.cell? ⟨gv, 1, none⟩ = some (.int .u32 t.b) ∧ wr.cell? ⟨gv, 2, none⟩ = some (.int .u32 t.c) ∧ wr.cell? ⟨gv, 3, none⟩ = some (.int .u32 t.d) ∧ wr.cell? ⟨gv, 4, none⟩ = some (.int .u32 t.e) ∧ wr.cell? ⟨gv, 5, none⟩ = some (.int .u32 t.f) ∧ wr.cell? ⟨gv, 6, none⟩ = some (.int .u32 t.g) ∧ wr.cell? ⟨gv, 7, none⟩ = some (.int .u32 t.h)) ∧ wr.cell? ⟨gw, k, none⟩ = some (.int .u32 (W l k)) ∧ wr.cell? ⟨gk, k, none⟩ = some (.int .u32 (kN k)) ∧ gv < wr.heap.size ∧ Below W5.heap.size W5 wr) := ⟨H8.out, cwk, ckk, HGV.out, HB.out⟩
   clear H8 HGV HB
   go_quiet (fail)
   go_upto_region 33 with (fail)
   obtain ⟨wb, hwwb⟩ : ∃ wb, wb = wr.drewN nq := ⟨_, rfl⟩
   have Fwb : Hid ((wb.cell? ⟨gv, 0, none⟩ = some (.int .u32 t.a) ∧ wb.cell? ⟨gv, 1, none⟩ = some (.int .u32 t.b) ∧ wb.cell? ⟨gv, 2, none⟩ = some (.int .u32 t.c) ∧ wb.cell? ⟨gv, 3, none⟩ = some (.int .u32 t.d) ∧ wb.cell? ⟨gv, 4, none⟩ = some (.int .u32 t.e) ∧ wb.cell? ⟨gv, 5, none⟩ = some (.int .u32 t.f) ∧ wb.cell? ⟨gv, 6, none⟩ = some (.int .u32 t.g) ∧ wb.cell? ⟨gv, 7, none⟩ = some (.int .u32 t.h)) ∧ wb.cell? ⟨gw, k, none⟩ = some (.int .u32 (W l k)) ∧ wb.cell? ⟨gk, k, none⟩ = some (.int .u32 (kN k)) ∧ gv < wb.heap.size ∧ Below W5.heap.size W5 wb) := by
    rw [hwwb]
    exact ⟨Fwr.out.1, Fwr.out.2.1, Fwr.out.2.2.1, Fwr.out.2.2.2.1, Below.drewN' Fwr.out.2.2.2.2 _⟩
   rw [← hwwb]
   clear hwwb v0 v1 v2 v3 v4 v5 v6 v7 cwk ckk Fwr
   obtain ⟨⟨v0, v1, v2, v3, v4, v5, v6, v7⟩, cwk, ckk, -, -⟩ := Fwb.out
   go_quiet (first | (go_at_call 53; with_reducible exact quiet_more (r6.out _)) | (go_at_call 53; with_reducible exact quiet_more (r11.out _)) | (go_at_call 53; with_reducible exact quiet_more (r25.out _)))
   go_upto_region 34 with (fail)
   obtain ⟨wc, hwwc⟩ : ∃ wc, wc = wb.drewN nq := ⟨_, rfl⟩
   have Fwc : Hid ((wc.cell? ⟨gv, 0, none⟩ = some (.int .u32 t.a) ∧ wc.cell? ⟨gv, 1, none⟩ = some (.int .u32 t.b) ∧ wc.cell? ⟨gv, 2, none⟩ = some (.int .u32 t.c) ∧ wc.cell? ⟨gv, 3, none⟩ = some (.int .u32 t.d) ∧ wc.cell? ⟨gv, 4, none⟩ = some (.int .u32 t.e) ∧ wc.cell? ⟨gv, 5, none⟩ = some (.int .u32 t.f) ∧ wc.cell? ⟨gv, 6, none⟩ = some (.int .u32 t.g) ∧ wc.cell? ⟨gv, 7, none⟩ = some (.int .u32 t.h)) ∧ wc.cell? ⟨gw, k, none⟩ = some (.int .u32 (W l k)) ∧ wc.cell? ⟨gk, k, none⟩ = some (.int .u32 (kN k)) ∧ gv < wc.heap.size ∧ Below W5.heap.size W5 wc) := by
    rw [hwwc]
    exact ⟨Fwb.out.1, Fwb.out.2.1, Fwb.out.2.2.1, Fwb.out.2.2.2.1, Below.drewN' Fwb.out.2.2.2.2 _⟩
   rw [← hwwc]
   clear hwwc v0 v1 v2 v3 v4 v5 v6 v7 cwk ckk Fwb
   obtain ⟨⟨v0, v1, v2, v3, v4, v5, v6, v7⟩, cwk, ckk, -, -⟩ := Fwc.out
   have HUU := u_int2 t HT.out (kN k) (W l k)
   obtain ⟨U, hU⟩ : ∃ U, Hid (U = uN t (kN k) (W l k)) := ⟨_, Lib.hid rfl⟩
   rw [← hU.out] at HUU
   rw [HUU]
   clear HUU r6 r11 r25
   go_quiet (first | (go_at_call 53; with_reducible exact quiet_more (r2.out _)) | (go_at_call 53; with_reducible exact quiet_more (r13.out _)) | (go_at_call 53; with_reducible exact quiet_more (r22.out _)))
   go_upto_region 35 with (fail)
   obtain ⟨wd, hwwd⟩ : ∃ wd, wd = wc.drewN nq := ⟨_, rfl⟩
   have Fwd : Hid ((wd.cell? ⟨gv, 0, none⟩ = some (.int .u32 t.a) ∧ wd.cell? ⟨gv, 1, none⟩ = some (.int .u32 t.b) ∧ wd.cell? ⟨gv, 2, none⟩ = some (.int .u32 t.c) ∧ wd.cell? ⟨gv, 3, none⟩ = some (.int .u32 t.d) ∧ wd.cell? ⟨gv, 4, none⟩ = some (.int .u32 t.e) ∧ wd.cell? ⟨gv, 5, none⟩ = some (.int .u32 t.f) ∧ wd.cell? ⟨gv, 6, none⟩ = some (.int .u32 t.g) ∧ wd.cell? ⟨gv, 7, none⟩ = some (.int .u32 t.h)) ∧ wd.cell? ⟨gw, k, none⟩ = some (.int .u32 (W l k)) ∧ wd.cell? ⟨gk, k, none⟩ = some (.int .u32 (kN k)) ∧ gv < wd.heap.size ∧ Below W5.heap.size W5 wd) := by
    rw [hwwd]
    exact ⟨Fwc.out.1, Fwc.out.2.1, Fwc.out.2.2.1, Fwc.out.2.2.2.1, Below.drewN' Fwc.out.2.2.2.2 _⟩
   rw [← hwwd]
   clear hwwd v0 v1 v2 v3 v4 v5 v6 v7 cwk ckk Fwc
   obtain ⟨⟨v0, v1, v2, v3, v4, v5, v6, v7⟩, cwk, ckk, -, -⟩ := Fwd.out
   have HVV := v_int t HT.out
   obtain ⟨V, hV⟩ : ∃ V, Hid (V = vN t) := ⟨_, Lib.hid rfl⟩
   rw [← hV.out] at HVV
   rw [HVV]
   clear HVV r2 r13 r22
   go_still_tail 26, (by kernel_rfl)
   change wpList _ _ _ _ _ wd.drew
   obtain ⟨we, hwe⟩ : ∃ we, we = wd.drew := ⟨_, rfl⟩
   have Fwe : Hid ((we.cell? ⟨gv, 0, none⟩ = some (.int .u32 t.a) ∧ we.cell? ⟨gv, 1, none⟩ = some (.int .u32 t.b) ∧ we.cell? ⟨gv, 2, none⟩ = some (.int .u32 t.c) ∧ we.cell? ⟨gv, 3, none⟩ = some (.int .u32 t.d) ∧ we.cell? ⟨gv, 4, none⟩ = some (.int .u32 t.e) ∧ we.cell? ⟨gv, 5, none⟩ = some (.int .u32 t.f) ∧ we.cell? ⟨gv, 6, none⟩ = some (.int .u32 t.g) ∧ we.cell? ⟨gv, 7, none⟩ = some (.int .u32 t.h)) ∧ gv < we.heap.size ∧ Below W5.heap.size W5 we) := by
    rw [hwe]
    exact ⟨Fwd.out.1, Fwd.out.2.2.2.1, Below.drew Fwd.out.2.2.2.2⟩
   rw [← hwe]
   clear hwe v0 v1 v2 v3 v4 v5 v6 v7 cwk ckk Fwd
   obtain ⟨⟨v0, v1, v2, v3, v4, v5, v6, v7⟩, -, -⟩ := Fwe.out
   go_wp2
   have e0 : ((U : Int) + (V : Int)) % 4294967296 = (((rnd t (kN k) (W l k)).a : Nat) : Int) := by
    rw [hU.out, hV.out]
    show _ = ((add _ _ : Nat) : Int)
    unfold add
    omega
   have e4 : ((t.d : Int) + (U : Int)) % 4294967296 = (((rnd t (kN k) (W l k)).e : Nat) : Int) := by
    rw [hU.out]
    show _ = ((add _ _ : Nat) : Int)
    unfold add
    omega
   have HFE := Fwe
   clear v0 v1 v2 v3 v4 v5 v6 v7 Fwe
   go_roundw
   case rel =>
    refine ⟨k + 1, we.heap.size, 8, rnd t (kN k) (W l k), by omega, by go_num, rfl, by omega, Lib.hid (Or.inr HFE.out.2.2.size), Lib.hid (by rw [ht.out]; rfl), ⟨?_, ?_, ?_, ?_, ?_, ?_, ?_, ?_⟩, ?_, ?_⟩
    ·rw [← e0]; exact cell_of_row _ _ _ _ _ _ (heap_alloc_new we _)
    ·exact cell_of_row _ _ _ _ _ _ (heap_alloc_new we _)
    ·exact cell_of_row _ _ _ _ _ _ (heap_alloc_new we _)
    ·exact cell_of_row _ _ _ _ _ _ (heap_alloc_new we _)
    ·rw [← e4]; exact cell_of_row _ _ _ _ _ _ (heap_alloc_new we _)
    ·exact cell_of_row _ _ _ _ _ _ (heap_alloc_new we _)
    ·exact cell_of_row _ _ _ _ _ _ (heap_alloc_new we _)
    ·exact cell_of_row _ _ _ _ _ _ (heap_alloc_new we _)
    ·simp
    ·exact HFE.out.2.2.alloc HFE.out.2.2.size _
   case measure => simp [intOf]; omega
  ·obtain rfl : k = 64 := by omega
   have HE := Lib.hid hexit
   have HX := Lib.hid (And.intro H8.out (And.intro HGV.out HB.out))
   clear hexit H8 HGV HB
   rw [show ((64 : Nat) : Int) = (64 : Int) from rfl]
   go_wp2
   exact HE.out _ _ _ _ _ _ _ _ _ _ _ _ _ _ _ _ _ _ _ _ _ _ _ _ _ _ _ _ _ _ _ _ _ _ _ _ _ _ _ _ _ _ _ _ _ _ _ _ _ _ _ _ _ _ _ _ _ _ _ _ _ _ _ _ _ _ _ _ _ _ _ _ _ _ _ _ _ _ _ _ _ _ _ _ _ _ _ _ _ _ _ _ _ _ _ _ _ _ _ _ _ _ _ _ gv cv t wr hcv hgo ht HX
end Go.Proofs.YtdbbcngolcnniaaGreatDoor.S3
/- The end of a block in the document's Sha: the eight are each more by what came of it. -/
namespace Go.Proofs.YtdbbcngolcnniaaGreatDoor.S3
set_option linter.unusedSimpArgs false
open Go.RowKit
set_option linter.unusedVariables false
noncomputable def shaB7 : Code := (loopsOf shaB3).getD 3 .skip
theorem cell_setCell_other (w : World) (g h j : Nat) {k : Nat} {v : Value} (hn : g ≠ h) : (w.setCell ⟨h, k, none⟩ v).cell? ⟨g, j, none⟩ = w.cell? ⟨g, j, none⟩ := by
 unfold World.cell?
 rw [heap_setCell_other _ _ _ _ (show g ≠ (⟨h, k, none⟩ : Addr).block from hn)]
theorem rowOf_setL (kd : IntKind) (n : Nat) (f : Nat → Nat) (k v : Nat) : (rowOf kd n f).set k (.int kd v) = rowOf kd n (upd f k v) := by
 have h := congrArg Array.toList (rowOf_set kd n f k v)
 simpa using h
set_option maxRecDepth 100000 in
set_option maxHeartbeats 2000000 in
theorem sha7_ok (s t : St) (B gh ch gv cv : Nat) (W5 : World) (Q : Exit → Act → World → Prop) (c0 c1 c2 c3 c4 c6 c7 c8 c9 c10 c11 c12 c13 c14 c15 c17 c18 c19 c20 c21 c23 c24 c25 c26 c27 c28 c29 c30 c31 c32 c33 c34 c35 c36 c37 c38 c39 c40 c41 c42 c43 c44 c45 c46 c47 c48 c49 c50 c51 c52 c53 c54 c55 c56 c57 c58 c59 c60 c61 c62 c63 c64 c65 c66 c67 c68 c69 c70 c71 c72 c73 c74 c75 c76 c77 c78 c79 c80 c81 c82 c83 c84 c85 c86 c87 c88 c89 c90 c91 c92 c93 c94 c95 c96 c97 c98 c99 c100 c101 c102 c103 c104 c105 c106 c107 c108 c109 c110 c111 c112 c113 c114 c115 c116 c117 c118 c119 c120 c121 c122 c123 c124 c125 c126 c127 c128 c129 c130 c131 c132 c133 c134 c135 c136 c137 c138 c139 c140 c141 c142 c143 c144 c145 c146 c147 c148 c149 c150 c151 c152 c153 c154 c155 c156 c157 c158 c159 c160 c161 c162 c163 c164 c165 c166 c167 c168 c169 c170 c171 c172 c173 c174 c175 c176 c177 c178 c179 c180 c181 c182 c183 c184 c185 c186 c187 c188 c189 c190 c191 c192 c193 c194 c195 c196 c197 c198 c199 c200 c201 c202 c203 c204 c205 c206 c207 c208 c209 c210 c211 c212 c213 c214 c215 c216 c217 c218 c219 c220 c221 c222 c223 c224 c225 c226 c227 c228 c229 c230 c231 c232 c233 c234 c235 c236 c237 c238 c239 c240 c241 c242 c243 c244 c245 c246 c247 c248 c249 c250 c251 c252 c253 c254 c255 c256 c257 c258 c259 c260 c261 c262 c263 : Value)
  (hch : 8 ≤ ch) (hcv : 8 ≤ cv) (hne : Hid (gv ≠ gh)) (hown : Hid (W5.ownsRow B 46 1 (.slice (some ⟨gh, 0, none⟩) 8 ch) 8 (rowOf .u32 8 s.at))) (hv : Hid (∀ j, j < 8 → W5.cell? ⟨gv, j, none⟩ = some (.int .u32 (t.at j))))
  (hexit : ∀ (u235 u236 u237 u238 u239 u240 u241 u242 u243 u244 u245 u246 u247 u248 u249 u250 : Value) (wx : World), Hid (wx.ownsRow B 46 1 (.slice (some ⟨gh, 0, none⟩) 8 ch) 8 (rowOf .u32 8 (plus s t).at)) → Hid (Below B W5 wx) → Q (.exit 12) ⟨(c0 :: c1 :: c2 :: c3 :: c4 :: (.slice (some ⟨gh, 0, none⟩) 8 ch) :: c6 :: c7 :: c8 :: c9 :: c10 :: c11 :: c12 :: c13 :: c14 :: c15 :: (.slice (some ⟨gv, 0, none⟩) 8 cv) :: c17 :: c18 :: c19 :: c20 :: c21 :: (.int .i64 8) :: c23 :: c24 :: c25 :: c26 :: c27 :: c28 :: c29 :: c30 :: c31 :: c32 :: c33 :: c34 :: c35 :: c36 :: c37 :: c38 :: c39 :: c40 :: c41 :: c42 :: c43 :: c44 :: c45 :: c46 :: c47 :: c48 :: c49 :: c50 :: c51 :: c52 :: c53 :: c54 :: c55 :: c56 :: c57 :: c58 :: c59 :: c60 :: c61 :: c62 :: c63 :: c64 :: c65 :: c66 :: c67 :: c68 :: c69 :: c70 :: c71 :: c72 :: c73 :: c74 :: c75 :: c76 :: c77 :: c78 :: c79 :: c80 :: c81 :: c82 :: c83 :: c84 :: c85 :: c86 :: c87 :: c88 :: c89 :: c90 :: c91 :: c92 :: c93 :: c94 :: c95 :: c96 :: c97 :: c98 :: c99 :: c100 :: c101 :: c102 :: c103 :: c104 :: c105 :: c106 :: c107 :: c108 :: c109 :: c110 :: c111 :: c112 :: c113 :: c114 :: c115 :: c116 :: c117 :: c118 :: c119 :: c120 :: c121 :: c122 :: c123 :: c124 :: c125 :: c126 :: c127 :: c128 :: c129 :: c130 :: c131 :: c132 :: c133 :: c134 :: c135 :: c136 :: c137 :: c138 :: c139 :: c140 :: c141 :: c142 :: c143 :: c144 :: c145 :: c146 :: c147 :: c148 :: c149 :: c150 :: c151 :: c152 :: c153 :: c154 :: c155 :: c156 :: c157 :: c158 :: c159 :: c160 :: c161 :: c162 :: c163 :: c164 :: c165 :: c166 :: c167 :: c168 :: c169 :: c170 :: c171 :: c172 :: c173 :: c174 :: c175 :: c176 :: c177 :: c178 :: c179 :: c180 :: c181 :: c182 :: c183 :: c184 :: c185 :: c186 :: c187 :: c188 :: c189 :: c190 :: c191 :: c192 :: c193 :: c194 :: c195 :: c196 :: c197 :: c198 :: c199 :: c200 :: c201 :: c202 :: c203 :: c204 :: c205 :: c206 :: c207 :: c208 :: c209 :: c210 :: c211 :: c212 :: c213 :: c214 :: c215 :: c216 :: c217 :: c218 :: c219 :: c220 :: c221 :: c222 :: c223 :: c224 :: c225 :: c226 :: c227 :: c228 :: c229 :: c230 :: c231 :: c232 :: c233 :: c234 :: u235 :: u236 :: u237 :: u238 :: u239 :: u240 :: u241 :: u242 :: u243 :: u244 :: u245 :: u246 :: u247 :: u248 :: u249 :: u250 :: c251 :: c252 :: c253 :: c254 :: c255 :: c256 :: c257 :: c258 :: c259 :: c260 :: c261 :: c262 :: c263 :: []).toArray, []⟩ wx) :
  Code.wp Tryz.prog (Code.loop shaB7) Q ⟨(c0 :: c1 :: c2 :: c3 :: c4 :: (.slice (some ⟨gh, 0, none⟩) 8 ch) :: c6 :: c7 :: c8 :: c9 :: c10 :: c11 :: c12 :: c13 :: c14 :: c15 :: (.slice (some ⟨gv, 0, none⟩) 8 cv) :: c17 :: c18 :: c19 :: c20 :: c21 :: (.int .i64 0) :: c23 :: c24 :: c25 :: c26 :: c27 :: c28 :: c29 :: c30 :: c31 :: c32 :: c33 :: c34 :: c35 :: c36 :: c37 :: c38 :: c39 :: c40 :: c41 :: c42 :: c43 :: c44 :: c45 :: c46 :: c47 :: c48 :: c49 :: c50 :: c51 :: c52 :: c53 :: c54 :: c55 :: c56 :: c57 :: c58 :: c59 :: c60 :: c61 :: c62 :: c63 :: c64 :: c65 :: c66 :: c67 :: c68 :: c69 :: c70 :: c71 :: c72 :: c73 :: c74 :: c75 :: c76 :: c77 :: c78 :: c79 :: c80 :: c81 :: c82 :: c83 :: c84 :: c85 :: c86 :: c87 :: c88 :: c89 :: c90 :: c91 :: c92 :: c93 :: c94 :: c95 :: c96 :: c97 :: c98 :: c99 :: c100 :: c101 :: c102 :: c103 :: c104 :: c105 :: c106 :: c107 :: c108 :: c109 :: c110 :: c111 :: c112 :: c113 :: c114 :: c115 :: c116 :: c117 :: c118 :: c119 :: c120 :: c121 :: c122 :: c123 :: c124 :: c125 :: c126 :: c127 :: c128 :: c129 :: c130 :: c131 :: c132 :: c133 :: c134 :: c135 :: c136 :: c137 :: c138 :: c139 :: c140 :: c141 :: c142 :: c143 :: c144 :: c145 :: c146 :: c147 :: c148 :: c149 :: c150 :: c151 :: c152 :: c153 :: c154 :: c155 :: c156 :: c157 :: c158 :: c159 :: c160 :: c161 :: c162 :: c163 :: c164 :: c165 :: c166 :: c167 :: c168 :: c169 :: c170 :: c171 :: c172 :: c173 :: c174 :: c175 :: c176 :: c177 :: c178 :: c179 :: c180 :: c181 :: c182 :: c183 :: c184 :: c185 :: c186 :: c187 :: c188 :: c189 :: c190 :: c191 :: c192 :: c193 :: c194 :: c195 :: c196 :: c197 :: c198 :: c199 :: c200 :: c201 :: c202 :: c203 :: c204 :: c205 :: c206 :: c207 :: c208 :: c209 :: c210 :: c211 :: c212 :: c213 :: c214 :: c215 :: c216 :: c217 :: c218 :: c219 :: c220 :: c221 :: c222 :: c223 :: c224 :: c225 :: c226 :: c227 :: c228 :: c229 :: c230 :: c231 :: c232 :: c233 :: c234 :: c235 :: c236 :: c237 :: c238 :: c239 :: c240 :: c241 :: c242 :: c243 :: c244 :: c245 :: c246 :: c247 :: c248 :: c249 :: c250 :: c251 :: c252 :: c253 :: c254 :: c255 :: c256 :: c257 :: c258 :: c259 :: c260 :: c261 :: c262 :: c263 :: []).toArray, []⟩ W5 := by
 conv =>
  arg 2
  arg 1
  whnf
 go_loopw [22] (fun i wr => ∃ k : Nat, k ≤ 8 ∧ i = .int .i64 k ∧ wr.ownsRow B 46 1 (.slice (some ⟨gh, 0, none⟩) 8 ch) 8 (rowOf .u32 8 (PTo s t k)) ∧ (∀ j, j < 8 → wr.cell? ⟨gv, j, none⟩ = some (.int .u32 (t.at j))) ∧ Below B W5 wr) (fun i _ => 8 - (intOf i).toNat)
 case atStart => exact ⟨0, by omega, rfl, by rw [show rowOf .u32 8 (PTo s t 0) = rowOf .u32 8 s.at from rfl]; exact hown.out, hv.out, Below.refl _ _⟩
 case round =>
  clear hown hv
  obtain ⟨k, hk, rfl, ho, hvv, hb⟩ := hrel
  have HO := Lib.hid ho
  have HV := Lib.hid hvv
  have HB := Lib.hid hb
  clear ho hvv hb
  by_cases hlt : k < 8
  ·clear hexit
   have hk8 : (k : Int) < 8 := by omega
   have ck : wr.cell? ⟨gh, k, none⟩ = some (.int .u32 (s.at k)) := by
    rw [HO.out.cellAt k (by omega), rowOf_get _ _ _ _ hlt]
    unfold PTo
    rw [if_neg (by omega)]
   have fk : wr.frozen? ⟨gh, k, none⟩ = false := HO.out.frozenAt k
   have cv1 : wr.cell? ⟨gv, k, none⟩ = some (.int .u32 (t.at k)) := HV.out k hlt
   have hq : Hid (((s.at k : Int) + (t.at k : Int)) % 4294967296 = ((add (s.at k) (t.at k) : Nat) : Int)) := Lib.hid (by unfold add; omega)
   have HO2 : Hid ((wr.drew.setCell ⟨gh, k, none⟩ (.int .u32 (add (s.at k) (t.at k)))).ownsRow B 46 1 (.slice (some ⟨gh, 0, none⟩) 8 ch) 8 (rowOf .u32 8 (PTo s t (k + 1)))) := by
    unfold Hid
    have h := (HO.out.drew.stored k (.int .u32 (add (s.at k) (t.at k)))).1
    rw [rowOf_setL, rowOf_ext (PTo_step s t k)] at h
    exact h
   have HB2 : Hid (Below B W5 (wr.drew.setCell ⟨gh, k, none⟩ (.int .u32 (add (s.at k) (t.at k))))) := Lib.hid (HB.out.drew.setCell (p := ⟨gh, k, none⟩) (HO.out.lt gh rfl).1 _)
   have HV2 : Hid (∀ j, j < 8 → (wr.drew.setCell ⟨gh, k, none⟩ (.int .u32 (add (s.at k) (t.at k)))).cell? ⟨gv, j, none⟩ = some (.int .u32 (t.at j))) := fun j hj => (cell_setCell_other _ _ _ _ hne.out).trans (HV.out j hj)
   generalize add (s.at k) (t.at k) = q at *
   generalize s.at k = x1 at *
   generalize t.at k = y1 at *
   go_wp2
   go_still_tail 12, (by kernel_rfl)
   change wpList _ _ _ _ _ wr.drew
   go_wp2
   go_roundw
   case rel =>
    rw [hq.out]
    exact ⟨k + 1, by omega, by go_num, HO2.out, HV2.out, HB2.out⟩
   case measure => simp [intOf]; omega
  ·obtain rfl : k = 8 := by omega
   have HE := Lib.hid hexit
   have HO3 : Hid (wr.ownsRow B 46 1 (.slice (some ⟨gh, 0, none⟩) 8 ch) 8 (rowOf .u32 8 (plus s t).at)) := HO
   clear hexit HO HV
   rw [show ((8 : Nat) : Int) = (8 : Int) from rfl]
   go_wp2
   exact HE.out _ _ _ _ _ _ _ _ _ _ _ _ _ _ _ _ wr HO3 HB
end Go.Proofs.YtdbbcngolcnniaaGreatDoor.S3
/- Hex of the document's package: the letters of bytes. One byte or more, up to a thousand. -/
namespace Go.Proofs.YtdbbcngolcnniaaGreatDoor.S3
set_option linter.unusedSimpArgs false
open Go.RowKit
set_option linter.unusedVariables false
theorem step_run {P : Program} {ops : Array Oper} {o : Oper} {a : Act} {w w2 : World} {K : Act → World → Prop} {Q : Exit → Act → World → Prop} (hg : o.guard = none) (v : Value)
  (hrun : (execOp a.eval o).run P w = .ok (.value v) w2) (h : K (a.put o.dst v) w2) : (if Region.wanted o (yielded ops a.tmps) = true then o.wp P a w K Q else K (a.put o.dst undef) w) := by
 rw [if_pos (by simp [Region.wanted, hg])]
 unfold Oper.wp
 rw [hrun]
 exact h
end Go.Proofs.YtdbbcngolcnniaaGreatDoor.S3
/- The document's Sha: the 64 numbers that a block is made into. -/
namespace Go.Proofs.YtdbbcngolcnniaaGreatDoor.S3
set_option linter.unusedSimpArgs false
open Go.RowKit
set_option linter.unusedVariables false
theorem Below_own_drew {w : World} {B : Nat} {e : TypeId} {size : Nat} {v : Value} {n : Nat} {xs : List Value} (h : w.ownsRow B e size v n xs) : w.drew.ownsRow B e size v n xs := h
noncomputable def shaB5 : Code := (loopsOf shaB3).getD 1 .skip
def wl (l : List UInt8) (k : Nat) : List Nat := (List.range k).map (W l)
theorem wl_succ (l : List UInt8) (k : Nat) : wl l (k + 1) = wl l k ++ [W l k] := by simp [wl, List.range_succ]
theorem wl_row (l : List UInt8) (k : Nat) : numsV .u32 (wl l k) = rowOf .u32 k (W l) := by simp [numsV, wl, rowOf]
theorem near_int (x : Nat) (hx : x < 4294967296) : bits BinOp.xor IntKind.u32 (bits BinOp.xor IntKind.u32 ((rorN x 7 : Nat) : Int) ((rorN x 18 : Nat) : Int)) ((x : Int) / 8) = ((nearN x : Nat) : Int) := by
 have e1 := u32_xor_nat _ _ (rorN_lt 7 hx) (rorN_lt 18 hx)
 have e2 := u32_xor_nat (rorN x 7 ^^^ rorN x 18) (x / 8) (xor_lt (rorN_lt 7 hx) (rorN_lt 18 hx)) (div_lt 8 hx)
 rw [e1]
 exact e2
theorem far_int (x : Nat) (hx : x < 4294967296) : bits BinOp.xor IntKind.u32 (bits BinOp.xor IntKind.u32 ((rorN x 17 : Nat) : Int) ((rorN x 19 : Nat) : Int)) ((x : Int) / 1024) = ((farN x : Nat) : Int) := by
 have e1 := u32_xor_nat _ _ (rorN_lt 17 hx) (rorN_lt 19 hx)
 have e2 := u32_xor_nat (rorN x 17 ^^^ rorN x 19) (x / 1024) (xor_lt (rorN_lt 17 hx) (rorN_lt 19 hx)) (div_lt 1024 hx)
 rw [e1]
 exact e2
set_option maxRecDepth 100000 in
theorem nums_app_keep (t e : TypeId) (kd : IntKind) (b : Nat) (hb16 : b ≤ 16) (ht : Tryz.prog.underlying t = some (.slice e)) (hinfo : (Tryz.prog.info? e).map (fun i => (i.zero, i.size, i.bytes)) = some (some (.int kd 0), 1, b))
  {W wr : World} {B g cc : Nat} {n : Nat} {l : List Nat} (hown : wr.ownsRow B e 1 (.slice (some ⟨g, 0, none⟩) n cc) n (numsV kd l)) (hb : Below B W wr) (hB : B ≤ wr.heap.size) (x : Nat) (hlt : n ≤ 1000000) :
  ∃ p c W3, (∀ (ρ : Operand → Value) (o : Oper) (s y : Operand), o.op = Op.call { callee := Callee.builtin Builtin.append, args := #[s, y], argTypes := #[t, t] } → ρ s = .slice (some ⟨g, 0, none⟩) n cc → ρ y = .slice (some ⟨wr.heap.size, 0, none⟩) 1 1 → (execOp ρ o).run Tryz.prog (wr.alloc (.cells #[.int kd (x : Int)] e)) = .ok (.value (.slice p (n + 1) c)) W3) ∧
   W3.ownsRow B e 1 (.slice p (n + 1) c) (n + 1) (numsV kd (l ++ [x])) ∧ Below B W W3 ∧ (∀ j u, (numsV kd l)[j]? = some u → W3.cell? ⟨g, j, none⟩ = some u) := by
 obtain ⟨i3, hi3, hz3, hs3, hb3⟩ := info_parts hinfo
 have hown1 := hown.alloc (.cells #[.int kd (x : Int)] e)
 have hnews : ∀ j u, ([Value.int kd (x : Int)])[j]? = some u → (wr.alloc (.cells #[.int kd (x : Int)] e)).cell? ((⟨wr.heap.size, 0, none⟩ : Addr).add j) = some u := by
  intro j u hu
  rw [addr_add, cell_of_row _ wr.heap.size (0 + j) [Value.int kd (x : Int)].toArray e (0, 0) (heap_alloc_new wr _), Nat.zero_add, List.getElem?_toArray]
  exact hu
 have hby : (n + 1) * b ≤ 140737488355328 := by
  have h1 : (n + 1) * b ≤ (n + 1) * 16 := Nat.mul_le_mul_left _ hb16
  omega
 obtain ⟨v', W3, hrun, hown', hgrow, -, hat⟩ := run_append_own_at (P := Tryz.prog) (wr.alloc (.cells #[.int kd (x : Int)] e)) B t t e i3 _ 1 b ht hi3 hz3 hs3 hb3 rfl (by decide) _ n _ hown1 ⟨wr.heap.size, 0, none⟩ 1 1 [.int kd (x : Int)] rfl hnews (by intro u hu; simp at hu; subst hu; rfl) (by unfold maxLen; omega) hby (by simp; omega)
 obtain ⟨p, c, rfl⟩ := own_form hown'
 have hg := (hown.lt g rfl).2
 have hkeep : ∀ j u, (numsV kd l)[j]? = some u → W3.cell? ⟨g, j, none⟩ = some u := by
  intro j u hu
  by_cases hc : n + 1 ≤ cc
  ·obtain ⟨g2, rfl⟩ := own_some hown' (by omega)
   have hg2 : g2 = g := by
    rcases hat with h | h
    ·injection h
    ·exfalso
     obtain ⟨-, h2 | ⟨g3, cap, cur, he, h4, h5, h6, h7, h8, h9⟩⟩ := hown1
     ·cases h2.1
     ·injection he with he1 _ he3
      injection he1 with he1
      injection he1 with he1
      subst he1
      subst he3
      have hr := run_append_room (P := Tryz.prog) (wr.alloc (.cells #[.int kd (x : Int)] e)) t t e i3 ht hi3 g n cc cur h5 ⟨wr.heap.size, 0, none⟩ 1 1 [.int kd (x : Int)] (by rw [hs3]; rfl) hnews (by intro u hu; simp at hu; subst hu; rfl) hc (by rw [hs3, h8]; simp; omega)
      rw [hrun] at hr
      injection hr with hr1 hr2
      injection hr1 with hr1
      injection hr1 with hr1
      injection hr1 with hr1
      injection h with h
      simp at h
      omega
   subst hg2
   have hh := hown'.cells rfl j u (by rw [numsV, List.getElem?_append_left (by rw [← numsV]; exact (List.getElem?_eq_some_iff.1 hu).1)]; exact hu)
   rw [addr_add, Nat.zero_add] at hh
   exact hh
  ·have hr := run_append_grow (P := Tryz.prog) (wr.alloc (.cells #[.int kd (x : Int)] e)) t t e i3 _ ht hi3 hz3 ⟨g, 0, none⟩ n cc (numsV kd l) (by rw [hs3]; exact hown1.1) (hown1.cells rfl) ⟨wr.heap.size, 0, none⟩ 1 1 [.int kd (x : Int)] (by rw [hs3]; rfl) hnews (by omega) (by omega) (growslice_fits (by omega) (by rw [hb3]; exact hby))
   rw [hrun] at hr
   injection hr with _ hr2
   have hh := hown1.cells rfl j u hu
   rw [addr_add, Nat.zero_add] at hh
   rw [hr2, ← hh]
   exact (Below.refl _ (wr.alloc (.cells #[.int kd (x : Int)] e))).drew.alloc (Nat.le_refl _) _ |>.cell (p := ⟨g, j, none⟩) (by simp; omega)
 refine ⟨p, c, W3, ?_, by rw [numsV_append]; exact hown', (hb.alloc hB _).grown hgrow (by simp; omega) (fun j hj => (hown.lt j hj).1), hkeep⟩
 intro ρ o s y ho hs hy
 have hrun2 : (Builtin.append_ #[t, t] o.type #[.slice (some ⟨g, 0, none⟩) n cc, .slice (some ⟨wr.heap.size, 0, none⟩) 1 1]).run Tryz.prog (wr.alloc (.cells #[.int kd (x : Int)] e)) = .ok (.slice p (n + 1) c) W3 := hrun
 unfold execOp
 simp [ho, resolve, invoke, builtin, hs, hy, hrun2]
set_option maxRecDepth 100000 in
set_option maxHeartbeats 2000000 in
theorem sha5_ok (l : List UInt8) (B : Nat) (p0 : Option Addr) (c00 : Nat) (W5 : World) (Q : Exit → Act → World → Prop) (c0 c1 c2 c3 c4 c5 c6 c7 c8 c10 c12 c13 c14 c15 c16 c17 c18 c19 c20 c21 c22 c23 c24 c25 c26 c27 c28 c29 c30 c31 c32 c33 c34 c35 c36 c37 c38 c39 c40 c41 c42 c43 c44 c45 c46 c47 c48 c49 c50 c51 c52 c53 c54 c55 c56 c57 c58 c59 c60 c61 c62 c63 c64 c65 c66 c67 c68 c69 c70 c71 c72 c73 c74 c75 c76 c77 c78 c79 c80 c81 c82 c83 c84 c85 c86 c87 c88 c89 c90 c91 c92 c93 c94 c95 c96 c97 c98 c99 c100 c101 c102 c103 c104 c105 c106 c107 c108 c109 c110 c111 c112 c113 c114 c115 c116 c117 c118 c119 c120 c121 c122 c123 c124 c125 c126 c127 c128 c129 c130 c131 c132 c133 c134 c135 c136 c137 c138 c139 c140 c141 c142 c143 c144 c145 c146 c147 c148 c149 c150 c151 c152 c153 c154 c155 c156 c157 c158 c159 c160 c161 c162 c163 c164 c165 c166 c167 c168 c169 c170 c171 c172 c173 c174 c175 c176 c177 c178 c179 c180 c181 c182 c183 c184 c185 c186 c187 c188 c189 c190 c191 c192 c193 c194 c195 c196 c197 c198 c199 c200 c201 c202 c203 c204 c205 c206 c207 c208 c209 c210 c211 c212 c213 c214 c215 c216 c217 c218 c219 c220 c221 c222 c223 c224 c225 c226 c227 c228 c229 c230 c231 c232 c233 c234 c235 c236 c237 c238 c239 c240 c241 c242 c243 c244 c245 c246 c247 c248 c249 c250 c251 c252 c253 c254 c255 c256 c257 c258 c259 c260 c261 c262 c263 : Value)
  (hown : Hid (W5.ownsRow B 46 1 (.slice p0 16 c00) 16 (numsV .u32 (wl l 16))))
  (hexit : ∀ (u12 u13 u14 u15 u84 u85 u86 u87 u88 u89 u90 u91 u92 u93 u94 u95 u96 u97 u98 u99 u100 u101 u102 u103 u104 u105 u106 u107 u108 u109 u110 u111 u112 u113 u114 u115 u116 u117 u118 u119 u120 u121 u122 u123 u124 u125 u126 u127 u128 u129 u130 u131 : Value) (p : Option Addr) (cz : Nat) (wx : World), Hid (wx.ownsRow B 46 1 (.slice p 64 cz) 64 (numsV .u32 (wl l 64))) → Hid (Below B W5 wx) → Q (.exit 8) ⟨(c0 :: c1 :: c2 :: c3 :: c4 :: c5 :: c6 :: c7 :: c8 :: (.slice p 64 cz) :: c10 :: (.int .i64 64) :: u12 :: u13 :: u14 :: u15 :: c16 :: c17 :: c18 :: c19 :: c20 :: c21 :: c22 :: c23 :: c24 :: c25 :: c26 :: c27 :: c28 :: c29 :: c30 :: c31 :: c32 :: c33 :: c34 :: c35 :: c36 :: c37 :: c38 :: c39 :: c40 :: c41 :: c42 :: c43 :: c44 :: c45 :: c46 :: c47 :: c48 :: c49 :: c50 :: c51 :: c52 :: c53 :: c54 :: c55 :: c56 :: c57 :: c58 :: c59 :: c60 :: c61 :: c62 :: c63 :: c64 :: c65 :: c66 :: c67 :: c68 :: c69 :: c70 :: c71 :: c72 :: c73 :: c74 :: c75 :: c76 :: c77 :: c78 :: c79 :: c80 :: c81 :: c82 :: c83 :: u84 :: u85 :: u86 :: u87 :: u88 :: u89 :: u90 :: u91 :: u92 :: u93 :: u94 :: u95 :: u96 :: u97 :: u98 :: u99 :: u100 :: u101 :: u102 :: u103 :: u104 :: u105 :: u106 :: u107 :: u108 :: u109 :: u110 :: u111 :: u112 :: u113 :: u114 :: u115 :: u116 :: u117 :: u118 :: u119 :: u120 :: u121 :: u122 :: u123 :: u124 :: u125 :: u126 :: u127 :: u128 :: u129 :: u130 :: u131 :: c132 :: c133 :: c134 :: c135 :: c136 :: c137 :: c138 :: c139 :: c140 :: c141 :: c142 :: c143 :: c144 :: c145 :: c146 :: c147 :: c148 :: c149 :: c150 :: c151 :: c152 :: c153 :: c154 :: c155 :: c156 :: c157 :: c158 :: c159 :: c160 :: c161 :: c162 :: c163 :: c164 :: c165 :: c166 :: c167 :: c168 :: c169 :: c170 :: c171 :: c172 :: c173 :: c174 :: c175 :: c176 :: c177 :: c178 :: c179 :: c180 :: c181 :: c182 :: c183 :: c184 :: c185 :: c186 :: c187 :: c188 :: c189 :: c190 :: c191 :: c192 :: c193 :: c194 :: c195 :: c196 :: c197 :: c198 :: c199 :: c200 :: c201 :: c202 :: c203 :: c204 :: c205 :: c206 :: c207 :: c208 :: c209 :: c210 :: c211 :: c212 :: c213 :: c214 :: c215 :: c216 :: c217 :: c218 :: c219 :: c220 :: c221 :: c222 :: c223 :: c224 :: c225 :: c226 :: c227 :: c228 :: c229 :: c230 :: c231 :: c232 :: c233 :: c234 :: c235 :: c236 :: c237 :: c238 :: c239 :: c240 :: c241 :: c242 :: c243 :: c244 :: c245 :: c246 :: c247 :: c248 :: c249 :: c250 :: c251 :: c252 :: c253 :: c254 :: c255 :: c256 :: c257 :: c258 :: c259 :: c260 :: c261 :: c262 :: c263 :: []).toArray, []⟩ wx) :
  Code.wp Tryz.prog (Code.loop shaB5) Q ⟨(c0 :: c1 :: c2 :: c3 :: c4 :: c5 :: c6 :: c7 :: c8 :: (.slice p0 16 c00) :: c10 :: (.int .i64 16) :: c12 :: c13 :: c14 :: c15 :: c16 :: c17 :: c18 :: c19 :: c20 :: c21 :: c22 :: c23 :: c24 :: c25 :: c26 :: c27 :: c28 :: c29 :: c30 :: c31 :: c32 :: c33 :: c34 :: c35 :: c36 :: c37 :: c38 :: c39 :: c40 :: c41 :: c42 :: c43 :: c44 :: c45 :: c46 :: c47 :: c48 :: c49 :: c50 :: c51 :: c52 :: c53 :: c54 :: c55 :: c56 :: c57 :: c58 :: c59 :: c60 :: c61 :: c62 :: c63 :: c64 :: c65 :: c66 :: c67 :: c68 :: c69 :: c70 :: c71 :: c72 :: c73 :: c74 :: c75 :: c76 :: c77 :: c78 :: c79 :: c80 :: c81 :: c82 :: c83 :: c84 :: c85 :: c86 :: c87 :: c88 :: c89 :: c90 :: c91 :: c92 :: c93 :: c94 :: c95 :: c96 :: c97 :: c98 :: c99 :: c100 :: c101 :: c102 :: c103 :: c104 :: c105 :: c106 :: c107 :: c108 :: c109 :: c110 :: c111 :: c112 :: c113 :: c114 :: c115 :: c116 :: c117 :: c118 :: c119 :: c120 :: c121 :: c122 :: c123 :: c124 :: c125 :: c126 :: c127 :: c128 :: c129 :: c130 :: c131 :: c132 :: c133 :: c134 :: c135 :: c136 :: c137 :: c138 :: c139 :: c140 :: c141 :: c142 :: c143 :: c144 :: c145 :: c146 :: c147 :: c148 :: c149 :: c150 :: c151 :: c152 :: c153 :: c154 :: c155 :: c156 :: c157 :: c158 :: c159 :: c160 :: c161 :: c162 :: c163 :: c164 :: c165 :: c166 :: c167 :: c168 :: c169 :: c170 :: c171 :: c172 :: c173 :: c174 :: c175 :: c176 :: c177 :: c178 :: c179 :: c180 :: c181 :: c182 :: c183 :: c184 :: c185 :: c186 :: c187 :: c188 :: c189 :: c190 :: c191 :: c192 :: c193 :: c194 :: c195 :: c196 :: c197 :: c198 :: c199 :: c200 :: c201 :: c202 :: c203 :: c204 :: c205 :: c206 :: c207 :: c208 :: c209 :: c210 :: c211 :: c212 :: c213 :: c214 :: c215 :: c216 :: c217 :: c218 :: c219 :: c220 :: c221 :: c222 :: c223 :: c224 :: c225 :: c226 :: c227 :: c228 :: c229 :: c230 :: c231 :: c232 :: c233 :: c234 :: c235 :: c236 :: c237 :: c238 :: c239 :: c240 :: c241 :: c242 :: c243 :: c244 :: c245 :: c246 :: c247 :: c248 :: c249 :: c250 :: c251 :: c252 :: c253 :: c254 :: c255 :: c256 :: c257 :: c258 :: c259 :: c260 :: c261 :: c262 :: c263 :: []).toArray, []⟩ W5 := by
 conv =>
  arg 2
  arg 1
  whnf
 go_loopw [9, 11, 12, 13, 14, 15] (fun v i _ _ _ _ wr => ∃ k : Nat, ∃ p cz, 16 ≤ k ∧ k ≤ 64 ∧ i = .int .i64 k ∧ v = .slice p k cz ∧ wr.ownsRow B 46 1 (.slice p k cz) k (numsV .u32 (wl l k)) ∧ Below B W5 wr) (fun _ i _ _ _ _ _ => 64 - (intOf i).toNat)
 case atStart => exact ⟨16, p0, c00, by omega, by omega, rfl, rfl, hown.out, Below.refl _ _⟩
 case round =>
  clear hown
  obtain ⟨k, p, cc, hk16, hk, rfl, rfl, ho, hb⟩ := hrel
  have HO := Lib.hid ho
  have HB := Lib.hid hb
  obtain ⟨g, rfl⟩ := own_some ho (by omega)
  have hle := own_le ho
  clear ho hb
  by_cases hlt : k < 64
  ·clear hexit
   have hk8 : (k : Int) < 64 := by omega
   obtain ⟨a15, h15⟩ : ∃ a, Hid (a = k - 15) := ⟨_, Lib.hid rfl⟩
   obtain ⟨a2, h2⟩ : ∃ a, Hid (a = k - 2) := ⟨_, Lib.hid rfl⟩
   obtain ⟨a16, h16⟩ : ∃ a, Hid (a = k - 16) := ⟨_, Lib.hid rfl⟩
   obtain ⟨a7, h7⟩ : ∃ a, Hid (a = k - 7) := ⟨_, Lib.hid rfl⟩
   have e15 : (k : Int) - 15 = (a15 : Int) := by rw [h15.out]; omega
   have e2 : (k : Int) - 2 = (a2 : Int) := by rw [h2.out]; omega
   have e16 : (k : Int) - 16 = (a16 : Int) := by rw [h16.out]; omega
   have e7 : (k : Int) - 7 = (a7 : Int) := by rw [h7.out]; omega
   have b15 : (a15 : Int) < k := by omega
   have b2 : (a2 : Int) < k := by omega
   have b16 : (a16 : Int) < k := by omega
   have b7 : (a7 : Int) < k := by omega
   have hcell : Hid (∀ (j : Nat), (j : Int) < k → wr.cell? ⟨g, j, none⟩ = some (.int .u32 (W l j))) := fun j hj => by
    rw [HO.out.cellAt j (by omega), wl_row, rowOf_get _ _ _ _ (by omega)]
   have q15 := hcell.out a15 b15
   have q2 := hcell.out a2 b2
   have HW : Hid (add (add (add (W l a16) (nearN (W l a15))) (W l a7)) (farN (W l a2)) = W l k) := by
    unfold Hid
    rw [h15.out, h2.out, h16.out, h7.out]
    exact (W_high l k hk16).symm
   have r7 := Lib.hid (rror_any (W l a15) 7 7 rfl (W_lt l a15) (by decide) (by decide))
   have r18 := Lib.hid (rror_any (W l a15) 18 18 rfl (W_lt l a15) (by decide) (by decide))
   have r17 := Lib.hid (rror_any (W l a2) 17 17 rfl (W_lt l a2) (by decide) (by decide))
   have r19 := Lib.hid (rror_any (W l a2) 19 19 rfl (W_lt l a2) (by decide) (by decide))
   have HNI := Lib.hid (near_int (W l a15) (W_lt l a15))
   have HFI := Lib.hid (far_int (W l a2) (W_lt l a2))
   go_wp2
   go_quiet (fail)
   go_upto_region 26 with (first | (go_at_call 53; (with_reducible refine (r7.out _).mono ?_); rintro e w' ⟨rfl, m1, rfl⟩) | (go_at_call 53; (with_reducible refine (r18.out _).mono ?_); rintro e w' ⟨rfl, m2, rfl⟩))
   rw [HNI.out]
   go_upto_region 27 with (first | (go_at_call 53; (with_reducible refine (r17.out _).mono ?_); rintro e w' ⟨rfl, m3, rfl⟩) | (go_at_call 53; (with_reducible refine (r19.out _).mono ?_); rintro e w' ⟨rfl, m4, rfl⟩))
   rw [HFI.out]
   obtain ⟨wb, hwb⟩ : ∃ wb, wb = wr.drewN (nq + m1 + m2 + m3 + m4) := ⟨_, rfl⟩
   have HOb : Hid (wb.ownsRow B 46 1 (.slice (some ⟨g, 0, none⟩) k cc) k (numsV .u32 (wl l k))) := by rw [hwb]; exact HO.out
   have HBb : Hid (Below B W5 wb) := by rw [hwb]; exact Below.drewN' HB.out _
   have hcell2 : Hid (∀ (j : Nat), (j : Int) < k → wb.cell? ⟨g, j, none⟩ = some (.int .u32 (W l j))) := by rw [hwb]; exact hcell.out
   have q16 := hcell2.out a16 b16
   have q7 := hcell2.out a7 b7
   rw [← hwb]
   clear hwb q15 q2 r7 r18 r17 r19 HNI HFI hcell HO HB
   have w16 : IntKind.i64.wrap ((k : Int) - 16) = (a16 : Int) := by rw [IntWalk.i64_in _ (by omega)]; exact e16
   have w7 : IntKind.i64.wrap ((k : Int) - 7) = (a7 : Int) := by rw [IntWalk.i64_in _ (by omega)]; exact e7
   have w16b : IntKind.i64.wrap (a16 : Int) = (a16 : Int) := by rw [IntWalk.i64_in _ (by omega)]
   have w7b : IntKind.i64.wrap (a7 : Int) = (a7 : Int) := by rw [IntWalk.i64_in _ (by omega)]
   obtain ⟨A1, hA1⟩ : ∃ a, Hid (a = add (W l a16) (nearN (W l a15))) := ⟨_, Lib.hid rfl⟩
   obtain ⟨A2, hA2⟩ : ∃ a, Hid (a = add A1 (W l a7)) := ⟨_, Lib.hid rfl⟩
   have s1 : IntKind.u32.wrap (((W l a16 : Nat) : Int) + ((nearN (W l a15) : Nat) : Int)) = (A1 : Int) := by rw [hA1.out]; exact wrap32_nat (W l a16 + nearN (W l a15))
   have s2 : IntKind.u32.wrap ((A1 : Int) + ((W l a7 : Nat) : Int)) = (A2 : Int) := by rw [hA2.out]; exact wrap32_nat (A1 + W l a7)
   have s3 : IntKind.u32.wrap ((A2 : Int) + ((farN (W l a2) : Nat) : Int)) = ((W l k : Nat) : Int) := by rw [← HW.out, ← hA1.out, ← hA2.out]; exact wrap32_nat (A2 + farN (W l a2))
   clear hA1 hA2 HW
   obtain ⟨p', c', W3, happ, hown', hbel, hkeep⟩ := nums_app_keep 69 46 .u32 4 (by decide) Tryz.underlying69 info28 (wr := wb.drew) (Below_own_drew HOb.out) HBb.out.drew (Nat.le_trans (HOb.out.lt g rfl).1 (Nat.le_of_lt (HOb.out.lt g rfl).2)) (W l k) (by omega)
   have HAPP := Lib.hid happ
   rw [← wl_succ] at hown'
   have HO3 := Lib.hid hown'
   have HF := Lib.hid hbel
   have SK : Hid (W3.cell? ⟨g, a16, none⟩ = some (.int .u32 (W l a16)) ∧ W3.cell? ⟨g, a7, none⟩ = some (.int .u32 (W l a7))) := by
    unfold Hid
    exact ⟨hkeep a16 _ (by rw [wl_row, rowOf_get _ _ _ _ (by omega)]), hkeep a7 _ (by rw [wl_row, rowOf_get _ _ _ _ (by omega)])⟩
   have SA : Hid ((wb.drew.alloc (.cells #[.int .u32 ((W l k : Nat) : Int)] 46)).cell? ⟨g, a16, none⟩ = some (.int .u32 (W l a16)) ∧ (wb.drew.alloc (.cells #[.int .u32 ((W l k : Nat) : Int)] 46)).cell? ⟨g, a7, none⟩ = some (.int .u32 (W l a7))) := by
    have hz := (HOb.out.lt g rfl).2
    refine ⟨?_, ?_⟩
    ·rw [← q16]; exact ((Below.refl _ wb).drew.alloc (Nat.le_refl _) _).cell (p := ⟨g, a16, none⟩) hz
    ·rw [← q7]; exact ((Below.refl _ wb).drew.alloc (Nat.le_refl _) _).cell (p := ⟨g, a7, none⟩) hz
   have SD : Hid (wb.drew.cell? ⟨g, a16, none⟩ = some (.int .u32 (W l a16)) ∧ wb.drew.cell? ⟨g, a7, none⟩ = some (.int .u32 (W l a7))) := ⟨q16, q7⟩
   clear happ hown' hbel hkeep hcell2 HOb HBb
   generalize W l k = Wk at *
   generalize nearN (W l a15) = NN at *
   generalize farN (W l a2) = FF at *
   generalize W l a16 = x16 at *
   generalize W l a7 = x7 at *
   go_region_held3 (fun w' => w'.cell? ⟨g, a16, none⟩ = some (.int .u32 x16) ∧ w'.cell? ⟨g, a7, none⟩ = some (.int .u32 x7)) (first | exact SD.out | exact SA.out | exact SK.out) ((refine step_run rfl _ (HAPP.out _ _ (.tmp 114) (.tmp 130) rfl rfl rfl) ?_))
   go_wp2
   go_roundw
   case rel => exact ⟨k + 1, p', c', by omega, by omega, by go_num, rfl, HO3.out, HF.out⟩
   case measure => simp [intOf]; omega
  ·obtain rfl : k = 64 := by omega
   have HE := Lib.hid hexit
   clear hexit
   rw [show ((64 : Nat) : Int) = (64 : Int) from rfl]
   go_wp2
   exact HE.out _ _ _ _ _ _ _ _ _ _ _ _ _ _ _ _ _ _ _ _ _ _ _ _ _ _ _ _ _ _ _ _ _ _ _ _ _ _ _ _ _ _ _ _ _ _ _ _ _ _ _ _ _ _ wr HO HB
end Go.Proofs.YtdbbcngolcnniaaGreatDoor.S3
