/- Several texts, one behind the other; each says by itself what it proves, and on what conditions. -/
import Derived.Test.YtdbbcngolcnniaaDoorY26
import Derived.Deep.DeepCutAuto
import Derived.Deep.CutBlock
import Derived.StillTailTactics
import Derived.Test.YtdbbcngolcnniaaDoorRows
import Derived.WalkKit
import Derived.WalkSpells
import Derived.WalkLawsBesides
import Derived.Handy
import Derived.Lib.Hide
import Derived.RegionTactic
import Derived.Maps.AppendAt
import Derived.Outline
import Derived.BigQuiet
import Derived.Deep.QuietTactic
import Derived.OneCell
import Derived.Deep.RegionWith
import Derived.Deep.RegionHeld3
import Derived.OrdersHeld
import Derived.Still
import Derived.StillTail
/- The document's Sha is the arithmetic's hash. At most 10,000 bytes. -/
namespace Go.Proofs.YtdbbcngolcnniaaDoor.S3
set_option linter.unusedSimpArgs false
open Go.RowKit
set_option linter.unusedVariables false
theorem pad_blocks (l : List UInt8) : (pad l).length = 64 * ((pad l).length / 64) := by
 unfold pad tailN
 simp only [List.length_append, List.length_cons, List.length_replicate]
 have h8 : (be8 (8 * l.length)).length = 8 := rfl
 rw [h8]
 unfold fill
 omega
theorem pad_le (l : List UInt8) : (pad l).length ≤ l.length + 80 := by
 unfold pad tailN
 simp only [List.length_append, List.length_cons, List.length_replicate]
 have h8 : (be8 (8 * l.length)).length = 8 := rfl
 have := fill_lt l.length
 rw [h8]
 omega
set_option maxRecDepth 100000 in
set_option maxHeartbeats 4000000 in
theorem rsha_any (S : ByteArray) (hS : S.size ≤ 10000) (w : World) :
  Calls Tryd.prog 27 #[.string S] w fun e w' => e = .returned (.string ⟨(sha S.data.toList).toArray⟩) ∧ Below w.heap.size w w' := by
 obtain ⟨n, hn⟩ : ∃ n, S.size = n := ⟨_, rfl⟩
 have hn1 : n ≤ 10000 := by omega
 clear hS
 obtain ⟨l, hl⟩ : ∃ l, Hid (l = S.data.toList) := ⟨_, Lib.hid rfl⟩
 have hll : Hid (l.length = n) := by unfold Hid; rw [hl.out]; exact hn
 obtain ⟨OUT, hOUT⟩ : ∃ OUT : ByteArray, Hid (OUT = ⟨(sha l).toArray⟩) := ⟨_, Lib.hid rfl⟩
 rw [← hl.out, ← hOUT.out]
 go_enter Tryd.func27, Tryd.ntmps27
 go_wp2_with fail
 refine (rconsts_any w).mono ?_
 rintro e w1 ⟨pk, ck, rfl, hown1, hb1⟩
 obtain ⟨gk, rfl⟩ := own_some hown1 (by omega)
 have HO1 := Lib.hid hown1
 have HB1 := Lib.hid hb1
 have hck := own_le hown1
 clear hown1 hb1
 go_wp2_with fail
 refine (primes_any 8 (by omega) w1).mono ?_
 rintro e w2 ⟨pp, cp, rfl, hown2, hb2⟩
 obtain ⟨gp, rfl⟩ := own_some hown2 (by omega)
 have hcp := own_le hown2
 have hgk1 : gk < w1.heap.size := (HO1.out.lt gk rfl).2
 have hgk : gk < w2.heap.size := Nat.lt_of_lt_of_le hgk1 hb2.size
 have hgp : gp < w2.heap.size := (hown2.lt gp rfl).2
 have HP : Hid (∀ j x : Nat, j < 8 → pL[j]? = some x → w2.cell? ⟨gp, j, none⟩ = some (.int .u64 x)) := by
  intro j x hj hx
  rw [hown2.cellAt j (by omega)]
  unfold numsV
  rw [List.getElem?_map, List.getElem?_take_of_lt hj, hx]; rfl
 have HK : Hid (∀ j, j < 64 → w2.cell? ⟨gk, j, none⟩ = some (.int .u32 (kN j))) := by
  intro j hj
  rw [hb2.cell (p := ⟨gk, j, none⟩) hgk1, HO1.out.cellAt j (by omega)]
  unfold numsV
  rw [List.getElem?_map, kL_at j hj]; rfl
 have HB2 : Hid (Below w.heap.size w w2) := HB1.out.trans (hb2.mono HB1.out.size)
 clear hown2 hb2 HO1 HB1
 go_wp2
 refine sha1_ok gp cp w2.heap.size w2 _ _ _ _ _ _ _ _ _ _ _ _ _ _ _ _ _ _ _ _ _ _ _ _ _ _ _ _ _ _ _ _ _ _ _ _ _ _ _ _ _ _ _ _ _ _ _ _ _ _ _ _ _ _ _ _ _ _ _ _ _ _ _ _ _ _ _ _ _ _ _ _ _ _ _ _ _ _ _ _ _ _ _ _ _ _ _ _ _ _ _ _ _ _ _ _ _ _ _ _ _ _ _ _ _ _ _ _ _ _ _ _ _ _ _ _ _ _ _ _ _ _ _ _ _ _ _ _ _ _ _ _ _ _ _ _ _ _ _ _ _ _ _ _ _ _ _ _ _ _ _ _ _ _ _ _ _ _ _ _ _ _ _ _ _ _ _ _ _ _ _ _ _ _ _ _ _ _ _ _ _ _ _ _ _ _ _ _ _ _ _ _ _ _ _ _ _ _ _ _ _ _ _ _ _ _ _ _ _ _ _ _ _ _ _ _ _ _ _ _ _ _ _ _ _ _ _ _ _ _ _ _ _ _ _ _ _ _ _ _ _ _ _ _ _ _ _ _ _ _ _ _ _ _ _ _ _ _ _ _ _ _ hcp hgp (Nat.le_refl _) HP ?_
 rintro a27 a28 a29 a30 a31 a32 a33 a34 a35 a36 a37 a38 a39 a40 a41 ph ch w3 HO3 HB3
 obtain ⟨gh, rfl⟩ := own_some HO3.out (by omega)
 have hch := own_le HO3.out
 clear HP
 obtain ⟨S1, hS1⟩ : ∃ S1 : ByteArray, Hid (S1 = S ++ { data := #[128] }) := ⟨_, Lib.hid rfl⟩
 have hS1l : Hid (S1.data.toList = l ++ [128]) := by unfold Hid; rw [hS1.out, data_append, hl.out]
 go_wp2
 rw [← hS1.out]
 refine sha2_ok S1 l w3 _ _ _ _ _ _ _ _ _ _ _ _ _ _ _ _ _ _ _ _ _ _ _ _ _ _ _ _ _ _ _ _ _ _ _ _ _ _ _ _ _ _ _ _ _ _ _ _ _ _ _ _ _ _ _ _ _ _ _ _ _ _ _ _ _ _ _ _ _ _ _ _ _ _ _ _ _ _ _ _ _ _ _ _ _ _ _ _ _ _ _ _ _ _ _ _ _ _ _ _ _ _ _ _ _ _ _ _ _ _ _ _ _ _ _ _ _ _ _ _ _ _ _ _ _ _ _ _ _ _ _ _ _ _ _ _ _ _ _ _ _ _ _ _ _ _ _ _ _ _ _ _ _ _ _ _ _ _ _ _ _ _ _ _ _ _ _ _ _ _ _ _ _ _ _ _ _ _ _ _ _ _ _ _ _ _ _ _ _ _ _ _ _ _ _ _ _ _ _ _ _ _ _ _ _ _ _ _ _ _ _ _ _ _ _ _ _ _ _ _ _ _ _ _ _ _ _ _ _ _ _ _ _ _ _ _ _ _ _ _ _ _ _ _ _ _ _ _ _ _ _ _ _ _ _ _ _ _ _ _ _ _ _ _ hS1l (by rw [hll.out]; exact hn1) ?_
 rintro b46 b47 b48 b49 b50 b51 T hT
 have hTs : T.size ≤ 10100 := by
  rw [show T.size = T.data.toList.length from rfl, hT.out]
  have := fill_lt l.length
  have := hll.out
  simp
  omega
 have hmul : IntKind.u64.wrap ((n : Int) * 8) = ((8 * n : Nat) : Int) := by
  have h : IntKind.u64.wrap ((n : Int) * 8) = ((n : Int) * 8) % 18446744073709551616 := by simp [IntKind.wrap, IntKind.bits, IntKind.signed]
  rw [h]; omega
 obtain ⟨N8, hN8⟩ : ∃ N8, Hid (N8 = 8 * n) := ⟨_, Lib.hid rfl⟩
 rw [← hN8.out] at hmul
 have hN8I : (n : Int) * 8 = (N8 : Int) := by rw [hN8.out]; omega
 obtain ⟨X8, hX8⟩ : ∃ X8 : ByteArray, Hid (X8 = ⟨(be8 N8).toArray⟩) := ⟨_, Lib.hid rfl⟩
 have hX8s : X8.size = 8 := by rw [hX8.out]; rfl
 have HBIG : Hid (∀ w : World, Calls Tryd.prog 54 #[.int .u64 N8, .int .i64 8] w fun e w' => e = .returned (.string X8) ∧ Below w.heap.size w w') := by
  unfold Hid
  rw [hX8.out]
  exact fun w => Big8 N8 w
 go_wp2_with fail
 refine (HBIG.out _).mono ?_
 rintro e w4 ⟨rfl, hb4⟩
 obtain ⟨T2, hT2⟩ : ∃ T2 : ByteArray, Hid (T2 = T ++ X8) := ⟨_, Lib.hid rfl⟩
 have hpad : Hid (T2.data.toList = pad l) := by
  unfold Hid
  rw [hT2.out, data_append, hT.out, hX8.out, hN8.out, ← hll.out]
  show (l ++ 128 :: List.replicate (fill l.length) 0) ++ be8 (8 * l.length) = l ++ (128 :: (List.replicate (fill l.length) 0 ++ be8 (8 * l.length)))
  simp
 obtain ⟨NB, hNB⟩ : ∃ NB, Hid (NB = (pad l).length / 64) := ⟨_, Lib.hid rfl⟩
 have hT2s : T2.size = 64 * NB := by
  rw [show T2.size = T2.data.toList.length from rfl, hpad.out, hNB.out]
  exact pad_blocks l
 have hNB2 : NB ≤ 1000 := by
  have h1 := pad_le l
  have h2 := hll.out
  have h3 := pad_blocks l
  rw [← hNB.out] at h3
  omega
 have HB4 : Hid (Below w2.heap.size w2 w4) := HB3.out.trans (hb4.mono HB3.out.size)
 have HK4 : Hid (∀ j, j < 64 → w4.cell? ⟨gk, j, none⟩ = some (.int .u32 (kN j))) := fun j hj => by
  rw [HB4.out.cell (p := ⟨gk, j, none⟩) hgk]
  exact HK.out j hj
 have HO4 := Lib.hid (own_below HO3.out hb4 (Nat.le_refl _))
 have hz4 : w2.heap.size ≤ w4.heap.size := HB4.out.size
 clear hb4 HBIG hT HB3 HO3 HK hmul hN8I
 go_wp2
 rw [← hT2.out]
 refine sha3_ok T2 NB (64 * NB) h0 gk ck gh ch w2.heap.size w4 _ _ _ _ _ _ _ _ _ _ _ _ _ _ _ _ _ _ _ _ _ _ _ _ _ _ _ _ _ _ _ _ _ _ _ _ _ _ _ _ _ _ _ _ _ _ _ _ _ _ _ _ _ _ _ _ _ _ _ _ _ _ _ _ _ _ _ _ _ _ _ _ _ _ _ _ _ _ _ _ _ _ _ _ _ _ _ _ _ _ _ _ _ _ _ _ _ _ _ _ _ _ _ _ _ _ _ _ _ _ _ _ _ _ _ _ _ _ _ _ _ _ _ _ _ _ _ _ _ _ _ _ _ _ _ _ _ _ _ _ _ _ _ _ _ _ _ _ _ _ _ _ _ _ _ _ _ _ _ _ _ _ _ _ _ _ _ _ _ _ _ _ _ _ _ _ _ _ _ _ _ _ _ _ _ _ _ _ _ _ _ _ _ _ _ _ _ _ _ _ _ _ _ _ _ _ _ _ _ _ _ _ _ _ _ _ _ _ _ _ _ _ _ _ _ _ _ _ _ _ _ _ _ _ _ _ _ _ _ _ _ _ _ _ _ _ _ _ _ _ _ _ _ _ _ _ _ _ _ _ _ rfl hT2s hNB2 h0_ok hck hch hgk hz4 HK4 HO4 ?_
 rintro d9 d10 d11 d12 d13 d14 d15 d16 d17 d18 d19 d20 d21 d22 d58 d59 d60 d61 d62 d63 d64 d65 d66 d67 d68 d69 d70 d71 d72 d73 d74 d75 d76 d77 d78 d79 d80 d81 d82 d83 d84 d85 d86 d87 d88 d89 d90 d91 d92 d93 d94 d95 d96 d97 d98 d99 d100 d101 d102 d103 d104 d105 d106 d107 d108 d109 d110 d111 d112 d113 d114 d115 d116 d117 d118 d119 d120 d121 d122 d123 d124 d125 d126 d127 d128 d129 d130 d131 d132 d133 d134 d135 d136 d137 d138 d139 d140 d141 d142 d143 d144 d145 d146 d147 d148 d149 d150 d151 d152 d153 d154 d155 d156 d157 d158 d159 d160 d161 d162 d163 d164 d165 d166 d167 d168 d169 d170 d171 d172 d173 d174 d175 d176 d177 d178 d179 d180 d181 d182 d183 d184 d185 d186 d187 d188 d189 d190 d191 d192 d193 d194 d195 d196 d197 d198 d199 d200 d201 d202 d203 d204 d205 d206 d207 d208 d209 d210 d211 d212 d213 d214 d215 d216 d217 d218 d219 d220 d221 d222 d223 d224 d225 d226 d227 d228 d229 d230 d231 d232 d233 d234 d235 d236 d237 d238 d239 d240 d241 d242 d243 d244 d245 d246 d247 d248 d249 d250 w5 HO5 HB5
 have HS5 : Hid ((mids h0 T2.data.toList NB).ok) := Lib.hid (mids_ok h0_ok _ _)
 obtain ⟨sF, hsF⟩ : ∃ sF, Hid (sF = mids h0 T2.data.toList NB) := ⟨_, Lib.hid rfl⟩
 rw [← hsF.out] at HO5 HS5
 have hgh5 : gh < w5.heap.size := (HO5.out.lt gh rfl).2
 go_wp2
 refine sha8_ok sF gh ch w2.heap.size w5 _ _ _ _ _ _ _ _ _ _ _ _ _ _ _ _ _ _ _ _ _ _ _ _ _ _ _ _ _ _ _ _ _ _ _ _ _ _ _ _ _ _ _ _ _ _ _ _ _ _ _ _ _ _ _ _ _ _ _ _ _ _ _ _ _ _ _ _ _ _ _ _ _ _ _ _ _ _ _ _ _ _ _ _ _ _ _ _ _ _ _ _ _ _ _ _ _ _ _ _ _ _ _ _ _ _ _ _ _ _ _ _ _ _ _ _ _ _ _ _ _ _ _ _ _ _ _ _ _ _ _ _ _ _ _ _ _ _ _ _ _ _ _ _ _ _ _ _ _ _ _ _ _ _ _ _ _ _ _ _ _ _ _ _ _ _ _ _ _ _ _ _ _ _ _ _ _ _ _ _ _ _ _ _ _ _ _ _ _ _ _ _ _ _ _ _ _ _ _ _ _ _ _ _ _ _ _ _ _ _ _ _ _ _ _ _ _ _ _ _ _ _ _ _ _ _ _ _ _ _ _ _ _ _ _ _ _ _ _ _ _ _ _ _ _ _ _ _ _ _ _ _ _ _ _ _ _ _ _ _ _ _ HS5.out hch hgh5 HO5 ?_
 rintro e251 e252 e253 e254 e255 e256 e257 e258 e259 e260 e261 e262 TF w6 hTF HB6
 have HFB : Hid (Below w.heap.size w w6) := HB2.out.trans ((HB4.out.trans (HB5.out.trans (HB6.out.mono HB5.out.size |>.mono HB4.out.size))).mono HB2.out.size)
 have HFT : Hid (TF = OUT) := by
  unfold Hid
  rw [hOUT.out]
  apply ByteArray.ext
  apply Array.ext'
  rw [hTF.out, hsF.out, hpad.out, hNB.out]
  rfl
 clear HK4 HO4 HO5 HS5 HB2 HB4 HB5 HB6 hTF hsF
 obtain rfl : TF = OUT := HFT.out
 go_wp2
 go_ret
 exact ⟨rfl, HFB.out⟩
end Go.Proofs.YtdbbcngolcnniaaDoor.S3
/- Pieces of walks: a whole aggregate in memory, rows of numbers and of bytes, regions that draw their order. No condition. -/
namespace Go.Proofs.YtdbbcngolcnniaaDoor.R
open Go.Proofs.YtdbbcngolcnniaaDoor.S3
open Go.RowKit
set_option linter.unusedVariables false
set_option linter.unusedSimpArgs false
section
variable {P : Program}
section
variable {ops : Array Oper} {Q : Exit → Act → World → Prop} {md : Region.Mode} {fuel : Nat} {listed : Array Bool} {a : Act} {w w2 w3 : World} {i j : Nat} {rs : List Nat}
end
end
section
variable {P : Program} {ops : Array Oper} {Q : Exit → Act → World → Prop} {md : Region.Mode} {S : World → Prop} {f : Nat}
variable {n : Nat} {listed : Array Bool} {a : Act} {w w2 : World} {i : Nat} {rs : List Nat}
end
section
variable {P : Program} {ops : Array Oper} {Q : Exit → Act → World → Prop} {md : Region.Mode} {S : World → Prop} {f n : Nat} {listed : Array Bool} {a : Act} {w w2 : World} {rs : List Nat}
end
section
variable {P : Program} {ops : Array Oper} {Q : Exit → Act → World → Prop} {md : Region.Mode} {S : World → Prop} {f n : Nat} {listed : Array Bool} {a : Act} {w w2 : World} {rs : List Nat}
theorem ReadyF.op0 {i : Nat} (opr : Op) (ho : (ops[i]?).map (fun o => (o.dst, o.op, o.guard)) = some (none, opr, none))
  (hrun : ∀ o : Oper, o.op = opr → (execOp a.eval o).run P w = .ok .skip w2) (hS : S w2) (h : AnyF P md ops Q S f n (listed.setIfInBounds i true) a w2)
  (hs : ReadyF P md ops Q S f n listed a w rs) (hif : i ≠ f := by decide) : ReadyF P md ops Q S f n listed a w (i :: rs) := by
 cases hq : ops[i]? with
 | none => simp [hq] at ho
 | some o =>
  simp [hq] at ho
  obtain ⟨hd, rfl, hg⟩ := ho
  refine ReadyF.cons hq hg (fun K hK => ?_) hs
  unfold Oper.wp
  rw [hrun o rfl]
  have : a.put o.dst undef = a := by rw [hd]; rfl
  have h2 : K a w2 := hK _ _ ⟨fun _ => ⟨hS, h⟩, fun e => absurd e hif⟩
  rw [← this] at h2
  exact h2
end
end Go.Proofs.YtdbbcngolcnniaaDoor.R
/- Fold of the document: bytes folded into some. No condition but that the text may lie in memory. -/
namespace Go.Proofs.YtdbbcngolcnniaaDoor.R
open Go.Proofs.YtdbbcngolcnniaaDoor.S3
open Go.RowKit Go.Shelf
set_option linter.unusedVariables false
set_option linter.unusedSimpArgs false
theorem bcell {W w1 : World} (hb : Below W.heap.size W w1) : (∀ b o, b < W.heap.size → w1.cell? ⟨b, o, none⟩ = W.cell? ⟨b, o, none⟩) := fun b o hlt => hb.cell hlt
theorem made_rowOf (m : Nat) : madeCells (Value.int .u8 0).cells m = (rowOf .u8 m (fun _ => 0)).toArray := by
 rw [made_row]
 rfl
theorem make_row (m : Nat) (hm : m ≤ 1000) (W : World) : (Instr.makeSlice 41 (.int .i64 (m : Int)) (.int .i64 (m : Int))).run Tryd.prog W = .ok (.slice (some ⟨W.heap.size, 0, none⟩) m m) (W.alloc (.cells (rowOf .u8 m (fun _ => 0)).toArray 5)) := by
 rw [← made_rowOf]
 exact make_u8 m hm W
theorem row_str {wr : World} {g n : Nat} {f : Nat → Nat} (h : Row wr g 5 .u8 n f) (hf : ∀ j, j < n → f j < 256) : ∀ W, Below wr.heap.size wr W → (Go.convert 41 9 (.slice (some ⟨g, 0, none⟩) n n)).run Tryd.prog W = .ok (.string ⟨((List.range n).map fun j => UInt8.ofNat (f j)).toArray⟩) W := by
 intro W hb
 have hlt : g < wr.heap.size := h.lt
 have hl : ((List.range n).map fun j => UInt8.ofNat (f j)).length = n := by simp
 have h2 := run_convert_bytes_back (P := Tryd.prog) W 41 9 5 ⟨g, 0, none⟩ n ((List.range n).map fun j => UInt8.ofNat (f j)) Tryd.underlying41 Tryd.underlying5 Tryd.underlying9 (fun j hj => by
  rw [hl] at hj
  rw [addr_add, Nat.zero_add, bcell hb _ _ hlt, h.cell j hj]
  simp only [List.getElem_map, List.getElem_range]
  rw [UInt8.toNat_ofNat', Nat.mod_eq_of_lt (hf j hj)])
 rw [hl] at h2
 exact h2
theorem xor8 (x c : Nat) (hx : x < 256) (hc : c < 256) : bits .xor .u8 (x : Int) (c : Int) = ((x ^^^ c : Nat) : Int) := u8_xor_nat x c hx hc
theorem fold_snoc (m : Nat) (l : List UInt8) (c : UInt8) (k : Nat) : foldN m k (l ++ [c]) 0 = if l.length % m = k then foldN m k l 0 ^^^ c.toNat else foldN m k l 0 := by
 rw [foldN_append, Nat.zero_add]
 show foldN m k l 0 ^^^ ((if l.length % m = k then c.toNat else 0) ^^^ 0) = _
 split
 ·rw [Nat.xor_zero]
 ·rw [Nat.xor_zero, Nat.xor_zero]
set_option maxRecDepth 100000 in
set_option maxHeartbeats 1000000 in
theorem rfold_any (s : ByteArray) (n : Int) (hn : -9223372036854775808 ≤ n ∧ n ≤ 9223372036854775807) (hs : s.size ≤ 549755813888) (w : World) :
  Calls Tryd.prog 30 #[.string s, .int .i64 n] w fun e w' => e = .returned (.string ⟨(foldI s.data.toList n).toArray⟩) ∧ Below w.heap.size w w' := by
 by_cases hr : 1 ≤ n ∧ n ≤ 64
 ·obtain ⟨m, rfl⟩ : ∃ m : Nat, n = (m : Int) := ⟨n.toNat, by omega⟩
  have hm1 : 1 ≤ m := by omega
  have hm64 : m ≤ 64 := by omega
  have hfi : foldI s.data.toList (m : Int) = fold s.data.toList m := by unfold foldI; rw [if_pos hr]; rfl
  rw [hfi]
  have hmk := fun W => make_row m (by omega) W
  have hlI : ¬ (m : Int) < 1 := by omega
  have hgI : ¬ (64 : Int) < (m : Int) := by omega
  have hlI2 : (1 : Int) ≤ (m : Int) := by omega
  have hgI2 : (m : Int) ≤ 64 := by omega
  have hb0 : Below w.heap.size w (w.alloc (.cells (rowOf .u8 m (fun _ => 0)).toArray 5)) := (Below.refl _ w).alloc (Nat.le_refl _) _
  have hr0 : Row (w.alloc (.cells (rowOf .u8 m (fun _ => 0)).toArray 5)) w.heap.size 5 .u8 m (fun j => foldN m j (s.data.toList.take 0) 0) := Row.new w 5 .u8 m (fun _ => 0)
  obtain ⟨Z, hZ⟩ : ∃ Z, Hid (Z = (rowOf .u8 m (fun _ => 0)).toArray) := ⟨_, Lib.hid rfl⟩
  rw [← hZ.out] at hb0 hr0
  have hmk2 : ∀ W : World, (Instr.makeSlice 41 (.int .i64 (m : Int)) (.int .i64 (m : Int))).run Tryd.prog W = .ok (.slice (some ⟨W.heap.size, 0, none⟩) m m) (W.alloc (.cells Z 5)) := by rw [hZ.out]; exact hmk
  clear hmk hfi hr hn
  go_enter Tryd.func30, Tryd.ntmps30
  go_wp2
  generalize w.alloc (.cells Z 5) = W0 at *
  have HB0 := Lib.hid hb0
  have HR0 := Lib.hid hr0
  clear hb0 hr0
  go_loopw [6] (fun i wr => ∃ I : Nat, I ≤ s.size ∧ i = .int .i64 (I : Int) ∧ Row wr w.heap.size 5 .u8 m (fun j => foldN m j (s.data.toList.take I) 0) ∧ Below w.heap.size w wr) (fun i _ => s.size - (intOf i).toNat)
  case atStart => exact ⟨0, by omega, rfl, HR0.out, HB0.out⟩
  case round =>
   clear HB0 HR0 hZ hmk2
   obtain ⟨I, hI, rfl, hrow, hb⟩ := hrel
   have HR := Lib.hid hrow
   have HB := Lib.hid hb
   clear hrow hb
   by_cases hlt : I < s.size
   ·have hltI : (I : Int) < (s.size : Int) := by omega
    obtain ⟨J, hJ⟩ : ∃ J, Hid (J = I % m) := ⟨_, Lib.hid rfl⟩
    have hJm : J < m := by rw [hJ.out]; exact Nat.mod_lt _ (by omega)
    have hJmI : (J : Int) < (m : Int) := by omega
    have hrem : (I : Int) % (m : Int) = (J : Int) := by rw [hJ.out]; exact (Int.natCast_emod _ _).symm
    have hrem2 : (I : Int).tmod (m : Int) = (J : Int) := by rw [Int.tmod_eq_emod_of_nonneg (by omega)]; exact hrem
    have htl : (s.data.toList.take I).length = I := by rw [List.length_take]; have : s.data.toList.length = s.size := rfl; omega
    obtain ⟨x, hx⟩ : ∃ x, Hid (x = foldN m J (s.data.toList.take I) 0) := ⟨_, Lib.hid rfl⟩
    have hx256 : x < 256 := by rw [hx.out]; exact foldN_lt _ _ _ _
    have hc256 : s[I].toNat < 256 := UInt8.toNat_lt _
    obtain ⟨r, hr⟩ : ∃ r, Hid (r = x ^^^ s[I].toNat) := ⟨_, Lib.hid rfl⟩
    have hxor := xor8 x s[I].toNat hx256 hc256
    rw [← hr.out] at hxor
    have cj : wr.cell? ⟨w.heap.size, J, none⟩ = some (.int .u8 (x : Int)) := by rw [hx.out]; exact HR.out.cell J hJm
    have fj := HR.out.free J
    have HN : Hid (Row (wr.setCell ⟨w.heap.size, J, none⟩ (.int .u8 (r : Int))).drew w.heap.size 5 .u8 m (fun j => foldN m j (s.data.toList.take (I + 1)) 0)) := Lib.hid (Row.ext (Row.set (w := wr) HR.out J r) (fun j hj => by
     show upd _ J r j = foldN m j (s.data.toList.take (I + 1)) 0
     rw [take_snoc s I hlt, fold_snoc, htl, ← hJ.out]
     unfold upd
     by_cases e : j = J
     ·subst e; rw [if_pos rfl, if_pos rfl, hr.out, hx.out]
     ·rw [if_neg e, if_neg (fun h => e h.symm)]))
    have HBN : Hid (Below w.heap.size w (wr.setCell ⟨w.heap.size, J, none⟩ (.int .u8 (r : Int))).drew) := Lib.hid (HB.out.setCell (p := ⟨w.heap.size, J, none⟩) (Nat.le_refl _) _).drew
    generalize hcs : (s[I].toNat : Int) = c at *
    clear HR HB hJ htl hx hx256 hc256 hr
    go_wp2
    go_region
    go_wp2
    go_roundw
    case rel => exact ⟨I + 1, by omega, by first | rfl | simp | go_num, HN.out, HBN.out⟩
    case measure => simp [intOf]; omega
   ·obtain rfl : I = s.size := by omega
    have hall : s.data.toList.take s.size = s.data.toList := List.take_of_length_le (by show s.size ≤ s.size; omega)
    rw [hall] at HR
    have hc1 := row_str HR.out (fun j _ => foldN_lt _ _ _ _) wr (Below.refl _ _)
    obtain ⟨D, hD⟩ : ∃ D : ByteArray, Hid (D = ⟨(fold s.data.toList m).toArray⟩) := ⟨_, Lib.hid rfl⟩
    have hc2 : (Go.convert 41 9 (.slice (some ⟨w.heap.size, 0, none⟩) m m)).run Tryd.prog wr = .ok (.string D) wr := by rw [hD.out]; exact hc1
    clear hc1 HR hall
    go_wp2
    go_ret
    exact ⟨by rw [hD.out]; rfl, HB.out⟩
 ·have hfi : foldI s.data.toList n = [] := by unfold foldI; rw [if_neg hr]
  rw [hfi]
  by_cases h1 : n < 1
  ·go_enter Tryd.func30, Tryd.ntmps30
   go_wp2
   go_ret
   exact ⟨rfl, Below.refl _ _⟩
  ·have h2 : (64 : Int) < n := by omega
   have h3 : (1 : Int) ≤ n := by omega
   go_enter Tryd.func30, Tryd.ntmps30
   go_wp2
   go_ret
   exact ⟨rfl, Below.refl _ _⟩
end Go.Proofs.YtdbbcngolcnniaaDoor.R
/- bit and Base32 of the document: bits of bytes, and their letters. No condition but that there are up to six hundred bytes. -/
namespace Go.Proofs.YtdbbcngolcnniaaDoor.R
open Go.Proofs.YtdbbcngolcnniaaDoor.S3
open Go.RowKit Go.Shelf
set_option linter.unusedVariables false
set_option linter.unusedSimpArgs false
theorem i64_nat (a b : Nat) (ha : a < 1099511627776) (hb : b < 1099511627776) : bits .and .i64 (a : Int) (b : Int) = ((a &&& b : Nat) : Int) ∧ bits .or .i64 (a : Int) (b : Int) = ((a ||| b : Nat) : Int) :=
 bits_nat .i64 40 (by decide) (fun n h0 h1 => by rw [IntKind.wrap_i64]; omega) a b ha hb
theorem exec_index_str {ρ : Operand → Value} {o : Oper} (x y : Operand) (ho : o.op = .index 9 x y) (s : ByteArray) (i : Nat) (hi : i < s.size) (hx : ρ x = .string s) (hy : ρ y = .int .i64 (i : Int)) (w : World) : (execOp ρ o).run Tryd.prog w = .ok (.value (.int .u8 (s[i].toNat : Int))) w := by
 unfold execOp
 rw [ho]
 simp only [hx, hy]
 go_simp
def lettB : ByteArray := ⟨letL.toArray⟩
set_option maxRecDepth 100000 in
set_option maxHeartbeats 1000000 in
theorem lettB_any (w : World) : Calls Tryd.prog 42 #[] w fun e w' => e = .returned (.string lettB) ∧ w' = w := by
 go_enter Tryd.func42, Tryd.ntmps42
 go_wp2
 go_ret
 exact ⟨rfl, rfl⟩
theorem and1 (x : Nat) (hx : x < 1099511627776) : bits .and .i64 (x : Int) 1 = ((x % 2 : Nat) : Int) := by
 have h := (i64_nat x 1 hx (by decide)).1
 rw [Nat.and_one_is_mod] at h
 exact h
theorem or_pow (n b k : Nat) (hn : n < 2 ^ k) (hb : b < 2) (hk : k < 30) : bits .or .i64 (n : Int) ((b * 2 ^ k : Nat) : Int) = ((n + b * 2 ^ k : Nat) : Int) := by
 have hp : 2 ^ k ≤ 2 ^ 30 := Nat.pow_le_pow_right (by decide) (by omega)
 have hb2 : b * 2 ^ k ≤ 1 * 2 ^ k := Nat.mul_le_mul_right _ (by omega)
 have h := (i64_nat n (b * 2 ^ k) (by omega) (by omega)).2
 have h2 : n ||| b * 2 ^ k = n + b * 2 ^ k := by
  have := Nat.two_pow_add_eq_or_of_lt (i := k) (b := n) hn b
  rw [Nat.mul_comm b, Nat.or_comm, ← this]
  omega
 rw [h2] at h
 exact h
theorem mod_succ (y k : Nat) : y % 2 ^ (k + 1) = y % 2 ^ k + y / 2 ^ k % 2 * 2 ^ k := by
 rw [Nat.pow_succ, Nat.mod_mul, Nat.mul_comm (2 ^ k)]
theorem let_get (d : Nat) (hd : d < 32) : ∃ h : d < lettB.size, (lettB[d]'h) = lett d := by
 have h : d < lettB.size := hd
 refine ⟨h, ?_⟩
 have : ∀ d, (h : d < 32) → letL.getD d 0 = letL[d]'h := fun d h => by rw [List.getD_eq_getElem?_getD, List.getElem?_eq_getElem h]; rfl
 unfold lett
 rw [this d hd]
 rfl
theorem exec_index_let {ρ : Operand → Value} {o : Oper} (x y : Operand) (ho : o.op = .index 9 x y) (q : Nat) (hq : q < 32) (g : UInt8) (hsx : lett q = g) (hx : ρ x = .string lettB) (hy : ρ y = .int .i64 (q : Int)) (w : World) :
  (execOp ρ o).run Tryd.prog w = .ok (.value (.int .u8 (g.toNat : Int))) w := by
 obtain ⟨h, e⟩ := let_get q hq
 have h2 := exec_index_str x y ho lettB q h hx hy w
 rw [e, hsx] at h2
 exact h2
set_option maxRecDepth 100000 in
set_option maxHeartbeats 1000000 in
theorem bit_any (s : ByteArray) (hs : s.size ≤ 1000) (K : Nat) (hK : K ≤ 10000) (w : World) :
  Calls Tryd.prog 57 #[.string s, .int .i64 (K : Int)] w fun e w' => e = .returned (.int .i64 ((num s.data.toList / 2 ^ K % 2 : Nat) : Int)) ∧ w' = w := by
 have hbn := bit_num s.data.toList K
 obtain ⟨R, hR⟩ : ∃ R, Hid (R = num s.data.toList / 2 ^ K % 2) := ⟨_, Lib.hid rfl⟩
 rw [← hR.out] at hbn ⊢
 obtain ⟨j, hj⟩ : ∃ j, Hid (j = K / 8) := ⟨_, Lib.hid rfl⟩
 obtain ⟨q, hq⟩ : ∃ q, Hid (q = K % 8) := ⟨_, Lib.hid rfl⟩
 rw [← hj.out, ← hq.out] at hbn
 have hq1 : (K : Int) / 8 = (j : Int) := by rw [hj.out]; omega
 have hq2 : (K : Int) % 8 = (q : Int) := by rw [hq.out]; omega
 have hq3 : (K : Int).tdiv 8 = (j : Int) := by rw [Int.tdiv_eq_ediv_of_nonneg (by omega)]; exact hq1
 have hq4 : (K : Int).tmod 8 = (q : Int) := by rw [Int.tmod_eq_emod_of_nonneg (by omega)]; exact hq2
 have hql : q < 8 := by rw [hq.out]; omega
 have hqI : (q : Int) < 64 := by omega
 have hjl : (j : Int) ≤ 1250 := by rw [hj.out]; omega
 clear hR hj hq
 by_cases hlt : j < s.size
 ·have hltI : (j : Int) < (s.size : Int) := by omega
  have hltI2 : ¬ (s.size : Int) ≤ (j : Int) := by omega
  have hc256 : s[j].toNat < 256 := UInt8.toNat_lt _
  have hw64 : ∀ c : Nat, c < 256 → wrap64 (c : Int) = (c : Int) ∧ IntKind.i64.wrap (c : Int) = (c : Int) := fun c h => ⟨IntWalk.wrap64_in _ (by omega), IntWalk.i64_in _ (by omega)⟩
  have hwb := (hw64 _ hc256).1
  have hwb2 := (hw64 _ hc256).2
  clear hw64
  have hg : (s.data.toList.getD j 0) = s[j] := by
   rw [List.getD_eq_getElem?_getD]
   have h1 : s.data.toList[j]? = some s[j] := by rw [List.getElem?_eq_getElem (by exact hlt)]; rfl
   rw [h1, Option.getD_some]
  rw [hg] at hbn
  obtain ⟨x, hx⟩ : ∃ x, Hid (x = s[j].toNat / 2 ^ q) := ⟨_, Lib.hid rfl⟩
  rw [← hx.out] at hbn
  have hsh : ((s[j].toNat : Nat) : Int) / 2 ^ q = (x : Int) := by rw [hx.out, Int.natCast_ediv, Int.natCast_pow]; rfl
  have hxl : x < 256 := by rw [hx.out]; exact Nat.lt_of_le_of_lt (Nat.div_le_self _ _) hc256
  have hand := and1 x (by omega)
  rw [hbn] at hand
  clear hx hbn hg hc256 hxl
  go_enter Tryd.func57, Tryd.ntmps57
  go_wp2
  go_ret
  exact ⟨rfl, rfl⟩
 ·have hg : (s.data.toList.getD j 0) = 0 := by rw [List.getD_eq_getElem?_getD, List.getElem?_eq_none (by show s.size ≤ j; omega)]; rfl
  rw [hg] at hbn
  have h0 : (0 : UInt8).toNat / 2 ^ q % 2 = 0 := by show 0 / 2 ^ q % 2 = 0; rw [Nat.zero_div]
  rw [h0] at hbn
  have hltI2 : (s.size : Int) ≤ (j : Int) := by omega
  subst hbn
  go_enter Tryd.func57, Tryd.ntmps57
  go_wp2
  go_ret
  exact ⟨rfl, rfl⟩
def fB (x M i j : Nat) : Nat := if M ≤ j + i then (lett (x / 32 ^ (M - 1 - j) % 32)).toNat else 0
theorem fB_lt (x M i j : Nat) : fB x M i j < 256 := by
 unfold fB
 split
 ·exact UInt8.toNat_lt _
 ·omega
theorem fB_step (x M i p : Nat) (g : UInt8) (hi : i < M) (hp : p = M - 1 - i) (hg : lett (x / 32 ^ i % 32) = g) : ∀ j, j < M → upd (fB x M i) p g.toNat j = fB x M (i + 1) j := by
 intro j hj
 subst hp
 unfold upd fB
 by_cases e : j = M - 1 - i
 ·rw [if_pos e, if_pos (by omega), show M - 1 - j = i by omega, hg]
 ·rw [if_neg e]
  by_cases h : M ≤ j + i
  ·rw [if_pos h, if_pos (by omega)]
  ·rw [if_neg h, if_neg (by omega)]
theorem fB_all (x M : Nat) : (List.range M).map (fun j => UInt8.ofNat (fB x M M j)) = enc32 x M := by
 apply List.ext_getElem?
 intro j
 by_cases hj : j < M
 ·have h := enc32_get x M (M - 1 - j) (by omega)
  rw [show M - 1 - (M - 1 - j) = j by omega, List.getD_eq_getElem?_getD, List.getElem?_eq_getElem (by rw [enc32_length]; exact hj)] at h
  rw [List.getElem?_map, List.getElem?_range hj, List.getElem?_eq_getElem (by rw [enc32_length]; exact hj)]
  simp only [Option.map_some]
  congr 1
  rw [show (enc32 x M)[j]'(by rw [enc32_length]; exact hj) = lett (x / 32 ^ (M - 1 - j) % 32) from h]
  unfold fB
  rw [if_pos (by omega)]
  simp
 ·rw [List.getElem?_eq_none (by simp; omega), List.getElem?_eq_none (by rw [enc32_length]; omega)]
set_option maxRecDepth 100000 in
set_option maxHeartbeats 1000000 in
theorem rb32_any (s : ByteArray) (hs : s.size ≤ 600) (w : World) :
  Calls Tryd.prog 29 #[.string s] w fun e w' => e = .returned (.string ⟨(b32 s.data.toList).toArray⟩) ∧ Below w.heap.size w w' := by
 have hbt := Lib.hid (fun K hK W => bit_any s (by omega) K hK W)
 have HLE := Lib.hid lettB_any
 obtain ⟨x, hx⟩ : ∃ x, Hid (x = num s.data.toList) := ⟨_, Lib.hid rfl⟩
 obtain ⟨M, hM⟩ : ∃ M, Hid (M = many32 s.data.toList.length) := ⟨_, Lib.hid rfl⟩
 have hMs : M = (8 * s.size + 4) / 5 := by rw [hM.out]; rfl
 have hM1000 : M ≤ 1000 := by omega
 obtain ⟨E, hE⟩ : ∃ E, Hid (E = 8 * s.size + 4) := ⟨_, Lib.hid rfl⟩
 obtain ⟨E8, hE8⟩ : ∃ E8, Hid (E8 = 8 * s.size) := ⟨_, Lib.hid rfl⟩
 have q1 : (8 : Int) * (s.size : Int) = (E8 : Int) := by rw [hE8.out]; omega
 have q2 : (E8 : Int) + 4 = (E : Int) := by rw [hE8.out, hE.out]; omega
 have q3 : (E : Int) / 5 = (M : Int) := by rw [hE.out]; omega
 have q4 : (E : Int).tdiv 5 = (M : Int) := by rw [Int.tdiv_eq_ediv_of_nonneg (by omega)]; exact q3
 have q5 : (E : Int) ≤ 5000 := by rw [hE.out]; omega
 have q6 : (E8 : Int) ≤ 5000 := by rw [hE8.out]; omega
 have hres : Hid (b32 s.data.toList = enc32 x M) := by unfold Hid b32; rw [← hx.out, ← hM.out]
 rw [hres.out]
 have hmk := fun W => make_row M hM1000 W
 have hb0 : Below w.heap.size w (w.alloc (.cells (rowOf .u8 M (fun _ => 0)).toArray 5)) := (Below.refl _ w).alloc (Nat.le_refl _) _
 have hr0 : Row (w.alloc (.cells (rowOf .u8 M (fun _ => 0)).toArray 5)) w.heap.size 5 .u8 M (fB x M 0) := (Row.new w 5 .u8 M (fun _ => 0)).ext (fun j hj => by unfold fB; rw [if_neg (by omega)])
 obtain ⟨Z, hZ⟩ : ∃ Z, Hid (Z = (rowOf .u8 M (fun _ => 0)).toArray) := ⟨_, Lib.hid rfl⟩
 rw [← hZ.out] at hb0 hr0
 have hmk2 : ∀ W : World, (Instr.makeSlice 41 (.int .i64 (M : Int)) (.int .i64 (M : Int))).run Tryd.prog W = .ok (.slice (some ⟨W.heap.size, 0, none⟩) M M) (W.alloc (.cells Z 5)) := by rw [hZ.out]; exact hmk
 clear hmk hMs hE hE8 hM hres
 have HX := Lib.hid hx.out
 clear hx
 go_enter Tryd.func29, Tryd.ntmps29
 go_wp2
 generalize w.alloc (.cells Z 5) = W0 at *
 have HB0 := Lib.hid hb0
 have HR0 := Lib.hid hr0
 clear hb0 hr0 hmk2 hZ q1 q2 q3 q4 q5 q6
 go_loopw [5] (fun i wr => ∃ I : Nat, I ≤ M ∧ i = .int .i64 (I : Int) ∧ Row wr w.heap.size 5 .u8 M (fB x M I) ∧ Below w.heap.size w wr) (fun i _ => M - (intOf i).toNat)
 case atStart => exact ⟨0, by omega, rfl, HR0.out, HB0.out⟩
 case round =>
  clear HB0 HR0
  obtain ⟨I, hI, rfl, hrow, hb⟩ := hrel
  have HR := Lib.hid hrow
  have HB := Lib.hid hb
  clear hrow hb
  by_cases hlt : I < M
  ·have hltI : (I : Int) < (M : Int) := by omega
   obtain ⟨y, hy⟩ : ∃ y, Hid (y = x / 2 ^ (5 * I)) := ⟨_, Lib.hid rfl⟩
   go_wp2
   go_loopw [6, 7] (fun n j wr2 => ∃ J : Nat, J ≤ 5 ∧ j = .int .i64 (J : Int) ∧ n = .int .i64 ((y % 2 ^ J : Nat) : Int) ∧ wr2 = wr) (fun _ j _ => 5 - (intOf j).toNat)
   case atStart => exact ⟨0, by omega, rfl, by rw [Nat.pow_zero, Nat.mod_one]; rfl, rfl⟩
   case round =>
    obtain ⟨J, hJ, rfl, rfl, hwr⟩ := hrel
    subst hwr
    by_cases hJ5 : J < 5
    ·have hJ5I : (J : Int) < 5 := by omega
     obtain ⟨F, hF⟩ : ∃ F, Hid (F = 5 * I) := ⟨_, Lib.hid rfl⟩
     obtain ⟨K, hK⟩ : ∃ K, Hid (K = 5 * I + J) := ⟨_, Lib.hid rfl⟩
     have f1 : (5 : Int) * (I : Int) = (F : Int) := by rw [hF.out]; omega
     have f2 : (F : Int) + (J : Int) = (K : Int) := by rw [hF.out, hK.out]; omega
     have f3 : (F : Int) ≤ 5000 := by rw [hF.out]; omega
     have hK1 : K ≤ 10000 := by rw [hK.out]; omega
     have f4 : (K : Int) ≤ 10000 := by omega
     have HC := Lib.hid (fun W => hbt.out K hK1 W)
     obtain ⟨b, hbb⟩ : ∃ b, Hid (b = num s.data.toList / 2 ^ K % 2) := ⟨_, Lib.hid rfl⟩
     rw [← hbb.out] at HC
     have hb2 : b < 2 := by rw [hbb.out]; omega
     have hby : Hid (b = y / 2 ^ J % 2) := by unfold Hid; rw [hbb.out, ← HX.out, hK.out, hy.out, Nat.pow_add, ← Nat.div_div_eq_div_mul]
     have hms : Hid (y % 2 ^ (J + 1) = y % 2 ^ J + b * 2 ^ J) := by unfold Hid; rw [mod_succ, ← hby.out]
     have hor := or_pow (y % 2 ^ J) b J (Nat.mod_lt _ (Nat.two_pow_pos J)) hb2 (by omega)
     obtain ⟨B, hB⟩ : ∃ B, Hid (B = b * 2 ^ J) := ⟨_, Lib.hid rfl⟩
     have hB1 : (b : Int) * 2 ^ J = (B : Int) := by rw [hB.out, Int.natCast_mul, Int.natCast_pow]; rfl
     have hBl : (B : Int) ≤ 64 := by
      have h1 : b * 2 ^ J ≤ 1 * 2 ^ 5 := Nat.mul_le_mul (by omega) (Nat.pow_le_pow_right (by decide) (by omega))
      rw [hB.out]; omega
     have hBw : IntKind.i64.wrap (B : Int) = (B : Int) := IntWalk.i64_in _ (by omega)
     have hJ64 : (J : Int) < 64 := by omega
     rw [← hms.out, ← hB.out] at hor
     generalize hn2 : y % 2 ^ (J + 1) = n2 at *
     generalize y % 2 ^ J = n at *
     clear hms hby hB hbb hbt HR HB HX HLE hF hK hy
     go_wp2_with fail
     refine (HC.out _).mono ?_
     rintro e w5 ⟨rfl, rfl⟩
     go_wp2
     go_roundw
     case rel => exact ⟨J + 1, by omega, by first | rfl | simp | go_num, by first | rfl | rw [hn2], by simp⟩
     case measure => simp [intOf]; omega
    ·obtain rfl : J = 5 := by omega
     obtain ⟨d, hd⟩ : ∃ d, Hid (d = y % 2 ^ 5) := ⟨_, Lib.hid rfl⟩
     rw [← hd.out]
     have hd32 : d < 32 := by rw [hd.out]; exact Nat.mod_lt _ (by decide)
     have hdx : d = x / 32 ^ I % 32 := by rw [hd.out, hy.out, show (32 : Nat) ^ I = 2 ^ (5 * I) by rw [show (32 : Nat) = 2 ^ 5 from rfl, ← Nat.pow_mul]]
     obtain ⟨g, hg⟩ : ∃ g, Hid (lett d = g) := ⟨_, Lib.hid rfl⟩
     obtain ⟨p, hp⟩ : ∃ p, Hid (p = M - 1 - I) := ⟨_, Lib.hid rfl⟩
     obtain ⟨M1, hM1⟩ : ∃ M1, Hid (M1 = M - 1) := ⟨_, Lib.hid rfl⟩
     have p1 : (M : Int) - 1 = (M1 : Int) := by rw [hM1.out]; omega
     have p2 : (M1 : Int) - (I : Int) = (p : Int) := by rw [hM1.out, hp.out]; omega
     have p3 : (M1 : Int) ≤ 1000 := by rw [hM1.out]; omega
     have hpM : p < M := by rw [hp.out]; omega
     have hpI : (p : Int) < (M : Int) := by omega
     have cp := HR.out.cell p hpM
     have fp := HR.out.free p
     have HN : Hid (Row (wr.setCell ⟨w.heap.size, p, none⟩ (.int .u8 (g.toNat : Int))) w.heap.size 5 .u8 M (fB x M (I + 1))) := Lib.hid (Row.ext (Row.set (w := wr) HR.out p g.toNat) (fB_step x M I p g hlt hp.out (by rw [← hdx]; exact hg.out)))
     have HBN : Hid (Below w.heap.size w (wr.setCell ⟨w.heap.size, p, none⟩ (.int .u8 (g.toNat : Int)))) := Lib.hid (HB.out.setCell (p := ⟨w.heap.size, p, none⟩) (Nat.le_refl _) _)
     have hmeI : Hid (M - (I + 1) < M - I) := by unfold Hid; omega
     generalize fB x M I p = old at *
     clear hdx hd hy hp hM1 HR HB hbt HX
     rw [show ((5 : Nat) : Int) = (5 : Int) from rfl]
     go_wp2_with fail
     refine (HLE.out _).mono ?_
     rintro e w5 ⟨rfl, rfl⟩
     go_wp2_with (refine wpList_run rfl _ (exec_index_let (.tmp 39) (.tmp 40) rfl d hd32 g hg.out rfl rfl _) ?_)
     go_roundw
     case rel => exact ⟨I + 1, by omega, by first | rfl | simp | go_num, HN.out, HBN.out⟩
     case measure => simp [intOf]; omega
  ·obtain rfl : I = M := by omega
   have hc1 := row_str HR.out (fun j _ => fB_lt _ _ _ _) wr (Below.refl _ _)
   rw [fB_all] at hc1
   obtain ⟨D, hD⟩ : ∃ D : ByteArray, Hid (D = ⟨(enc32 x I).toArray⟩) := ⟨_, Lib.hid rfl⟩
   rw [← hD.out] at hc1
   clear HR HX hbt HLE
   go_wp2
   go_ret
   exact ⟨by rw [hD.out]; rfl, HB.out⟩
end Go.Proofs.YtdbbcngolcnniaaDoor.R
/- The document's Make, Source. Its conditions: as many texts, and as long, as the statements go through. -/
namespace Go.Proofs.YtdbbcngolcnniaaDoor
open Go Go.RowKit
set_option linter.unusedVariables false
set_option linter.unusedSimpArgs false
section
open E
theorem ent12 : Enters Tryd.prog 12 := enters_of Tryd.func12 (by kernel_rfl) rfl
theorem ent14 : Enters Tryd.prog 14 := enters_of Tryd.func14 (by kernel_rfl) rfl
theorem ent27 : Enters Tryd.prog 27 := enters_of Tryd.func27 (by kernel_rfl) rfl
theorem ent28 : Enters Tryd.prog 28 := enters_of Tryd.func28 (by kernel_rfl) rfl
theorem ent29 : Enters Tryd.prog 29 := enters_of Tryd.func29 (by kernel_rfl) rfl
theorem ent30 : Enters Tryd.prog 30 := enters_of Tryd.func30 (by kernel_rfl) rfl
theorem hex_same : ∀ l : List UInt8, S3.hex l = hex l
 | [] => rfl
 | c :: l => by show S3.hexd _ :: S3.hexd _ :: S3.hex l = hexd _ :: hexd _ :: hex l; rw [hex_same l]; rfl
abbrev mkT : Option (List UInt8) → TV
 | some t => .s (.agg [.one (.v (stv t)), .one (.v (.bool true))])
 | none => .s (.agg [.one (.v (stv [])), .one (.v (.bool false))])
abbrev mkW : Option (List UInt8) → Value
 | some t => .agg #[stv t, .bool true]
 | none => .agg #[stv [], .bool false]
set_option maxRecDepth 100000 in
theorem rmake_any (k h n : List UInt8) (hk : k.length ≤ 9000) (hh : h.length ≤ 1000000000) (hn : n.length ≤ 1000000000) (w : World) : Calls Tryd.prog 12 #[stv k, stv h, stv n] w fun e w' => e = .returned (mkW (makeR k h n)) ∧ Below w.heap.size w w' := by
 refine At.calls (args := [.v (stv k), .v (stv h), .v (stv n)]) (rows := []) (gl := []) (wr := []) (ρ := fun _ => (⟨0, 0, 0⟩ : Blk)) Tryd.func12 rfl rfl (init_rw ⟨rfl, rfl, rfl, trivial⟩ rfl rfl rfl (fun p hp => by cases hp) (fun p hp => by cases hp) (fun p hp => by cases hp)) rfl ?_
 by_cases h1 : h.length = 32
 case neg =>
  have hr : makeR k h n = none := by unfold makeR; rw [decide_eq_false h1]; rfl
  rw [hr]
  exact At.fin rfl [(2002002, .val (.v (.bool true)))] ⟨trivial, trivial⟩ [.d] (x := mkT none) (ob := [TV.v (.bool ((h.length : Int) != 32)) = TV.v (.bool true)]) (by kernel_rfl) ⟨tv_b (by simp only [bne_iff_ne, ne_eq]; omega), trivial⟩ fun ρ' w' hf _ => ⟨rfl, hf.below⟩
 have hb : TV.v (.bool ((h.length : Int) != 32)) = TV.v (.bool false) := tv_b (by rw [h1]; rfl)
 cases h2 : nmP n with
 | false =>
  have hr : makeR k h n = none := by unfold makeR; rw [h2]; simp
  rw [hr]
  exact At.fin rfl [(2002002, .val (.v (.bool false))), (2005, hMq n false)] ⟨trivial, hMq_ok _ _ _ hn h2, trivial⟩ [.d] (x := mkT none) (ob := [[TV.v (.bool ((h.length : Int) != 32)) = TV.v (.bool false)], qL (hMq n false)].flatten) (by kernel_rfl) (all_flat ⟨⟨hb, trivial⟩, all_qL _, trivial⟩) fun ρ' w' hf _ => ⟨rfl, hf.below⟩
 | true =>
  have hr : makeR k h n = some (makeL k h n) := by unfold makeR; rw [h2, decide_eq_true h1]; rfl
  have hnl : n.length ≤ 211 := by
   unfold nmP at h2
   simp only [Bool.and_eq_true, decide_eq_true_eq] at h2
   exact h2.1.1.2
  rw [hr]
  obtain ⟨x, hx⟩ : ∃ x, x = hex h := ⟨_, rfl⟩
  have hxl : x.length = 64 := by rw [hx, hex_length, h1]
  obtain ⟨t, ht⟩ : ∃ t, t = kindT k h n := ⟨_, rfl⟩
  have ht2 : k ++ [58, 115, 104, 97, 50, 53, 54, 58] ++ x ++ [58] ++ [47, 110, 105, 120, 47, 115, 116, 111, 114, 101] ++ [58] ++ n = t := by rw [ht, hx]; rfl
  have htl : t.length ≤ 9999 := by rw [← ht2]; simp only [List.length_append, List.length_cons, List.length_nil]; omega
  have kS : HintOk Tryd.prog 4010 (pc 27 #[stv t] (.v (stv (S3.sha t)))) := pc_ok ent27 (v := stv (S3.sha t)) rfl (fun _ => rfl) fun w => S3.rsha_any ⟨t.toArray⟩ (by show t.toArray.size ≤ _; simp; omega) w
  obtain ⟨u, hu⟩ : ∃ u, u = S3.sha t := ⟨_, rfl⟩
  rw [← hu] at kS
  obtain ⟨v, hv⟩ : ∃ v, v = foldI u 20 := ⟨_, rfl⟩
  obtain ⟨b, hb2⟩ : ∃ b, b = partM k h n := ⟨_, rfl⟩
  have hvb : b32 v = b := by rw [hb2, hv, hu, ht]; rfl
  have hbl : b.length = 32 := by rw [hb2, partM_len]
  have hul : u.length ≤ 549755813888 := by rw [hu, sha_len]; decide
  have hvl : v.length = 20 := by rw [hv, foldI_len]
  have hml : makeL k h n = dirL ++ b ++ [45] ++ n := by rw [hb2]; rfl
  rw [hml]
  have kX : HintOk Tryd.prog 4003 (pc 28 #[stv h] (.v (stv x))) := pc_ok ent28 (v := stv x) rfl (fun _ => rfl) fun w => by rw [hx, ← hex_same]; exact S3.hex_any ⟨h.toArray⟩ (by show h.toArray.size ≤ _; simp; omega) (by show 0 < h.toArray.size; simp; omega) w
  have kF : HintOk Tryd.prog 5001 (pc 30 #[stv u, .int .i64 20] (.v (stv v))) := pc_ok ent30 (v := stv v) rfl (fun _ => rfl) fun w => by rw [hv]; exact R.rfold_any ⟨u.toArray⟩ 20 (by decide) (by show u.toArray.size ≤ _; simpa using hul) w
  have kB : HintOk Tryd.prog 5002 (pc 29 #[stv v] (.v (stv b))) := pc_ok ent29 (v := stv b) rfl (fun _ => rfl) fun w => by rw [← hvb]; exact R.rb32_any ⟨v.toArray⟩ (by show v.toArray.size ≤ _; simp; omega) w
  exact At.fin rfl [(2002002, .val (.v (.bool false))), (2005, hMq n true), (4003, pc 28 #[stv h] (.v (stv x))), (2004009, .val (.v (stv t))), (4010, pc 27 #[stv t] (.v (stv u))), (5001, pc 30 #[stv u, .int .i64 20] (.v (stv v))), (5002, pc 29 #[stv v] (.v (stv b)))] ⟨trivial, hMq_ok _ _ _ hn h2, kX, trivial, kS, kF, kB, trivial⟩ [.d] (x := mkT (some (dirL ++ b ++ [45] ++ n)))
   (ob := [[TV.v (.bool ((h.length : Int) != 32)) = TV.v (.bool false)], qL (hMq n true), [(k.length : Int) + ((8 : Nat) : Int) ≤ 9223372036854775807], qL (pc 28 #[stv h] (.v (stv x))), [((k ++ [58, 115, 104, 97, 50, 53, 54, 58]).length : Int) + (x.length : Int) ≤ 9223372036854775807, ((k ++ [58, 115, 104, 97, 50, 53, 54, 58] ++ x).length : Int) + ((1 : Nat) : Int) ≤ 9223372036854775807, ((k ++ [58, 115, 104, 97, 50, 53, 54, 58] ++ x ++ [58]).length : Int) + ((10 : Nat) : Int) ≤ 9223372036854775807, ((k ++ [58, 115, 104, 97, 50, 53, 54, 58] ++ x ++ [58] ++ [47, 110, 105, 120, 47, 115, 116, 111, 114, 101]).length : Int) + ((1 : Nat) : Int) ≤ 9223372036854775807, TV.v (stv (k ++ [58, 115, 104, 97, 50, 53, 54, 58] ++ x ++ [58] ++ [47, 110, 105, 120, 47, 115, 116, 111, 114, 101] ++ [58] ++ n)) = TV.v (stv t), ((k ++ [58, 115, 104, 97, 50, 53, 54, 58] ++ x ++ [58] ++ [47, 110, 105, 120, 47, 115, 116, 111, 114, 101] ++ [58]).length : Int) + (n.length : Int) ≤ 9223372036854775807], qL (pc 27 #[stv t] (.v (stv u))), qL (pc 30 #[stv u, .int .i64 20] (.v (stv v))), qL (pc 29 #[stv v] (.v (stv b))), [((11 : Nat) : Int) + (b.length : Int) ≤ 9223372036854775807, ((dirL ++ b).length : Int) + ((1 : Nat) : Int) ≤ 9223372036854775807, ((dirL ++ b ++ [45]).length : Int) + (n.length : Int) ≤ 9223372036854775807]].flatten) (by kernel_rfl)
   (all_flat ⟨⟨hb, trivial⟩, all_qL _, ⟨by omega, trivial⟩, all_qL _, ⟨by simp only [List.length_append, List.length_cons, List.length_nil]; omega, by simp only [List.length_append, List.length_cons, List.length_nil]; omega, by simp only [List.length_append, List.length_cons, List.length_nil]; omega, by simp only [List.length_append, List.length_cons, List.length_nil]; omega, tv_str ht2, by simp only [List.length_append, List.length_cons, List.length_nil]; omega, trivial⟩, all_qL _, all_qL _, all_qL _, ⟨by omega, by simp only [List.length_append, List.length_cons, List.length_nil]; omega, by simp only [List.length_append, List.length_cons, List.length_nil]; omega, trivial⟩, trivial⟩) fun ρ' w' hf _ => ⟨rfl, hf.below⟩
theorem mkT_ok (o : Option (List UInt8)) : (mkT o).ok := by
 cases o <;> (intro p hp; simp only [List.mem_cons, List.not_mem_nil, or_false] at hp; rcases hp with rfl | rfl <;> rfl)
abbrev hDm (k h n : List UInt8) (o : Option (List UInt8)) : Hint := pc 12 #[stv k, stv h, stv n] (mkT o)
theorem hDm_ok (id : Nat) (k h n : List UInt8) (o : Option (List UInt8)) (hk : k.length ≤ 9000) (hh : h.length ≤ 1000000000) (hn : n.length ≤ 1000000000) (he : makeR k h n = o) : HintOk Tryd.prog id (hDm k h n o) := by
 subst he
 refine pc_ok ent12 (v := mkW (makeR k h n)) (mkT_ok _) (fun _ => ?_) fun w => rmake_any k h n hk hh hn w
 cases makeR k h n <;> rfl
theorem acc_len3 {ps : List (List UInt8)} (hp : ∀ p ∈ ps, p.length ≤ 300) : ∀ i, i ≤ ps.length → (accL ps i).length ≤ 6 + i * 301
 | 0, _ => by unfold accL; simp
 | i + 1, h => by
  have := acc_len3 hp i (by omega)
  have hm : (ps.getD i []).length ≤ 300 := hp _ (by rw [List.getD_eq_getElem?_getD, List.getElem?_eq_getElem (by omega)]; exact List.getElem_mem _)
  rw [← acc_step (by omega)]
  simp only [List.length_append, List.length_cons, List.length_nil]
  omega
abbrev hDr (ps : List (List UInt8)) (b : Bool) : Hint := pr 34 (fun ρ => #[(TV.s (.lf (.sl 1 0 0 1 ps.length none))).val ρ]) (.v (.bool b)) [(1, strR ps)]
theorem hDr_ok (id : Nat) (ps : List (List UInt8)) (hps : ps.length ≤ 1000000) (hp : ∀ p ∈ ps, p.length ≤ 1000000) {b : Bool} (hb : riseL ps = b) : HintOk Tryd.prog id (hDr ps b) := pr_ok ent34 (v := .bool b) rfl (fun _ => rfl) fun ρ w h => by
 rw [← hb]
 exact rrise_pos ps hps hp w ρ (h _ (List.mem_singleton.2 rfl))
abbrev rw8 : Row := ⟨[.one (.v (stv [])), .one (.v (.bool false))], true, none⟩
abbrev dsT (ps : List (List UInt8)) (sf : Bool) (h n k : List UInt8) (i : Nat) : List (Nat × TV) := [(0, .s (.lf (.sl 1 0 0 1 ps.length none))), (1, .v (.bool sf)), (2, .v (stv h)), (3, .v (stv n)), (8, ptrTo 1000), (9, .v (stv k)), (10, .int .i64 (i : Int))]
set_option maxRecDepth 100000 in
theorem rsource_pos (ps : List (List UInt8)) (hps : ps.length ≤ 20) (hp : ∀ p ∈ ps, p.length ≤ 300) (sf : Bool) (h n : List UInt8) (hh : h.length ≤ 1000000000) (hn : n.length ≤ 1000000000) (w : World) (ρ : Env) (h1 : RowAt ρ 1 (strR ps) w) :
  Calls Tryd.prog 14 #[(TV.s (.lf (.sl 1 0 0 1 ps.length none))).val ρ, .bool sf, stv h, stv n] w fun e w' => e = .returned (mkW (sourceR ps sf h n)) ∧ Below w.heap.size w w' := by
 refine At.calls (args := [.s (.lf (.sl 1 0 0 1 ps.length none)), .v (.bool sf), .v (stv h), .v (stv n)]) (rows := [(1, strR ps)]) (gl := []) (wr := []) (ρ := ρ) Tryd.func14 rfl rfl (init_rw ⟨trivial, rfl, rfl, rfl, trivial⟩ rfl rfl rfl (fun p hp => by obtain rfl := List.mem_singleton.1 hp; exact ⟨h1, strR_ok ps⟩) (fun p hp hw => by obtain rfl := List.mem_singleton.1 hp; cases hw) (fun p hp q hq hpq hw => by obtain rfl := List.mem_singleton.1 hp; cases hw)) rfl ?_
 have hp6 : ∀ p ∈ ps, p.length ≤ 1000000 := fun p h => Nat.le_trans (hp p h) (by decide)
 cases hr : riseL ps with
 | false =>
  have ho : sourceR ps sf h n = none := by unfold sourceR; rw [hr]; rfl
  rw [ho]
  exact At.fin rfl [(2001, hDr ps false)] ⟨hDr_ok _ _ (by omega) hp6 hr, trivial⟩ [.d] (x := mkT none) (ob := qL (hDr ps false)) (by kernel_rfl) (all_qL _) fun ρ' w' hf _ => ⟨rfl, hf.below⟩
 | true =>
  have ho : sourceR ps sf h n = makeR (kindL ps sf) h n := by unfold sourceR; rw [hr]; rfl
  rw [ho]
  have hloop : ∀ i : Nat, i ≤ ps.length → At Tryd.prog w ⟨[], ρ, []⟩ Tryd.f14.ntmps [] (lp Tryd.f14 0) (EndX Tryd.prog Tryd.f14 fun e w' => e = .returned (mkW (makeR (kindL ps sf) h n)) ∧ Below w.heap.size w w') (dsT ps sf h n (accL ps i) i) [(1, strR ps), (1000, rw8)] := by
   refine At.loop (fun i : Nat => dsT ps sf h n (accL ps i) i) (fun i => [(1, strR ps), (1000, rw8)]) (fun i => i ≤ ps.length) (fun i => ps.length - i) fun i hi ih => ?_
   have hkl := acc_len3 hp i hi
   by_cases hlt : i < ps.length
   ·obtain ⟨x, hx⟩ : ∃ x, x = ps.getD i [] := ⟨_, rfl⟩
    have hxl : x.length ≤ 300 := by rw [hx]; exact hp _ (by rw [List.getD_eq_getElem?_getD, List.getElem?_eq_getElem hlt]; exact List.getElem_mem _)
    have hst := acc_step hlt
    rw [← hx] at hst
    have hI := ih (i + 1) hlt (by show ps.length - (i + 1) < ps.length - i; omega)
    generalize accL ps (i + 1) = kx at hst hI
    generalize accL ps i = k at hst hkl
    have hv : TV.v (stv (ps.getD (addN 0 (i : Int).toNat) [])) = TV.v (stv x) := by rw [hx, addN_eq, Nat.zero_add, Int.toNat_natCast]
    exact At.run rfl [(2008005, .val (.v (stv x))), (2008006, .val (.v (stv kx)))] ⟨trivial, trivial, trivial⟩ [.y] (tm2 := dsT ps sf h n kx (i + 1)) (rows2 := [(1, strR ps), (1000, rw8)]) (ob := [decide ((i : Int) < (ps.length : Int)) = true, (k.length : Int) + ((1 : Nat) : Int) ≤ 9223372036854775807, 0 ≤ (i : Int) ∧ (i : Int) < (ps.length : Int), TV.v (stv (ps.getD (addN 0 (i : Int).toNat) [])) = TV.v (stv x), addN 0 (i : Int).toNat < ps.length, TV.v (stv (k ++ [58] ++ x)) = TV.v (stv kx), ((k ++ [58]).length : Int) + (x.length : Int) ≤ 9223372036854775807, inI ((i : Int) + 1)]) (td := lp Tryd.f14 0) (by kernel_rfl)
     ⟨decide_eq_true (by omega), by omega, ⟨by omega, by omega⟩, hv, by rw [addN_eq]; omega, tv_str hst, by simp only [List.length_append, List.length_cons, List.length_nil]; omega, ⟨by omega, by omega⟩, trivial⟩ rfl rfl (by intro h; cases h) hI
   ·obtain rfl : i = ps.length := by omega
    have hdc : decide ((ps.length : Int) < (ps.length : Int)) = false := decide_eq_false (by omega)
    cases sf with
    | true =>
     obtain ⟨kx, hkx⟩ : ∃ kx, kx = kindL ps true := ⟨_, rfl⟩
     have hk2 : accL ps ps.length ++ selfL = kx := by rw [hkx]; rfl
     have hlx : kx.length ≤ 9000 := by rw [← hk2, List.length_append]; show _ + 5 ≤ _; omega
     rw [← hkx]
     generalize accL ps ps.length = k at hk2 hkl
     have hd := hDm_ok 11003 kx h n (makeR kx h n) hlx hh hn rfl
     cases ho : makeR kx h n with
     | none =>
      rw [ho] at hd
      exact At.fin rfl [(2010001, .val (.v (stv kx))), (11003, hDm kx h n none)] ⟨trivial, hd, trivial⟩ [.n, .d] (x := mkT none) (ob := [[decide ((ps.length : Int) < (ps.length : Int)) = false, TV.v (stv (k ++ selfL)) = TV.v (stv kx), (k.length : Int) + ((5 : Nat) : Int) ≤ 9223372036854775807], qL (hDm kx h n none)].flatten) (by kernel_rfl) (all_flat ⟨⟨hdc, tv_str hk2, by omega, trivial⟩, all_qL _, trivial⟩) fun ρ' w' hf _ => ⟨rfl, hf.below⟩
     | some m =>
      rw [ho] at hd
      exact At.fin rfl [(2010001, .val (.v (stv kx))), (11003, hDm kx h n (some m))] ⟨trivial, hd, trivial⟩ [.n, .d] (x := mkT (some m)) (ob := [[decide ((ps.length : Int) < (ps.length : Int)) = false, TV.v (stv (k ++ selfL)) = TV.v (stv kx), (k.length : Int) + ((5 : Nat) : Int) ≤ 9223372036854775807], qL (hDm kx h n (some m))].flatten) (by kernel_rfl) (all_flat ⟨⟨hdc, tv_str hk2, by omega, trivial⟩, all_qL _, trivial⟩) fun ρ' w' hf _ => ⟨rfl, hf.below⟩
    | false =>
     have hk : kindL ps false = accL ps ps.length := by unfold kindL; simp
     rw [hk]
     generalize accL ps ps.length = kx at hkl
     have hd := hDm_ok 11003 kx h n (makeR kx h n) (by omega) hh hn rfl
     cases ho : makeR kx h n with
     | none =>
      rw [ho] at hd
      exact At.fin rfl [(11003, hDm kx h n none)] ⟨hd, trivial⟩ [.n, .d] (x := mkT none) (ob := [[decide ((ps.length : Int) < (ps.length : Int)) = false], qL (hDm kx h n none)].flatten) (by kernel_rfl) (all_flat ⟨⟨hdc, trivial⟩, all_qL _, trivial⟩) fun ρ' w' hf _ => ⟨rfl, hf.below⟩
     | some m =>
      rw [ho] at hd
      exact At.fin rfl [(11003, hDm kx h n (some m))] ⟨hd, trivial⟩ [.n, .d] (x := mkT (some m)) (ob := [[decide ((ps.length : Int) < (ps.length : Int)) = false], qL (hDm kx h n (some m))].flatten) (by kernel_rfl) (all_flat ⟨⟨hdc, trivial⟩, all_qL _, trivial⟩) fun ρ' w' hf _ => ⟨rfl, hf.below⟩
  have h0 := hloop 0 (Nat.zero_le _)
  rw [show accL ps 0 = srcL from rfl] at h0
  exact At.run rfl [(2001, hDr ps true)] ⟨hDr_ok _ _ (by omega) hp6 hr, trivial⟩ [.d] (tm2 := dsT ps sf h n srcL 0) (rows2 := [(1, strR ps), (1000, rw8)]) (ob := qL (hDr ps true)) (td := lp Tryd.f14 0) (by kernel_rfl) (all_qL _) rfl rfl (by intro h; cases h) h0
set_option maxRecDepth 100000 in
theorem rsource_nil (pa : Option Addr) (ca : Nat) (sf : Bool) (h n : List UInt8) (hh : h.length ≤ 1000000000) (hn : n.length ≤ 1000000000) (w : World) :
  Calls Tryd.prog 14 #[.slice pa 0 ca, .bool sf, stv h, stv n] w fun e w' => e = .returned (mkW (makeR (kindL [] sf) h n)) ∧ Below w.heap.size w w' := by
 refine At.calls (args := [.v (.slice pa 0 ca), .v (.bool sf), .v (stv h), .v (stv n)]) (rows := []) (gl := []) (wr := []) (ρ := fun _ => (⟨0, 0, 0⟩ : Blk)) Tryd.func14 rfl rfl (init_rw ⟨rfl, rfl, rfl, rfl, trivial⟩ rfl rfl rfl (fun p hp => by cases hp) (fun p hp => by cases hp) (fun p hp => by cases hp)) rfl ?_
 have hk : HintOk Tryd.prog 2001 (pc 34 #[.slice pa 0 ca] (.v (.bool true))) := pc_ok ent34 (v := .bool true) rfl (fun _ => rfl) fun w => rrise_nil pa ca w
 obtain ⟨kx, hkx⟩ : ∃ kx, kx = kindL [] sf := ⟨_, rfl⟩
 have hd := hDm_ok 11003 kx h n (makeR kx h n) (by rw [hkx]; cases sf <;> decide) hh hn rfl
 rw [← hkx]
 cases sf with
 | true =>
  have e : kx = srcL ++ selfL := hkx
  cases ho : makeR kx h n with
  | none =>
   rw [ho] at hd
   rw [e] at hd
   exact At.fin rfl [(2001, pc 34 #[.slice pa 0 ca] (.v (.bool true))), (11003, hDm (srcL ++ selfL) h n none)] ⟨hk, hd, trivial⟩ [.d, .u, .d, .d] (x := mkT none) (ob := [qL (pc 34 #[.slice pa 0 ca] (.v (.bool true))), [((6 : Nat) : Int) + ((5 : Nat) : Int) ≤ 9223372036854775807], qL (hDm (srcL ++ selfL) h n none)].flatten) (by kernel_rfl) (all_flat ⟨all_qL _, ⟨by decide, trivial⟩, all_qL _, trivial⟩) fun ρ' w' hf _ => ⟨rfl, hf.below⟩
  | some m =>
   rw [ho] at hd
   rw [e] at hd
   exact At.fin rfl [(2001, pc 34 #[.slice pa 0 ca] (.v (.bool true))), (11003, hDm (srcL ++ selfL) h n (some m))] ⟨hk, hd, trivial⟩ [.d, .u, .d, .d] (x := mkT (some m)) (ob := [qL (pc 34 #[.slice pa 0 ca] (.v (.bool true))), [((6 : Nat) : Int) + ((5 : Nat) : Int) ≤ 9223372036854775807], qL (hDm (srcL ++ selfL) h n (some m))].flatten) (by kernel_rfl) (all_flat ⟨all_qL _, ⟨by decide, trivial⟩, all_qL _, trivial⟩) fun ρ' w' hf _ => ⟨rfl, hf.below⟩
 | false =>
  have e : kx = srcL := hkx
  cases ho : makeR kx h n with
  | none =>
   rw [ho] at hd
   rw [e] at hd
   exact At.fin rfl [(2001, pc 34 #[.slice pa 0 ca] (.v (.bool true))), (11003, hDm srcL h n none)] ⟨hk, hd, trivial⟩ [.d, .u, .d, .d] (x := mkT none) (ob := [qL (pc 34 #[.slice pa 0 ca] (.v (.bool true))), qL (hDm srcL h n none)].flatten) (by kernel_rfl) (all_flat ⟨all_qL _, all_qL _, trivial⟩) fun ρ' w' hf _ => ⟨rfl, hf.below⟩
  | some m =>
   rw [ho] at hd
   rw [e] at hd
   exact At.fin rfl [(2001, pc 34 #[.slice pa 0 ca] (.v (.bool true))), (11003, hDm srcL h n (some m))] ⟨hk, hd, trivial⟩ [.d, .u, .d, .d] (x := mkT (some m)) (ob := [qL (pc 34 #[.slice pa 0 ca] (.v (.bool true))), qL (hDm srcL h n (some m))].flatten) (by kernel_rfl) (all_flat ⟨all_qL _, all_qL _, trivial⟩) fun ρ' w' hf _ => ⟨rfl, hf.below⟩
end
end Go.Proofs.YtdbbcngolcnniaaDoor
