/- The document's Wide is the arithmetic's hash. At most 10,000 bytes. -/
import Derived.Test.YtnajglmabgofeaaSha1
import Derived.Test.YtnajglmabgofeaaTell
import Derived.Deep.DeepCutAuto
import Derived.Deep.CutBlock
import Derived.StillTailTactics
namespace Go.Proofs.Ytnajglmabgofeaa
open Go.RowKit
set_option linter.unusedVariables false
set_option maxRecDepth 100000 in
set_option maxHeartbeats 4000000 in
theorem rsha_any (S : ByteArray) (hS : S.size ≤ 10000) (w : World) :
    Calls Try.prog 8 #[.string S] w fun e w' => e = .returned (.string ⟨(sha S.data.toList).toArray⟩) ∧ Below w.heap.size w w' := by
  obtain ⟨n, hn⟩ : ∃ n, S.size = n := ⟨_, rfl⟩
  have hn1 : n ≤ 10000 := by omega
  clear hS
  obtain ⟨l, hl⟩ : ∃ l, Hid (l = S.data.toList) := ⟨_, Lib.hid rfl⟩
  have hll : Hid (l.length = n) := by unfold Hid; rw [hl.out]; exact hn
  obtain ⟨OUT, hOUT⟩ : ∃ OUT : ByteArray, Hid (OUT = ⟨(sha l).toArray⟩) := ⟨_, Lib.hid rfl⟩
  rw [← hl.out, ← hOUT.out]
  go_enter Try.func8, Try.ntmps8
  go_wp2_with fail
  refine (rconsts_any w).mono ?_
  rintro e w1 ⟨pk, ck, rfl, hown1, hb1⟩
  obtain ⟨gk, rfl⟩ := own_some hown1 (by omega)
  have HO1 := Lib.hid hown1
  have HB1 := Lib.hid hb1
  have hck := own_le hown1
  clear hown1 hb1
  go_wp2_with fail
  refine (primes_any 8 (by omega) w1).mono ?_
  rintro e w2 ⟨pp, cp, rfl, hown2, hb2⟩
  obtain ⟨gp, rfl⟩ := own_some hown2 (by omega)
  have hcp := own_le hown2
  have hgk1 : gk < w1.heap.size := (HO1.out.lt gk rfl).2
  have hgk : gk < w2.heap.size := Nat.lt_of_lt_of_le hgk1 hb2.size
  have hgp : gp < w2.heap.size := (hown2.lt gp rfl).2
  have HP : Hid (∀ j x : Nat, j < 8 → pL[j]? = some x → w2.cell? ⟨gp, j, none⟩ = some (.int .u64 x)) := by
    intro j x hj hx
    rw [hown2.cellAt j (by omega)]
    unfold numsV
    rw [List.getElem?_map, List.getElem?_take_of_lt hj, hx]; rfl
  have HK : Hid (∀ j, j < 80 → w2.cell? ⟨gk, j, none⟩ = some (.int .u64 (kN j))) := by
    intro j hj
    rw [hb2.cell (p := ⟨gk, j, none⟩) hgk1, HO1.out.cellAt j (by omega)]
    unfold numsV
    rw [List.getElem?_map, kL_at j hj]; rfl
  have HB2 : Hid (Below w.heap.size w w2) := HB1.out.trans (hb2.mono HB1.out.size)
  clear hown2 hb2 HO1 HB1
  go_wp2
  refine sha1_ok gp cp w2.heap.size w2 _ _ _ _ _ _ _ _ _ _ _ _ _ _ _ _ _ _ _ _ _ _ _ _ _ _ _ _ _ _ _ _ _ _ _ _ _ _ _ _ _ _ _ _ _ _ _ _ _ _ _ _ _ _ _ _ _ _ _ _ _ _ _ _ _ _ _ _ _ _ _ _ _ _ _ _ _ _ _ _ _ _ _ _ _ _ _ _ _ _ _ _ _ _ _ _ _ _ _ _ _ _ _ _ _ _ _ _ _ _ _ _ _ _ _ _ _ _ _ _ _ _ _ _ _ _ _ _ _ _ _ _ _ _ _ _ _ _ _ _ _ _ _ _ _ _ _ _ _ _ _ _ _ _ _ _ _ _ _ _ _ _ _ _ _ _ _ _ _ _ _ _ _ _ _ _ _ _ _ _ _ _ _ _ _ _ _ _ _ _ _ _ _ _ _ _ _ _ _ _ _ _ _ _ _ _ _ _ _ _ _ _ _ _ _ _ _ _ _ _ _ _ _ _ _ _ _ _ _ _ _ _ _ _ _ _ _ _ _ _ _ _ _ _ _ _ _ _ _ _ _ _ _ _ _ _ _ _ _ _ _ hcp hgp (Nat.le_refl _) HP ?_
  rintro a27 a28 a29 a30 a31 a32 a33 a34 a35 a36 a37 a38 a39 a40 ph ch w3 HO3 HB3
  obtain ⟨gh, rfl⟩ := own_some HO3.out (by omega)
  have hch := own_le HO3.out
  clear HP
  obtain ⟨S1, hS1⟩ : ∃ S1 : ByteArray, Hid (S1 = S ++ { data := #[128] }) := ⟨_, Lib.hid rfl⟩
  have hS1l : Hid (S1.data.toList = l ++ [128]) := by unfold Hid; rw [hS1.out, data_append, hl.out]
  go_wp2
  rw [← hS1.out]
  refine sha2_ok S1 l w3 _ _ _ _ _ _ _ _ _ _ _ _ _ _ _ _ _ _ _ _ _ _ _ _ _ _ _ _ _ _ _ _ _ _ _ _ _ _ _ _ _ _ _ _ _ _ _ _ _ _ _ _ _ _ _ _ _ _ _ _ _ _ _ _ _ _ _ _ _ _ _ _ _ _ _ _ _ _ _ _ _ _ _ _ _ _ _ _ _ _ _ _ _ _ _ _ _ _ _ _ _ _ _ _ _ _ _ _ _ _ _ _ _ _ _ _ _ _ _ _ _ _ _ _ _ _ _ _ _ _ _ _ _ _ _ _ _ _ _ _ _ _ _ _ _ _ _ _ _ _ _ _ _ _ _ _ _ _ _ _ _ _ _ _ _ _ _ _ _ _ _ _ _ _ _ _ _ _ _ _ _ _ _ _ _ _ _ _ _ _ _ _ _ _ _ _ _ _ _ _ _ _ _ _ _ _ _ _ _ _ _ _ _ _ _ _ _ _ _ _ _ _ _ _ _ _ _ _ _ _ _ _ _ _ _ _ _ _ _ _ _ _ _ _ _ _ _ _ _ _ _ _ _ _ _ _ _ _ _ _ _ _ _ hS1l (by rw [hll.out]; exact hn1) ?_
  rintro b45 b46 b47 b48 b49 b50 T hT
  have hTs : T.size ≤ 10200 := by
    rw [show T.size = T.data.toList.length from rfl, hT.out]
    have := fill_lt l.length
    have := hll.out
    simp
    omega
  have hmul : IntKind.u64.wrap ((n : Int) * 8) = ((8 * n : Nat) : Int) := by
    have h : IntKind.u64.wrap ((n : Int) * 8) = ((n : Int) * 8) % 18446744073709551616 := by simp [IntKind.wrap, IntKind.bits, IntKind.signed]
    rw [h]; omega
  obtain ⟨N8, hN8⟩ : ∃ N8, Hid (N8 = 8 * n) := ⟨_, Lib.hid rfl⟩
  rw [← hN8.out] at hmul
  have hN8I : (n : Int) * 8 = (N8 : Int) := by rw [hN8.out]; omega
  obtain ⟨X8, hX8⟩ : ∃ X8 : ByteArray, Hid (X8 = ⟨(be8 N8).toArray⟩) := ⟨_, Lib.hid rfl⟩
  have hX8s : X8.size = 8 := by rw [hX8.out]; rfl
  obtain ⟨Z8, hZ8⟩ : ∃ Z8 : ByteArray, Hid (Z8 = ⟨(be8 0).toArray⟩) := ⟨_, Lib.hid rfl⟩
  have hZ8s : Z8.size = 8 := by rw [hZ8.out]; rfl
  have HBZ : Hid (∀ w : World, Calls Try.prog 19 #[.int .u64 0, .int .i64 8] w fun e w' => e = .returned (.string Z8) ∧ Below w.heap.size w w') := by
    unfold Hid
    rw [hZ8.out]
    exact fun w => Big8 0 w
  have HBIG : Hid (∀ w : World, Calls Try.prog 19 #[.int .u64 N8, .int .i64 8] w fun e w' => e = .returned (.string X8) ∧ Below w.heap.size w w') := by
    unfold Hid
    rw [hX8.out]
    exact fun w => Big8 N8 w
  go_wp2_with fail
  refine (HBZ.out _).mono ?_
  rintro e w3b ⟨rfl, hb3b⟩
  have HB3b := Lib.hid hb3b
  have hO3b := Lib.hid (own_below HO3.out hb3b (Nat.le_refl _))
  have hsum : (T ++ Z8).size ≤ 10300 := by rw [ByteArray.size_append]; omega
  clear hb3b HBZ
  go_wp2_with fail
  refine (HBIG.out _).mono ?_
  rintro e w4 ⟨rfl, hb4⟩
  obtain ⟨T2, hT2⟩ : ∃ T2 : ByteArray, Hid (T2 = T ++ Z8 ++ X8) := ⟨_, Lib.hid rfl⟩
  have hpad : Hid (T2.data.toList = pad l) := by
    unfold Hid
    rw [hT2.out, data_append, data_append, hT.out, hX8.out, hZ8.out, hN8.out, ← hll.out]
    show ((l ++ 128 :: List.replicate (fill l.length) 0) ++ be8 0) ++ be8 (8 * l.length) = l ++ (128 :: (List.replicate (fill l.length) 0 ++ (be8 0 ++ be8 (8 * l.length))))
    simp
  obtain ⟨NB, hNB⟩ : ∃ NB, Hid (NB = (pad l).length / 128) := ⟨_, Lib.hid rfl⟩

  have hT2s : T2.size = 128 * NB := by
    rw [show T2.size = T2.data.toList.length from rfl, hpad.out, hNB.out]
    exact pad_blocks l
  have hNB2 : NB ≤ 1000 := by
    have h1 := pad_le l
    have h2 := hll.out
    have h3 := pad_blocks l
    rw [← hNB.out] at h3
    omega
  have HB4 : Hid (Below w2.heap.size w2 w4) := HB3.out.trans ((HB3b.out.trans (hb4.mono HB3b.out.size)).mono HB3.out.size)
  have HK4 : Hid (∀ j, j < 80 → w4.cell? ⟨gk, j, none⟩ = some (.int .u64 (kN j))) := fun j hj => by
    rw [HB4.out.cell (p := ⟨gk, j, none⟩) hgk]
    exact HK.out j hj
  have HO4 := Lib.hid (own_below hO3b.out hb4 (Nat.le_refl _))
  have hz4 : w2.heap.size ≤ w4.heap.size := HB4.out.size
  clear hb4 HBIG hT HB3 HO3 HK hmul hN8I
  go_wp2
  rw [← hT2.out]
  refine sha3_ok T2 NB (128 * NB) h0 gk ck gh ch w2.heap.size w4 _ _ _ _ _ _ _ _ _ _ _ _ _ _ _ _ _ _ _ _ _ _ _ _ _ _ _ _ _ _ _ _ _ _ _ _ _ _ _ _ _ _ _ _ _ _ _ _ _ _ _ _ _ _ _ _ _ _ _ _ _ _ _ _ _ _ _ _ _ _ _ _ _ _ _ _ _ _ _ _ _ _ _ _ _ _ _ _ _ _ _ _ _ _ _ _ _ _ _ _ _ _ _ _ _ _ _ _ _ _ _ _ _ _ _ _ _ _ _ _ _ _ _ _ _ _ _ _ _ _ _ _ _ _ _ _ _ _ _ _ _ _ _ _ _ _ _ _ _ _ _ _ _ _ _ _ _ _ _ _ _ _ _ _ _ _ _ _ _ _ _ _ _ _ _ _ _ _ _ _ _ _ _ _ _ _ _ _ _ _ _ _ _ _ _ _ _ _ _ _ _ _ _ _ _ _ _ _ _ _ _ _ _ _ _ _ _ _ _ _ _ _ _ _ _ _ _ _ _ _ _ _ _ _ _ _ _ _ _ _ _ _ _ _ _ _ _ _ _ _ _ _ _ _ _ _ _ _ _ _ rfl hT2s hNB2 h0_ok hck hch hgk hz4 HK4 HO4 ?_
  rintro d9 d10 d11 d12 d13 d14 d15 d16 d17 d18 d19 d20 d21 d22 d59 d60 d61 d62 d63 d64 d65 d66 d67 d68 d69 d70 d71 d72 d73 d74 d75 d76 d77 d78 d79 d80 d81 d82 d83 d84 d85 d86 d87 d88 d89 d90 d91 d92 d93 d94 d95 d96 d97 d98 d99 d100 d101 d102 d103 d104 d105 d106 d107 d108 d109 d110 d111 d112 d113 d114 d115 d116 d117 d118 d119 d120 d121 d122 d123 d124 d125 d126 d127 d128 d129 d130 d131 d132 d133 d134 d135 d136 d137 d138 d139 d140 d141 d142 d143 d144 d145 d146 d147 d148 d149 d150 d151 d152 d153 d154 d155 d156 d157 d158 d159 d160 d161 d162 d163 d164 d165 d166 d167 d168 d169 d170 d171 d172 d173 d174 d175 d176 d177 d178 d179 d180 d181 d182 d183 d184 d185 d186 d187 d188 d189 d190 d191 d192 d193 d194 d195 d196 d197 d198 d199 d200 d201 d202 d203 d204 d205 d206 d207 d208 d209 d210 d211 d212 d213 d214 d215 d216 d217 d218 d219 d220 d221 d222 d223 d224 d225 d226 d227 d228 d229 d230 d231 d232 d233 d234 d235 d236 d237 d238 d239 d240 d241 d242 d243 d244 d245 d246 d247 d248 d249 d250 w5 HO5 HB5
  have HS5 : Hid ((mids h0 T2.data.toList NB).ok) := Lib.hid (mids_ok h0_ok _ _)
  obtain ⟨sF, hsF⟩ : ∃ sF, Hid (sF = mids h0 T2.data.toList NB) := ⟨_, Lib.hid rfl⟩
  rw [← hsF.out] at HO5 HS5
  have hgh5 : gh < w5.heap.size := (HO5.out.lt gh rfl).2
  go_wp2
  refine sha8_ok sF gh ch w2.heap.size w5 _ _ _ _ _ _ _ _ _ _ _ _ _ _ _ _ _ _ _ _ _ _ _ _ _ _ _ _ _ _ _ _ _ _ _ _ _ _ _ _ _ _ _ _ _ _ _ _ _ _ _ _ _ _ _ _ _ _ _ _ _ _ _ _ _ _ _ _ _ _ _ _ _ _ _ _ _ _ _ _ _ _ _ _ _ _ _ _ _ _ _ _ _ _ _ _ _ _ _ _ _ _ _ _ _ _ _ _ _ _ _ _ _ _ _ _ _ _ _ _ _ _ _ _ _ _ _ _ _ _ _ _ _ _ _ _ _ _ _ _ _ _ _ _ _ _ _ _ _ _ _ _ _ _ _ _ _ _ _ _ _ _ _ _ _ _ _ _ _ _ _ _ _ _ _ _ _ _ _ _ _ _ _ _ _ _ _ _ _ _ _ _ _ _ _ _ _ _ _ _ _ _ _ _ _ _ _ _ _ _ _ _ _ _ _ _ _ _ _ _ _ _ _ _ _ _ _ _ _ _ _ _ _ _ _ _ _ _ _ _ _ _ _ _ _ _ _ _ _ _ _ _ _ _ _ _ _ _ _ _ _ HS5.out hch hgh5 HO5 ?_
  rintro e251 e252 e253 e254 e255 e256 e257 e258 e259 e260 e261 TF w6 hTF HB6
  have HFB : Hid (Below w.heap.size w w6) := HB2.out.trans ((HB4.out.trans (HB5.out.trans (HB6.out.mono HB5.out.size |>.mono HB4.out.size))).mono HB2.out.size)
  have HFT : Hid (TF = OUT) := by
    unfold Hid
    rw [hOUT.out]
    apply ByteArray.ext
    apply Array.ext'
    rw [hTF.out, hsF.out, hpad.out, hNB.out]
    rfl
  clear HK4 HO4 HO5 HS5 HB2 HB4 HB5 HB6 hTF hsF
  obtain rfl : TF = OUT := HFT.out
  go_wp2
  go_ret
  exact ⟨rfl, HFB.out⟩
end Go.Proofs.Ytnajglmabgofeaa
