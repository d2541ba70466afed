/- Several texts, one behind the other; each says by itself what it proves, and on what conditions. -/
import Derived.Test.YtdbbcngolcnniaaGreatDoorY21
/- Of Modulo: Itoa of numbers below 1000. Its condition: the powers of ten as the library's text lays them. -/
namespace Go.Proofs.YtdbbcngolcnniaaGreatDoor
open Go Go.RowKit
set_option linter.unusedVariables false
set_option linter.unusedSimpArgs false
section
open E
theorem ent92 : Enters Tryz.prog 92 := enters_of Tryz.func92 (by kernel_rfl) rfl
theorem ent101 : Enters Tryz.prog 101 := enters_of Tryz.func101 (by kernel_rfl) rfl
theorem ent100 : Enters Tryz.prog 100 := enters_of Tryz.func100 (by kernel_rfl) rfl
theorem ent102 : Enters Tryz.prog 102 := enters_of Tryz.func102 (by kernel_rfl) rfl
theorem ent93 : Enters Tryz.prog 93 := enters_of Tryz.func93 (by kernel_rfl) rfl
theorem ent94 : Enters Tryz.prog 94 := enters_of Tryz.func94 (by kernel_rfl) rfl
theorem ent74 : Enters Tryz.prog 74 := enters_of Tryz.func74 (by kernel_rfl) rfl
theorem ent44 : Enters Tryz.prog 44 := enters_of Tryz.func44 (by kernel_rfl) rfl
theorem ent21 : Enters Tryz.prog 21 := enters_of Tryz.func21 (by kernel_rfl) rfl
abbrev dT36 : List UInt8 := [48, 49, 50, 51, 52, 53, 54, 55, 56, 57, 97, 98, 99, 100, 101, 102, 103, 104, 105, 106, 107, 108, 109, 110, 111, 112, 113, 114, 115, 116, 117, 118, 119, 120, 121, 122]
def smT : List UInt8 := (List.range 100).flatMap fun i => [UInt8.ofNat (48 + i / 10), UInt8.ofNat (48 + i % 10)]
def lenT : List UInt8 := (List.range 256).map fun i => UInt8.ofNat (if i = 0 then 0 else i.log2 + 1)
theorem smT_len : smT.length = 200 := by decide +kernel
theorem lenT_len : lenT.length = 256 := by decide +kernel
theorem dig1 : ∀ n : Fin 10, digN n.val = (dT36.take (n.val + 1)).drop n.val := by decide +kernel
theorem dig2 : ∀ n : Fin 100, 10 ≤ n.val → digN n.val = (smT.take (n.val * 2 + 2)).drop (n.val * 2) := by decide +kernel
abbrev hSm (n : Nat) : Hint := pc 92 #[.int .i64 (n : Int)] (.v (stv (digN n)))
set_option maxRecDepth 100000 in
theorem hSm_ok (id n : Nat) (hn : n < 100) : HintOk Tryz.prog id (hSm n) := pc_ok ent92 (v := stv (digN n)) rfl (fun _ => rfl) fun w => by
 refine At.calls (args := [.int .i64 (n : Int)]) (rows := []) (gl := []) (wr := []) (ρ := fun _ => (⟨0, 0, 0⟩ : Blk)) Tryz.func92 rfl rfl (init_rw ⟨rfl, trivial⟩ rfl rfl rfl (fun p hp => by cases hp) (fun p hp => by cases hp) (fun p hp => by cases hp)) rfl ?_
 by_cases h1 : n < 10
 ·have e : digN n = List.drop (n : Int).toNat (List.take ((n : Int) + 1).toNat dT36) := by rw [dig1 ⟨n, h1⟩, show ((n : Int) + 1).toNat = n + 1 by omega, show (n : Int).toNat = n by omega]
  rw [e]
  exact At.fin rfl [] trivial [.y] (x := .v (stv (List.drop (n : Int).toNat (List.take ((n : Int) + 1).toNat dT36)))) (ob := [decide ((n : Int) < 10) = true, inI ((n : Int) + 1), 0 ≤ (n : Int) + 1 ∧ (n : Int) + 1 ≤ (dT36.length : Int), 0 ≤ (n : Int) ∧ (n : Int) ≤ (n : Int) + 1]) (by kernel_rfl) ⟨decide_eq_true (by omega), ⟨by omega, by omega⟩, ⟨by omega, by show _ ≤ ((36 : Nat) : Int); omega⟩, ⟨by omega, by omega⟩, trivial⟩ fun ρ' w' hf _ => ⟨rfl, hf.below⟩
 ·have e : digN n = List.drop ((n : Int) * 2).toNat (List.take ((n : Int) * 2 + 2).toNat smT) := by rw [dig2 ⟨n, hn⟩ (by show 10 ≤ n; omega), show ((n : Int) * 2 + 2).toNat = n * 2 + 2 by omega, show ((n : Int) * 2).toNat = n * 2 by omega]
  rw [e]
  exact At.fin rfl [] trivial [.n] (x := .v (stv (List.drop ((n : Int) * 2).toNat (List.take ((n : Int) * 2 + 2).toNat smT)))) (ob := [decide ((n : Int) < 10) = false, inI ((n : Int) * 2), inI ((n : Int) * 2), inI ((n : Int) * 2 + 2), 0 ≤ (n : Int) * 2 + 2 ∧ (n : Int) * 2 + 2 ≤ (smT.length : Int), 0 ≤ (n : Int) * 2 ∧ (n : Int) * 2 ≤ (n : Int) * 2 + 2]) (by kernel_rfl) ⟨decide_eq_false (by omega), ⟨by omega, by omega⟩, ⟨by omega, by omega⟩, ⟨by omega, by omega⟩, ⟨by omega, by rw [smT_len]; omega⟩, ⟨by omega, by omega⟩, trivial⟩ fun ρ' w' hf _ => ⟨rfl, hf.below⟩
def bitN (n : Nat) : Nat := if n < 256 then (lenT.getD n 0).toNat else 8 + (lenT.getD (n / 256) 0).toNat
theorem bit_lo : ∀ n : Fin 512, 100 ≤ n.val → bitN n.val * 78913 / 262144 = 2 := by decide +kernel
theorem bit_hi : ∀ n : Fin 1000, 512 ≤ n.val → bitN n.val * 78913 / 262144 = 3 := by decide +kernel
theorem bit_le : ∀ n : Fin 1000, bitN n.val ≤ 20 := by decide +kernel
abbrev hLn (n L : Nat) : Hint := pc 101 #[.int .u64 (n : Int)] (.int .i64 (L : Int))
set_option maxRecDepth 100000 in
theorem hLn_ok (id n : Nat) (hn : n < 1000) : HintOk Tryz.prog id (hLn n (bitN n)) := pc_ok ent101 (v := .int .i64 (bitN n : Int)) rfl (fun _ => rfl) fun w => by
 refine At.calls (args := [.int .u64 (n : Int)]) (rows := []) (gl := []) (wr := []) (ρ := fun _ => (⟨0, 0, 0⟩ : Blk)) Tryz.func101 rfl rfl (init_rw ⟨rfl, trivial⟩ rfl rfl rfl (fun p hp => by cases hp) (fun p hp => by cases hp) (fun p hp => by cases hp)) rfl ?_
 have d1 : decide ((n : Int) ≥ 4294967296) = false := decide_eq_false (by omega)
 have d2 : decide ((n : Int) ≥ 65536) = false := decide_eq_false (by omega)
 by_cases h1 : n < 256
 ·obtain ⟨l, hl⟩ : ∃ l, l = (lenT.getD n 0).toNat := ⟨_, rfl⟩
  have hb : bitN n = l := by unfold bitN; rw [if_pos h1, hl]
  have hl2 : l < 256 := by rw [hl]; exact UInt8.toNat_lt _
  rw [hb]
  exact At.fin rfl [(2011002, .val (.int .u8 (n : Int))), (2011003, .val (.int .u8 (l : Int))), (2011004, .val (.int .i64 (l : Int))), (2011005, .val (.int .i64 (l : Int)))] ⟨trivial, trivial, trivial, trivial, trivial⟩ [.n, .n, .n] (x := .int .i64 (l : Int)) (ob := [decide ((n : Int) ≥ 4294967296) = false, decide ((n : Int) ≥ 65536) = false, decide ((n : Int) ≥ 256) = false, TV.int .u8 (IntKind.u8.wrap (n : Int)) = TV.int .u8 (n : Int), TV.int .u8 (((lenT.getD (n : Int).toNat 0).toNat : Nat) : Int) = TV.int .u8 (l : Int), 0 ≤ (n : Int) ∧ (n : Int) < (lenT.length : Int), TV.int .i64 (l : Int) = TV.int .i64 (l : Int), IntKind.i64.wrap (l : Int) = (l : Int), TV.int .i64 (0 + (l : Int)) = TV.int .i64 (l : Int), inI (0 + (l : Int))]) (by kernel_rfl)
   ⟨d1, d2, decide_eq_false (by omega), tv_int (wr8 (by omega) (by omega)), tv_int (by rw [hl, Int.toNat_natCast]), ⟨by omega, by rw [lenT_len]; omega⟩, rfl, w64 ⟨by omega, by omega⟩, tv_int (by omega), ⟨by omega, by omega⟩, trivial⟩ fun ρ' w' hf _ => ⟨rfl, hf.below⟩
 ·obtain ⟨l, hl⟩ : ∃ l, l = (lenT.getD (n / 256) 0).toNat := ⟨_, rfl⟩
  have hb : bitN n = 8 + l := by unfold bitN; rw [if_neg h1, hl]
  have hl2 : l < 256 := by rw [hl]; exact UInt8.toNat_lt _
  rw [hb]
  obtain ⟨m, hm⟩ : ∃ m, m = n / 256 := ⟨_, rfl⟩
  rw [← hm] at hl
  exact At.fin rfl [(2009001, .val (.int .u64 (m : Int))), (2011002, .val (.int .u8 (m : Int))), (2011003, .val (.int .u8 (l : Int))), (2011004, .val (.int .i64 (l : Int))), (2011005, .val (.int .i64 ((8 + l : Nat) : Int)))] ⟨trivial, trivial, trivial, trivial, trivial, trivial⟩ [.n, .n, .y] (x := .int .i64 ((8 + l : Nat) : Int)) (ob := [decide ((n : Int) ≥ 4294967296) = false, decide ((n : Int) ≥ 65536) = false, decide ((n : Int) ≥ 256) = true, TV.int .u64 ((n : Int) / 2 ^ Int.toNat 8) = TV.int .u64 (m : Int), 0 ≤ (8 : Int) ∧ (8 : Int) ≤ ((64 : Nat) : Int), inI (0 + 8), TV.int .u8 (IntKind.u8.wrap (m : Int)) = TV.int .u8 (m : Int), TV.int .u8 (((lenT.getD (m : Int).toNat 0).toNat : Nat) : Int) = TV.int .u8 (l : Int), 0 ≤ (m : Int) ∧ (m : Int) < (lenT.length : Int), TV.int .i64 (l : Int) = TV.int .i64 (l : Int), IntKind.i64.wrap (l : Int) = (l : Int), TV.int .i64 (0 + 8 + (l : Int)) = TV.int .i64 ((8 + l : Nat) : Int), inI (0 + 8 + (l : Int))]) (by kernel_rfl)
   ⟨d1, d2, decide_eq_true (by omega), tv_int (by rw [hm]; show (n : Int) / 256 = _; omega), ⟨by decide, by decide⟩, ⟨by decide, by decide⟩, tv_int (wr8 (by omega) (by omega)), tv_int (by rw [hl, Int.toNat_natCast]), ⟨by omega, by rw [lenT_len]; omega⟩, rfl, w64 ⟨by omega, by omega⟩, tv_int (by omega), ⟨by omega, by omega⟩, trivial⟩ fun ρ' w' hf _ => ⟨rfl, hf.below⟩
abbrev hLg (L t : Nat) : Hint := pc 100 #[.int .i64 (L : Int)] (.int .i64 (t : Int))
set_option maxRecDepth 100000 in
theorem hLg_ok (id L t : Nat) (hL : L ≤ 20) (ht : L * 78913 / 262144 = t) : HintOk Tryz.prog id (hLg L t) := pc_ok ent100 (v := .int .i64 (t : Int)) rfl (fun _ => rfl) fun w => by
 refine At.calls (args := [.int .i64 (L : Int)]) (rows := []) (gl := []) (wr := []) (ρ := fun _ => (⟨0, 0, 0⟩ : Blk)) Tryz.func100 rfl rfl (init_rw ⟨rfl, trivial⟩ rfl rfl rfl (fun p hp => by cases hp) (fun p hp => by cases hp) (fun p hp => by cases hp)) rfl ?_
 exact At.fin rfl [(2002002, .val (.int .i64 (t : Int)))] ⟨trivial, trivial⟩ [] (x := .int .i64 (t : Int)) (ob := [inI ((L : Int) * 78913), TV.int .i64 ((L : Int) * 78913 / 2 ^ Int.toNat 18) = TV.int .i64 (t : Int), 0 ≤ (18 : Int) ∧ (18 : Int) ≤ ((64 : Nat) : Int)]) (by kernel_rfl) ⟨⟨by omega, by omega⟩, tv_int (by show (L : Int) * 78913 / 262144 = _; omega), ⟨by decide, by decide⟩, trivial⟩ fun ρ' w' hf _ => ⟨rfl, hf.below⟩
abbrev hBo (b : Bool) (k : Int) : Hint := pc 102 #[.bool b] (.int .i64 k)
set_option maxRecDepth 100000 in
theorem hBo_ok (id : Nat) (b : Bool) (k : Int) (hk : k = if b then 1 else 0) : HintOk Tryz.prog id (hBo b k) := pc_ok ent102 (v := .int .i64 k) rfl (fun _ => rfl) fun w => by
 refine At.calls (args := [.v (.bool b)]) (rows := []) (gl := []) (wr := []) (ρ := fun _ => (⟨0, 0, 0⟩ : Blk)) Tryz.func102 rfl rfl (init_rw ⟨rfl, trivial⟩ rfl rfl rfl (fun p hp => by cases hp) (fun p hp => by cases hp) (fun p hp => by cases hp)) rfl ?_
 rw [hk]
 cases b with
 | true => exact At.fin rfl [] trivial [.d] (x := .int .i64 1) (ob := []) (by kernel_rfl) trivial fun ρ' w' hf _ => ⟨rfl, hf.below⟩
 | false => exact At.fin rfl [] trivial [.d] (x := .int .i64 0) (ob := []) (by kernel_rfl) trivial fun ρ' w' hf _ => ⟨rfl, hf.below⟩
abbrev p10F : Nat → List Value := fun q => [.int .u64 ((10 : Int) ^ q)]
abbrev p10R : Row := ⟨[.fnc p10F 1 20], false, none⟩
abbrev enG : Env := fun r => ⟨r - 500, 0, 0⟩
theorem pow_row {w : World} (h : S3.Pows w) : RowAt enG 503 p10R w := by
 obtain ⟨t, ht⟩ := h
 unfold RowAt
 show 3 < w.heap.size ∧ _
 refine ⟨(Array.getElem?_eq_some_iff.1 ht).1, fun j v hv => ⟨?_, fun h => by cases h⟩, (fun e k he => by cases he), _, _, _, ht⟩
 have hj : j < 20 := by
  have := (List.getElem?_eq_some_iff.1 hv).1
  rw [lst_fnc, flat_len (k := 1) 20 (fun _ _ => rfl)] at this
  omega
 rw [lst_fnc, flat_get (f := p10F) (k := 1) (by omega) 20 (fun _ _ => rfl) j (by omega), Nat.div_one, Nat.mod_one] at hv
 cases hv
 show w.cell? ⟨3, 0 + j, none⟩ = some (Value.int .u64 ((10 : Int) ^ j))
 rw [Nat.zero_add]
 have hg : (S3.p10I.map (Value.int .u64))[j]? = some (Value.int .u64 ((10 : Int) ^ j)) := by
  unfold S3.p10I
  rw [List.getElem?_map, List.getElem?_map, List.getElem?_range hj]; rfl
 simp only [World.cell?, ht]
 simpa using hg
theorem pow_fr {w w' : World} {l : List Nat} (h : S3.Pows w) (hf : Fr w l w') (h3 : 3 ∉ l) : S3.Pows w' := by
 obtain ⟨t, ht⟩ := h
 exact ⟨t, by rw [hf.block 3 (Array.getElem?_eq_some_iff.1 ht).1 h3]; exact ht⟩
set_option maxRecDepth 100000 in
theorem ndig_any (n : Nat) (h0 : 100 ≤ n) (hn : n < 1000) (w : World) (hP : S3.Pows w) : Calls Tryz.prog 93 #[.int .u64 (n : Int)] w fun e w' => e = .returned (.int .i64 3) ∧ Fr w [] w' := by
 refine At.calls (args := [.int .u64 (n : Int)]) (rows := [(503, p10R)]) (gl := [3]) (wr := []) (ρ := enG) Tryz.func93 rfl rfl (init_ro ⟨rfl, trivial⟩ rfl ⟨⟨pow_row hP, pok1 fun i => ⟨rfl, fun v hv => by obtain rfl := List.mem_singleton.1 hv; rfl⟩⟩, trivial⟩ fun g => by show (⟨500 + g - 500, 0, 0⟩ : Blk) = _; rw [Nat.add_sub_cancel_left]) rfl ?_
 have hL := hLn_ok 2001 n hn
 have hl := bit_le ⟨n, hn⟩
 have i3 : inI ((2 : Int) + 1) := ⟨by decide, by decide⟩
 by_cases h5 : n < 512
 ·have hb := bit_lo ⟨n, h5⟩ h0
  simp only at hb hl
  generalize bitN n = L at hL hb hl
  exact At.fin rfl [(2001, hLn n L), (2002, hLg L 2), (2003004, .val (.int .u64 100)), (2003005, .val (.v (.bool true))), (3006, hBo true 1)] ⟨hL, hLg_ok _ _ _ hl hb, trivial, trivial, hBo_ok _ _ _ rfl, trivial⟩ [] (x := .int .i64 (2 + 1)) (ob := [qL (hLn n L), qL (hLg L 2), [0 ≤ (2 : Int) ∧ (2 : Int) < ((20 : Nat) : Int), TV.int .u64 ((10 : Int) ^ Int.toNat 2) = TV.int .u64 100, 2 < 20, TV.v (.bool (decide ((n : Int) ≥ 100))) = TV.v (.bool true)], qL (hBo true 1), [inI ((2 : Int) + 1)]].flatten) (by kernel_rfl) (all_flat ⟨all_qL _, all_qL _, ⟨⟨by decide, by decide⟩, rfl, by decide, tv_b (decide_eq_true (by omega)), trivial⟩, all_qL _, ⟨i3, trivial⟩, trivial⟩) fun ρ' w' hf _ => ⟨rfl, hf⟩
 ·have hb := bit_hi ⟨n, hn⟩ (by show 512 ≤ n; omega)
  simp only at hb hl
  generalize bitN n = L at hL hb hl
  exact At.fin rfl [(2001, hLn n L), (2002, hLg L 3), (2003004, .val (.int .u64 1000)), (2003005, .val (.v (.bool false))), (3006, hBo false 0)] ⟨hL, hLg_ok _ _ _ hl hb, trivial, trivial, hBo_ok _ _ _ rfl, trivial⟩ [] (x := .int .i64 (3 + 0)) (ob := [qL (hLn n L), qL (hLg L 3), [0 ≤ (3 : Int) ∧ (3 : Int) < ((20 : Nat) : Int), TV.int .u64 ((10 : Int) ^ Int.toNat 3) = TV.int .u64 1000, 3 < 20, TV.v (.bool (decide ((n : Int) ≥ 1000))) = TV.v (.bool false)], qL (hBo false 0), [inI ((3 : Int) + 0)]].flatten) (by kernel_rfl) (all_flat ⟨all_qL _, all_qL _, ⟨⟨by decide, by decide⟩, rfl, by decide, tv_b (decide_eq_false (by omega)), trivial⟩, all_qL _, ⟨⟨by decide, by decide⟩, trivial⟩, trivial⟩) fun ρ' w' hf _ => ⟨rfl, hf⟩
abbrev r3 : Row := ⟨[.fnc (fun _ => [.int .u8 0]) 1 3], true, none⟩
abbrev r3b (l : List UInt8) : Row := ⟨[.fnc (byteF l) 1 3], true, none⟩
theorem rowAt_eq {ρ : Env} {r k n : Nat} {f g : Nat → List Value} {wr : Bool} {cp : Option (TypeId × Nat)} {w : World} (h : RowAt ρ r ⟨[.fnc f k n], wr, cp⟩ w) (hp : pok [Pc.fnc f k n]) (he : ∀ i, i < n → f i = g i) : RowAt ρ r ⟨[.fnc g k n], wr, cp⟩ w := by
 have e := (rowsEq_fnc (r := r) (w := wr) (cp := cp) he (show rowsEq [] [] from trivial)).1.2.2.2.2 ρ hp
 unfold RowAt at h ⊢
 simp only at e h ⊢
 rw [← e]
 exact h
theorem r3_ok : pok r3.ps := pok1 fun i => ⟨rfl, fun v hv => by obtain rfl := List.mem_singleton.1 hv; rfl⟩
theorem r3b_ok (l : List UInt8) : pok (r3b l).ps := pok1 fun i => ⟨rfl, fun v hv => by obtain rfl := List.mem_singleton.1 hv; rfl⟩
abbrev sl3 : TV := .s (.lf (.sl 1 0 0 1 3 (some 23)))
theorem sm_get : ∀ k : Fin 100, smT.getD (k.val * 2) 0 = dg (k.val / 10) ∧ smT.getD (k.val * 2 + 1) 0 = dg (k.val % 10) := by decide +kernel
theorem wr32 {k : Int} (h0 : 0 ≤ k) (h : k < 4294967296) : IntKind.u32.wrap k = k := IntWalk.u32_in k ⟨h0, by omega⟩
abbrev f3a (w1 w2 k3 : Nat) : Nat → List Value := updF (updF (updF (fun _ => [Value.int .u8 0]) (addN 0 (Int.toNat 2)) (((fun _ => [Value.int .u8 0]) (addN 0 (Int.toNat 2))).set 0 (.int .u8 (w1 : Int)))) (addN 0 (Int.toNat 1)) ((updF (fun _ => [Value.int .u8 0]) (addN 0 (Int.toNat 2)) (((fun _ => [Value.int .u8 0]) (addN 0 (Int.toNat 2))).set 0 (.int .u8 (w1 : Int))) (addN 0 (Int.toNat 1))).set 0 (.int .u8 (w2 : Int)))) (addN 0 (Int.toNat 0)) ((updF (updF (fun _ => [Value.int .u8 0]) (addN 0 (Int.toNat 2)) (((fun _ => [Value.int .u8 0]) (addN 0 (Int.toNat 2))).set 0 (.int .u8 (w1 : Int)))) (addN 0 (Int.toNat 1)) ((updF (fun _ => [Value.int .u8 0]) (addN 0 (Int.toNat 2)) (((fun _ => [Value.int .u8 0]) (addN 0 (Int.toNat 2))).set 0 (.int .u8 (w1 : Int))) (addN 0 (Int.toNat 1))).set 0 (.int .u8 (w2 : Int))) (addN 0 (Int.toNat 0))).set 0 (.int .u8 (k3 : Int)))
set_option maxRecDepth 100000 in
theorem fmt_any (n : Nat) (h0 : 100 ≤ n) (hn : n < 1000) (w : World) (ρ : Env) (h1 : RowAt ρ 1 r3 w) : Calls Tryz.prog 94 #[sl3.val ρ, .int .u64 (n : Int)] w fun e w' => e = .returned (.tuple #[]) ∧ Fr w [(ρ 1).1] w' ∧ RowAt ρ 1 (r3b (digN n)) w' := by
 refine At.calls (args := [sl3, .int .u64 (n : Int)]) (rows := [(1, r3)]) (gl := []) (wr := [(ρ 1).1]) (ρ := ρ) Tryz.func94 rfl rfl (init_rw ⟨trivial, rfl, trivial⟩ rfl rfl rfl (fun p hp => by obtain rfl := List.mem_singleton.1 hp; exact ⟨h1, r3_ok⟩) (fun p hp hw => by obtain rfl := List.mem_singleton.1 hp; exact List.mem_singleton.2 rfl) (fun p hp q hq hpq hw => by
  obtain rfl := List.mem_singleton.1 hp
  obtain rfl := List.mem_singleton.1 hq
  exact absurd rfl hpq)) rfl ?_
 have hd : digN n = [dg (n / 100), dg (n / 10 % 10), dg (n % 10)] := by unfold digN; rw [if_neg (by omega), if_neg (by omega)]
 obtain ⟨g1, g2⟩ := sm_get ⟨n % 100, Nat.mod_lt _ (by decide)⟩
 simp only at g1 g2
 rw [show n % 100 / 10 = n / 10 % 10 by omega] at g1
 rw [show n % 100 % 10 = n % 10 by omega] at g2
 have hk3 := dg_nat (show n / 100 < 10 by omega)
 rw [hd]
 obtain ⟨x, hx⟩ : ∃ x, x = n % 100 * 2 := ⟨_, rfl⟩
 rw [← hx] at g1 g2
 generalize dg (n / 100) = c1 at hk3 ⊢
 generalize dg (n / 10 % 10) = c2 at g1 ⊢
 generalize dg (n % 10) = c3 at g2 ⊢
 have hx2 : x ≤ 198 := by omega
 refine At.finR rfl [(2013001, .val (.int .u32 (n : Int))), (2022002, .val (.int .u32 (x : Int))), (2023001, .val (.int .u32 ((n / 100 : Nat) : Int))), (2024002, .val (.int .i64 2)), (2024005, .val (.int .i64 1)), (2024007, .val (.int .u32 ((x + 1 : Nat) : Int))), (2024008, .val (.int .u8 (c3.toNat : Int))), (2024010, .val (.int .u8 (c2.toNat : Int))), (2027003, .val (.int .u8 (c1.toNat : Int)))] ⟨trivial, trivial, trivial, trivial, trivial, trivial, trivial, trivial, trivial, trivial⟩ [.u, .d, .d, .d, .d] (x := .tup []) (rows2 := [(1, ⟨[.fnc (f3a c3.toNat c2.toNat c1.toNat) 1 3], true, none⟩)])
  (ob := [TV.int .u32 (IntKind.u32.wrap (n : Int)) = TV.int .u32 (n : Int), 0 ≤ (n : Int) ∧ (0 : Int) < 100, TV.int .u32 (IntKind.u32.wrap ((n : Int) % 100 * 2)) = TV.int .u32 (x : Int), TV.int .u32 ((n : Int) / 100) = TV.int .u32 ((n / 100 : Nat) : Int), 0 ≤ (n : Int) ∧ (0 : Int) < 100, IntKind.u32.wrap ((n : Int) / 100) = (n : Int) / 100, TV.int .i64 (((3 : Nat) : Int) - 1) = TV.int .i64 2, inI (((3 : Nat) : Int) - 1), TV.int .i64 (((3 : Nat) : Int) - 2) = TV.int .i64 1, inI (((3 : Nat) : Int) - 2), TV.int .u32 (IntKind.u32.wrap ((x : Int) + 1)) = TV.int .u32 ((x + 1 : Nat) : Int), TV.int .u8 (((smT.getD ((x + 1 : Nat) : Int).toNat 0).toNat : Nat) : Int) = TV.int .u8 (c3.toNat : Int), 0 ≤ ((x + 1 : Nat) : Int) ∧ ((x + 1 : Nat) : Int) < (smT.length : Int), TV.int .u8 (((smT.getD (x : Int).toNat 0).toNat : Nat) : Int) = TV.int .u8 (c2.toNat : Int), 0 ≤ (x : Int) ∧ (x : Int) < (smT.length : Int), 0 ≤ (2 : Int) ∧ (2 : Int) < ((3 : Nat) : Int), 2 < 3, 0 ≤ (1 : Int) ∧ (1 : Int) < ((3 : Nat) : Int), 1 < 3, inI (((3 : Nat) : Int) - 2), TV.int .u8 (IntKind.u8.wrap (IntKind.u32.wrap (48 + ((n / 100 : Nat) : Int)))) = TV.int .u8 (c1.toNat : Int), 0 ≤ (0 : Int) ∧ (0 : Int) < ((3 : Nat) : Int), 0 < 3]) (by kernel_rfl)
  ⟨tv_int (wr32 (by omega) (by omega)), ⟨by omega, by decide⟩, tv_int (by rw [wr32 (by omega) (by omega), hx]; omega), tv_int (by omega), ⟨by omega, by decide⟩, wr32 (by omega) (by omega), rfl, ⟨by decide, by decide⟩, rfl, ⟨by decide, by decide⟩, tv_int (by rw [wr32 (by omega) (by omega)]; omega), tv_int (by rw [Int.toNat_natCast, g2]), ⟨by omega, by rw [smT_len]; omega⟩, tv_int (by rw [Int.toNat_natCast, g1]), ⟨by omega, by rw [smT_len]; omega⟩, ⟨by decide, by decide⟩, by decide, ⟨by decide, by decide⟩, by decide, ⟨by decide, by decide⟩, tv_int (by rw [wr32 (by omega) (by omega), wr8 (by omega) (by omega), hk3]), ⟨by decide, by decide⟩, by decide, trivial⟩ fun ρ' w' hf he _ hrow => ?_
 obtain ⟨q1, q2, _⟩ := hrow _ (List.mem_singleton.2 rfl)
 refine ⟨rfl, hf, ?_⟩
 have q3 := rowAt_eq (g := byteF [c1, c2, c3]) q1 q2 (fun i hi => by
  rcases (show i = 0 ∨ i = 1 ∨ i = 2 by omega) with rfl | rfl | rfl <;> rfl)
 exact rowAt_mv q3 (he 1 (by decide)).symm
theorem run_sl111 (b o : Nat) (w : World) : (Instr.sliceAt 111 (.pointer (some ⟨b, o, none⟩)) (some (.int .i64 1)) (some (.int .i64 4)) none).run Tryz.prog w = .ok (.slice (some ⟨b, o + 1, none⟩) 3 23) w := by kernel_rfl
abbrev hFm (n : Nat) (L : List UInt8) : Hint := .call ⟨94, fun ρ => #[sl3.val ρ, .int .u64 (n : Int)], .tup [], [(1, r3)], [(1, r3b L)], none, []⟩
theorem hFm_ok (id n : Nat) (hid : id ≠ 1) (h0 : 100 ≤ n) (hn : n < 1000) : HintOk Tryz.prog id (hFm n (digN n)) := callD_ok ent94 (fun p hp => by cases hp) (fun p hp => by
  obtain rfl := List.mem_singleton.1 hp
  exact ⟨fun h => hid h.symm, fun h => by cases h⟩) fun ρ w hr => (fmt_any n h0 hn w ρ (hr (1, r3) (List.mem_singleton.2 rfl))).mono (by
  rintro e w' ⟨rfl, hf, hrow⟩
  refine ⟨⟨0, 0, 0⟩, rfl, hf, fun p hp => ?_, fun row hr => by cases hr⟩
  obtain rfl := List.mem_singleton.1 hp
  exact ⟨hrow, r3b_ok _⟩)
abbrev a24 : Row := ⟨[.arr ⟨List.replicate 24 (.int .u8 0)⟩ 24], true, none⟩
theorem win_row {ρ : Env} {w : World} (h : RowAt ρ 5000 a24 w) (σ : Env) (hσ : σ 1 = ⟨(ρ 5000).1, (ρ 5000).2 + 1, 0⟩) : RowAt σ 1 r3 w := by
 unfold RowAt at h ⊢
 rw [hσ]
 refine ⟨h.1, fun j v hv => ?_, (fun e k he => by cases he), h.2.2.2⟩
 have hj : j < 3 := by
  have := (List.getElem?_eq_some_iff.1 hv).1
  rw [lst_fnc, flat_len (k := 1) 3 (fun _ _ => rfl)] at this
  omega
 have hz : (lst ρ a24.ps)[1 + j]? = some (.int .u8 0) := by
  rcases (show j = 0 ∨ j = 1 ∨ j = 2 by omega) with rfl | rfl | rfl <;> rfl
 have hv0 : v = .int .u8 0 := by
  rcases (show j = 0 ∨ j = 1 ∨ j = 2 by omega) with rfl | rfl | rfl <;> (cases hv; rfl)
 rw [hv0, Nat.add_assoc]
 exact ⟨(h.2.1 _ _ hz).1, fun _ => (h.2.1 _ _ hz).2 rfl⟩
abbrev enW (y : World × Nat × Nat) : Env := fun _ => ⟨y.2.1, y.2.2 + 1, 0⟩
abbrev ptY (y : World × Nat × Nat) : TV := .v (.pointer (some ⟨y.2.1, y.2.2, none⟩))
set_option maxRecDepth 100000 in
theorem fint_hi (n : Nat) (h0 : 100 ≤ n) (hn : n < 1000) (w : World) :
  At Tryz.prog w ⟨[], fun _ => ⟨0, 0, 0⟩, []⟩ Tryz.f74.ntmps [] (rp Tryz.f74 9) (EndX Tryz.prog Tryz.f74 fun e w' => e = .returned (stv (digN n)) ∧ Fr w [] w') [(0, .int .i64 (n : Int)), (5, ptrTo 5000), (6, .int .u64 (n : Int)), (7, .int .i64 3)] [(5000, a24)] := by
 refine E.At.reg rfl (E.Mid.run 2 [] trivial (tm2 := [(0, .int .i64 (n : Int)), (5, ptrTo 5000), (6, .int .u64 (n : Int)), (7, .int .i64 3), (29, .int .i64 (1 + 3))]) (rows2 := [(5000, a24)]) (ob := [inI ((1 : Int) + 3)]) (by kernel_rfl) ⟨⟨by decide, by decide⟩, trivial⟩ rfl ?_)
 refine E.Mid.op (α := World × Nat × Nat) (some 30) (fun y => y.1) (fun y => ⟨wlOf (enW y) [(1, r3)], enW y, []⟩) (fun y => [(0, .int .i64 (n : Int)), (5, ptY y), (6, .int .u64 (n : Int)), (7, .int .i64 3), (30, sl3)]) (fun _ => [(1, r3)]) (fun y => w.heap.size ≤ y.2.1 ∧ Fr w [] y.1) (by kernel_rfl) (fun a' w1 ρ K QQ hden hk => ?_) ?_
 ·obtain ⟨oo, hoo, hop, hdst, hgd⟩ : ∃ oo : Oper, (hdOps (rp Tryz.f74 9))[2]? = some oo ∧ oo.op = .slice 111 (.tmp 5) (some (.const (.int .i64 1))) (some (.tmp 29)) none ∧ oo.dst = some 30 ∧ oo.guard = none := ⟨(hdOps (rp Tryz.f74 9)).getD 2 default, by kernel_rfl, by kernel_rfl, by kernel_rfl, by kernel_rfl⟩
  obtain ⟨hrow, _, _, _, hnw⟩ := hden.rw 5000 a24 rfl
  have hge : w.heap.size ≤ (ρ 5000).1 := (hnw rfl).resolve_right (fun h => by cases h)
  have x5 : a'.eval (.tmp 5) = .pointer (some ⟨(ρ 5000).1, (ρ 5000).2, none⟩) := (evalO_ok hden (show evalO _ (Operand.tmp 5) = some (ptrTo 5000) from rfl)).1
  have x29 : a'.eval (.tmp 29) = .int .i64 4 := (evalO_ok hden (show evalO _ (Operand.tmp 29) = some (TV.int .i64 (1 + 3)) from rfl)).1
  refine E.xOp_ok (o := oo) (d := 30) (v := .slice (some ⟨(ρ 5000).1, (ρ 5000).2 + 1, none⟩) 3 23) (w' := w1) rfl hoo hdst hgd ?_ ?_
  ·have x1 : a'.eval (.const (.int .i64 1)) = .int .i64 1 := rfl
   simp only [execOp, hop, x5, x29, x1, Option.map_some, Option.map_none]
   rw [Sem.run_bind, run_sl111]
   rfl
  ·refine hk (w1, (ρ 5000).1, (ρ 5000).2) _ w1 (enW (w1, (ρ 5000).1, (ρ 5000).2)) ⟨hge, hden.fr⟩ (E.den_again2 (d := 30) (tm' := [(0, .int .i64 (n : Int)), (5, ptY (w1, (ρ 5000).1, (ρ 5000).2)), (6, .int .u64 (n : Int)), (7, .int .i64 3), (30, sl3)]) (rows2 := [(1, r3)]) (K := []) hden (by decide) (fun p hp => ?_) rfl (fun p hp => ?_) (fun p hp q hq hpq hw => ?_) rfl rfl)
   ·simp only [List.mem_cons, List.not_mem_nil, or_false] at hp
    rcases hp with rfl | rfl | rfl | rfl | rfl
    ·exact .inr ⟨(show (0 : Nat) ≠ 30 by decide), _, rfl, rfl, rfl⟩
    ·exact .inr ⟨(show (5 : Nat) ≠ 30 by decide), _, rfl, rfl, rfl⟩
    ·exact .inr ⟨(show (6 : Nat) ≠ 30 by decide), _, rfl, rfl, rfl⟩
    ·exact .inr ⟨(show (7 : Nat) ≠ 30 by decide), _, rfl, rfl, rfl⟩
    ·exact .inl ⟨rfl, rfl, trivial⟩
   ·obtain rfl := List.mem_singleton.1 hp
    exact ⟨win_row hrow _ rfl, r3_ok⟩
   ·obtain rfl := List.mem_singleton.1 hp
    obtain rfl := List.mem_singleton.1 hq
    exact absurd rfl hpq
 rintro y ⟨hge, hf1⟩
 refine E.Mid.run 5 [(10004, hFm n (digN n))] ⟨hintAt (hFm_ok _ _ (show (10004 : Nat) ≠ 1 by decide) h0 hn), trivial⟩ (tm2 := [(0, .int .i64 (n : Int)), (5, ptY y), (7, .int .i64 3)]) (rows2 := [(1, r3b (digN n))]) (ob := qL (hFm n (digN n))) (by kernel_rfl) (all_qL _) rfl ?_
 refine E.Mid.out (by kernel_rfl) ?_
 refine At.run rfl [(2011001, .val (.v (.bool false)))] ⟨trivial, trivial⟩ [.d] (tm2 := [(0, .int .i64 (n : Int)), (5, ptY y), (7, .int .i64 3)]) (rows2 := [(1, r3b (digN n))]) (ob := [TV.v (.bool (decide ((n : Int) < 0))) = TV.v (.bool false)]) (td := rp Tryz.f74 13) (by kernel_rfl) ⟨tv_b (decide_eq_false (by omega)), trivial⟩ rfl rfl (by intro h; cases h) ?_
 refine E.At.reg rfl (E.Mid.run 2 [] trivial (tm2 := [(5, ptY y), (41, .int .i64 (1 + 3))]) (rows2 := [(1, r3b (digN n))]) (ob := [inI ((1 : Int) + 3)]) (by kernel_rfl) ⟨⟨by decide, by decide⟩, trivial⟩ rfl ?_)
 refine E.Mid.op (α := World) (some 42) (fun z => z) (fun z => ⟨wlOf (enW y) [(1, r3b (digN n))], enW y, []⟩) (fun _ => [(42, sl3)]) (fun _ => [(1, r3b (digN n))]) (fun z => Fr w [] z) (by kernel_rfl) (fun a' w1 ρ K QQ hden hk => ?_) ?_
 ·obtain ⟨oo, hoo, hop, hdst, hgd⟩ : ∃ oo : Oper, (hdOps (rp Tryz.f74 13))[2]? = some oo ∧ oo.op = .slice 111 (.tmp 5) (some (.const (.int .i64 1))) (some (.tmp 41)) none ∧ oo.dst = some 42 ∧ oo.guard = none := ⟨(hdOps (rp Tryz.f74 13)).getD 2 default, by kernel_rfl, by kernel_rfl, by kernel_rfl, by kernel_rfl⟩
  obtain ⟨hrow, _⟩ := hden.rw 1 (r3b (digN n)) rfl
  have e1 : ρ 1 = enW y 1 := hden.e0 1 (.inl (by decide))
  have x5 : a'.eval (.tmp 5) = .pointer (some ⟨y.2.1, y.2.2, none⟩) := (evalO_ok hden (show evalO _ (Operand.tmp 5) = some (ptY y) from rfl)).1
  have x29 : a'.eval (.tmp 41) = .int .i64 4 := (evalO_ok hden (show evalO _ (Operand.tmp 41) = some (TV.int .i64 (1 + 3)) from rfl)).1
  have hcomp : Fr w [] w1 := hf1.comp hden.fr (fun x hx => by obtain rfl := List.mem_singleton.1 (show x ∈ [y.2.1] from hx); exact .inr hge)
  refine E.xOp_ok (o := oo) (d := 42) (v := .slice (some ⟨y.2.1, y.2.2 + 1, none⟩) 3 23) (w' := w1) rfl hoo hdst hgd ?_ ?_
  ·have x1 : a'.eval (.const (.int .i64 1)) = .int .i64 1 := rfl
   simp only [execOp, hop, x5, x29, x1, Option.map_some, Option.map_none]
   rw [Sem.run_bind, run_sl111]
   rfl
  ·refine hk w1 _ w1 (enW y) hcomp (E.den_again2 (d := 42) (tm' := [(42, sl3)]) (rows2 := [(1, r3b (digN n))]) (K := []) hden (by decide) (fun p hp => ?_) rfl (fun p hp => ?_) (fun p hp q hq hpq hw => ?_) rfl rfl)
   ·obtain rfl := List.mem_singleton.1 hp
    exact .inl ⟨rfl, rfl, trivial⟩
   ·obtain rfl := List.mem_singleton.1 hp
    exact ⟨rowAt_mv hrow e1.symm, r3b_ok _⟩
   ·obtain rfl := List.mem_singleton.1 hp
    obtain rfl := List.mem_singleton.1 hq
    exact absurd rfl hpq
 intro z hz
 obtain ⟨L, hL⟩ : ∃ L, L = digN n := ⟨_, rfl⟩
 have hl3 : L.length = 3 := by rw [hL]; unfold digN; rw [if_neg (by omega), if_neg (by omega)]; rfl
 rw [← hL]
 have hv : TV.v (stv (List.map (fun q => ubyte (byteF L (addN 0 q))) (List.range 3))) = TV.v (stv L) := tv_str (by have := str_of_bytes L; rw [hl3] at this; exact this)
 refine E.Mid.run 5 [(2014003, .val (.v (stv L)))] ⟨trivial, trivial⟩ (tm2 := [(4, .v (stv L))]) (rows2 := []) (ob := [TV.v (stv (List.map (fun q => ubyte (byteF L (addN 0 q))) (List.range 3))) = TV.v (stv L), 3 ≤ 3, ∀ q, q < 3 → ∃ d : UInt8, byteF L (addN 0 q) = [.int .u8 (d.toNat : Int)]]) (by kernel_rfl) ⟨hv, Nat.le_refl 3, fun q hq => bytes_q L q (by omega), trivial⟩ rfl ?_
 refine E.Mid.out (by kernel_rfl) ?_
 exact At.fin rfl [] trivial [] (x := .v (stv L)) (ob := []) (by kernel_rfl) trivial fun ρ' w' hf _ => ⟨rfl, hz.comp hf (fun x hx => by obtain rfl := List.mem_singleton.1 (show x ∈ [y.2.1] from hx); exact .inr hge)⟩
set_option maxRecDepth 100000 in
theorem fint_any (n : Nat) (hn : n < 1000) (w : World) (hP : S3.Pows w) : Calls Tryz.prog 74 #[.int .i64 (n : Int), .int .i64 10] w fun e w' => e = .returned (stv (digN n)) ∧ Fr w [] w' := by
 refine At.calls (args := [.int .i64 (n : Int), .int .i64 10]) (rows := []) (gl := []) (wr := []) (ρ := fun _ => (⟨0, 0, 0⟩ : Blk)) Tryz.func74 rfl rfl (init_rw ⟨rfl, rfl, trivial⟩ rfl rfl rfl (fun p hp => by cases hp) (fun p hp => by cases hp) (fun p hp => by cases hp)) rfl ?_
 by_cases h1 : n < 100
 ·exact At.fin rfl [(2003002, .val (.v (.bool true))), (2003004, .val (.v (.bool true))), (4001, hSm n)] ⟨trivial, trivial, hintAt (hSm_ok _ _ h1), trivial⟩ [.d, .d] (x := .v (stv (digN n))) (ob := [[TV.v (.bool true) = TV.v (.bool true), TV.v (.bool (decide ((n : Int) < 100))) = TV.v (.bool true)], qL (hSm n)].flatten) (by kernel_rfl) (all_flat ⟨⟨rfl, tv_b (decide_eq_true (by omega)), trivial⟩, all_qL _, trivial⟩) fun ρ' w' hf _ => ⟨rfl, hf⟩
 ·have g : HintAt Tryz.prog w ⟨[], fun _ => ⟨0, 0, 0⟩, []⟩ 9001 (pcW 93 #[.int .u64 (n : Int)] (.int .i64 3)) := pcW_ok ent93 (v := .int .i64 3) rfl (fun _ => rfl) fun w' hf => ndig_any n (by omega) hn w' (pow_fr hP hf (by simp))
  exact At.run rfl [(2003002, .val (.v (.bool true))), (2003004, .val (.v (.bool false))), (2006001, .val (.int .u64 (n : Int))), (2007001, .val (.v (.bool false))), (9001, pcW 93 #[.int .u64 (n : Int)] (.int .i64 3)), (2010001, .val (.tup []))] ⟨trivial, trivial, trivial, trivial, g, trivial, trivial⟩ [.d, .d, .d] (tm2 := [(0, .int .i64 (n : Int)), (5, ptrTo 5000), (6, .int .u64 (n : Int)), (7, .int .i64 3)]) (rows2 := [(5000, a24)]) (ob := [[TV.v (.bool true) = TV.v (.bool true), TV.v (.bool (decide ((n : Int) < 100))) = TV.v (.bool false), TV.int .u64 (IntKind.u64.wrap (n : Int)) = TV.int .u64 (n : Int), TV.v (.bool false) = TV.v (.bool false)], qL (pcW 93 #[.int .u64 (n : Int)] (.int .i64 3))].flatten) (td := rp Tryz.f74 9) (by kernel_rfl) (all_flat ⟨⟨rfl, tv_b (decide_eq_false (by omega)), tv_int (IntWalk.u64_in _ ⟨by omega, by omega⟩), rfl, trivial⟩, all_qL _, trivial⟩) rfl rfl (by intro h; cases h) (fint_hi n (by omega) hn w)
abbrev hIt (n : Nat) : Hint := pcW 21 #[.int .i64 (n : Int)] (.v (stv (digN n)))
set_option maxRecDepth 100000 in
theorem hIt_ok {w0 : World} {wr : Bs} (id n : Nat) (hn : n < 1000) (hP : S3.Pows w0) (h3 : 3 ∉ wr.l) : HintAt Tryz.prog w0 wr id (hIt n) := by
 refine pcW_ok ent21 (v := stv (digN n)) rfl (fun _ => rfl) fun w hf => ?_
 have hP := pow_fr hP hf h3
 refine At.calls (args := [.int .i64 (n : Int)]) (rows := []) (gl := []) (wr := []) (ρ := fun _ => (⟨0, 0, 0⟩ : Blk)) Tryz.func21 rfl rfl (init_rw ⟨rfl, trivial⟩ rfl rfl rfl (fun p hp => by cases hp) (fun p hp => by cases hp) (fun p hp => by cases hp)) rfl ?_
 have g : HintAt Tryz.prog w ⟨[], fun _ => ⟨0, 0, 0⟩, []⟩ 2001 (pcW 44 #[.int .i64 (n : Int)] (.v (stv (digN n)))) := pcW_ok ent44 (v := stv (digN n)) rfl (fun _ => rfl) fun w2 hf2 => by
  have hP2 := pow_fr hP hf2 (by simp)
  refine At.calls (args := [.int .i64 (n : Int)]) (rows := []) (gl := []) (wr := []) (ρ := fun _ => (⟨0, 0, 0⟩ : Blk)) Tryz.func44 rfl rfl (init_rw ⟨rfl, trivial⟩ rfl rfl rfl (fun p hp => by cases hp) (fun p hp => by cases hp) (fun p hp => by cases hp)) rfl ?_
  have g2 : HintAt Tryz.prog w2 ⟨[], fun _ => ⟨0, 0, 0⟩, []⟩ 2001 (pcW 74 #[.int .i64 (n : Int), .int .i64 10] (.v (stv (digN n)))) := pcW_ok ent74 (v := stv (digN n)) rfl (fun _ => rfl) fun w3 hf3 => fint_any n hn w3 (pow_fr hP2 hf3 (by simp))
  generalize digN n = L at g2 ⊢
  exact At.fin rfl [(2001, pcW 74 #[.int .i64 (n : Int), .int .i64 10] (.v (stv L)))] ⟨g2, trivial⟩ [] (x := .v (stv L)) (ob := qL (pcW 74 #[.int .i64 (n : Int), .int .i64 10] (.v (stv L)))) (by kernel_rfl) (all_qL _) fun ρ' w' hf _ => ⟨rfl, hf⟩
 generalize digN n = L at g ⊢
 exact At.fin rfl [(2001, pcW 44 #[.int .i64 (n : Int)] (.v (stv L)))] ⟨g, trivial⟩ [] (x := .v (stv L)) (ob := qL (pcW 44 #[.int .i64 (n : Int)] (.v (stv L)))) (by kernel_rfl) (all_qL _) fun ρ' w' hf _ => ⟨rfl, hf⟩
end
end Go.Proofs.YtdbbcngolcnniaaGreatDoor
/- The program's Modulo. Its conditions: lengths that fit; the tables as the texts lay them. -/
namespace Go.Proofs.YtdbbcngolcnniaaGreatDoor
open Go Go.RowKit
set_option linter.unusedVariables false
set_option linter.unusedSimpArgs false
namespace S3
theorem new_any (w : World) : Calls Tryz.prog 16 #[] w fun e w' => e = .returned (.pointer (some ⟨w.heap.size, 0, none⟩)) ∧ w' = w.alloc (.cells stZero.toArray 51) := by
 go_enter Tryz.func16, Tryz.ntmps16
 go_wp2
 go_ret
 exact ⟨rfl, rfl⟩
end S3
section
open E
theorem ent7 : Enters Tryz.prog 7 := enters_of Tryz.func7 (by kernel_rfl) rfl
theorem ent16n : Enters Tryz.prog 16 := enters_of Tryz.func16 (by kernel_rfl) rfl
theorem ent17w : Enters Tryz.prog 17 := enters_of Tryz.func17 (by kernel_rfl) rfl
theorem ent22s : Enters Tryz.prog 22 := enters_of Tryz.func22 (by kernel_rfl) rfl
def tmOk (d : Nat) (tm : List (Nat × TV)) : List (Nat × TV) → Prop
 | [] => True
 | p :: l => (Nat.beq p.1 d = false ∧ findT tm p.1 = some p.2 ∧ (p.2.ids.all fun r => Nat.beq r 1 || Nat.beq r 2) = true) ∧ tmOk d tm l
theorem tmOk_mem {d : Nat} {tm : List (Nat × TV)} : ∀ {l : List (Nat × TV)}, tmOk d tm l → ∀ p ∈ l, p.1 ≠ d ∧ findT tm p.1 = some p.2 ∧ ∀ r ∈ p.2.ids, r = 1 ∨ r = 2
 | [], _, p, hp => by cases hp
 | q :: l, h, p, hp => by
  rcases List.mem_cons.1 hp with rfl | hp
  ·obtain ⟨⟨h1, h2, h3⟩, _⟩ := h
   refine ⟨(fun e => by rw [e, Nat.beq_refl] at h1; cases h1), h2, fun r hr => ?_⟩
   have := List.all_eq_true.1 h3 r hr
   rw [Bool.or_eq_true] at this
   exact this.imp Nat.eq_of_beq_eq_true Nat.eq_of_beq_eq_true
  ·exact tmOk_mem h.2 p hp
abbrev bxB (b : Nat) : Blk := ⟨b, 0, 0⟩
abbrev enS (b1 : Blk) (b : Nat) : Env := fun r => bif Nat.beq r 2 then bxB b else b1
structure StI (W0 W : World) (b : Nat) (L : List UInt8) : Prop where
 fr : Fr W0 [] W
 st : S3.StRep W b L
 hb : W0.heap.size ≤ b
theorem StI.fwd {W0 W W' : World} {b : Nat} {L : List UInt8} (h : StI W0 W b L) (hf : Fr W [] W') : StI W0 W' b L := ⟨h.fr.comp hf (fun y hy => by cases hy), S3.st_below h.st hf.below, h.hb⟩
theorem st_noR {b : Nat} {L : List UInt8} {w : World} (h : S3.StRep w b L) {σ : Env} {q : Nat} (e : σ q = bxB b) : RowAt σ q noR w := by
 obtain ⟨_, _, hc, _⟩ := h
 unfold RowAt
 rw [e]
 exact ⟨(Array.getElem?_eq_some_iff.1 hc).1, (fun j v hv => by cases hv), (fun e k he => by cases he), _, 51, (0, 0), hc⟩
def RwV (b1 : Blk) (b : Nat) (R : List (Nat × Row)) (W : World) : Prop := ∀ p ∈ R, ((p.1 = 1 ∧ b1.1 ≠ b) ∨ (p.1 = 2 ∧ p.2 = noR)) ∧ RowAt (enS b1 b) p.1 p.2 W ∧ pok p.2.ps ∧ p.2.w = false
theorem wl_nil {σ : Env} {R : List (Nat × Row)} (h : ∀ p ∈ R, p.2.w = false) : wlOf σ R = [] := by
 cases hw : wlOf σ R with
 | nil => rfl
 | cons x l =>
  obtain ⟨p, hp, hw2, _⟩ := wlOf_mem (σ := σ) (rows := R) (b := x) (by rw [hw]; exact List.mem_cons_self ..)
  rw [h p hp] at hw2; cases hw2
theorem env_ids {ρ : Env} {b1 : Blk} {b : Nat} (h1 : ρ 1 = b1) (h2 : ρ 2 = bxB b) {r : Nat} (h : r = 1 ∨ r = 2) : enS b1 b r = ρ r := by
 rcases h with rfl | rfl
 ·exact h1.symm
 ·exact h2.symm
theorem fr_s3 {w w' : World} {b : Nat} (h : S3.Fr (fun k => k = b) w w') : Fr w [b] w' := ⟨h.os, h.tape, h.output, h.size, fun k hk hn => h.block k hk fun e => hn (List.mem_singleton.2 e)⟩
theorem mid_wr {W0 W : World} {b1 : Blk} {b : Nat} {L : List UInt8} {R : List (Nat × Row)} {n k d : Nat} {todo : List Item} {Q : Exit → Act → World → Prop} {tm : List (Nat × TV)} (tm2 : List (Nat × TV)) (q : List UInt8) (hS : StI W0 W b L) (hR : RwV b1 b R W) (hG : S3.Glob W0) (hL : L.length ≤ 1000000) (hq : q.length ≤ 1000000)
  (hsz : Nat.ble (k + 1) (hdOps todo).size = true) (hc : xCall (hdOps todo) k (mkSt n tm R []) = some (d, 17, [ptrTo 2, .v (stv q)])) (hd : d < n) (h2 : tmOk d tm tm2) (hi : idsOk tm2 R [] = true)
  (hK : ∀ W', StI W0 W' b (L ++ q) → RwV b1 b R W' → E.Mid Tryz.prog W' ⟨[], enS b1 b, []⟩ n [] todo Q (k + 1) tm2 R) : E.Mid Tryz.prog W ⟨[], enS b1 b, []⟩ n [] todo Q k tm R := by
 have hb2 : 2 ≤ b := Nat.le_trans hG.two hS.hb
 refine E.Mid.op (α := World) (some d) (fun W => W) (fun _ => ⟨[], enS b1 b, []⟩) (fun _ => tm2) (fun _ => R) (fun W' => StI W0 W' b (L ++ q) ∧ RwV b1 b R W') hsz (fun a w ρ K QQ hden hk => ?_) (fun W' h => hK W' h.1 h.2)
 have e1 : ρ 1 = b1 := hden.e0 1 (.inl (by decide))
 have e2 : ρ 2 = bxB b := hden.e0 2 (.inl (by decide))
 have hSw := hS.fwd hden.fr
 have hv : (ptrTo 2).val ρ = .pointer (some ⟨b, 0, none⟩) := by
  show Value.pointer (some ⟨(ρ 2).1, (ρ 2).2 + (0 + 0 * 0 + 0), none⟩) = _
  rw [e2]
 have hcl := S3.write_ok hSw.st ⟨q.toArray⟩ hL (by show q.toArray.size ≤ _; simpa using hq) (glob_keep hG hSw.fr (by simp) (by simp)) hb2
 rw [← hv] at hcl
 refine xCall_ok hc hden ent17w (hcl.mono ?_)
 rintro e w' ⟨⟨v, rfl⟩, hf, hst⟩
 have hf := fr_s3 hf
 have hS2 : StI W0 w' b (L ++ q) := ⟨hSw.fr.comp hf (fun x hx => by obtain rfl := List.mem_singleton.1 hx; exact .inr hSw.hb), hst, hS.hb⟩
 have hR2 : RwV b1 b R w' := fun p hp => by
  obtain ⟨g1, g2, g3, g4⟩ := hR p hp
  refine ⟨g1, ?_, g3, g4⟩
  rcases g1 with ⟨h1, h3⟩ | ⟨h1, h3⟩
  ·refine rowAt_fr (rowAt_fr g2 hden.fr (fun h => by cases h)) hf fun h => ?_
   rw [h1] at h
   exact h3 (List.mem_singleton.1 h)
  ·rw [h1, h3]
   exact st_noR hst rfl
 have hw : ∀ p ∈ R, p.2.w = false := fun p hp => (hR p hp).2.2.2
 refine ⟨_, rfl, hk w' _ w' (enS b1 b) ⟨hS2, hR2⟩ ?_⟩
 have := E.den_again (σ := enS b1 b) (d := d) (tm' := tm2) (rows2 := R) (K := []) hden hd (v := v) (w' := w') (fun p hp => by
  obtain ⟨g1, g2, g3⟩ := tmOk_mem h2 p hp
  exact .inr ⟨g1, g2, fun r hr => env_ids e1 e2 (g3 r hr)⟩) hi (fun p hp => ⟨(hR2 p hp).2.1, (hR2 p hp).2.2.1⟩) (fun p hp q hq hpq hw2 => by rw [hw p hp] at hw2; cases hw2) rfl (List.all_eq_true.2 fun p hp => by
   rcases (hR p hp).1 with h | h <;> rw [h.1] <;> rfl)
 rwa [wl_nil hw] at this
theorem places_len0 (s p : List UInt8) : (placesL s p).length ≤ s.length := by
 unfold placesL
 split
 ·rename_i hm
  have := may_len hm
  exact pl_len s p (by omega) 0
 ·exact Nat.zero_le _
def st1 : List Item → List Item
 | .code (.seq x y) :: k => .code x :: .code y :: k
 | .code .skip :: k => k
 | t => t
def flatI : Nat → List Item → List Item
 | 0, t => t
 | n + 1, t => flatI n (st1 t)
theorem kx_st1 {P : Program} {r : Option Nat} {Q : Exit → Act → World → Prop} {a : Act} {w : World} {t : List Item} (h : KX P r (st1 t) Q a w) : KX P r t Q a w := by
 unfold st1 at h
 split at h
 ·exact KX.step (fun b k cs _ => stepR_seq) h
 ·exact KX.step (fun b k cs _ => stepR_skip) h
 ·exact h
theorem kx_flat {P : Program} {r : Option Nat} {Q : Exit → Act → World → Prop} {a : Act} {w : World} : ∀ (n : Nat) (t : List Item), KX P r (flatI n t) Q a w → KX P r t Q a w
 | 0, _, h => h
 | n + 1, t, h => kx_st1 (kx_flat n _ h)
theorem E.At.flat {P : Program} {w0 : World} {wr : Bs} {n : Nat} {gl : List Nat} {todo td : List Item} {Q : Exit → Act → World → Prop} {tm : List (Nat × TV)} {rows : List (Nat × Row)} {r : Option Nat} {mk : List Nat} (ht : flatI 9 todo = td) (h : At P w0 wr n gl td Q tm rows r mk) : At P w0 wr n gl todo Q tm rows r mk := by
 subst ht
 exact fun a w ρ hd => kx_flat 9 _ (h a w ρ hd)
def modT (s p : List UInt8) (i : Nat) : List UInt8 := changeL s p zeroL ++ ((placesL s p).take i).flatMap fun x => 124 :: digN x
def moduloL (s p : List UInt8) : List UInt8 := if mayP p then S3.sha (modT s p (placesL s p).length) else []
theorem modT_step {s p : List UInt8} {i : Nat} (h : i < (placesL s p).length) : modT s p i ++ (124 :: digN ((placesL s p).getD i 0)) = modT s p (i + 1) := by
 unfold modT
 rw [List.take_add_one, List.flatMap_append, List.getD_eq_getElem?_getD, List.getElem?_eq_getElem h]
 simp
theorem modT_len (s p : List UInt8) : ∀ i, i ≤ (placesL s p).length → (modT s p i).length ≤ s.length + 4 * i
 | 0, _ => by
  unfold modT
  rw [List.take_zero, List.flatMap_nil, List.append_nil, change_len]
  omega
 | i + 1, h => by
  have h1 := modT_len s p i (by omega)
  have h2 := digN_len ((placesL s p).getD i 0)
  rw [← modT_step (by omega), List.length_append, List.length_cons]
  omega
abbrev inRr (L : List Nat) : Row := ⟨[.fnc (inF L) 1 L.length], false, none⟩
theorem inRr_ok (L : List Nat) : pok (inRr L).ps := pok1 fun i => ⟨rfl, fun v hv => by obtain rfl := List.mem_singleton.1 hv; rfl⟩
theorem row_read {ρ : Env} {r q : Nat} {σ : Env} {f : Nat → List Value} {k n : Nat} {wr : Bool} {cp : Option (TypeId × Nat)} {w : World} (h : RowAt ρ r ⟨[.fnc f k n], wr, cp⟩ w) (e : σ q = ρ r) : RowAt σ q ⟨[.fnc f k n], false, none⟩ w := by
 unfold RowAt at h ⊢
 rw [e]
 exact ⟨h.1, fun j v hv => ⟨(h.2.1 j v hv).1, fun h => by cases h⟩, (fun e k he => by cases he), h.2.2.2⟩
abbrev MOut (W0 : World) (o : List UInt8) (e : Ending) (w' : World) : Prop := e = .returned (stv o) ∧ Fr W0 [] w'
set_option maxRecDepth 100000 in
theorem mod_sum {W0 W : World} (hG : S3.Glob W0) {b1 : Blk} {b : Nat} {L : List UInt8} (hS : StI W0 W b L) (hL : L.length ≤ 900000) :
  At Tryz.prog W ⟨[], enS b1 b, []⟩ Tryz.f7.ntmps [] (rp Tryz.f7 10) (EndX Tryz.prog Tryz.f7 (MOut W0 (S3.sha L))) [(5, ptrTo 2)] [(2, noR)] := by
 refine E.At.reg rfl (E.Mid.run 1 [] trivial (tm2 := [(32, ptrTo 2)]) (rows2 := [(2, noR)]) (ob := []) (by kernel_rfl) trivial rfl ?_)
 refine E.Mid.op (α := World) (some 33) (fun z => z) (fun z => nB) (fun _ => [(33, .v (stv (S3.sha L)))]) (fun _ => []) (fun z => Fr W0 [] z) (by kernel_rfl) (fun a w ρ K QQ hden hk => ?_) fun z hz => ?_
 ·have e2 : ρ 2 = bxB b := hden.e0 2 (.inl (by decide))
  have hSw := hS.fwd hden.fr
  have hv : (ptrTo 2).val ρ = .pointer (some ⟨b, 0, none⟩) := by
   show Value.pointer (some ⟨(ρ 2).1, (ρ 2).2 + (0 + 0 * 0 + 0), none⟩) = _
   rw [e2]
  have hcl := S3.sum_ok hSw.st hL (glob_keep hG hSw.fr (by simp) (by simp))
  rw [← hv] at hcl
  refine xCall_ok (d := 33) (f := 22) (vs := [ptrTo 2]) (by kernel_rfl) hden ent22s (hcl.mono ?_)
  rintro e w' ⟨rfl, hb⟩
  refine ⟨_, rfl, hk w' _ w' (fun _ => ⟨0, 0, 0⟩) (hSw.fr.comp (Fr.of_below hb []) fun y hy => by cases hy) (E.den_again (d := 33) (tm' := [(33, .v (stv (S3.sha L)))]) (rows2 := []) (K := []) hden (by decide) (fun p hp => ?_) rfl (fun p hp => by cases hp) (fun p hp => by cases hp) rfl rfl)⟩
  obtain rfl := List.mem_singleton.1 hp
  exact .inl ⟨rfl, rfl, rfl⟩
 ·refine E.Mid.run 3 [] trivial (tm2 := [(4, .v (stv (S3.sha L)))]) (rows2 := []) (ob := []) (by kernel_rfl) trivial rfl ?_
  refine E.Mid.out (by kernel_rfl) ?_
  exact At.fin rfl [] trivial [] (x := .v (stv (S3.sha L))) (ob := []) (by kernel_rfl) trivial fun ρ' w' hf _ => ⟨rfl, hz.comp hf fun y hy => by cases hy⟩
structure MdX where
 W : World
 i : Nat
abbrev mdT (n i : Nat) : List (Nat × TV) := [(5, ptrTo 2), (20, .s (.lf (.sl 1 0 0 1 n none))), (21, .int .i64 (n : Int)), (22, .int .i64 (i : Int))]
set_option maxRecDepth 100000 in
theorem mod_loop {W0 : World} (hGP : S3.GlobP W0) (s p : List UInt8) (hs : s.length ≤ 700) (B : Blk) (b : Nat) (hBb : B.1 ≠ b) :
  ∀ x : MdX, (StI W0 x.W b (modT s p x.i) ∧ RwV B b [(1, inRr (placesL s p)), (2, noR)] x.W ∧ x.i ≤ (placesL s p).length) → At Tryz.prog x.W ⟨[], enS B b, []⟩ Tryz.f7.ntmps [] (lp Tryz.f7 0) (EndX Tryz.prog Tryz.f7 (MOut W0 (S3.sha (modT s p (placesL s p).length)))) (mdT (placesL s p).length x.i) [(1, inRr (placesL s p)), (2, noR)] := by
 refine At.loopW (fun x : MdX => x.W) (fun x => ⟨[], enS B b, []⟩) (fun x => mdT (placesL s p).length x.i) (fun x => [(1, inRr (placesL s p)), (2, noR)]) (fun x => StI W0 x.W b (modT s p x.i) ∧ RwV B b [(1, inRr (placesL s p)), (2, noR)] x.W ∧ x.i ≤ (placesL s p).length) (fun x => (placesL s p).length - x.i) ?_
 rintro ⟨W, i⟩ ⟨hS, hR, hi⟩ ih
 simp only at hS hR hi ih ⊢
 have hll : (placesL s p).length ≤ 700 := Nat.le_trans (places_len0 s p) hs
 have hml := modT_len s p i hi
 by_cases hlt : i < (placesL s p).length
 ·obtain ⟨x, hx⟩ : ∃ x, x = (placesL s p).getD i 0 := ⟨_, rfl⟩
  have hxm : x ∈ placesL s p := by rw [hx, List.getD_eq_getElem?_getD, List.getElem?_eq_getElem hlt]; exact List.getElem_mem hlt
  have hxb := places_bnd x hxm
  have hst := modT_step hlt
  rw [← hx] at hst
  have hih := fun W2 (h1 : StI W0 W2 b (modT s p (i + 1))) (h2 : RwV B b [(1, inRr (placesL s p)), (2, noR)] W2) => ih ⟨W2, i + 1⟩ ⟨h1, h2, hlt⟩ (by show (placesL s p).length - (i + 1) < (placesL s p).length - i; omega)
  simp only at hih
  rw [← hst] at hih
  have hdl := digN_len x
  generalize modT s p i = M at *
  generalize S3.sha (modT s p (placesL s p).length) = OUT at *
  have hv : TV.int .i64 (((placesL s p).getD (addN 0 (i : Int).toNat) 0 : Nat) : Int) = TV.int .i64 (x : Int) := by rw [hx, addN_eq, Nat.zero_add, Int.toNat_natCast]
  have hidx : addN 0 (i : Int).toNat < (placesL s p).length := by rw [addN_eq]; omega
  generalize placesL s p = L at *
  refine At.run rfl [(2008001, .val (.int .i64 (x : Int)))] ⟨trivial, trivial⟩ [.y] (tm2 := (7, .int .i64 (x : Int)) :: mdT L.length i) (rows2 := [(1, inRr L), (2, noR)]) (ob := [decide ((i : Int) < (L.length : Int)) = true, 0 ≤ (i : Int) ∧ (i : Int) < (L.length : Int), TV.int .i64 ((L.getD (addN 0 (i : Int).toNat) 0 : Nat) : Int) = TV.int .i64 (x : Int), addN 0 (i : Int).toNat < L.length]) (td := rp Tryz.f7 8) (by kernel_rfl) ⟨decide_eq_true (by omega), ⟨by omega, by omega⟩, hv, hidx, trivial⟩ rfl rfl (by intro h; cases h) ?_
  have g := hIt_ok (w0 := W) (wr := ⟨[], enS B b, []⟩) 9002 x (by omega) (pow_fr hGP.2 hS.fr (by simp)) (by simp)
  obtain ⟨D, hD⟩ : ∃ D, D = 124 :: digN x := ⟨_, rfl⟩
  rw [← hD] at hih
  have hDv : TV.v (stv ([124] ++ digN x)) = TV.v (stv D) := tv_str hD.symm
  have hDl : D.length ≤ 4 := by rw [hD, List.length_cons]; omega
  refine E.At.reg rfl (E.Mid.run 4 [(9002, hIt x), (2009003, .val (.v (stv D)))] ⟨g, trivial, trivial⟩ (tm2 := (26, ptrTo 2) :: (29, .v (stv D)) :: mdT L.length i) (rows2 := [(1, inRr L), (2, noR)]) (ob := [qL (hIt x), [TV.v (stv ([124] ++ digN x)) = TV.v (stv D), ((1 : Nat) : Int) + ((digN x).length : Int) ≤ 9223372036854775807]].flatten) (by kernel_rfl) (all_flat ⟨all_qL _, ⟨hDv, by omega, trivial⟩, trivial⟩) rfl ?_)
  refine mid_wr (d := 30) (mdT L.length i) D hS hR hGP.1 (by omega) (by omega) (by kernel_rfl) (by kernel_rfl) (by decide) ⟨⟨rfl, rfl, rfl⟩, ⟨rfl, rfl, rfl⟩, ⟨rfl, rfl, rfl⟩, ⟨rfl, rfl, rfl⟩, trivial⟩ rfl fun W2 hS2 hR2 => ?_
  refine E.Mid.out (by kernel_rfl) ?_
  exact At.run rfl [] trivial [] (tm2 := mdT L.length (i + 1)) (rows2 := [(1, inRr L), (2, noR)]) (ob := [inI ((i : Int) + 1)]) (td := lp Tryz.f7 0) (by kernel_rfl) ⟨⟨by omega, by omega⟩, trivial⟩ rfl rfl (by intro h; cases h) (hih W2 hS2 hR2)
 ·obtain rfl : i = (placesL s p).length := by omega
  exact At.run rfl [] trivial [.n] (tm2 := [(5, ptrTo 2)]) (rows2 := [(2, noR)]) (ob := [decide (((placesL s p).length : Int) < ((placesL s p).length : Int)) = false]) (td := rp Tryz.f7 10) (by kernel_rfl) ⟨decide_eq_false (by omega), trivial⟩ rfl rfl (by intro h; cases h) (mod_sum hGP.1 hS (by omega))
theorem rwv_two {W0 W W' : World} {b : Nat} {L0 : List UInt8} {B : Blk} {L : List Nat} (hS : StI W0 W' b L0) (hr : RowAt (fun _ => B) 0 (inR L L.length) W') (hn : B.1 ≠ b) : RwV B b [(1, inRr L), (2, noR)] W' := fun p hp => by
 simp only [List.mem_cons, List.not_mem_nil, or_false] at hp
 rcases hp with rfl | rfl
 ·exact ⟨.inl ⟨rfl, hn⟩, row_read hr rfl, inRr_ok L, rfl⟩
 ·exact ⟨.inr ⟨rfl, rfl⟩, st_noR hS.st rfl, (fun p hp => by cases hp), rfl⟩
theorem rwv_one {W0 W' : World} {b : Nat} {L0 : List UInt8} {B : Blk} (hS : StI W0 W' b L0) : RwV B b [(2, noR)] W' := fun p hp => by
 obtain rfl := List.mem_singleton.1 hp
 exact ⟨.inr ⟨rfl, rfl⟩, st_noR hS.st rfl, (fun p hp => by cases hp), rfl⟩
theorem ent20p : Enters Tryz.prog 20 := enters_of Tryz.func20 (by kernel_rfl) rfl
set_option maxRecDepth 100000 in
theorem mod_places {W0 W : World} (hGP : S3.GlobP W0) (s p : List UInt8) (hs : s.length ≤ 700) (hp : p.length ≤ 1000000) (b1 : Blk) (b : Nat) (hS : StI W0 W b (changeL s p zeroL)) :
  At Tryz.prog W ⟨[], enS b1 b, []⟩ Tryz.f7.ntmps [] (rp Tryz.f7 5) (EndX Tryz.prog Tryz.f7 (MOut W0 (S3.sha (modT s p (placesL s p).length)))) [(0, .v (stv s)), (1, .v (stv p)), (5, ptrTo 2)] [(2, noR)] := by
 have hm0 : modT s p 0 = changeL s p zeroL := by unfold modT; simp
 refine E.At.reg rfl (E.Mid.run 2 [] trivial (tm2 := [(5, ptrTo 2), (18, .v (stv s)), (19, .v (stv p))]) (rows2 := [(2, noR)]) (ob := []) (by kernel_rfl) trivial rfl ?_)
 by_cases h0 : placesL s p = []
 ·refine E.Mid.op (α := World) (some 20) (fun z => z) (fun z => ⟨[], enS b1 b, []⟩) (fun _ => [(5, ptrTo 2), (20, .v nilS)]) (fun _ => [(2, noR)]) (fun z => StI W0 z b (changeL s p zeroL)) (by kernel_rfl) (fun a w ρ K QQ hden hk => ?_) fun z hz => ?_
  ·have e2 : ρ 2 = bxB b := hden.e0 2 (.inl (by decide))
   have hSw := hS.fwd hden.fr
   refine xCall_ok (d := 20) (f := 20) (vs := [.v (stv s), .v (stv p)]) (by kernel_rfl) hden ent20p ((gplaces_any s p (by omega) hp w).mono ?_)
   rintro e w' ⟨hf, ⟨_, rfl⟩ | ⟨hne, _⟩⟩
   ·have hS2 := hSw.fwd hf
    refine ⟨_, rfl, hk w' _ w' (enS b1 b) hS2 (E.den_again (d := 20) (tm' := [(5, ptrTo 2), (20, .v nilS)]) (rows2 := [(2, noR)]) (K := []) hden (by decide) (fun p hp => ?_) rfl (fun p hp => ?_) (fun p hp q hq hpq hw => ?_) rfl rfl)⟩
    ·simp only [List.mem_cons, List.not_mem_nil, or_false] at hp
     rcases hp with rfl | rfl
     ·exact .inr ⟨(show (5 : Nat) ≠ 20 by decide), rfl, fun r hr => by
       obtain rfl := List.mem_singleton.1 hr
       exact e2.symm⟩
     ·exact .inl ⟨rfl, rfl, rfl⟩
    ·obtain rfl := List.mem_singleton.1 hp
     exact ⟨st_noR hS2.st rfl, fun p hp => by cases hp⟩
    ·obtain rfl := List.mem_singleton.1 hp
     obtain rfl := List.mem_singleton.1 hq
     exact absurd rfl hpq
   ·exact absurd h0 hne
  ·refine E.Mid.run 5 [] trivial (tm2 := [(5, ptrTo 2), (20, .v nilS), (21, .int .i64 0), (22, .int .i64 0)]) (rows2 := [(2, noR)]) (ob := []) (by kernel_rfl) trivial rfl ?_
   refine E.Mid.out (by kernel_rfl) ?_
   rw [h0, show ([] : List Nat).length = 0 from rfl, hm0]
   exact At.run rfl [] trivial [.u, .d] (tm2 := [(5, ptrTo 2)]) (rows2 := [(2, noR)]) (ob := []) (td := rp Tryz.f7 10) (by kernel_rfl) trivial rfl rfl (by intro h; cases h) (mod_sum hGP.1 hz (by rw [change_len]; omega))
 ·refine E.Mid.op (α := World × Blk) (some 20) (fun z => z.1) (fun z => ⟨[], enS z.2 b, []⟩) (fun z => [(5, ptrTo 2), (20, .s (.lf (.sl 1 0 0 1 (placesL s p).length none)))]) (fun _ => [(1, inRr (placesL s p)), (2, noR)]) (fun z => StI W0 z.1 b (changeL s p zeroL) ∧ RwV z.2 b [(1, inRr (placesL s p)), (2, noR)] z.1 ∧ z.2.1 ≠ b) (by kernel_rfl) (fun a w ρ K QQ hden hk => ?_) fun z hz => ?_
  ·have e2 : ρ 2 = bxB b := hden.e0 2 (.inl (by decide))
   have hSw := hS.fwd hden.fr
   refine xCall_ok (d := 20) (f := 20) (vs := [.v (stv s), .v (stv p)]) (by kernel_rfl) hden ent20p ((gplaces_any s p (by omega) hp w).mono ?_)
   rintro e w' ⟨hf, ⟨he, _⟩ | ⟨_, B, rfl, hB2, hBs, hrow⟩⟩
   ·exact absurd he h0
   ·have hS2 := hSw.fwd hf
    have hbw : b < w.heap.size := by
     obtain ⟨_, _, hc, _⟩ := hSw.st
     exact (Array.getElem?_eq_some_iff.1 hc).1
    have hR := rwv_two (W := w) hS2 hrow (by omega)
    have hwf : ∀ y ∈ ([(1, inRr (placesL s p)), (2, noR)] : List (Nat × Row)), y.2.w = false := fun y hy => (hR y hy).2.2.2
    refine ⟨_, rfl, hk (w', B) _ w' (enS B b) ⟨hS2, hR, by show B.1 ≠ b; omega⟩ ?_⟩
    have := E.den_again2 (σ := enS B b) (d := 20) (v := .slice (some ⟨B.1, 0, none⟩) (placesL s p).length B.3) (w' := w') (tm' := [(5, ptrTo 2), (20, .s (.lf (.sl 1 0 0 1 (placesL s p).length none)))]) (rows2 := [(1, inRr (placesL s p)), (2, noR)]) (K := []) hden (by decide) (fun p hp => by
     simp only [List.mem_cons, List.not_mem_nil, or_false] at hp
     rcases hp with rfl | rfl
     ·refine .inr ⟨(show (5 : Nat) ≠ 20 by decide), _, rfl, ?_, trivial⟩
      show Value.pointer (some ⟨(bxB b).1, (bxB b).2 + (0 + 0 * 0 + 0), none⟩) = Value.pointer (some ⟨(ρ 2).1, (ρ 2).2 + (0 + 0 * 0 + 0), none⟩)
      rw [e2]
     ·refine .inl ⟨rfl, ?_, trivial⟩
      show _ = Value.slice (some ⟨B.1, B.2 + (0 + 0 * 1), none⟩) (placesL s p).length (B.3 - 0)
      rw [hB2]; rfl) rfl (fun p hp => ⟨(hR p hp).2.1, (hR p hp).2.2.1⟩) (fun p hp q hq hpq hw2 => by rw [hwf p hp] at hw2; cases hw2) rfl rfl
    rwa [wl_nil hwf] at this
  ·obtain ⟨hS2, hR, hne⟩ := hz
   refine E.Mid.run 5 [] trivial (tm2 := mdT (placesL s p).length 0) (rows2 := [(1, inRr (placesL s p)), (2, noR)]) (ob := []) (by kernel_rfl) trivial rfl ?_
   refine E.Mid.out (by kernel_rfl) ?_
   rw [← hm0] at hS2
   exact At.run rfl [] trivial [] (tm2 := mdT (placesL s p).length 0) (rows2 := [(1, inRr (placesL s p)), (2, noR)]) (ob := []) (td := lp Tryz.f7 0) (by kernel_rfl) trivial rfl rfl (by intro h; cases h) (mod_loop hGP s p hs z.2 b hne ⟨z.1, 0⟩ ⟨hS2, hR, Nat.zero_le _⟩)
set_option maxRecDepth 100000 in
theorem modulo_any (s p : List UInt8) (hs : s.length ≤ 700) (hp : p.length ≤ 1000000) (W0 : World) (hGP : S3.GlobP W0) : Calls Tryz.prog 7 #[stv s, stv p] W0 (MOut W0 (moduloL s p)) := by
 refine At.calls (args := [.v (stv s), .v (stv p)]) (rows := []) (gl := []) (wr := []) (ρ := fun _ => (⟨0, 0, 0⟩ : Blk)) Tryz.func7 rfl rfl (init_rw ⟨rfl, rfl, trivial⟩ rfl rfl rfl (fun p hp => by cases hp) (fun p hp => by cases hp) (fun p hp => by cases hp)) rfl ?_
 cases hm : mayP p with
 | false =>
  have e : moduloL s p = [] := by unfold moduloL; rw [hm]; rfl
  rw [e]
  exact At.fin rfl [(2001, hMy p false)] ⟨hintAt (hMy_ok _ _ _ (by omega) hm), trivial⟩ [.d] (x := .v (stv [])) (ob := qL (hMy p false)) (by kernel_rfl) (all_qL _) fun ρ' w' hf _ => ⟨rfl, hf⟩
 | true =>
  have e : moduloL s p = S3.sha (modT s p (placesL s p).length) := by unfold moduloL; rw [hm]; rfl
  rw [e]
  refine At.run rfl [(2001, hMy p true)] ⟨hintAt (hMy_ok _ _ _ (by omega) hm), trivial⟩ [.d] (tm2 := [(0, .v (stv s)), (1, .v (stv p))]) (rows2 := []) (ob := qL (hMy p true)) (td := rp Tryz.f7 3) (by kernel_rfl) (all_qL _) rfl rfl (by intro h; cases h) ?_
  refine E.At.reg rfl (E.Mid.op (α := World × Nat) (some 11) (fun z => z.1) (fun z => ⟨[], enS ⟨0, 0, 0⟩ z.2, []⟩) (fun _ => [(0, .v (stv s)), (1, .v (stv p)), (11, ptrTo 2)]) (fun _ => [(2, noR)]) (fun z => StI W0 z.1 z.2 []) (by kernel_rfl) (fun a w ρ K QQ hden hk => ?_) fun z hz => ?_)
  ·refine xCall_ok (d := 11) (f := 16) (vs := []) (by kernel_rfl) hden ent16n ((S3.new_any w).mono ?_)
   rintro e w' ⟨rfl, rfl⟩
   have hS : StI W0 (w.alloc (.cells S3.stZero.toArray 51)) w.heap.size [] := ⟨hden.fr.comp (Fr.of_below ((Below.refl _ w).alloc (Nat.le_refl _) _) []) (fun y hy => by cases hy), S3.st_new w, hden.fr.size⟩
   refine ⟨_, rfl, hk (w.alloc (.cells S3.stZero.toArray 51), w.heap.size) _ _ (enS ⟨0, 0, 0⟩ w.heap.size) hS (E.den_again (d := 11) (tm' := [(0, .v (stv s)), (1, .v (stv p)), (11, ptrTo 2)]) (rows2 := [(2, noR)]) (K := []) hden (by decide) (fun p hp => ?_) rfl (fun p hp => ?_) (fun p hp q hq hpq hw => ?_) rfl rfl)⟩
   ·simp only [List.mem_cons, List.not_mem_nil, or_false] at hp
    rcases hp with rfl | rfl | rfl
    ·exact .inr ⟨(show (0 : Nat) ≠ 11 by decide), rfl, fun r hr => by cases hr⟩
    ·exact .inr ⟨(show (1 : Nat) ≠ 11 by decide), rfl, fun r hr => by cases hr⟩
    ·exact .inl ⟨rfl, rfl, trivial⟩
   ·obtain rfl := List.mem_singleton.1 hp
    exact ⟨st_noR hS.st rfl, fun p hp => by cases hp⟩
   ·obtain rfl := List.mem_singleton.1 hp
    obtain rfl := List.mem_singleton.1 hq
    exact absurd rfl hpq
  ·obtain ⟨W, b⟩ := z
   simp only at hz ⊢
   refine E.Mid.run 2 [] trivial (tm2 := [(0, .v (stv s)), (1, .v (stv p)), (5, ptrTo 2)]) (rows2 := [(2, noR)]) (ob := []) (by kernel_rfl) trivial rfl ?_
   refine E.Mid.out (by kernel_rfl) (E.At.flat (td := rp Tryz.f7 4) (by kernel_rfl) ?_)
   obtain ⟨r, hr⟩ : ∃ r, changeL s p zeroL = r := ⟨_, rfl⟩
   have hrl : r.length = s.length := by rw [← hr, change_len]
   refine E.At.reg rfl (E.Mid.run 5 [(5003, hRp), (5004, hCh s p zeroL r)] ⟨hintAt (hRp_ok _), hintAt (hCh_ok _ _ _ _ _ (by omega) hp (by decide) hr), trivial⟩ (tm2 := [(0, .v (stv s)), (1, .v (stv p)), (5, ptrTo 2), (12, ptrTo 2), (16, .v (stv r))]) (rows2 := [(2, noR)]) (ob := [qL hRp, qL (hCh s p zeroL r)].flatten) (by kernel_rfl) (all_flat ⟨all_qL _, all_qL _, trivial⟩) rfl ?_)
   refine mid_wr (d := 17) [(0, .v (stv s)), (1, .v (stv p)), (5, ptrTo 2)] r hz (rwv_one hz) hGP.1 (by decide) (by omega) (by kernel_rfl) (by kernel_rfl) (by decide) ⟨⟨rfl, rfl, rfl⟩, ⟨rfl, rfl, rfl⟩, ⟨rfl, rfl, rfl⟩, trivial⟩ rfl fun W2 hS2 hR2 => ?_
   refine E.Mid.out (by kernel_rfl) (E.At.flat (td := rp Tryz.f7 5) (by kernel_rfl) ?_)
   rw [List.nil_append, ← hr] at hS2
   exact mod_places hGP s p hs hp _ b hS2
abbrev hMd (s p r : List UInt8) : Hint := pcW 7 #[stv s, stv p] (.v (stv r))
theorem hMd_ok {w0 : World} {wr : Bs} (id : Nat) (s p r : List UInt8) (hs : s.length ≤ 700) (hp : p.length ≤ 1000000) (hGP : S3.GlobP w0) (h0 : 0 ∉ wr.l) (h1 : 1 ∉ wr.l) (h3 : 3 ∉ wr.l) (hr : moduloL s p = r) : HintAt Tryz.prog w0 wr id (hMd s p r) := by
 subst hr
 exact pcW_ok ent7 (v := stv (moduloL s p)) rfl (fun _ => rfl) fun w hf => modulo_any s p hs hp w ⟨glob_keep hGP.1 hf h0 h1, pow_fr hGP.2 hf h3⟩
end
end Go.Proofs.YtdbbcngolcnniaaGreatDoor
/- The plain arithmetic of the document's roots: numbers of 256 bits as four words, added, moved up, compared; roots bit by bit; the first primes. No condition. -/
namespace Go.Proofs.YtdbbcngolcnniaaGreatDoor.S3
set_option linter.unusedSimpArgs false
set_option linter.unusedVariables false
structure N4 where
 a : Nat
 b : Nat
 c : Nat
 d : Nat
def mk4 (a b c d : Nat) : N4 := force a fun a => force b fun b => force c fun c => force d fun d => ⟨a, b, c, d⟩
theorem mk4_eq (a b c d : Nat) : mk4 a b c d = ⟨a, b, c, d⟩ := by unfold mk4; simp only [force_eq]
def addL (x y : N4) : N4 :=
 force (x.a + y.a) fun s0 => force (x.b + y.b + s0 / 18446744073709551616) fun s1 => force (x.c + y.c + s1 / 18446744073709551616) fun s2 => force (x.d + y.d + s2 / 18446744073709551616) fun s3 =>
  mk4 (s0 % 18446744073709551616) (s1 % 18446744073709551616) (s2 % 18446744073709551616) (s3 % 18446744073709551616)
def at4 (x : N4) : Nat → Nat
 | 0 => x.a
 | 1 => x.b
 | 2 => x.c
 | _ => x.d
def upW (x : N4) (n i : Nat) : Nat :=
 if i < n / 64 then 0 else if i = n / 64 then at4 x 0 * 2 ^ (n % 64) % 18446744073709551616
  else at4 x (i - n / 64) * 2 ^ (n % 64) % 18446744073709551616 ||| at4 x (i - n / 64 - 1) / 2 / 2 ^ (63 - n % 64)
def upL (x : N4) (n : Nat) : N4 := mk4 (upW x n 0) (upW x n 1) (upW x n 2) (upW x n 3)
def lessL (x y : N4) : Bool := if x.d = y.d then (if x.c = y.c then (if x.b = y.b then decide (x.a < y.a) else decide (x.b < y.b)) else decide (x.c < y.c)) else decide (x.d < y.d)
def sumL (x y z : N4) : N4 := addL (addL x y) z
structure R3 where
 x : N4
 s : N4
 c : N4
def one4 : N4 := ⟨1, 0, 0, 0⟩
def sqL (r : R3) (i : Nat) : N4 := sumL r.s (upL r.x (i + 1)) (upL one4 (2 * i))
def cuStep (r : R3) (i : Nat) (c : N4) : N4 := sumL c (upL r.s i) (upL r.x (2 * i))
def cuL (r : R3) (i : Nat) : N4 := addL (cuStep r i (cuStep r i (cuStep r i r.c))) (upL one4 (3 * i))
def setBit (x : N4) (i : Nat) : N4 := if i / 64 = 0 then ⟨x.a ||| 2 ^ (i % 64), x.b, x.c, x.d⟩ else ⟨x.a, x.b ||| 2 ^ (i % 64), x.c, x.d⟩
def rStep (a : N4) (p3 : Bool) (r : R3) (i : Nat) : R3 :=
 let s := sqL r i
 let c := cuL r i
 if lessL a (if p3 then c else s) then r else ⟨setBit r.x i, s, c⟩
def rTo (a : N4) (p3 : Bool) : Nat → R3 → R3
 | 0, r => r
 | k + 1, r => rTo a p3 k (rStep a p3 r k)
def r0 : R3 := ⟨⟨0, 0, 0, 0⟩, ⟨0, 0, 0, 0⟩, ⟨0, 0, 0, 0⟩⟩
def rootL (a : N4) (p3 : Bool) : N4 := (rTo a p3 70 r0).x
def cons (p : Nat) : Nat := (rootL ⟨0, p * 4294967296 % 18446744073709551616, 0, 0⟩ true).a % 4294967296
def sqr (p : Nat) : Nat := (rootL ⟨0, p, 0, 0⟩ false).a % 4294967296
def pL : List Nat := [2, 3, 5, 7, 11, 13, 17, 19, 23, 29, 31, 37, 41, 43, 47, 53, 59, 61, 67, 71, 73, 79, 83, 89, 97, 101, 103, 107, 109, 113, 127, 131, 137, 139, 149, 151, 157, 163, 167, 173, 179, 181, 191, 193, 197, 199, 211, 223, 227, 229, 233, 239, 241, 251, 257, 263, 269, 271, 277, 281, 283, 293, 307, 311]
theorem cons_all : pL.map cons = kL := by decide +kernel
theorem sqr_all : (pL.take 8).map sqr = [1779033703, 3144134277, 1013904242, 2773480762, 1359893119, 2600822924, 528734635, 1541459225] := by decide +kernel
end Go.Proofs.YtdbbcngolcnniaaGreatDoor.S3
