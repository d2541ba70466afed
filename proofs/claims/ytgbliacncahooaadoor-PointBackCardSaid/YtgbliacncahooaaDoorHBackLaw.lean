import Derived.Test.YtgbliacncahooaaDoorHFromE
import Derived.Test.YtgbliacncahooaaDoorHMuA
import Derived.Test.YtgbliacncahooaaDoorHPts
namespace Go.Proofs.YtgbliacncahooaaDoor
open Go.RowKit Go.Shelf
set_option linter.unusedVariables false
set_option linter.unusedSimpArgs false
theorem order_lit : num 7237005577332262213973186563042994240857116359379907606001950938285454250989 = #[.int .u64 6346243789798364141, .int .u64 1503914060200516822, .int .u64 0, .int .u64 1152921504606846976] := by
  rw [num_lit, show dig 7237005577332262213973186563042994240857116359379907606001950938285454250989 0 = 6346243789798364141 by decide +kernel, show dig 7237005577332262213973186563042994240857116359379907606001950938285454250989 1 = 1503914060200516822 by decide +kernel, show dig 7237005577332262213973186563042994240857116359379907606001950938285454250989 2 = 0 by decide +kernel, show dig 7237005577332262213973186563042994240857116359379907606001950938285454250989 3 = 1152921504606846976 by decide +kernel]
  rfl
set_option maxRecDepth 100000 in
set_option maxHeartbeats 8000000 in
theorem rorder_any (w : World) : Calls Tryd.prog 26 #[] w fun e w' => e = .returned (.agg (num 7237005577332262213973186563042994240857116359379907606001950938285454250989)) ∧ Below w.heap.size w w' := by
  rw [order_lit]
  have hz : ∀ w : World, (zeroValue 24).run Tryd.prog w = .ok (.agg #[.int .u64 0, .int .u64 0, .int .u64 0, .int .u64 0]) w := fun w => by kernel_rfl
  have hbd : ∀ w : World, (Instr.build 24 #[(0, .int .u64 6346243789798364141), (1, .int .u64 1503914060200516822), (3, .int .u64 1152921504606846976)]).run Tryd.prog w = .ok (.agg #[.int .u64 6346243789798364141, .int .u64 1503914060200516822, .int .u64 0, .int .u64 1152921504606846976]) w := fun w => by kernel_rfl
  go_enter Tryd.func26, Tryd.ntmps26
  go_wp2
  exact bodyPost_ret (v := .agg #[.int .u64 6346243789798364141, .int .u64 1503914060200516822, .int .u64 0, .int .u64 1152921504606846976]) (by simp [results, Tryd.results26, go_sem]) rfl ⟨rfl, by
    repeat (refine bel_alloc ?_ (by simp <;> omega) _)
    exact Below.refl _ _⟩
theorem exec_neqlG {P : Program} {ρ : Operand → Value} {o : Oper} (ty : TypeId) (x y : Operand) (ho : o.op = .binOp .neq ty x y ty) (a b : Array Value) {v : Bool} (he : ∀ w, (Op.equalIn 10000 ty (.agg a) (.agg b)).run P w = .ok v w) (hx : ρ x = .agg a) (hy : ρ y = .agg b) (hg : P.eqGuardType P.depth ty = false) (w : World) :
    (execOp ρ o).run P w = .ok (.value (.bool (!v))) w := by
  have h := he w
  unfold execOp
  rw [ho]
  simp only [hx, hy]
  clear ho hx hy
  go_simp
theorem exec_neP {ρ : Operand → Value} {o : Oper} (x y : Operand) (ho : o.op = .binOp .neq 26 x y 26) (P : Array Value) (hP : IsRw 8 P) (hx : ρ x = .agg P) (hy : ρ y = .agg P) (w : World) :
    (execOp ρ o).run Tryd.prog w = .ok (.value (.bool false)) w := by
  have h := exec_neqlG 26 x y ho P P (eq26 hP) hx hy (by kernel_rfl) w
  exact h
theorem turn_y (p : Nat × Nat) : (turnN p).2 = p.2 := rfl
theorem decP_text {n : Nat} {s : ByteArray} {d : (Nat × Nat) × Bool} (h : s.size = 32) (hn : leVal s.data.toList = n) (hd : decP n = d) : fromP s = d := by
  unfold fromP
  rw [if_pos h, hn, hd]
set_option maxRecDepth 100000 in
set_option maxHeartbeats 8000000 in
theorem back_flat (a t : Nat) (Wa : a < 18446744073709551616) (Wt : t < 256) (h0 : (someN a t).1 = 0) (w : World) (hT0 : GlobT w) (hG0 : Glob w) :
    Calls Tryd.prog 6 #[.int .u64 (a : Int), .int .u8 (t : Int)] w fun e w' => e = .returned (.bool true) ∧ Below w.heap.size w w' := by
  have HG := Lib.hid hG0
  have HT := Lib.hid hT0
  have hon := someN_on a t
  obtain ⟨m, b, hmb, hm, hv⟩ := top_byte (encP (someN a t)) (encP_lt hon.2.1)
  obtain ⟨c, hxo1, hc⟩ := xor_b b
  have hxo := Lib.hid hxo1
  have hlen : Hid ((⟨(m ++ [b]).toArray⟩ : ByteArray).size = 32) := Lib.hid (len31 b hm)
  have hnb : Hid (false = !(((32 : Nat) : Int) == 32)) := Lib.hid (by decide)
  have hfr : fromP ⟨(m ++ [b]).toArray⟩ = (someN a t, true) := decP_text (len31 b hm) (by show leVal (m ++ [b]) = _; rw [leVal_snoc, hm]; exact hv.symm) (decP_enc hon)
  have hdm : (encP (someN a t)) % hb = (someN a t).2 := encP_mod hon.2.1
  have hroot : (rootF (fromU (someN a t).2)).2 = true := by rw [← (on_fromU _ _).1 hon.2.2]; exact rootF_square _
  have hfr1 : ∀ w, GlobT w → Glob w → Calls Tryd.prog 11 #[.string ⟨(m ++ [b]).toArray⟩] w fun e w' => e = .returned (.tuple #[.agg (ptV (fromP ⟨(m ++ [b]).toArray⟩).1), .bool (fromP ⟨(m ++ [b]).toArray⟩).2]) ∧ Below w.heap.size w w' := by
    have hle : leVal (⟨(m ++ [b]).toArray⟩ : ByteArray).data.toList = encP (someN a t) := by show leVal (m ++ [b]) = _; rw [leVal_snoc, hm]; exact hv.symm
    exact from_has ⟨(m ++ [b]).toArray⟩ (len31 b hm) (by rw [hle, hdm]; exact hon.2.1) (by rw [hle, hdm]; exact hroot)
  have hle2 : leVal (⟨(m ++ [c]).toArray⟩ : ByteArray).data.toList = (someN a t).2 + hb * (1 - (someN a t).1 % 2) := by
    show leVal (m ++ [c]) = _
    rw [leVal_snoc, hm]
    have hb256 := b.toNat_lt
    have hl31 := leVal_31 m hm
    have hbv : hb = 128 * 256 ^ 31 := by decide
    have hpb := pp_hb
    have hy := hon.2.1
    unfold encP at hv
    rcases Nat.mod_two_eq_zero_or_one (someN a t).1 with e | e
    · rw [e, Nat.mul_zero, Nat.add_zero] at hv
      have hsm := top_small hy hv
      rw [e, hc, Nat.mod_eq_of_lt (by omega), Nat.add_mul, hbv, hv]
      omega
    · rw [e, Nat.mul_one] at hv
      have h128 : 128 ≤ b.toNat := by
        rcases Nat.lt_or_ge b.toNat 128 with h | h
        · have h1 : b.toNat * 256 ^ 31 ≤ 127 * 256 ^ 31 := Nat.mul_le_mul_right _ (by omega)
          omega
        · exact h
      rw [e, hc, show (b.toNat + 128) % 256 = b.toNat - 128 by omega, hbv, Nat.sub_mul]
      rw [hbv] at hv
      have h2 : 128 * 256 ^ 31 ≤ b.toNat * 256 ^ 31 := Nat.mul_le_mul_right _ h128
      omega
  have hfr3 : ∀ w, GlobT w → Glob w → Calls Tryd.prog 11 #[.string ⟨(m ++ [c]).toArray⟩] w fun e w' => e = .returned (.tuple #[.agg (ptV (fromP ⟨(m ++ [c]).toArray⟩).1), .bool (fromP ⟨(m ++ [c]).toArray⟩).2]) ∧ Below w.heap.size w w' := by
    have hm2 : ((someN a t).2 + hb * (1 - (someN a t).1 % 2)) % hb = (someN a t).2 := by rw [Nat.add_mul_mod_self_left, Nat.mod_eq_of_lt (Nat.lt_trans hon.2.1 pp_hb)]
    exact from_has ⟨(m ++ [c]).toArray⟩ (len31 c hm) (by rw [hle2, hm2]; exact hon.2.1) (by rw [hle2, hm2]; exact hroot)
  have hfr2 : fromP ⟨(m ++ [c]).toArray⟩ = ((0, 0), false) := by
    refine decP_text (n := (someN a t).2 + hb * (1 - (someN a t).1 % 2)) (len31 c hm) hle2 (by rw [decP_turn hon, if_pos h0])
  have HC4 : Hid (∀ w, GlobT w → Glob w → _) := Lib.hid (hfr1)
  rw [hfr] at HC4
  dsimp only [ptV] at HC4
  have HC5 : Hid (∀ w, GlobT w → Glob w → _) := Lib.hid (hfr3)
  rw [hfr2] at HC5
  dsimp only [ptV] at HC5
  have HC10 := Lib.hid (some_any a t Wa Wt)
  have HC12 := Lib.hid (bytes_pt ((someN a t).1) ((someN a t).2) (pp_lt (onN_lt (someN_on a t)).1) (onN_lt (someN_on a t)).2)
  rw [hmb] at HC12
  have HC14 := Lib.hid (rsub_any (0) ((someN a t).1) (by decide) (pp_lt (onN_lt (someN_on a t)).1))
  rw [show subF 0 (someN a t).1 = 0 by rw [h0, neg_zero]] at HC14
  have HC16 := Lib.hid (rorder_any)
  have HC17 : Hid (∀ w, Glob w → _) := Lib.hid (base_any)
  have HC21 : Hid (∀ w, Glob w → _) := Lib.hid (mul_pt (7237005577332262213973186563042994240857116359379907606001950938285454250989) (baseN) (by decide) (baseN_on))
  try dsimp only at HC21
  rw [order_base] at HC21
  have HC23 := Lib.hid (nought_any)
  have HC24 : Hid (∀ w, Glob w → _) := Lib.hid (awake_any)
  obtain ⟨NN1, hNN1⟩ : ∃ zz9, Hid (zz9 = num ((someN a t).1)) := ⟨_, Lib.hid rfl⟩
  have INN1 : IsNum NN1 := by rw [hNN1.out]; exact isNum _
  obtain ⟨NN2, hNN2⟩ : ∃ zz9, Hid (zz9 = num ((someN a t).2)) := ⟨_, Lib.hid rfl⟩
  have INN2 : IsNum NN2 := by rw [hNN2.out]; exact isNum _
  obtain ⟨PP3, hPP3⟩ : ∃ zz9, Hid (zz9 = NN1 ++ NN2) := ⟨_, Lib.hid rfl⟩
  have IPP3 : IsRw 8 PP3 := by rw [hPP3.out]; exact rw_app (isRw4 INN1) (isRw4 INN2)
  have SPP3_0 : Part PP3 0 NN1 := by rw [hPP3.out]; exact part_left 0 (part_all NN1) NN2
  have SPP3_4 : Part PP3 4 NN2 := by rw [hPP3.out]; exact part_right (NN1) NN2 4 (by simp [INN1.size])
  obtain ⟨NN6, hNN6⟩ : ∃ zz9, Hid (zz9 = num (0)) := ⟨_, Lib.hid rfl⟩
  have INN6 : IsNum NN6 := by rw [hNN6.out]; exact isNum _
  obtain ⟨PP7, hPP7⟩ : ∃ zz9, Hid (zz9 = NN6 ++ NN6) := ⟨_, Lib.hid rfl⟩
  have IPP7 : IsRw 8 PP7 := by rw [hPP7.out]; exact rw_app (isRw4 INN6) (isRw4 INN6)
  have SPP7_0 : Part PP7 0 NN6 := by rw [hPP7.out]; exact part_left 0 (part_all NN6) NN6
  have SPP7_4 : Part PP7 4 NN6 := by rw [hPP7.out]; exact part_right (NN6) NN6 4 (by simp [INN6.size])
  obtain ⟨NN8, hNN8⟩ : ∃ zz9, Hid (zz9 = num (7237005577332262213973186563042994240857116359379907606001950938285454250989)) := ⟨_, Lib.hid rfl⟩
  have INN8 : IsNum NN8 := by rw [hNN8.out]; exact isNum _
  obtain ⟨NN9, hNN9⟩ : ∃ zz9, Hid (zz9 = num (1)) := ⟨_, Lib.hid rfl⟩
  have INN9 : IsNum NN9 := by rw [hNN9.out]; exact isNum _
  obtain ⟨ZR11, hZR11⟩ : ∃ zz9, Hid (zz9 = (rowOf .u64 8 (fun _ => 0)).toArray) := ⟨_, Lib.hid rfl⟩
  have SZZR11 : ZR11.size = 8 := by rw [hZR11.out]; rfl
  obtain ⟨PP15, hPP15⟩ : ∃ zz9, Hid (zz9 = NN6 ++ NN2) := ⟨_, Lib.hid rfl⟩
  have IPP15 : IsRw 8 PP15 := by rw [hPP15.out]; exact rw_app (isRw4 INN6) (isRw4 INN2)
  have SPP15_0 : Part PP15 0 NN6 := by rw [hPP15.out]; exact part_left 0 (part_all NN6) NN2
  have SPP15_4 : Part PP15 4 NN2 := by rw [hPP15.out]; exact part_right (NN6) NN2 4 (by simp [INN6.size])
  obtain ⟨NN18, hNN18⟩ : ∃ zz9, Hid (zz9 = num ((baseN).1)) := ⟨_, Lib.hid rfl⟩
  have INN18 : IsNum NN18 := by rw [hNN18.out]; exact isNum _
  obtain ⟨NN19, hNN19⟩ : ∃ zz9, Hid (zz9 = num ((baseN).2)) := ⟨_, Lib.hid rfl⟩
  have INN19 : IsNum NN19 := by rw [hNN19.out]; exact isNum _
  obtain ⟨PP20, hPP20⟩ : ∃ zz9, Hid (zz9 = NN18 ++ NN19) := ⟨_, Lib.hid rfl⟩
  have IPP20 : IsRw 8 PP20 := by rw [hPP20.out]; exact rw_app (isRw4 INN18) (isRw4 INN19)
  have SPP20_0 : Part PP20 0 NN18 := by rw [hPP20.out]; exact part_left 0 (part_all NN18) NN19
  have SPP20_4 : Part PP20 4 NN19 := by rw [hPP20.out]; exact part_right (NN18) NN19 4 (by simp [INN18.size])
  obtain ⟨PP22, hPP22⟩ : ∃ zz9, Hid (zz9 = NN6 ++ NN9) := ⟨_, Lib.hid rfl⟩
  have IPP22 : IsRw 8 PP22 := by rw [hPP22.out]; exact rw_app (isRw4 INN6) (isRw4 INN9)
  have SPP22_0 : Part PP22 0 NN6 := by rw [hPP22.out]; exact part_left 0 (part_all NN6) NN9
  have SPP22_4 : Part PP22 4 NN9 := by rw [hPP22.out]; exact part_right (NN6) NN9 4 (by simp [INN6.size])
  have HZ26 : ∀ w, (zeroValue 26).run Tryd.prog w = .ok (.agg ZR11) w := by rw [hZR11.out]; exact zeroT26
  have BF13 : ∀ w, (Instr.build 24 #[]).run Tryd.prog w = .ok (.agg NN6) w := by rw [hNN6.out]; exact build0_run
  have SPPP15 : splice PP3 0 NN6.toList = PP15 := by rw [hPP3.out, hPP15.out]; exact splice_left _ _ _ (by rw [INN1.size, INN6.size])
  try simp only [← hNN1.out, ← hNN2.out, ← hNN6.out, ← hNN8.out, ← hNN9.out, ← hNN18.out, ← hNN19.out] at HC4 HC5 HC10 HC12 HC14 HC16 HC17 HC21 HC23 HC24 ⊢
  try simp only [← hPP3.out, ← hPP7.out, ← hZR11.out, ← hPP15.out, ← hPP20.out, ← hPP22.out] at HC4 HC5 HC10 HC12 HC14 HC16 HC17 HC21 HC23 HC24 ⊢
  clear hNN1 hNN2 hPP3 hNN6 hPP7 hNN8 hNN9 hZR11 hPP15 hNN18 hNN19 hPP20 hPP22 hmb hv hxo1 hc hfr hfr2 hfr1 hfr3 hle2 hdm hroot hon Wa Wt h0 hG0 hT0
  go_enter Tryd.func6, Tryd.ntmps6
  have HS : Hid (Kt w [] w) := Lib.hid (Kt.nil w)
  go_upto_region 0 with fail
  refine wp_region_list ?_
  refine wpList_run rfl (.bool false) (exec_assign (.const (.bool false)) rfl _ rfl _) ?_
  simp only [Act.put, sT, sS, sZ]
  refine wpList_nil ?_
  go_upto_region 1 with fail
  refine wp_region_list ?_
  refine wpList_run rfl (.int .u64 (a : Int)) (exec_move (.tmp 0) rfl _ rfl _) ?_
  simp only [Act.put, sT, sS, sZ]
  refine wpList_run rfl (.int .u8 (t : Int)) (exec_move (.tmp 1) rfl _ rfl _) ?_
  simp only [Act.put, sT, sS, sZ]
  refine wpList_callF rfl 17 #[.tmp 13, .tmp 14] #[22, 5] rfl #[.int .u64 (a : Int), .int .u8 (t : Int)] en17 (HC10.out _) ?_
  rintro v w1 ⟨he, hb⟩
  cases he
  have HS2 := Lib.hid (HS.out.below hb)
  clear hb HS
  simp only [Act.put, sT, sS, sZ]
  refine wpList_run rfl _ (exec_alloc_agg _ 26 rfl _ (HZ26 _)) ?_
  simp only [Act.put, sT, sS, sZ]
  have bg5 := HS2.out.1.size
  have HS4 := Lib.hid (HS2.out.new ZR11 26)
  clear HS2
  generalize w1.alloc (.cells ZR11 26) = w3 at *
  generalize w1.heap.size = g5 at *
  refine wpList_run0 rfl (exec_storeT26 _ (.tmp 5) (.tmp 15) rfl (g5) rfl PP3 IPP3 rfl ZR11 26 (HS4.out.get (g5) ZR11 26 (by simp)) SZZR11) ?_
  simp only [Act.put, sT, sS, sZ]
  have HS7 : Hid (Kt w [(g5, PP3, 26)] (w3.setRow (g5) PP3)) := Lib.hid (HS4.out.set (g5) PP3 ZR11 26 (HS4.out.get (g5) ZR11 26 (by simp)) (by omega) (fun p hp => by simp at hp; subst hp; exact .inl rfl))
  clear HS4
  generalize w3.setRow (g5) PP3 = w6 at *
  refine wpList_nil ?_
  go_upto_region 2 with fail
  refine wp_region_list ?_
  refine wpList_run rfl (.agg PP3) (exec_load_of _ 26 (.tmp 5) rfl ⟨g5, 0, none⟩ rfl _ (loadT26 IPP3 (HS7.out.get (g5) PP3 26 (by simp)))) ?_
  simp only [Act.put, sT, sS, sZ]
  refine wpList_callF rfl 22 #[.tmp 16] #[26] rfl #[.agg PP3] en22 (HC12.out _) ?_
  rintro v w8 ⟨he, hb⟩
  cases he
  have HS9 := Lib.hid (HS7.out.below hb)
  clear hb HS7
  simp only [Act.put, sT, sS, sZ]
  refine wpList_run rfl (.string ⟨(m ++ [b]).toArray⟩) (exec_assign (.tmp 17) rfl _ rfl _) ?_
  simp only [Act.put, sT, sS, sZ]
  refine wpList_nil ?_
  go_upto_region 3 with fail
  refine wp_region_list ?_
  refine wpList_run rfl (.string ⟨(m ++ [b]).toArray⟩) (exec_move (.tmp 6) rfl _ rfl _) ?_
  simp only [Act.put, sT, sS, sZ]
  refine wpList_callF rfl 11 #[.tmp 19] #[9] rfl #[.string ⟨(m ++ [b]).toArray⟩] en11 (HC4.out _ (HT.out.below HS9.out.1) (HG.out.below HS9.out.1)) ?_
  rintro v w10 ⟨he, hb⟩
  cases he
  have HS11 := Lib.hid (HS9.out.below hb)
  clear hb HS9
  simp only [Act.put, sT, sS, sZ]
  refine wpList_run rfl (.tuple #[.agg PP3, .bool true]) (exec_move (.tmp 20) rfl _ rfl _) ?_
  simp only [Act.put, sT, sS, sZ]
  refine wpList_run rfl (.agg PP3) (exec_extract (.tmp 18) 0 rfl _ _ rfl rfl _) ?_
  simp only [Act.put, sT, sS, sZ]
  refine wpList_run rfl (.bool true) (exec_extract (.tmp 18) 1 rfl _ _ rfl rfl _) ?_
  simp only [Act.put, sT, sS, sZ]
  refine wpList_run rfl _ (exec_alloc_agg _ 26 rfl _ (HZ26 _)) ?_
  simp only [Act.put, sT, sS, sZ]
  have lg14_0 := HS11.out.lt (g5) PP3 26 (by simp)
  have bg14 := HS11.out.1.size
  have HS13 := Lib.hid (HS11.out.new ZR11 26)
  clear HS11
  generalize w10.alloc (.cells ZR11 26) = w12 at *
  generalize w10.heap.size = g14 at *
  refine wpList_run0 rfl (exec_storeT26 _ (.tmp 7) (.tmp 21) rfl (g14) rfl PP3 IPP3 rfl ZR11 26 (HS13.out.get (g14) ZR11 26 (by simp)) SZZR11) ?_
  simp only [Act.put, sT, sS, sZ]
  have HS16 : Hid (Kt w [(g14, PP3, 26), (g5, PP3, 26)] (w12.setRow (g14) PP3)) := Lib.hid (HS13.out.set (g14) PP3 ZR11 26 (HS13.out.get (g14) ZR11 26 (by simp)) (by omega) (fun p hp => by simp at hp; rcases hp with rfl | rfl <;> first | exact .inl rfl | exact .inr ⟨by simp, by simp only; omega⟩))
  clear HS13
  generalize w12.setRow (g14) PP3 = w15 at *
  refine wpList_run rfl (.bool true) (exec_assign (.tmp 22) rfl _ rfl _) ?_
  simp only [Act.put, sT, sS, sZ]
  refine wpList_nil ?_
  go_upto_region 4 with fail
  refine wp_region_list ?_
  refine wpList_run rfl (.string ⟨(m ++ [b]).toArray⟩) (exec_move (.tmp 6) rfl _ rfl _) ?_
  simp only [Act.put, sT, sS, sZ]
  refine wpList_run rfl (.int .i64 (32 : Int)) (exec_len9 (.tmp 23) rfl ⟨(m ++ [b]).toArray⟩ 32 hlen.out rfl _) ?_
  simp only [Act.put, sT, sS, sZ]
  refine wpList_run rfl (.bool false) (exec_neq32 (.tmp 24) rfl rfl 32 false hnb.out rfl _) ?_
  simp only [Act.put, sT, sS, sZ]
  refine wpList_run rfl (.bool false) (exec_move (.tmp 25) rfl _ rfl _) ?_
  simp only [Act.put, sT, sS, sZ]
  refine wpList_runH (.bool true) (exec_move (.tmp 8) rfl _ rfl _) ?_ (by rfl)
  simp only [Act.put, sT, sS, sZ]
  refine wpList_runH (.bool false) (exec_notv (.tmp 27) rfl _ rfl false rfl _) ?_ (by rfl)
  simp only [Act.put, sT, sS, sZ]
  refine wpList_run rfl (.bool false) (exec_pickf (.tmp 26) (.const (.bool true)) (.tmp 28) rfl rfl _ rfl _) ?_
  simp only [Act.put, sT, sS, sZ]
  refine wpList_run rfl (.bool false) (exec_move (.tmp 29) rfl _ rfl _) ?_
  simp only [Act.put, sT, sS, sZ]
  refine wpList_runH (.agg PP3) (exec_load_of _ 26 (.tmp 7) rfl ⟨g14, 0, none⟩ rfl _ (loadT26 IPP3 (HS16.out.get (g14) PP3 26 (by simp)))) ?_ (by rfl)
  simp only [Act.put, sT, sS, sZ]
  refine wpList_runH (.agg PP3) (exec_load_of _ 26 (.tmp 5) rfl ⟨g5, 0, none⟩ rfl _ (loadT26 IPP3 (HS16.out.get (g5) PP3 26 (by simp)))) ?_ (by rfl)
  simp only [Act.put, sT, sS, sZ]
  refine wpList_runH (.bool false) (exec_neP (.tmp 31) (.tmp 32) rfl PP3 IPP3 rfl rfl _) ?_ (by rfl)
  simp only [Act.put, sT, sS, sZ]
  refine wpList_run rfl (.bool false) (exec_pickf (.tmp 30) (.const (.bool true)) (.tmp 33) rfl rfl _ rfl _) ?_
  simp only [Act.put, sT, sS, sZ]
  refine wpList_nil ?_
  have HS17 : Hid (Kt w [(g5, PP3, 26)] w15) := Lib.hid (HS16.out.sub (fun p hp => by simp at hp; subst hp; simp))
  clear HS16
  go_upto_region 6 with fail
  refine wp_region_list ?_
  refine wpList_run rfl (.string ⟨(m ++ [b]).toArray⟩) (exec_move (.tmp 6) rfl _ rfl _) ?_
  simp only [Act.put, sT, sS, sZ]
  obtain ⟨cap22, w18, hcv, hbf, hbl, hlt⟩ := conv_buf w15 (m ++ [b]) (len31 b hm)
  refine wpList_run rfl _ (exec_convG 9 44 (.tmp 35) rfl _ rfl _ _ _ hcv) ?_
  simp only [Act.put, sT, sS, sZ]
  have lgb20_0 := HS17.out.lt (g5) PP3 26 (by simp)
  have bgb20 := HS17.out.1.size
  have HS19 := Lib.hid (HS17.out.below hbl)
  have HB21 := Lib.hid hbf
  clear HS17 hcv hbf hbl
  generalize w15.heap.size = gb20 at *
  refine wpList_run rfl (.slice (some ⟨gb20, 0, none⟩) 32 cap22) (exec_assign (.tmp 36) rfl _ rfl _) ?_
  simp only [Act.put, sT, sS, sZ]
  refine wpList_nil ?_
  go_upto_region 7 with fail
  refine wp_region_list ?_
  refine wpList_run rfl (.slice (some ⟨gb20, 0, none⟩) 32 cap22) (exec_move (.tmp 9) rfl _ rfl _) ?_
  simp only [Act.put, sT, sS, sZ]
  refine wpList_run rfl (.pointer (some ⟨gb20, 31, none⟩)) (exec_index44 (.tmp 37) rfl rfl (gb20) cap22 rfl _) ?_
  simp only [Act.put, sT, sS, sZ]
  refine wpList_run rfl (.int .u8 (b.toNat : Int)) (exec_load_one _ 5 (.tmp 38) rfl ⟨gb20, 31, none⟩ rfl _ (HB21.out.cell31 hm) _ Tryd.underlying5 rfl) ?_
  simp only [Act.put, sT, sS, sZ]
  refine wpList_run rfl (.int .u8 (c.toNat : Int)) (exec_xor128 (.tmp 39) rfl rfl b c hxo.out rfl _) ?_
  simp only [Act.put, sT, sS, sZ]
  refine wpList_run rfl (.pointer (some ⟨gb20, 31, none⟩)) (exec_index44 (.tmp 37) rfl rfl (gb20) cap22 rfl _) ?_
  simp only [Act.put, sT, sS, sZ]
  refine wpList_run0 rfl (exec_store31 _ (.tmp 41) (.tmp 40) rfl (gb20) rfl c rfl HB21.out hm) ?_
  simp only [Act.put, sT, sS, sZ]
  have HS24 := Lib.hid (HS19.out.cellOther (gb20) 31 (.int .u8 (c.toNat : Int)) (by omega) (fun p hp => by simp at hp; subst hp; simp only; omega))
  have HB25 := Lib.hid (HB21.out.set hm c)
  clear HS19 HB21
  generalize w18.setCell ⟨gb20, 31, none⟩ (.int .u8 (c.toNat : Int)) = w23 at *
  refine wpList_nil ?_
  go_upto_region 8 with fail
  refine wp_region_list ?_
  refine wpList_run rfl (.slice (some ⟨gb20, 0, none⟩) 32 cap22) (exec_move (.tmp 9) rfl _ rfl _) ?_
  simp only [Act.put, sT, sS, sZ]
  refine wpList_run rfl (.string ⟨(m ++ [c]).toArray⟩) (exec_convG 44 9 (.tmp 43) rfl _ rfl _ _ _ (HB25.out.str (len31 c hm))) ?_
  simp only [Act.put, sT, sS, sZ]
  refine wpList_callF rfl 11 #[.tmp 44] #[9] rfl #[.string ⟨(m ++ [c]).toArray⟩] en11 (HC5.out _ (HT.out.below HS24.out.1) (HG.out.below HS24.out.1)) ?_
  rintro v w26 ⟨he, hb⟩
  cases he
  have HS27 := Lib.hid (HS24.out.below hb)
  clear hb HS24
  simp only [Act.put, sT, sS, sZ]
  refine wpList_run rfl (.tuple #[.agg PP7, .bool false]) (exec_move (.tmp 45) rfl _ rfl _) ?_
  simp only [Act.put, sT, sS, sZ]
  refine wpList_run rfl (.agg PP7) (exec_extract (.tmp 42) 0 rfl _ _ rfl rfl _) ?_
  simp only [Act.put, sT, sS, sZ]
  refine wpList_run rfl (.bool false) (exec_extract (.tmp 42) 1 rfl _ _ rfl rfl _) ?_
  simp only [Act.put, sT, sS, sZ]
  refine wpList_run rfl _ (exec_alloc_agg _ 26 rfl _ (HZ26 _)) ?_
  simp only [Act.put, sT, sS, sZ]
  have lg30_0 := HS27.out.lt (g5) PP3 26 (by simp)
  have bg30 := HS27.out.1.size
  have HS29 := Lib.hid (HS27.out.new ZR11 26)
  clear HS27
  generalize w26.alloc (.cells ZR11 26) = w28 at *
  generalize w26.heap.size = g30 at *
  refine wpList_run0 rfl (exec_storeT26 _ (.tmp 10) (.tmp 46) rfl (g30) rfl PP7 IPP7 rfl ZR11 26 (HS29.out.get (g30) ZR11 26 (by simp)) SZZR11) ?_
  simp only [Act.put, sT, sS, sZ]
  have HS32 : Hid (Kt w [(g30, PP7, 26), (g5, PP3, 26)] (w28.setRow (g30) PP7)) := Lib.hid (HS29.out.set (g30) PP7 ZR11 26 (HS29.out.get (g30) ZR11 26 (by simp)) (by omega) (fun p hp => by simp at hp; rcases hp with rfl | rfl <;> first | exact .inl rfl | exact .inr ⟨by simp, by simp only; omega⟩))
  clear HS29
  generalize w28.setRow (g30) PP7 = w31 at *
  refine wpList_run rfl (.bool false) (exec_assign (.tmp 47) rfl _ rfl _) ?_
  simp only [Act.put, sT, sS, sZ]
  refine wpList_nil ?_
  go_upto_region 9 with fail
  refine wp_region_list ?_
  refine wpList_run rfl (.agg NN6) (exec_buildN _ 24 #[] rfl #[] (by simp [Act.eval]) _ (BF13 _)) ?_
  simp only [Act.put, sT, sS, sZ]
  refine wpList_run rfl (.pointer (some ⟨g5, 0, none⟩)) (exec_field 26 (.tmp 5) 0 rfl _ _ rfl _ (fa26_0 (g5) _)) ?_
  simp only [Act.put, sT, sS, sZ]
  refine wpList_run rfl (.agg NN1) (exec_load_of _ 24 (.tmp 49) rfl ⟨g5, 0, none⟩ rfl _ (load_part (HS32.out.get (g5) PP3 26 (by simp)) INN1 0 SPP3_0)) ?_
  simp only [Act.put, sT, sS, sZ]
  refine wpList_callF rfl 24 #[.tmp 48, .tmp 50] #[24, 24] rfl #[.agg NN6, .agg NN1] en24 (HC14.out _) ?_
  rintro v w33 ⟨he, hb⟩
  cases he
  have HS34 := Lib.hid (HS32.out.below hb)
  clear hb HS32
  simp only [Act.put, sT, sS, sZ]
  refine wpList_run rfl (.pointer (some ⟨g5, 0, none⟩)) (exec_field 26 (.tmp 5) 0 rfl _ _ rfl _ (fa26_0 (g5) _)) ?_
  simp only [Act.put, sT, sS, sZ]
  refine wpList_run0 rfl (exec_store_part _ (.tmp 52) (.tmp 51) rfl (g5) 0 rfl NN6 INN6 rfl PP3 PP15 26 (HS34.out.get (g5) PP3 26 (by simp)) (by rw [IPP3.sz]; decide) SPPP15) ?_
  simp only [Act.put, sT, sS, sZ]
  have HS36 : Hid (Kt w [(g30, PP7, 26), (g5, PP15, 26)] (w33.setRow (g5) PP15)) := Lib.hid (HS34.out.set (g5) PP15 PP3 26 (HS34.out.get (g5) PP3 26 (by simp)) (by omega) (fun p hp => by simp at hp; rcases hp with rfl | rfl <;> first | exact .inl rfl | exact .inr ⟨by simp, by simp only; omega⟩))
  clear HS34
  generalize w33.setRow (g5) PP15 = w35 at *
  refine wpList_nil ?_
  go_upto_region 10 with fail
  refine wp_region_list ?_
  refine wpList_run rfl (.pointer (some ⟨g5, 0, none⟩)) (exec_field 26 (.tmp 5) 0 rfl _ _ rfl _ (fa26_0 (g5) _)) ?_
  simp only [Act.put, sT, sS, sZ]
  refine wpList_run rfl (.agg NN6) (exec_load_of _ 24 (.tmp 53) rfl ⟨g5, 0, none⟩ rfl _ (load_part (HS36.out.get (g5) PP15 26 (by simp)) INN6 0 SPP15_0)) ?_
  simp only [Act.put, sT, sS, sZ]
  refine wpList_run rfl (.agg NN6) (exec_buildN _ 24 #[] rfl #[] (by simp [Act.eval]) _ (BF13 _)) ?_
  simp only [Act.put, sT, sS, sZ]
  refine wpList_run rfl (.bool true) (exec_eqA (.tmp 54) (.tmp 55) rfl NN6 INN6 rfl rfl _) ?_
  simp only [Act.put, sT, sS, sZ]
  refine wpList_run rfl (.bool true) (exec_assign (.tmp 56) rfl _ rfl _) ?_
  simp only [Act.put, sT, sS, sZ]
  refine wpList_nil ?_
  go_upto_region 11 with fail
  refine wp_region_list ?_
  refine wpList_run rfl (.bool true) (exec_move (.tmp 12) rfl _ rfl _) ?_
  simp only [Act.put, sT, sS, sZ]
  refine wpList_run rfl (.bool true) (exec_move (.tmp 57) rfl _ rfl _) ?_
  simp only [Act.put, sT, sS, sZ]
  refine wpList_runH (.bool false) (exec_move (.tmp 11) rfl _ rfl _) ?_ (by rfl)
  simp only [Act.put, sT, sS, sZ]
  refine wpList_runH (.bool true) (exec_notv (.tmp 59) rfl _ rfl true rfl _) ?_ (by rfl)
  simp only [Act.put, sT, sS, sZ]
  refine wpList_run rfl (.bool true) (exec_pickt (.tmp 58) (.tmp 60) (.const (.bool false)) rfl rfl _ rfl _) ?_
  simp only [Act.put, sT, sS, sZ]
  go_wp2_with fail
  refine (HC16.out _).mono ?_
  rintro e w37 ⟨rfl, hb⟩
  have HS38 := Lib.hid (HS36.out.below hb)
  clear hb HS36
  go_wp2_with fail
  refine (HC17.out _ (HG.out.below HS38.out.1)).mono ?_
  rintro e w39 ⟨rfl, hb⟩
  have HS40 := Lib.hid (HS38.out.below hb)
  clear hb HS38
  go_wp2_with fail
  refine (HC21.out _ (HG.out.below HS40.out.1)).mono ?_
  rintro e w41 ⟨rfl, hb⟩
  have HS42 := Lib.hid (HS40.out.below hb)
  clear hb HS40
  go_wp2_with fail
  refine (HC23.out _).mono ?_
  rintro e w43 ⟨rfl, hb⟩
  have HS44 := Lib.hid (HS42.out.below hb)
  clear hb HS42
  go_wp2_with (refine wpList_runH (.bool true) (exec_eqP (.tmp 77) (.tmp 78) rfl PP22 IPP22 rfl rfl _) ?_ (by rfl))
  refine (HC24.out _ (HG.out.below HS44.out.1)).mono ?_
  rintro e w45 ⟨rfl, hb⟩
  have HS46 := Lib.hid (HS44.out.below hb)
  clear hb HS44
  go_wp2
  go_ret
  exact ⟨rfl, HS46.out.1⟩
set_option maxRecDepth 100000 in
set_option maxHeartbeats 8000000 in
theorem back_full (a t : Nat) (Wa : a < 18446744073709551616) (Wt : t < 256) (h0 : ¬ (someN a t).1 = 0) (w : World) (hT0 : GlobT w) (hG0 : Glob w) :
    Calls Tryd.prog 6 #[.int .u64 (a : Int), .int .u8 (t : Int)] w fun e w' => e = .returned (.bool true) ∧ Below w.heap.size w w' := by
  have HG := Lib.hid hG0
  have HT := Lib.hid hT0
  have hon := someN_on a t
  obtain ⟨m, b, hmb, hm, hv⟩ := top_byte (encP (someN a t)) (encP_lt hon.2.1)
  obtain ⟨c, hxo1, hc⟩ := xor_b b
  have hxo := Lib.hid hxo1
  have hlen : Hid ((⟨(m ++ [b]).toArray⟩ : ByteArray).size = 32) := Lib.hid (len31 b hm)
  have hnb : Hid (false = !(((32 : Nat) : Int) == 32)) := Lib.hid (by decide)
  have hfr : fromP ⟨(m ++ [b]).toArray⟩ = (someN a t, true) := decP_text (len31 b hm) (by show leVal (m ++ [b]) = _; rw [leVal_snoc, hm]; exact hv.symm) (decP_enc hon)
  have hdm : (encP (someN a t)) % hb = (someN a t).2 := encP_mod hon.2.1
  have hroot : (rootF (fromU (someN a t).2)).2 = true := by rw [← (on_fromU _ _).1 hon.2.2]; exact rootF_square _
  have hfr1 : ∀ w, GlobT w → Glob w → Calls Tryd.prog 11 #[.string ⟨(m ++ [b]).toArray⟩] w fun e w' => e = .returned (.tuple #[.agg (ptV (fromP ⟨(m ++ [b]).toArray⟩).1), .bool (fromP ⟨(m ++ [b]).toArray⟩).2]) ∧ Below w.heap.size w w' := by
    have hle : leVal (⟨(m ++ [b]).toArray⟩ : ByteArray).data.toList = encP (someN a t) := by show leVal (m ++ [b]) = _; rw [leVal_snoc, hm]; exact hv.symm
    exact from_has ⟨(m ++ [b]).toArray⟩ (len31 b hm) (by rw [hle, hdm]; exact hon.2.1) (by rw [hle, hdm]; exact hroot)
  have hle2 : leVal (⟨(m ++ [c]).toArray⟩ : ByteArray).data.toList = (someN a t).2 + hb * (1 - (someN a t).1 % 2) := by
    show leVal (m ++ [c]) = _
    rw [leVal_snoc, hm]
    have hb256 := b.toNat_lt
    have hl31 := leVal_31 m hm
    have hbv : hb = 128 * 256 ^ 31 := by decide
    have hpb := pp_hb
    have hy := hon.2.1
    unfold encP at hv
    rcases Nat.mod_two_eq_zero_or_one (someN a t).1 with e | e
    · rw [e, Nat.mul_zero, Nat.add_zero] at hv
      have hsm := top_small hy hv
      rw [e, hc, Nat.mod_eq_of_lt (by omega), Nat.add_mul, hbv, hv]
      omega
    · rw [e, Nat.mul_one] at hv
      have h128 : 128 ≤ b.toNat := by
        rcases Nat.lt_or_ge b.toNat 128 with h | h
        · have h1 : b.toNat * 256 ^ 31 ≤ 127 * 256 ^ 31 := Nat.mul_le_mul_right _ (by omega)
          omega
        · exact h
      rw [e, hc, show (b.toNat + 128) % 256 = b.toNat - 128 by omega, hbv, Nat.sub_mul]
      rw [hbv] at hv
      have h2 : 128 * 256 ^ 31 ≤ b.toNat * 256 ^ 31 := Nat.mul_le_mul_right _ h128
      omega
  have hfr3 : ∀ w, GlobT w → Glob w → Calls Tryd.prog 11 #[.string ⟨(m ++ [c]).toArray⟩] w fun e w' => e = .returned (.tuple #[.agg (ptV (fromP ⟨(m ++ [c]).toArray⟩).1), .bool (fromP ⟨(m ++ [c]).toArray⟩).2]) ∧ Below w.heap.size w w' := by
    have hm2 : ((someN a t).2 + hb * (1 - (someN a t).1 % 2)) % hb = (someN a t).2 := by rw [Nat.add_mul_mod_self_left, Nat.mod_eq_of_lt (Nat.lt_trans hon.2.1 pp_hb)]
    exact from_has ⟨(m ++ [c]).toArray⟩ (len31 c hm) (by rw [hle2, hm2]; exact hon.2.1) (by rw [hle2, hm2]; exact hroot)
  have hfr2 : fromP ⟨(m ++ [c]).toArray⟩ = (turnN (someN a t), true) := by
    refine decP_text (n := (someN a t).2 + hb * (1 - (someN a t).1 % 2)) (len31 c hm) hle2 (by rw [decP_turn hon, if_neg h0])
  have hnz : ¬ (turnN (someN a t)).1 = 0 := by
    intro hz
    apply h0
    have h1 : subF 0 (someN a t).1 = 0 := hz
    rw [← sub_neg _ hon.1, h1, neg_zero]
  have HC4 : Hid (∀ w, GlobT w → Glob w → _) := Lib.hid (hfr1)
  rw [hfr] at HC4
  dsimp only [ptV] at HC4
  have HC5 : Hid (∀ w, GlobT w → Glob w → _) := Lib.hid (hfr3)
  rw [hfr2] at HC5
  dsimp only [ptV] at HC5
  rw [turn_y] at HC5
  have HC12 := Lib.hid (some_any a t Wa Wt)
  have HC14 := Lib.hid (bytes_pt ((someN a t).1) ((someN a t).2) (pp_lt (onN_lt (someN_on a t)).1) (onN_lt (someN_on a t)).2)
  rw [hmb] at HC14
  have HC16 := Lib.hid (rsub_any (0) ((someN a t).1) (by decide) (pp_lt (onN_lt (someN_on a t)).1))
  rw [show subF 0 (someN a t).1 = (turnN (someN a t)).1 from rfl] at HC16
  have HC17 := Lib.hid (rorder_any)
  have HC18 : Hid (∀ w, Glob w → _) := Lib.hid (base_any)
  have HC22 : Hid (∀ w, Glob w → _) := Lib.hid (mul_pt (7237005577332262213973186563042994240857116359379907606001950938285454250989) (baseN) (by decide) (baseN_on))
  try dsimp only at HC22
  rw [order_base] at HC22
  have HC24 := Lib.hid (nought_any)
  have HC25 : Hid (∀ w, Glob w → _) := Lib.hid (awake_any)
  obtain ⟨NN1, hNN1⟩ : ∃ zz9, Hid (zz9 = num ((someN a t).1)) := ⟨_, Lib.hid rfl⟩
  have INN1 : IsNum NN1 := by rw [hNN1.out]; exact isNum _
  obtain ⟨NN2, hNN2⟩ : ∃ zz9, Hid (zz9 = num ((someN a t).2)) := ⟨_, Lib.hid rfl⟩
  have INN2 : IsNum NN2 := by rw [hNN2.out]; exact isNum _
  obtain ⟨PP3, hPP3⟩ : ∃ zz9, Hid (zz9 = NN1 ++ NN2) := ⟨_, Lib.hid rfl⟩
  have IPP3 : IsRw 8 PP3 := by rw [hPP3.out]; exact rw_app (isRw4 INN1) (isRw4 INN2)
  have SPP3_0 : Part PP3 0 NN1 := by rw [hPP3.out]; exact part_left 0 (part_all NN1) NN2
  have SPP3_4 : Part PP3 4 NN2 := by rw [hPP3.out]; exact part_right (NN1) NN2 4 (by simp [INN1.size])
  obtain ⟨NN6, hNN6⟩ : ∃ zz9, Hid (zz9 = num (0)) := ⟨_, Lib.hid rfl⟩
  have INN6 : IsNum NN6 := by rw [hNN6.out]; exact isNum _
  obtain ⟨NN7, hNN7⟩ : ∃ zz9, Hid (zz9 = num ((turnN (someN a t)).1)) := ⟨_, Lib.hid rfl⟩
  have INN7 : IsNum NN7 := by rw [hNN7.out]; exact isNum _
  obtain ⟨PP8, hPP8⟩ : ∃ zz9, Hid (zz9 = NN7 ++ NN2) := ⟨_, Lib.hid rfl⟩
  have IPP8 : IsRw 8 PP8 := by rw [hPP8.out]; exact rw_app (isRw4 INN7) (isRw4 INN2)
  have SPP8_0 : Part PP8 0 NN7 := by rw [hPP8.out]; exact part_left 0 (part_all NN7) NN2
  have SPP8_4 : Part PP8 4 NN2 := by rw [hPP8.out]; exact part_right (NN7) NN2 4 (by simp [INN7.size])
  obtain ⟨NN10, hNN10⟩ : ∃ zz9, Hid (zz9 = num (7237005577332262213973186563042994240857116359379907606001950938285454250989)) := ⟨_, Lib.hid rfl⟩
  have INN10 : IsNum NN10 := by rw [hNN10.out]; exact isNum _
  obtain ⟨NN11, hNN11⟩ : ∃ zz9, Hid (zz9 = num (1)) := ⟨_, Lib.hid rfl⟩
  have INN11 : IsNum NN11 := by rw [hNN11.out]; exact isNum _
  obtain ⟨ZR13, hZR13⟩ : ∃ zz9, Hid (zz9 = (rowOf .u64 8 (fun _ => 0)).toArray) := ⟨_, Lib.hid rfl⟩
  have SZZR13 : ZR13.size = 8 := by rw [hZR13.out]; rfl
  obtain ⟨NN19, hNN19⟩ : ∃ zz9, Hid (zz9 = num ((baseN).1)) := ⟨_, Lib.hid rfl⟩
  have INN19 : IsNum NN19 := by rw [hNN19.out]; exact isNum _
  obtain ⟨NN20, hNN20⟩ : ∃ zz9, Hid (zz9 = num ((baseN).2)) := ⟨_, Lib.hid rfl⟩
  have INN20 : IsNum NN20 := by rw [hNN20.out]; exact isNum _
  obtain ⟨PP21, hPP21⟩ : ∃ zz9, Hid (zz9 = NN19 ++ NN20) := ⟨_, Lib.hid rfl⟩
  have IPP21 : IsRw 8 PP21 := by rw [hPP21.out]; exact rw_app (isRw4 INN19) (isRw4 INN20)
  have SPP21_0 : Part PP21 0 NN19 := by rw [hPP21.out]; exact part_left 0 (part_all NN19) NN20
  have SPP21_4 : Part PP21 4 NN20 := by rw [hPP21.out]; exact part_right (NN19) NN20 4 (by simp [INN19.size])
  obtain ⟨PP23, hPP23⟩ : ∃ zz9, Hid (zz9 = NN6 ++ NN11) := ⟨_, Lib.hid rfl⟩
  have IPP23 : IsRw 8 PP23 := by rw [hPP23.out]; exact rw_app (isRw4 INN6) (isRw4 INN11)
  have SPP23_0 : Part PP23 0 NN6 := by rw [hPP23.out]; exact part_left 0 (part_all NN6) NN11
  have SPP23_4 : Part PP23 4 NN11 := by rw [hPP23.out]; exact part_right (NN6) NN11 4 (by simp [INN6.size])
  have HZ26 : ∀ w, (zeroValue 26).run Tryd.prog w = .ok (.agg ZR13) w := by rw [hZR13.out]; exact zeroT26
  have EQ9 : ∀ w, (Op.equalIn 10000 24 (.agg NN7) (.agg NN6)).run Tryd.prog w = .ok false w := by rw [hNN7.out, hNN6.out]; exact eq_num ((turnN (someN a t)).1) (0) (pp_lt (onN_lt (turnN_on (someN_on a t))).1) (by decide) false (decide_eq_false hnz)
  have BF15 : ∀ w, (Instr.build 24 #[]).run Tryd.prog w = .ok (.agg NN6) w := by rw [hNN6.out]; exact build0_run
  have SPPP8 : splice PP3 0 NN7.toList = PP8 := by rw [hPP3.out, hPP8.out]; exact splice_left _ _ _ (by rw [INN1.size, INN7.size])
  try simp only [← hNN1.out, ← hNN2.out, ← hNN6.out, ← hNN7.out, ← hNN10.out, ← hNN11.out, ← hNN19.out, ← hNN20.out] at HC4 HC5 HC12 HC14 HC16 HC17 HC18 HC22 HC24 HC25 ⊢
  try simp only [← hPP3.out, ← hPP8.out, ← hZR13.out, ← hPP21.out, ← hPP23.out] at HC4 HC5 HC12 HC14 HC16 HC17 HC18 HC22 HC24 HC25 ⊢
  clear hNN1 hNN2 hPP3 hNN6 hNN7 hPP8 hNN10 hNN11 hZR13 hNN19 hNN20 hPP21 hPP23 hmb hv hxo1 hc hfr hfr2 hfr1 hfr3 hle2 hdm hroot hon Wa Wt h0 hG0 hT0 hnz
  go_enter Tryd.func6, Tryd.ntmps6
  have HS : Hid (Kt w [] w) := Lib.hid (Kt.nil w)
  go_upto_region 0 with fail
  refine wp_region_list ?_
  refine wpList_run rfl (.bool false) (exec_assign (.const (.bool false)) rfl _ rfl _) ?_
  simp only [Act.put, sT, sS, sZ]
  refine wpList_nil ?_
  go_upto_region 1 with fail
  refine wp_region_list ?_
  refine wpList_run rfl (.int .u64 (a : Int)) (exec_move (.tmp 0) rfl _ rfl _) ?_
  simp only [Act.put, sT, sS, sZ]
  refine wpList_run rfl (.int .u8 (t : Int)) (exec_move (.tmp 1) rfl _ rfl _) ?_
  simp only [Act.put, sT, sS, sZ]
  refine wpList_callF rfl 17 #[.tmp 13, .tmp 14] #[22, 5] rfl #[.int .u64 (a : Int), .int .u8 (t : Int)] en17 (HC12.out _) ?_
  rintro v w1 ⟨he, hb⟩
  cases he
  have HS2 := Lib.hid (HS.out.below hb)
  clear hb HS
  simp only [Act.put, sT, sS, sZ]
  refine wpList_run rfl _ (exec_alloc_agg _ 26 rfl _ (HZ26 _)) ?_
  simp only [Act.put, sT, sS, sZ]
  have bg5 := HS2.out.1.size
  have HS4 := Lib.hid (HS2.out.new ZR13 26)
  clear HS2
  generalize w1.alloc (.cells ZR13 26) = w3 at *
  generalize w1.heap.size = g5 at *
  refine wpList_run0 rfl (exec_storeT26 _ (.tmp 5) (.tmp 15) rfl (g5) rfl PP3 IPP3 rfl ZR13 26 (HS4.out.get (g5) ZR13 26 (by simp)) SZZR13) ?_
  simp only [Act.put, sT, sS, sZ]
  have HS7 : Hid (Kt w [(g5, PP3, 26)] (w3.setRow (g5) PP3)) := Lib.hid (HS4.out.set (g5) PP3 ZR13 26 (HS4.out.get (g5) ZR13 26 (by simp)) (by omega) (fun p hp => by simp at hp; subst hp; exact .inl rfl))
  clear HS4
  generalize w3.setRow (g5) PP3 = w6 at *
  refine wpList_nil ?_
  go_upto_region 2 with fail
  refine wp_region_list ?_
  refine wpList_run rfl (.agg PP3) (exec_load_of _ 26 (.tmp 5) rfl ⟨g5, 0, none⟩ rfl _ (loadT26 IPP3 (HS7.out.get (g5) PP3 26 (by simp)))) ?_
  simp only [Act.put, sT, sS, sZ]
  refine wpList_callF rfl 22 #[.tmp 16] #[26] rfl #[.agg PP3] en22 (HC14.out _) ?_
  rintro v w8 ⟨he, hb⟩
  cases he
  have HS9 := Lib.hid (HS7.out.below hb)
  clear hb HS7
  simp only [Act.put, sT, sS, sZ]
  refine wpList_run rfl (.string ⟨(m ++ [b]).toArray⟩) (exec_assign (.tmp 17) rfl _ rfl _) ?_
  simp only [Act.put, sT, sS, sZ]
  refine wpList_nil ?_
  go_upto_region 3 with fail
  refine wp_region_list ?_
  refine wpList_run rfl (.string ⟨(m ++ [b]).toArray⟩) (exec_move (.tmp 6) rfl _ rfl _) ?_
  simp only [Act.put, sT, sS, sZ]
  refine wpList_callF rfl 11 #[.tmp 19] #[9] rfl #[.string ⟨(m ++ [b]).toArray⟩] en11 (HC4.out _ (HT.out.below HS9.out.1) (HG.out.below HS9.out.1)) ?_
  rintro v w10 ⟨he, hb⟩
  cases he
  have HS11 := Lib.hid (HS9.out.below hb)
  clear hb HS9
  simp only [Act.put, sT, sS, sZ]
  refine wpList_run rfl (.tuple #[.agg PP3, .bool true]) (exec_move (.tmp 20) rfl _ rfl _) ?_
  simp only [Act.put, sT, sS, sZ]
  refine wpList_run rfl (.agg PP3) (exec_extract (.tmp 18) 0 rfl _ _ rfl rfl _) ?_
  simp only [Act.put, sT, sS, sZ]
  refine wpList_run rfl (.bool true) (exec_extract (.tmp 18) 1 rfl _ _ rfl rfl _) ?_
  simp only [Act.put, sT, sS, sZ]
  refine wpList_run rfl _ (exec_alloc_agg _ 26 rfl _ (HZ26 _)) ?_
  simp only [Act.put, sT, sS, sZ]
  have lg14_0 := HS11.out.lt (g5) PP3 26 (by simp)
  have bg14 := HS11.out.1.size
  have HS13 := Lib.hid (HS11.out.new ZR13 26)
  clear HS11
  generalize w10.alloc (.cells ZR13 26) = w12 at *
  generalize w10.heap.size = g14 at *
  refine wpList_run0 rfl (exec_storeT26 _ (.tmp 7) (.tmp 21) rfl (g14) rfl PP3 IPP3 rfl ZR13 26 (HS13.out.get (g14) ZR13 26 (by simp)) SZZR13) ?_
  simp only [Act.put, sT, sS, sZ]
  have HS16 : Hid (Kt w [(g14, PP3, 26), (g5, PP3, 26)] (w12.setRow (g14) PP3)) := Lib.hid (HS13.out.set (g14) PP3 ZR13 26 (HS13.out.get (g14) ZR13 26 (by simp)) (by omega) (fun p hp => by simp at hp; rcases hp with rfl | rfl <;> first | exact .inl rfl | exact .inr ⟨by simp, by simp only; omega⟩))
  clear HS13
  generalize w12.setRow (g14) PP3 = w15 at *
  refine wpList_run rfl (.bool true) (exec_assign (.tmp 22) rfl _ rfl _) ?_
  simp only [Act.put, sT, sS, sZ]
  refine wpList_nil ?_
  go_upto_region 4 with fail
  refine wp_region_list ?_
  refine wpList_run rfl (.string ⟨(m ++ [b]).toArray⟩) (exec_move (.tmp 6) rfl _ rfl _) ?_
  simp only [Act.put, sT, sS, sZ]
  refine wpList_run rfl (.int .i64 (32 : Int)) (exec_len9 (.tmp 23) rfl ⟨(m ++ [b]).toArray⟩ 32 hlen.out rfl _) ?_
  simp only [Act.put, sT, sS, sZ]
  refine wpList_run rfl (.bool false) (exec_neq32 (.tmp 24) rfl rfl 32 false hnb.out rfl _) ?_
  simp only [Act.put, sT, sS, sZ]
  refine wpList_run rfl (.bool false) (exec_move (.tmp 25) rfl _ rfl _) ?_
  simp only [Act.put, sT, sS, sZ]
  refine wpList_runH (.bool true) (exec_move (.tmp 8) rfl _ rfl _) ?_ (by rfl)
  simp only [Act.put, sT, sS, sZ]
  refine wpList_runH (.bool false) (exec_notv (.tmp 27) rfl _ rfl false rfl _) ?_ (by rfl)
  simp only [Act.put, sT, sS, sZ]
  refine wpList_run rfl (.bool false) (exec_pickf (.tmp 26) (.const (.bool true)) (.tmp 28) rfl rfl _ rfl _) ?_
  simp only [Act.put, sT, sS, sZ]
  refine wpList_run rfl (.bool false) (exec_move (.tmp 29) rfl _ rfl _) ?_
  simp only [Act.put, sT, sS, sZ]
  refine wpList_runH (.agg PP3) (exec_load_of _ 26 (.tmp 7) rfl ⟨g14, 0, none⟩ rfl _ (loadT26 IPP3 (HS16.out.get (g14) PP3 26 (by simp)))) ?_ (by rfl)
  simp only [Act.put, sT, sS, sZ]
  refine wpList_runH (.agg PP3) (exec_load_of _ 26 (.tmp 5) rfl ⟨g5, 0, none⟩ rfl _ (loadT26 IPP3 (HS16.out.get (g5) PP3 26 (by simp)))) ?_ (by rfl)
  simp only [Act.put, sT, sS, sZ]
  refine wpList_runH (.bool false) (exec_neP (.tmp 31) (.tmp 32) rfl PP3 IPP3 rfl rfl _) ?_ (by rfl)
  simp only [Act.put, sT, sS, sZ]
  refine wpList_run rfl (.bool false) (exec_pickf (.tmp 30) (.const (.bool true)) (.tmp 33) rfl rfl _ rfl _) ?_
  simp only [Act.put, sT, sS, sZ]
  refine wpList_nil ?_
  have HS17 : Hid (Kt w [(g5, PP3, 26)] w15) := Lib.hid (HS16.out.sub (fun p hp => by simp at hp; subst hp; simp))
  clear HS16
  go_upto_region 6 with fail
  refine wp_region_list ?_
  refine wpList_run rfl (.string ⟨(m ++ [b]).toArray⟩) (exec_move (.tmp 6) rfl _ rfl _) ?_
  simp only [Act.put, sT, sS, sZ]
  obtain ⟨cap22, w18, hcv, hbf, hbl, hlt⟩ := conv_buf w15 (m ++ [b]) (len31 b hm)
  refine wpList_run rfl _ (exec_convG 9 44 (.tmp 35) rfl _ rfl _ _ _ hcv) ?_
  simp only [Act.put, sT, sS, sZ]
  have lgb20_0 := HS17.out.lt (g5) PP3 26 (by simp)
  have bgb20 := HS17.out.1.size
  have HS19 := Lib.hid (HS17.out.below hbl)
  have HB21 := Lib.hid hbf
  clear HS17 hcv hbf hbl
  generalize w15.heap.size = gb20 at *
  refine wpList_run rfl (.slice (some ⟨gb20, 0, none⟩) 32 cap22) (exec_assign (.tmp 36) rfl _ rfl _) ?_
  simp only [Act.put, sT, sS, sZ]
  refine wpList_nil ?_
  go_upto_region 7 with fail
  refine wp_region_list ?_
  refine wpList_run rfl (.slice (some ⟨gb20, 0, none⟩) 32 cap22) (exec_move (.tmp 9) rfl _ rfl _) ?_
  simp only [Act.put, sT, sS, sZ]
  refine wpList_run rfl (.pointer (some ⟨gb20, 31, none⟩)) (exec_index44 (.tmp 37) rfl rfl (gb20) cap22 rfl _) ?_
  simp only [Act.put, sT, sS, sZ]
  refine wpList_run rfl (.int .u8 (b.toNat : Int)) (exec_load_one _ 5 (.tmp 38) rfl ⟨gb20, 31, none⟩ rfl _ (HB21.out.cell31 hm) _ Tryd.underlying5 rfl) ?_
  simp only [Act.put, sT, sS, sZ]
  refine wpList_run rfl (.int .u8 (c.toNat : Int)) (exec_xor128 (.tmp 39) rfl rfl b c hxo.out rfl _) ?_
  simp only [Act.put, sT, sS, sZ]
  refine wpList_run rfl (.pointer (some ⟨gb20, 31, none⟩)) (exec_index44 (.tmp 37) rfl rfl (gb20) cap22 rfl _) ?_
  simp only [Act.put, sT, sS, sZ]
  refine wpList_run0 rfl (exec_store31 _ (.tmp 41) (.tmp 40) rfl (gb20) rfl c rfl HB21.out hm) ?_
  simp only [Act.put, sT, sS, sZ]
  have HS24 := Lib.hid (HS19.out.cellOther (gb20) 31 (.int .u8 (c.toNat : Int)) (by omega) (fun p hp => by simp at hp; subst hp; simp only; omega))
  have HB25 := Lib.hid (HB21.out.set hm c)
  clear HS19 HB21
  generalize w18.setCell ⟨gb20, 31, none⟩ (.int .u8 (c.toNat : Int)) = w23 at *
  refine wpList_nil ?_
  go_upto_region 8 with fail
  refine wp_region_list ?_
  refine wpList_run rfl (.slice (some ⟨gb20, 0, none⟩) 32 cap22) (exec_move (.tmp 9) rfl _ rfl _) ?_
  simp only [Act.put, sT, sS, sZ]
  refine wpList_run rfl (.string ⟨(m ++ [c]).toArray⟩) (exec_convG 44 9 (.tmp 43) rfl _ rfl _ _ _ (HB25.out.str (len31 c hm))) ?_
  simp only [Act.put, sT, sS, sZ]
  refine wpList_callF rfl 11 #[.tmp 44] #[9] rfl #[.string ⟨(m ++ [c]).toArray⟩] en11 (HC5.out _ (HT.out.below HS24.out.1) (HG.out.below HS24.out.1)) ?_
  rintro v w26 ⟨he, hb⟩
  cases he
  have HS27 := Lib.hid (HS24.out.below hb)
  clear hb HS24
  simp only [Act.put, sT, sS, sZ]
  refine wpList_run rfl (.tuple #[.agg PP8, .bool true]) (exec_move (.tmp 45) rfl _ rfl _) ?_
  simp only [Act.put, sT, sS, sZ]
  refine wpList_run rfl (.agg PP8) (exec_extract (.tmp 42) 0 rfl _ _ rfl rfl _) ?_
  simp only [Act.put, sT, sS, sZ]
  refine wpList_run rfl (.bool true) (exec_extract (.tmp 42) 1 rfl _ _ rfl rfl _) ?_
  simp only [Act.put, sT, sS, sZ]
  refine wpList_run rfl _ (exec_alloc_agg _ 26 rfl _ (HZ26 _)) ?_
  simp only [Act.put, sT, sS, sZ]
  have lg30_0 := HS27.out.lt (g5) PP3 26 (by simp)
  have bg30 := HS27.out.1.size
  have HS29 := Lib.hid (HS27.out.new ZR13 26)
  clear HS27
  generalize w26.alloc (.cells ZR13 26) = w28 at *
  generalize w26.heap.size = g30 at *
  refine wpList_run0 rfl (exec_storeT26 _ (.tmp 10) (.tmp 46) rfl (g30) rfl PP8 IPP8 rfl ZR13 26 (HS29.out.get (g30) ZR13 26 (by simp)) SZZR13) ?_
  simp only [Act.put, sT, sS, sZ]
  have HS32 : Hid (Kt w [(g30, PP8, 26), (g5, PP3, 26)] (w28.setRow (g30) PP8)) := Lib.hid (HS29.out.set (g30) PP8 ZR13 26 (HS29.out.get (g30) ZR13 26 (by simp)) (by omega) (fun p hp => by simp at hp; rcases hp with rfl | rfl <;> first | exact .inl rfl | exact .inr ⟨by simp, by simp only; omega⟩))
  clear HS29
  generalize w28.setRow (g30) PP8 = w31 at *
  refine wpList_run rfl (.bool true) (exec_assign (.tmp 47) rfl _ rfl _) ?_
  simp only [Act.put, sT, sS, sZ]
  refine wpList_nil ?_
  go_upto_region 9 with fail
  refine wp_region_list ?_
  refine wpList_run rfl (.agg NN6) (exec_buildN _ 24 #[] rfl #[] (by simp [Act.eval]) _ (BF15 _)) ?_
  simp only [Act.put, sT, sS, sZ]
  refine wpList_run rfl (.pointer (some ⟨g5, 0, none⟩)) (exec_field 26 (.tmp 5) 0 rfl _ _ rfl _ (fa26_0 (g5) _)) ?_
  simp only [Act.put, sT, sS, sZ]
  refine wpList_run rfl (.agg NN1) (exec_load_of _ 24 (.tmp 49) rfl ⟨g5, 0, none⟩ rfl _ (load_part (HS32.out.get (g5) PP3 26 (by simp)) INN1 0 SPP3_0)) ?_
  simp only [Act.put, sT, sS, sZ]
  refine wpList_callF rfl 24 #[.tmp 48, .tmp 50] #[24, 24] rfl #[.agg NN6, .agg NN1] en24 (HC16.out _) ?_
  rintro v w33 ⟨he, hb⟩
  cases he
  have HS34 := Lib.hid (HS32.out.below hb)
  clear hb HS32
  simp only [Act.put, sT, sS, sZ]
  refine wpList_run rfl (.pointer (some ⟨g5, 0, none⟩)) (exec_field 26 (.tmp 5) 0 rfl _ _ rfl _ (fa26_0 (g5) _)) ?_
  simp only [Act.put, sT, sS, sZ]
  refine wpList_run0 rfl (exec_store_part _ (.tmp 52) (.tmp 51) rfl (g5) 0 rfl NN7 INN7 rfl PP3 PP8 26 (HS34.out.get (g5) PP3 26 (by simp)) (by rw [IPP3.sz]; decide) SPPP8) ?_
  simp only [Act.put, sT, sS, sZ]
  have HS36 : Hid (Kt w [(g30, PP8, 26), (g5, PP8, 26)] (w33.setRow (g5) PP8)) := Lib.hid (HS34.out.set (g5) PP8 PP3 26 (HS34.out.get (g5) PP3 26 (by simp)) (by omega) (fun p hp => by simp at hp; rcases hp with rfl | rfl <;> first | exact .inl rfl | exact .inr ⟨by simp, by simp only; omega⟩))
  clear HS34
  generalize w33.setRow (g5) PP8 = w35 at *
  refine wpList_nil ?_
  go_upto_region 10 with fail
  refine wp_region_list ?_
  refine wpList_run rfl (.pointer (some ⟨g5, 0, none⟩)) (exec_field 26 (.tmp 5) 0 rfl _ _ rfl _ (fa26_0 (g5) _)) ?_
  simp only [Act.put, sT, sS, sZ]
  refine wpList_run rfl (.agg NN7) (exec_load_of _ 24 (.tmp 53) rfl ⟨g5, 0, none⟩ rfl _ (load_part (HS36.out.get (g5) PP8 26 (by simp)) INN7 0 SPP8_0)) ?_
  simp only [Act.put, sT, sS, sZ]
  refine wpList_run rfl (.agg NN6) (exec_buildN _ 24 #[] rfl #[] (by simp [Act.eval]) _ (BF15 _)) ?_
  simp only [Act.put, sT, sS, sZ]
  refine wpList_run rfl (.bool false) (exec_eqv (.tmp 54) (.tmp 55) rfl NN7 NN6 EQ9 rfl rfl _) ?_
  simp only [Act.put, sT, sS, sZ]
  refine wpList_run rfl (.bool false) (exec_assign (.tmp 56) rfl _ rfl _) ?_
  simp only [Act.put, sT, sS, sZ]
  refine wpList_nil ?_
  go_upto_region 11 with fail
  refine wp_region_list ?_
  refine wpList_run rfl (.bool false) (exec_move (.tmp 12) rfl _ rfl _) ?_
  simp only [Act.put, sT, sS, sZ]
  refine wpList_run rfl (.bool false) (exec_move (.tmp 57) rfl _ rfl _) ?_
  simp only [Act.put, sT, sS, sZ]
  refine wpList_skipG ?_ (by rfl)
  simp only [Act.put, sT, sS, sZ]
  refine wpList_skipG ?_ (by rfl)
  simp only [Act.put, sT, sS, sZ]
  refine wpList_run rfl (.bool false) (exec_pickf (.tmp 58) (.tmp 60) (.const (.bool false)) rfl rfl _ rfl _) ?_
  simp only [Act.put, sT, sS, sZ]
  refine wpList_run rfl (.bool false) (exec_move (.tmp 61) rfl _ rfl _) ?_
  simp only [Act.put, sT, sS, sZ]
  refine wpList_runH (.bool false) (exec_move (.tmp 12) rfl _ rfl _) ?_ (by rfl)
  simp only [Act.put, sT, sS, sZ]
  refine wpList_runH (.bool true) (exec_notv (.tmp 63) rfl _ rfl true rfl _) ?_ (by rfl)
  simp only [Act.put, sT, sS, sZ]
  refine wpList_runH (.bool true) (exec_move (.tmp 64) rfl _ rfl _) ?_ (by rfl)
  simp only [Act.put, sT, sS, sZ]
  refine wpList_runH (.bool true) (exec_move (.tmp 11) rfl _ rfl _) ?_ (by rfl)
  simp only [Act.put, sT, sS, sZ]
  refine wpList_runH (.bool true) (exec_pickt (.tmp 65) (.tmp 66) (.const (.bool false)) rfl rfl _ rfl _) ?_ (by rfl)
  simp only [Act.put, sT, sS, sZ]
  refine wpList_runH (.bool true) (exec_move (.tmp 67) rfl _ rfl _) ?_ (by rfl)
  simp only [Act.put, sT, sS, sZ]
  refine wpList_runH (.agg PP8) (exec_load_of _ 26 (.tmp 10) rfl ⟨g30, 0, none⟩ rfl _ (loadT26 IPP8 (HS36.out.get (g30) PP8 26 (by simp)))) ?_ (by rfl)
  simp only [Act.put, sT, sS, sZ]
  refine wpList_runH (.agg PP8) (exec_load_of _ 26 (.tmp 5) rfl ⟨g5, 0, none⟩ rfl _ (loadT26 IPP8 (HS36.out.get (g5) PP8 26 (by simp)))) ?_ (by rfl)
  simp only [Act.put, sT, sS, sZ]
  refine wpList_runH (.bool true) (exec_eqP (.tmp 69) (.tmp 70) rfl PP8 IPP8 rfl rfl _) ?_ (by rfl)
  simp only [Act.put, sT, sS, sZ]
  refine wpList_runH (.bool true) (exec_pickt (.tmp 68) (.tmp 71) (.const (.bool false)) rfl rfl _ rfl _) ?_ (by rfl)
  simp only [Act.put, sT, sS, sZ]
  refine wpList_run rfl (.bool true) (exec_pickf (.tmp 62) (.const (.bool true)) (.tmp 72) rfl rfl _ rfl _) ?_
  simp only [Act.put, sT, sS, sZ]
  refine wpList_run rfl (.bool true) (exec_move (.tmp 73) rfl _ rfl _) ?_
  simp only [Act.put, sT, sS, sZ]
  refine wpList_callH (by rfl) 26 #[] #[] rfl #[] en26 (HC17.out _) ?_
  rintro v w37 ⟨he, hb⟩
  cases he
  have HS38 := Lib.hid (HS36.out.below hb)
  clear hb HS36
  simp only [Act.put, sT, sS, sZ]
  refine wpList_callH (by rfl) 15 #[] #[] rfl #[] en15 (HC18.out _ (HG.out.below HS38.out.1)) ?_
  rintro v w39 ⟨he, hb⟩
  cases he
  have HS40 := Lib.hid (HS38.out.below hb)
  clear hb HS38
  simp only [Act.put, sT, sS, sZ]
  refine wpList_callH (by rfl) 20 #[.tmp 75, .tmp 76] #[24, 26] rfl #[.agg NN10, .agg PP21] en20 (HC22.out _ (HG.out.below HS40.out.1)) ?_
  rintro v w41 ⟨he, hb⟩
  cases he
  have HS42 := Lib.hid (HS40.out.below hb)
  clear hb HS40
  simp only [Act.put, sT, sS, sZ]
  refine wpList_callH (by rfl) 25 #[] #[] rfl #[] en25 (HC24.out _) ?_
  rintro v w43 ⟨he, hb⟩
  cases he
  have HS44 := Lib.hid (HS42.out.below hb)
  clear hb HS42
  simp only [Act.put, sT, sS, sZ]
  refine wpList_runH (.bool true) (exec_eqP (.tmp 77) (.tmp 78) rfl PP23 IPP23 rfl rfl _) ?_ (by rfl)
  simp only [Act.put, sT, sS, sZ]
  refine wpList_run rfl (.bool true) (exec_pickt (.tmp 74) (.tmp 79) (.const (.bool false)) rfl rfl _ rfl _) ?_
  simp only [Act.put, sT, sS, sZ]
  refine wpList_run rfl (.bool true) (exec_move (.tmp 80) rfl _ rfl _) ?_
  simp only [Act.put, sT, sS, sZ]
  refine wpList_callH (by rfl) 10 #[] #[] rfl #[] en10 (HC25.out _ (HG.out.below HS44.out.1)) ?_
  rintro v w45 ⟨he, hb⟩
  cases he
  have HS46 := Lib.hid (HS44.out.below hb)
  clear hb HS44
  simp only [Act.put, sT, sS, sZ]
  refine wpList_run rfl (.bool true) (exec_pickt (.tmp 81) (.tmp 82) (.const (.bool false)) rfl rfl _ rfl _) ?_
  simp only [Act.put, sT, sS, sZ]
  refine wpList_run rfl (.bool true) (exec_assign (.tmp 83) rfl _ rfl _) ?_
  simp only [Act.put, sT, sS, sZ]
  refine wpList_nil ?_
  go_wp2
  go_ret
  exact ⟨rfl, HS46.out.1⟩
theorem back_any (a t : Nat) (Wa : a < 18446744073709551616) (Wt : t < 256) (w : World) (hT0 : GlobT w) (hG0 : Glob w) :
    Calls Tryd.prog 6 #[.int .u64 (a : Int), .int .u8 (t : Int)] w fun e w' => e = .returned (.bool true) ∧ Below w.heap.size w w' := by
  by_cases h : (someN a t).1 = 0
  · exact back_flat a t Wa Wt h w hT0 hG0
  · exact back_full a t Wa Wt h w hT0 hG0
end Go.Proofs.YtgbliacncahooaaDoor
