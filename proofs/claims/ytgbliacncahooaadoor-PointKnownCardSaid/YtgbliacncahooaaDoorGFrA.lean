/- Several texts, one behind the other; each says by itself what it proves, and on what conditions. -/
import Derived.Test.YtgbliacncahooaaDoorGOpA
import Derived.Test.YtgbliacncahooaaDoorGOvA
/- The point that a text says, by its parts. No condition but what each names. -/
namespace Go.Proofs.YtgbliacncahooaaDoor
open Go.RowKit Go.Shelf
set_option linter.unusedVariables false
set_option linter.unusedSimpArgs false
theorem decQ_cases (R : (Nat × Nat) × Bool → Prop) (y q : Nat) (hq : q = 0 ∨ q = 1) (h1 : ¬ y < pp → R ((0, 0), false)) (h2 : y < pp → (rootF (fromU y)).2 = false → R ((0, 0), false))
    (h3 : y < pp → (rootF (fromU y)).2 = true → q = 0 → R (((rootF (fromU y)).1, y), true)) (h4 : y < pp → (rootF (fromU y)).2 = true → q = 1 → (rootF (fromU y)).1 ≠ 0 → R ((subF 0 (rootF (fromU y)).1, y), true))
    (h5 : y < pp → (rootF (fromU y)).2 = true → q = 1 → (rootF (fromU y)).1 = 0 → R ((0, 0), false)) : R (decQ y q) := by
  unfold decQ
  by_cases a : y < pp
  · by_cases b : (rootF (fromU y)).2 = true
    · rcases hq with rfl | rfl
      · rw [if_pos ⟨a, b, by simp⟩, if_neg (by decide)]
        exact h3 a b rfl
      · by_cases c : (rootF (fromU y)).1 = 0
        · rw [if_neg (by intro h; exact h.2.2 ⟨rfl, c⟩)]
          exact h5 a b rfl c
        · rw [if_pos ⟨a, b, fun h => c h.2⟩, if_pos rfl]
          exact h4 a b rfl c
    · rw [if_neg (fun h => b h.2.1)]
      exact h2 a (by simpa using b)
  · rw [if_neg (fun h => a h.1)]
    exact h1 a
theorem split_mod (x b : Nat) (hx : x < 256 ^ 31) : (x + b * 256 ^ 31) % hb = x + b % 128 * 256 ^ 31 := by
  rw [show hb = 128 * 256 ^ 31 by decide]
  have h1 : x + b * 256 ^ 31 = (x + b % 128 * 256 ^ 31) + 128 * 256 ^ 31 * (b / 128) := by
    have h2 := Nat.mod_add_div b 128
    have h3 : b * 256 ^ 31 = (b % 128 + 128 * (b / 128)) * 256 ^ 31 := by rw [h2]
    rw [h3, Nat.add_mul, Nat.add_assoc, Nat.mul_assoc 128 (b / 128), Nat.mul_assoc 128 (256 ^ 31), Nat.mul_comm (b / 128)]
  rw [h1, Nat.add_mul_mod_self_left, Nat.mod_eq_of_lt]
  have h4 : b % 128 * 256 ^ 31 ≤ 127 * 256 ^ 31 := Nat.mul_le_mul_right _ (by omega)
  omega
theorem split_div (x b : Nat) (hx : x < 256 ^ 31) : (x + b * 256 ^ 31) / hb = b / 128 := by
  rw [show hb = 256 ^ 31 * 128 by decide, ← Nat.div_div_eq_div_mul]
  have h1 : (x + b * 256 ^ 31) / 256 ^ 31 = b := by
    rw [Nat.add_mul_div_right _ _ (by decide), Nat.div_eq_of_lt hx, Nat.zero_add]
  rw [h1]
/-- The point that a text says. -/
def fromP (s : ByteArray) : (Nat × Nat) × Bool := if s.size = 32 then decP (leVal s.data.toList) else ((0, 0), false)
theorem fromP_parts {s : ByteArray} (h : s.size = 32) {m : List UInt8} {b c : UInt8} (hm : m.length = 31) (hv : leVal s.data.toList = leVal m + b.toNat * 256 ^ 31) (hc : c.toNat = b.toNat % 128) : fromP s = decQ (leVal m + c.toNat * 256 ^ 31) (b.toNat / 128) := by
  unfold fromP
  rw [if_pos h, hv, decP_eq, split_mod _ _ (leVal_31 m hm), split_div _ _ (leVal_31 m hm), hc]
end Go.Proofs.YtgbliacncahooaaDoor
/- FromPoint of the document: single operations, and the point of an even X. No condition but what each names. -/
namespace Go.Proofs.YtgbliacncahooaaDoor
open Go.RowKit Go.Shelf
set_option linter.unusedVariables false
set_option linter.unusedSimpArgs false
theorem spot_none : spotV (fun _ => 0) false = num 0 ++ num 0 ++ #[.bool false] := by kernel_rfl
theorem exec_shr63 {ρ : Operand → Value} {o : Oper} (x : Operand) (ho : o.op = .binOp .shr 22 x (.const (.int .u64 63)) 57) (hc : ρ (.const (.int .u64 63)) = .int .u64 63) (d r : Nat) (hr : (d : Int) / 2 ^ 63 = (r : Int)) (hx : ρ x = .int .u64 (d : Int)) (w : World) :
    (execOp ρ o).run Tryd.prog w = .ok (.value (.int .u64 (r : Int))) w := by
  have hq : (d : Int) / 9223372036854775808 = (r : Int) := hr
  clear hr
  unfold execOp
  rw [ho]
  simp only [hx, hc]
  go_simp
theorem exec_shr1 {ρ : Operand → Value} {o : Oper} (x : Operand) (ho : o.op = .binOp .shr 22 x (.const (.int .u64 1)) 57) (hc : ρ (.const (.int .u64 1)) = .int .u64 1) (d r : Nat) (hr : (d : Int) / 2 = (r : Int)) (hx : ρ x = .int .u64 (d : Int)) (w : World) :
    (execOp ρ o).run Tryd.prog w = .ok (.value (.int .u64 (r : Int))) w := by
  unfold execOp
  rw [ho]
  simp only [hx, hc]
  go_simp
theorem exec_shl1 {ρ : Operand → Value} {o : Oper} (x : Operand) (ho : o.op = .binOp .shl 22 x (.const (.int .u64 1)) 57) (hc : ρ (.const (.int .u64 1)) = .int .u64 1) (d r : Nat) (hr : (d : Int) * 2 % 18446744073709551616 = (r : Int)) (hx : ρ x = .int .u64 (d : Int)) (w : World) :
    (execOp ρ o).run Tryd.prog w = .ok (.value (.int .u64 (r : Int))) w := by
  have hw : IntKind.u64.wrap ((d : Int) * 2) = (r : Int) := by
    rw [← hr]
    simp [IntKind.wrap, IntKind.bits, IntKind.signed]
  unfold execOp
  rw [ho]
  simp only [hx, hc]
  go_simp
theorem exec_store22 {ρ : Operand → Value} {o : Oper} (w : World) (x y : Operand) (ho : o.op = .store 22 x y) (g j : Nat) (hx : ρ x = .pointer (some ⟨g, j, none⟩)) (v : Nat) (hy : ρ y = .int .u64 (v : Int)) (A B : Array Value) (t : TypeId) (hg : w.heap[g]? = some (.cells A t (0, 0))) {u : Value} (hu : A[j]? = some u) (hB : A.setIfInBounds j (.int .u64 (v : Int)) = B) :
    (execOp ρ o).run Tryd.prog w = .ok .skip (w.setRow g B) := by
  have h := exec_store_one (P := Tryd.prog) (o := o) (ρ := ρ) w 22 x y ho ⟨g, j, none⟩ hx (.int .u64 (v : Int)) hy rfl rfl u ((cell_of_row w g j A t (0, 0) hg).trans hu) (frozen_of_row w g j A t hg) (by kernel_rfl)
  rw [setCell_eq_setRow w g j A t (0, 0) _ hg, hB] at h
  exact h
theorem cut_set (n : Nat) (hn : n < 115792089237316195423570985008687907853269984665640564039457584007913129639936) : (num n).setIfInBounds 3 (.int .u64 ((dig n 3 % 9223372036854775808 : Nat) : Int)) = num (n % hb) := by
  rw [show n % hb = n % 57896044618658097711785492504343953926634992332820282019728792003956564819968 from rfl, cut_words n hn, num_lit]
  rfl
theorem dig3_top (n : Nat) (hn : n < 115792089237316195423570985008687907853269984665640564039457584007913129639936) : dig n 3 / 9223372036854775808 = n / hb := by
  rw [dig_3, show hb = 6277101735386680763835789423207666416102355444464034512896 * 9223372036854775808 by decide, ← Nat.div_div_eq_div_mul]
  omega
set_option maxRecDepth 100000 in
set_option maxHeartbeats 2000000 in
theorem rfrom_d0 (m : List UInt8) (b c : UInt8) (hm : m.length = 31) (hcb : c.toNat = b.toNat % 128) (y : Nat) (hy : y = leVal m + c.toNat * 256 ^ 31) (hyp : y < pp) (hth : (rootF (fromU y)).2 = true) (hq : b.toNat < 128) (w : World) :
    Calls Tryd.prog 12 #[.string ⟨(m ++ [b]).toArray⟩] w fun e w' => e = .returned (.agg (num ((rootF (fromU y)).1) ++ num y ++ #[.bool true])) ∧ Below w.heap.size w w' := by
  obtain ⟨n, hn0⟩ : ∃ n, n = leVal m + b.toNat * 256 ^ 31 := ⟨_, rfl⟩
  have hsz := len31 b hm
  have hv0 : leVal (m ++ [b]) = n := by rw [leVal_snoc, hm, hn0]
  have hn : n < 115792089237316195423570985008687907853269984665640564039457584007913129639936 := by
    have h := leVal_lt (m ++ [b])
    rw [hsz, hv0] at h
    exact h
  have HN := Lib.hid (number_any ⟨(m ++ [b]).toArray⟩ hsz)
  rw [show leVal (⟨(m ++ [b]).toArray⟩ : ByteArray).data.toList = n from hv0] at HN
  have hmod : n % hb = y := by rw [hn0, split_mod _ _ (leVal_31 m hm), hy, hcb]
  have hdiv : n / hb = 0 := by
    rw [hn0, split_div _ _ (leVal_31 m hm)]
    have := b.toNat_lt
    omega
  have hyn : y ≤ n := by rw [← hmod]; exact Nat.mod_le _ _
  have hset0 := cut_set n hn
  have htop := dig3_top n hn
  rw [hmod] at hset0
  rw [hdiv] at htop
  have hd64 := dig_lt n 3
  have hg3 := num_get n 3 (by decide)
  obtain ⟨d3, hd3⟩ : ∃ d3, d3 = dig n 3 := ⟨_, rfl⟩
  rw [← hd3] at hset0 htop hd64 hg3
  obtain ⟨r3, hr30⟩ : ∃ r3, r3 = d3 % 9223372036854775808 := ⟨_, rfl⟩
  obtain ⟨s3, hs30⟩ : ∃ s3, s3 = r3 * 2 := ⟨_, rfl⟩
  have h63 : Hid ((d3 : Int) / 2 ^ 63 = ((0 : Nat) : Int)) := Lib.hid (by show (d3 : Int) / 9223372036854775808 = _; omega)
  have hs3 : Hid ((d3 : Int) * 2 % 18446744073709551616 = (s3 : Int)) := Lib.hid (by omega)
  have hr3 : Hid ((s3 : Int) / 2 = (r3 : Int)) := Lib.hid (by omega)
  rw [← hr30] at hset0
  have hlen : Hid ((⟨(m ++ [b]).toArray⟩ : ByteArray).size = 32) := Lib.hid hsz
  have hnb : Hid (false = !(((32 : Nat) : Int) == 32)) := Lib.hid (by decide)
  have HC3 := Lib.hid (prime_any)
  have HC5 := Lib.hid (less_any (y) (pp) (Nat.lt_of_le_of_lt hyn hn) pp_b4)
  rw [show decide (y < pp) = true from decide_eq_true hyp] at HC5
  have HC7 := Lib.hid (rmulf_any (y) (y) (Nat.lt_of_le_of_lt hyn hn) (Nat.lt_of_le_of_lt hyn hn))
  have HC11 := Lib.hid (rsub_any (mulF (y) (y)) (1) (pp_lt (mulF_lt _ _)) (by decide))
  have HC13 := Lib.hid (rd_any)
  have HC16 := Lib.hid (rmulf_any (dN) (mulF (y) (y)) dN_b4 (pp_lt (mulF_lt _ _)))
  have HC18 := Lib.hid (radd_any (mulF (dN) (mulF (y) (y))) (1) (pp_lt (mulF_lt _ _)) (by decide))
  have HC20 := Lib.hid (rinv_any (addF (mulF (dN) (mulF (y) (y))) (1)) (pp_lt (addF_lt _ _)))
  have HC22 := Lib.hid (rmulf_any (subF (mulF (y) (y)) (1)) (invF (addF (mulF (dN) (mulF (y) (y))) (1))) (pp_lt (subF_lt _ _)) (pp_lt (invF_lt _)))
  rw [(show mulF (subF (mulF (y) (y)) (1)) (invF (addF (mulF (dN) (mulF (y) (y))) (1))) = fromU (y) from rfl)] at HC22
  have HC25 := Lib.hid (rroot_got (fromU (y)) (pp_lt (mulF_lt _ _)))
  rw [hth] at HC25
  obtain ⟨Nn, hNn⟩ : ∃ zz9, Hid (zz9 = num (n)) := ⟨_, Lib.hid rfl⟩
  have INn : IsNum Nn := by rw [hNn.out]; exact isNum _
  obtain ⟨Yn, hYn⟩ : ∃ zz9, Hid (zz9 = num (y)) := ⟨_, Lib.hid rfl⟩
  have IYn : IsNum Yn := by rw [hYn.out]; exact isNum _
  obtain ⟨ZR1, hZR1⟩ : ∃ zz9, Hid (zz9 = spotV (fun _ => 0) false) := ⟨_, Lib.hid rfl⟩
  have SZZR1 : ZR1.size = 9 := by rw [hZR1.out]; rfl
  obtain ⟨NN2, hNN2⟩ : ∃ zz9, Hid (zz9 = num (0)) := ⟨_, Lib.hid rfl⟩
  have INN2 : IsNum NN2 := by rw [hNN2.out]; exact isNum _
  obtain ⟨NN4, hNN4⟩ : ∃ zz9, Hid (zz9 = num (pp)) := ⟨_, Lib.hid rfl⟩
  have INN4 : IsNum NN4 := by rw [hNN4.out]; exact isNum _
  obtain ⟨NN6, hNN6⟩ : ∃ zz9, Hid (zz9 = num (mulF (y) (y))) := ⟨_, Lib.hid rfl⟩
  have INN6 : IsNum NN6 := by rw [hNN6.out]; exact isNum _
  obtain ⟨NN9, hNN9⟩ : ∃ zz9, Hid (zz9 = num (1)) := ⟨_, Lib.hid rfl⟩
  have INN9 : IsNum NN9 := by rw [hNN9.out]; exact isNum _
  obtain ⟨NN10, hNN10⟩ : ∃ zz9, Hid (zz9 = num (subF (mulF (y) (y)) (1))) := ⟨_, Lib.hid rfl⟩
  have INN10 : IsNum NN10 := by rw [hNN10.out]; exact isNum _
  obtain ⟨ZR12, hZR12⟩ : ∃ zz9, Hid (zz9 = gotV (fun _ => 0) false) := ⟨_, Lib.hid rfl⟩
  have SZZR12 : ZR12.size = 5 := by rw [hZR12.out]; rfl
  obtain ⟨NN14, hNN14⟩ : ∃ zz9, Hid (zz9 = num (dN)) := ⟨_, Lib.hid rfl⟩
  have INN14 : IsNum NN14 := by rw [hNN14.out]; exact isNum _
  obtain ⟨NN15, hNN15⟩ : ∃ zz9, Hid (zz9 = num (mulF (dN) (mulF (y) (y)))) := ⟨_, Lib.hid rfl⟩
  have INN15 : IsNum NN15 := by rw [hNN15.out]; exact isNum _
  obtain ⟨NN17, hNN17⟩ : ∃ zz9, Hid (zz9 = num (addF (mulF (dN) (mulF (y) (y))) (1))) := ⟨_, Lib.hid rfl⟩
  have INN17 : IsNum NN17 := by rw [hNN17.out]; exact isNum _
  obtain ⟨NN19, hNN19⟩ : ∃ zz9, Hid (zz9 = num (invF (addF (mulF (dN) (mulF (y) (y))) (1)))) := ⟨_, Lib.hid rfl⟩
  have INN19 : IsNum NN19 := by rw [hNN19.out]; exact isNum _
  obtain ⟨NN21, hNN21⟩ : ∃ zz9, Hid (zz9 = num (fromU (y))) := ⟨_, Lib.hid rfl⟩
  have INN21 : IsNum NN21 := by rw [hNN21.out]; exact isNum _
  obtain ⟨NN23, hNN23⟩ : ∃ zz9, Hid (zz9 = num ((rootF (fromU (y))).1)) := ⟨_, Lib.hid rfl⟩
  have INN23 : IsNum NN23 := by rw [hNN23.out]; exact isNum _
  obtain ⟨GT24, hGT24⟩ : ∃ zz9, Hid (zz9 = NN23 ++ #[.bool true]) := ⟨_, Lib.hid rfl⟩
  have IGT24 : IsGot GT24 := by rw [hGT24.out]; exact got_of INN23 true
  have SGT24_0 : Part GT24 0 NN23 := by rw [hGT24.out]; exact part_left 0 (part_all NN23) _
  have CGT24_4 : GT24[4]? = some (.bool true) := by rw [hGT24.out]; exact got_b INN23 true
  obtain ⟨PP27, hPP27⟩ : ∃ zz9, Hid (zz9 = NN23 ++ Yn) := ⟨_, Lib.hid rfl⟩
  have IPP27 : IsRw 8 PP27 := by rw [hPP27.out]; exact rw_app (isRw4 INN23) (isRw4 IYn)
  have SPP27_0 : Part PP27 0 NN23 := by rw [hPP27.out]; exact part_left 0 (part_all NN23) Yn
  have SPP27_4 : Part PP27 4 Yn := by rw [hPP27.out]; exact part_right (NN23) Yn 4 (by simp [INN23.size])
  obtain ⟨SP29, hSP29⟩ : ∃ zz9, Hid (zz9 = PP27 ++ #[.bool true]) := ⟨_, Lib.hid rfl⟩
  have ISP29 : IsSpot SP29 := by rw [hSP29.out]; exact spot_of IPP27 true
  have HZ31 : ∀ w, (zeroValue 31).run Tryd.prog w = .ok (.agg ZR1) w := by rw [hZR1.out]; exact zeroT31
  have HZ24 : ∀ w, (zeroValue 24).run Tryd.prog w = .ok (.agg NN2) w := by rw [hNN2.out]; exact zero_run
  have SZNN2 := INN2.size
  have HZ60 : ∀ w, (zeroValue 60).run Tryd.prog w = .ok (.agg ZR12) w := by rw [hZR12.out]; exact zero29
  have BF8 : ∀ w, (Instr.build 24 #[(0, .int .u64 1)]).run Tryd.prog w = .ok (.agg NN9) w := by rw [hNN9.out]; exact build_run 1 (by decide)
  have BF26 : ∀ w, (Instr.build 26 #[(0, .agg NN23), (1, .agg Yn)]).run Tryd.prog w = .ok (.agg PP27) w := by rw [hPP27.out]; exact bp01 INN23 IYn
  have BF28 : ∀ w, (Instr.build 31 #[(0, .agg PP27), (1, .bool true)]).run Tryd.prog w = .ok (.agg SP29) w := by rw [hSP29.out]; exact bs01 IPP27 true
  try simp only [← hNn.out, ← hYn.out, ← hNN2.out, ← hNN4.out, ← hNN6.out, ← hNN9.out, ← hNN10.out, ← hNN14.out, ← hNN15.out, ← hNN17.out, ← hNN19.out, ← hNN21.out, ← hNN23.out] at HC3 HC5 HC7 HC11 HC13 HC16 HC18 HC20 HC22 HC25 HN hset0 hg3 ⊢
  try simp only [← hZR1.out] at HC3 HC5 HC7 HC11 HC13 HC16 HC18 HC20 HC22 HC25 HN hset0 hg3 ⊢
  try simp only [← hPP27.out] at HC3 HC5 HC7 HC11 HC13 HC16 HC18 HC20 HC22 HC25 HN hset0 hg3 ⊢
  try simp only [← hZR12.out] at HC3 HC5 HC7 HC11 HC13 HC16 HC18 HC20 HC22 HC25 HN hset0 hg3 ⊢
  try simp only [← hGT24.out] at HC3 HC5 HC7 HC11 HC13 HC16 HC18 HC20 HC22 HC25 HN hset0 hg3 ⊢
  try simp only [← hSP29.out] at HC3 HC5 HC7 HC11 HC13 HC16 HC18 HC20 HC22 HC25 HN hset0 hg3 ⊢
  clear hNn hYn hZR1 hNN2 hNN4 hNN6 hNN9 hNN10 hZR12 hNN14 hNN15 hNN17 hNN19 hNN21 hNN23 hGT24 hPP27 hSP29 hcb hy hn0 hsz hv0 hn hmod hdiv hyn htop hd64 hd3 hr30 hs30 hyp hq hth
  have hset := Lib.hid hset0
  have CNn_3 := hg3
  clear hset0 hg3
  go_enter Tryd.func12, Tryd.ntmps12
  have HS : Hid (Kt w [] w) := Lib.hid (Kt.nil w)
  go_upto_region 0 with fail
  refine wp_region_list ?_
  refine wpList_run rfl _ (exec_alloc_agg _ 31 rfl _ (HZ31 _)) ?_
  simp only [Act.put, sT, sS, sZ]
  have bg3 := HS.out.1.size
  have HS2 := Lib.hid (HS.out.new ZR1 31)
  clear HS
  generalize w.alloc (.cells ZR1 31) = w1 at *
  refine wpList_nil ?_
  go_upto_region 1 with fail
  refine wp_region_list ?_
  refine wpList_run rfl (.string ⟨(m ++ [b]).toArray⟩) (exec_move (.tmp 0) rfl _ rfl _) ?_
  simp only [Act.put, sT, sS, sZ]
  refine wpList_run rfl (.int .i64 (32 : Int)) (exec_len9 (.tmp 7) rfl ⟨(m ++ [b]).toArray⟩ 32 hlen.out rfl _) ?_
  simp only [Act.put, sT, sS, sZ]
  refine wpList_run rfl (.bool false) (exec_neq32 (.tmp 8) rfl rfl 32 false hnb.out rfl _) ?_
  simp only [Act.put, sT, sS, sZ]
  refine wpList_nil ?_
  go_upto_region 3 with fail
  refine wp_region_list ?_
  refine wpList_run rfl (.string ⟨(m ++ [b]).toArray⟩) (exec_move (.tmp 0) rfl _ rfl _) ?_
  simp only [Act.put, sT, sS, sZ]
  refine wpList_callF rfl 31 #[.tmp 11] #[9] rfl #[.string ⟨(m ++ [b]).toArray⟩] en31 (HN.out _) ?_
  rintro v w4 ⟨he, hb⟩
  cases he
  have HS5 := Lib.hid (HS2.out.below hb)
  clear hb HS2
  simp only [Act.put, sT, sS, sZ]
  refine wpList_run rfl _ (exec_alloc_agg _ 24 rfl _ (HZ24 _)) ?_
  simp only [Act.put, sT, sS, sZ]
  have lg8_0 := HS5.out.lt (w.heap.size) ZR1 31 (by simp)
  have bg8 := HS5.out.1.size
  have HS7 := Lib.hid (HS5.out.new NN2 24)
  clear HS5
  generalize w4.alloc (.cells NN2 24) = w6 at *
  generalize w4.heap.size = g8 at *
  refine wpList_run0 rfl (exec_store24 _ (.tmp 3) (.tmp 12) rfl (g8) rfl Nn INn rfl NN2 24 (HS7.out.get (g8) NN2 24 (by simp)) SZNN2) ?_
  simp only [Act.put, sT, sS, sZ]
  have HS10 : Hid (Kt w [(g8, Nn, 24), (w.heap.size, ZR1, 31)] (w6.setRow (g8) Nn)) := Lib.hid (HS7.out.set (g8) Nn NN2 24 (HS7.out.get (g8) NN2 24 (by simp)) (by omega) (fun p hp => by simp at hp; rcases hp with rfl | rfl <;> first | exact .inl rfl | exact .inr ⟨by simp, by simp only; omega⟩))
  clear HS7
  generalize w6.setRow (g8) Nn = w9 at *
  refine wpList_nil ?_
  go_upto_region 4 with fail
  refine wp_region_list ?_
  refine wpList_run rfl (.pointer (some ⟨g8, 3, none⟩)) (exec_indexAddr24 (.tmp 3) (.const (.int .i64 3)) rfl (g8) 3 rfl rfl (by decide) _) ?_
  simp only [Act.put, sT, sS, sZ]
  refine wpList_run rfl (.int .u64 (d3 : Int)) (exec_load_one _ 22 (.tmp 13) rfl ⟨g8, 3, none⟩ rfl _ (cell_part (HS10.out.get (g8) Nn 24 (by simp)) 3 _ CNn_3) _ Tryd.underlying22 rfl) ?_
  simp only [Act.put, sT, sS, sZ]
  refine wpList_run rfl (.int .u64 (0 : Int)) (exec_shr63 (.tmp 14) rfl rfl d3 0 h63.out rfl _) ?_
  simp only [Act.put, sT, sS, sZ]
  refine wpList_run rfl (.int .u64 (0 : Int)) (exec_assign (.tmp 15) rfl _ rfl _) ?_
  simp only [Act.put, sT, sS, sZ]
  refine wpList_nil ?_
  go_upto_region 5 with fail
  refine wp_region_list ?_
  refine wpList_run rfl (.pointer (some ⟨g8, 3, none⟩)) (exec_indexAddr24 (.tmp 3) (.const (.int .i64 3)) rfl (g8) 3 rfl rfl (by decide) _) ?_
  simp only [Act.put, sT, sS, sZ]
  refine wpList_run rfl (.int .u64 (d3 : Int)) (exec_load_one _ 22 (.tmp 16) rfl ⟨g8, 3, none⟩ rfl _ (cell_part (HS10.out.get (g8) Nn 24 (by simp)) 3 _ CNn_3) _ Tryd.underlying22 rfl) ?_
  simp only [Act.put, sT, sS, sZ]
  refine wpList_run rfl (.int .u64 (s3 : Int)) (exec_shl1 (.tmp 17) rfl rfl d3 s3 hs3.out rfl _) ?_
  simp only [Act.put, sT, sS, sZ]
  refine wpList_run rfl (.int .u64 (r3 : Int)) (exec_shr1 (.tmp 18) rfl rfl s3 r3 hr3.out rfl _) ?_
  simp only [Act.put, sT, sS, sZ]
  refine wpList_run rfl (.pointer (some ⟨g8, 3, none⟩)) (exec_indexAddr24 (.tmp 3) (.const (.int .i64 3)) rfl (g8) 3 rfl rfl (by decide) _) ?_
  simp only [Act.put, sT, sS, sZ]
  refine wpList_run0 rfl (exec_store22 _ (.tmp 20) (.tmp 19) rfl (g8) 3 rfl r3 rfl Nn Yn 24 (HS10.out.get (g8) Nn 24 (by simp)) CNn_3 hset.out) ?_
  simp only [Act.put, sT, sS, sZ]
  have HS12 : Hid (Kt w [(g8, Yn, 24), (w.heap.size, ZR1, 31)] (w9.setRow (g8) Yn)) := Lib.hid (HS10.out.set (g8) Yn Nn 24 (HS10.out.get (g8) Nn 24 (by simp)) (by omega) (fun p hp => by simp at hp; rcases hp with rfl | rfl <;> first | exact .inl rfl | exact .inr ⟨by simp, by simp only; omega⟩))
  clear HS10
  generalize w9.setRow (g8) Yn = w11 at *
  refine wpList_nil ?_
  go_upto_region 6 with fail
  refine wp_cut (fun a' W' => a' = { tmps := #[.string ⟨(m ++ [b]).toArray⟩, undef, .pointer (some ⟨w.heap.size, 0, none⟩), .pointer (some ⟨g8, 0, none⟩), .int .u64 (0 : Int), undef, undef, .string ⟨(m ++ [b]).toArray⟩, .int .i64 (32 : Int), .bool false, undef, .string ⟨(m ++ [b]).toArray⟩, .agg Nn, .pointer (some ⟨g8, 3, none⟩), .int .u64 (d3 : Int), .int .u64 (0 : Int), .pointer (some ⟨g8, 3, none⟩), .int .u64 (d3 : Int), .int .u64 (s3 : Int), .int .u64 (r3 : Int), .pointer (some ⟨g8, 3, none⟩), .agg Yn, .agg NN4, .bool true, .bool false, undef, undef, undef, undef, undef, undef, undef, undef, undef, undef, undef, undef, undef, undef, undef, undef, undef, undef, undef, undef, undef, undef, undef, undef, undef, undef, undef, undef, undef, undef, undef, undef, undef, undef, undef, undef, undef, undef, undef, undef, undef], defers := [] } ∧ Kt w [(g8, Yn, 24), (w.heap.size, ZR1, 31)] W') ?_ ?_
  · refine wp_region_any (by kernel_rfl) ?_
    change wpAny _ _ _ _ _ _ _ (World.drew _)
    have HDq13x1 := HS12.out.drew
    clear HS12
    generalize w11.drew = wdq13x2 at *
    refine any_of_F (S := Kt w [(g8, Yn, 24), (w.heap.size, ZR1, 31)]) (f := 1000) _ _ _ _ ?_
    refine tkG 0 (some 21) (.load 24 (.tmp 3)) none (.agg Yn) (fun o ho w2 hw => exec_load_of _ 24 (.tmp 3) ho ⟨g8, 0, none⟩ rfl _ (loadA24 IYn (hw.get (g8) Yn 24 (by simp)))) HDq13x1 ?_
    simp only [Act.put, sT, sS, sZ]
    refine rdy [1] (rcl (some 22) 33 #[] #[] #[] en33 _ (HC3.out _) ?_ ReadyF.nil)
    rintro v wq13x11 ⟨he, hb⟩
    cases he
    have Hq13x12 := HDq13x1.below hb
    clear hb
    refine ⟨Hq13x12, ?_⟩
    simp only [Act.put, sT, sS, sZ]
    refine rdy [2] (rcl (some 23) 32 #[.tmp 21, .tmp 22] #[24, 24] #[.agg Yn, .agg NN4] en32 _ (HC5.out _) ?_ ReadyF.nil)
    rintro v wq13x13 ⟨he, hb⟩
    cases he
    have Hq13x14 := Hq13x12.below hb
    clear hb
    refine ⟨Hq13x14, ?_⟩
    simp only [Act.put, sT, sS, sZ]
    refine tkG 3 (some 24) (.unOp .not 4 (.tmp 23)) none (.bool false) (fun o ho w2 hw => exec_notv (.tmp 23) ho _ rfl false rfl w2) Hq13x14 ?_
    simp only [Act.put, sT, sS, sZ]
    refine AnyF.done (by kernel_rfl) ?_ _
    refine nrm_intro ⟨rfl, Hq13x14.sub (fun p hp => by simp at hp; rcases hp with rfl | rfl <;> simp)⟩
  rintro a' w14 ⟨rfl, hk⟩
  have HS15 := Lib.hid hk
  clear hk HS12
  go_upto_region 8 with fail
  refine wp_region_list ?_
  refine wpList_run rfl (.agg Yn) (exec_load_of _ 24 (.tmp 3) rfl ⟨g8, 0, none⟩ rfl _ (loadA24 IYn (HS15.out.get (g8) Yn 24 (by simp)))) ?_
  simp only [Act.put, sT, sS, sZ]
  refine wpList_run rfl (.agg Yn) (exec_load_of _ 24 (.tmp 3) rfl ⟨g8, 0, none⟩ rfl _ (loadA24 IYn (HS15.out.get (g8) Yn 24 (by simp)))) ?_
  simp only [Act.put, sT, sS, sZ]
  refine wpList_callF rfl 34 #[.tmp 26, .tmp 27] #[24, 24] rfl #[.agg Yn, .agg Yn] en34 (HC7.out _) ?_
  rintro v w16 ⟨he, hb⟩
  cases he
  have HS17 := Lib.hid (HS15.out.below hb)
  clear hb HS15
  simp only [Act.put, sT, sS, sZ]
  refine wpList_run rfl _ (exec_alloc_agg _ 24 rfl _ (HZ24 _)) ?_
  simp only [Act.put, sT, sS, sZ]
  have lg20_0 := HS17.out.lt (g8) Yn 24 (by simp)
  have lg20_1 := HS17.out.lt (w.heap.size) ZR1 31 (by simp)
  have bg20 := HS17.out.1.size
  have HS19 := Lib.hid (HS17.out.new NN2 24)
  clear HS17
  generalize w16.alloc (.cells NN2 24) = w18 at *
  generalize w16.heap.size = g20 at *
  refine wpList_run0 rfl (exec_store24 _ (.tmp 5) (.tmp 28) rfl (g20) rfl NN6 INN6 rfl NN2 24 (HS19.out.get (g20) NN2 24 (by simp)) SZNN2) ?_
  simp only [Act.put, sT, sS, sZ]
  have HS22 : Hid (Kt w [(g20, NN6, 24), (g8, Yn, 24), (w.heap.size, ZR1, 31)] (w18.setRow (g20) NN6)) := Lib.hid (HS19.out.set (g20) NN6 NN2 24 (HS19.out.get (g20) NN2 24 (by simp)) (by omega) (fun p hp => by simp at hp; rcases hp with rfl | rfl | rfl <;> first | exact .inl rfl | exact .inr ⟨by simp, by simp only; omega⟩))
  clear HS19
  generalize w18.setRow (g20) NN6 = w21 at *
  refine wpList_nil ?_
  go_upto_region 9 with fail
  refine wp_cut (fun a' W' => ∃ gq23s0, a' = { tmps := #[.string ⟨(m ++ [b]).toArray⟩, undef, .pointer (some ⟨w.heap.size, 0, none⟩), .pointer (some ⟨g8, 0, none⟩), .int .u64 (0 : Int), .pointer (some ⟨g20, 0, none⟩), .pointer (some ⟨gq23s0, 0, none⟩), .string ⟨(m ++ [b]).toArray⟩, .int .i64 (32 : Int), .bool false, undef, .string ⟨(m ++ [b]).toArray⟩, .agg Nn, .pointer (some ⟨g8, 3, none⟩), .int .u64 (d3 : Int), .int .u64 (0 : Int), .pointer (some ⟨g8, 3, none⟩), .int .u64 (d3 : Int), .int .u64 (s3 : Int), .int .u64 (r3 : Int), .pointer (some ⟨g8, 3, none⟩), .agg Yn, .agg NN4, .bool true, .bool false, undef, .agg Yn, .agg Yn, .agg NN6, .agg NN6, .agg NN9, .agg NN10, .agg NN14, .agg NN6, .agg NN15, .agg NN9, .agg NN17, .agg NN19, .agg NN21, .agg GT24, undef, undef, undef, undef, undef, undef, undef, undef, undef, undef, undef, undef, undef, undef, undef, undef, undef, undef, undef, undef, undef, undef, undef, undef, undef, undef], defers := [] } ∧ Kt w [(g8, Yn, 24), (w.heap.size, ZR1, 31), (gq23s0, GT24, 60)] W' ∧ w.heap.size ≤ gq23s0 ∧ gq23s0 ≠ g20 ∧ gq23s0 ≠ g8 ∧ gq23s0 ≠ w.heap.size) ?_ ?_
  · refine wp_region_any (by kernel_rfl) ?_
    change wpAny _ _ _ _ _ _ _ (World.drew _)
    have HDq23x1 := HS22.out.drew
    clear HS22
    generalize w21.drew = wdq23x2 at *
    refine any_of_F (S := Kt w [(g20, NN6, 24), (g8, Yn, 24), (w.heap.size, ZR1, 31)]) (f := 1000) _ _ _ _ ?_
    refine F_have 1 #[true, true, true, true, true, true, true, true, true, true, true, true, false] (fun a W => ∃ gjq23_0_0, a = { tmps := #[.string ⟨(m ++ [b]).toArray⟩, undef, .pointer (some ⟨w.heap.size, 0, none⟩), .pointer (some ⟨g8, 0, none⟩), .int .u64 (0 : Int), .pointer (some ⟨g20, 0, none⟩), .pointer (some ⟨gjq23_0_0, 0, none⟩), .string ⟨(m ++ [b]).toArray⟩, .int .i64 (32 : Int), .bool false, undef, .string ⟨(m ++ [b]).toArray⟩, .agg Nn, .pointer (some ⟨g8, 3, none⟩), .int .u64 (d3 : Int), .int .u64 (0 : Int), .pointer (some ⟨g8, 3, none⟩), .int .u64 (d3 : Int), .int .u64 (s3 : Int), .int .u64 (r3 : Int), .pointer (some ⟨g8, 3, none⟩), .agg Yn, .agg NN4, .bool true, .bool false, undef, .agg Yn, .agg Yn, .agg NN6, .agg NN6, .agg NN9, .agg NN10, .agg NN14, .agg NN6, .agg NN15, .agg NN9, .agg NN17, .agg NN19, .agg NN21, .agg GT24, undef, undef, undef, undef, undef, undef, undef, undef, undef, undef, undef, undef, undef, undef, undef, undef, undef, undef, undef, undef, undef, undef, undef, undef, undef, undef], defers := [] } ∧ Kt w [(g20, NN6, 24), (g8, Yn, 24), (w.heap.size, ZR1, 31)] W ∧ Kt w [(gjq23_0_0, ZR12, 60)] W ∧ w.heap.size ≤ gjq23_0_0 ∧ gjq23_0_0 ≠ g20 ∧ gjq23_0_0 ≠ g8 ∧ gjq23_0_0 ≠ w.heap.size) ?_ ?_
    · rintro a wq23x11 ⟨gjq23_0_0, rfl, Hq23x12, Eq23x13, fJq23_0_0, fJq23_0_1, fJq23_0_2, fJq23_0_3⟩
      refine rdy [12] (ReadyF.op0 (.store 60 (.tmp 6) (.tmp 39)) rfl (fun o ho => exec_store29 wq23x11 (.tmp 6) (.tmp 39) ho (gjq23_0_0) rfl GT24 IGT24 rfl ZR12 60 (Eq23x13.get (gjq23_0_0) ZR12 60 (by simp)) SZZR12) (Hq23x12.set (gjq23_0_0) GT24 ZR12 60 (Eq23x13.get (gjq23_0_0) ZR12 60 (by simp)) (by omega) (fun p hp => by simp at hp; rcases hp with rfl | rfl | rfl <;> exact .inr ⟨by simp, by simp only; omega⟩)) ?_ ReadyF.nil)
      have Hq23x15 := Hq23x12.set (gjq23_0_0) GT24 ZR12 60 (Eq23x13.get (gjq23_0_0) ZR12 60 (by simp)) (by omega) (m := [(g20, NN6, 24), (g8, Yn, 24), (w.heap.size, ZR1, 31)]) (fun p hp => by simp at hp; rcases hp with rfl | rfl | rfl <;> exact .inr ⟨by simp, by simp only; omega⟩)
      have Eq23x16 := Eq23x13.set (gjq23_0_0) GT24 ZR12 60 (Eq23x13.get (gjq23_0_0) ZR12 60 (by simp)) (by omega) (m := [(gjq23_0_0, GT24, 60)]) (fun p hp => by simp at hp; subst hp; first | exact .inl rfl | exact .inr ⟨by simp, by simp only; omega⟩)
      generalize wq23x11.setRow (gjq23_0_0) GT24 = wq23x14 at *
      refine AnyF.done (by kernel_rfl) ?_ _
      refine nrm_intro ⟨gjq23_0_0, rfl, (Hq23x15.app Eq23x16).sub (fun p hp => by simp at hp; rcases hp with rfl | rfl | rfl <;> simp), by omega, by omega, by omega, by omega⟩
    intro Jq23_0
    refine F_have 2 #[true, true, true, true, true, true, true, true, true, true, false, true, false] (fun a W => ∃ gjq23_1_0, a = { tmps := #[.string ⟨(m ++ [b]).toArray⟩, undef, .pointer (some ⟨w.heap.size, 0, none⟩), .pointer (some ⟨g8, 0, none⟩), .int .u64 (0 : Int), .pointer (some ⟨g20, 0, none⟩), .pointer (some ⟨gjq23_1_0, 0, none⟩), .string ⟨(m ++ [b]).toArray⟩, .int .i64 (32 : Int), .bool false, undef, .string ⟨(m ++ [b]).toArray⟩, .agg Nn, .pointer (some ⟨g8, 3, none⟩), .int .u64 (d3 : Int), .int .u64 (0 : Int), .pointer (some ⟨g8, 3, none⟩), .int .u64 (d3 : Int), .int .u64 (s3 : Int), .int .u64 (r3 : Int), .pointer (some ⟨g8, 3, none⟩), .agg Yn, .agg NN4, .bool true, .bool false, undef, .agg Yn, .agg Yn, .agg NN6, .agg NN6, .agg NN9, .agg NN10, .agg NN14, .agg NN6, .agg NN15, .agg NN9, .agg NN17, .agg NN19, .agg NN21, undef, undef, undef, undef, undef, undef, undef, undef, undef, undef, undef, undef, undef, undef, undef, undef, undef, undef, undef, undef, undef, undef, undef, undef, undef, undef, undef], defers := [] } ∧ Kt w [(g20, NN6, 24), (g8, Yn, 24), (w.heap.size, ZR1, 31)] W ∧ Kt w [(gjq23_1_0, ZR12, 60)] W ∧ w.heap.size ≤ gjq23_1_0 ∧ gjq23_1_0 ≠ g20 ∧ gjq23_1_0 ≠ g8 ∧ gjq23_1_0 ≠ w.heap.size) ?_ ?_
    · rintro a wq23x17 ⟨gjq23_1_0, rfl, Hq23x18, Eq23x19, fJq23_1_0, fJq23_1_1, fJq23_1_2, fJq23_1_3⟩
      refine rdy [10] (rcl (some 39) 35 #[.tmp 38] #[24] #[.agg NN21] en35 _ (HC25.out _) ?_ ReadyF.nil)
      rintro v wq23x20 ⟨he, hb⟩
      cases he
      have Hq23x21 := Hq23x18.below hb
      have Eq23x22 := Eq23x19.below hb
      clear hb
      refine ⟨Hq23x21, ?_⟩
      simp only [Act.put, sT, sS, sZ]
      exact F_to (by kernel_rfl) (by kernel_rfl) (Jq23_0 _ _ ⟨gjq23_1_0, rfl, Hq23x21, Eq23x22, by omega, by omega, by omega, by omega⟩)
    intro Jq23_1
    refine F_have 3 #[true, true, true, true, true, true, true, true, true, false, false, true, false] (fun a W => ∃ gjq23_2_0, a = { tmps := #[.string ⟨(m ++ [b]).toArray⟩, undef, .pointer (some ⟨w.heap.size, 0, none⟩), .pointer (some ⟨g8, 0, none⟩), .int .u64 (0 : Int), .pointer (some ⟨g20, 0, none⟩), .pointer (some ⟨gjq23_2_0, 0, none⟩), .string ⟨(m ++ [b]).toArray⟩, .int .i64 (32 : Int), .bool false, undef, .string ⟨(m ++ [b]).toArray⟩, .agg Nn, .pointer (some ⟨g8, 3, none⟩), .int .u64 (d3 : Int), .int .u64 (0 : Int), .pointer (some ⟨g8, 3, none⟩), .int .u64 (d3 : Int), .int .u64 (s3 : Int), .int .u64 (r3 : Int), .pointer (some ⟨g8, 3, none⟩), .agg Yn, .agg NN4, .bool true, .bool false, undef, .agg Yn, .agg Yn, .agg NN6, .agg NN6, .agg NN9, .agg NN10, .agg NN14, .agg NN6, .agg NN15, .agg NN9, .agg NN17, .agg NN19, undef, undef, undef, undef, undef, undef, undef, undef, undef, undef, undef, undef, undef, undef, undef, undef, undef, undef, undef, undef, undef, undef, undef, undef, undef, undef, undef, undef], defers := [] } ∧ Kt w [(g20, NN6, 24), (g8, Yn, 24), (w.heap.size, ZR1, 31)] W ∧ Kt w [(gjq23_2_0, ZR12, 60)] W ∧ w.heap.size ≤ gjq23_2_0 ∧ gjq23_2_0 ≠ g20 ∧ gjq23_2_0 ≠ g8 ∧ gjq23_2_0 ≠ w.heap.size) ?_ ?_
    · rintro a wq23x23 ⟨gjq23_2_0, rfl, Hq23x24, Eq23x25, fJq23_2_0, fJq23_2_1, fJq23_2_2, fJq23_2_3⟩
      refine rdy [9] (rcl (some 38) 34 #[.tmp 31, .tmp 37] #[24, 24] #[.agg NN10, .agg NN19] en34 _ (HC22.out _) ?_ ReadyF.nil)
      rintro v wq23x26 ⟨he, hb⟩
      cases he
      have Hq23x27 := Hq23x24.below hb
      have Eq23x28 := Eq23x25.below hb
      clear hb
      refine ⟨Hq23x27, ?_⟩
      simp only [Act.put, sT, sS, sZ]
      exact F_to (by kernel_rfl) (by kernel_rfl) (Jq23_1 _ _ ⟨gjq23_2_0, rfl, Hq23x27, Eq23x28, by omega, by omega, by omega, by omega⟩)
    intro Jq23_2
    refine F_have 4 #[true, true, true, true, true, true, true, true, false, false, false, true, false] (fun a W => ∃ gjq23_3_0, a = { tmps := #[.string ⟨(m ++ [b]).toArray⟩, undef, .pointer (some ⟨w.heap.size, 0, none⟩), .pointer (some ⟨g8, 0, none⟩), .int .u64 (0 : Int), .pointer (some ⟨g20, 0, none⟩), .pointer (some ⟨gjq23_3_0, 0, none⟩), .string ⟨(m ++ [b]).toArray⟩, .int .i64 (32 : Int), .bool false, undef, .string ⟨(m ++ [b]).toArray⟩, .agg Nn, .pointer (some ⟨g8, 3, none⟩), .int .u64 (d3 : Int), .int .u64 (0 : Int), .pointer (some ⟨g8, 3, none⟩), .int .u64 (d3 : Int), .int .u64 (s3 : Int), .int .u64 (r3 : Int), .pointer (some ⟨g8, 3, none⟩), .agg Yn, .agg NN4, .bool true, .bool false, undef, .agg Yn, .agg Yn, .agg NN6, .agg NN6, .agg NN9, .agg NN10, .agg NN14, .agg NN6, .agg NN15, .agg NN9, .agg NN17, undef, undef, undef, undef, undef, undef, undef, undef, undef, undef, undef, undef, undef, undef, undef, undef, undef, undef, undef, undef, undef, undef, undef, undef, undef, undef, undef, undef, undef], defers := [] } ∧ Kt w [(g20, NN6, 24), (g8, Yn, 24), (w.heap.size, ZR1, 31)] W ∧ Kt w [(gjq23_3_0, ZR12, 60)] W ∧ w.heap.size ≤ gjq23_3_0 ∧ gjq23_3_0 ≠ g20 ∧ gjq23_3_0 ≠ g8 ∧ gjq23_3_0 ≠ w.heap.size) ?_ ?_
    · rintro a wq23x29 ⟨gjq23_3_0, rfl, Hq23x30, Eq23x31, fJq23_3_0, fJq23_3_1, fJq23_3_2, fJq23_3_3⟩
      refine rdy [8] (rcl (some 37) 36 #[.tmp 36] #[24] #[.agg NN17] en36 _ (HC20.out _) ?_ ReadyF.nil)
      rintro v wq23x32 ⟨he, hb⟩
      cases he
      have Hq23x33 := Hq23x30.below hb
      have Eq23x34 := Eq23x31.below hb
      clear hb
      refine ⟨Hq23x33, ?_⟩
      simp only [Act.put, sT, sS, sZ]
      exact F_to (by kernel_rfl) (by kernel_rfl) (Jq23_2 _ _ ⟨gjq23_3_0, rfl, Hq23x33, Eq23x34, by omega, by omega, by omega, by omega⟩)
    intro Jq23_3
    refine F_have 5 #[true, true, true, true, true, true, true, false, false, false, false, true, false] (fun a W => ∃ gjq23_4_0, a = { tmps := #[.string ⟨(m ++ [b]).toArray⟩, undef, .pointer (some ⟨w.heap.size, 0, none⟩), .pointer (some ⟨g8, 0, none⟩), .int .u64 (0 : Int), .pointer (some ⟨g20, 0, none⟩), .pointer (some ⟨gjq23_4_0, 0, none⟩), .string ⟨(m ++ [b]).toArray⟩, .int .i64 (32 : Int), .bool false, undef, .string ⟨(m ++ [b]).toArray⟩, .agg Nn, .pointer (some ⟨g8, 3, none⟩), .int .u64 (d3 : Int), .int .u64 (0 : Int), .pointer (some ⟨g8, 3, none⟩), .int .u64 (d3 : Int), .int .u64 (s3 : Int), .int .u64 (r3 : Int), .pointer (some ⟨g8, 3, none⟩), .agg Yn, .agg NN4, .bool true, .bool false, undef, .agg Yn, .agg Yn, .agg NN6, .agg NN6, .agg NN9, .agg NN10, .agg NN14, .agg NN6, .agg NN15, .agg NN9, undef, undef, undef, undef, undef, undef, undef, undef, undef, undef, undef, undef, undef, undef, undef, undef, undef, undef, undef, undef, undef, undef, undef, undef, undef, undef, undef, undef, undef, undef], defers := [] } ∧ Kt w [(g20, NN6, 24), (g8, Yn, 24), (w.heap.size, ZR1, 31)] W ∧ Kt w [(gjq23_4_0, ZR12, 60)] W ∧ w.heap.size ≤ gjq23_4_0 ∧ gjq23_4_0 ≠ g20 ∧ gjq23_4_0 ≠ g8 ∧ gjq23_4_0 ≠ w.heap.size) ?_ ?_
    · rintro a wq23x35 ⟨gjq23_4_0, rfl, Hq23x36, Eq23x37, fJq23_4_0, fJq23_4_1, fJq23_4_2, fJq23_4_3⟩
      refine rdy [7] (rcl (some 36) 37 #[.tmp 34, .tmp 35] #[24, 24] #[.agg NN15, .agg NN9] en37 _ (HC18.out _) ?_ ReadyF.nil)
      rintro v wq23x38 ⟨he, hb⟩
      cases he
      have Hq23x39 := Hq23x36.below hb
      have Eq23x40 := Eq23x37.below hb
      clear hb
      refine ⟨Hq23x39, ?_⟩
      simp only [Act.put, sT, sS, sZ]
      exact F_to (by kernel_rfl) (by kernel_rfl) (Jq23_3 _ _ ⟨gjq23_4_0, rfl, Hq23x39, Eq23x40, by omega, by omega, by omega, by omega⟩)
    intro Jq23_4
    refine F_have 6 #[true, true, true, true, true, false, true, false, false, false, false, true, false] (fun a W => ∃ gjq23_5_0, a = { tmps := #[.string ⟨(m ++ [b]).toArray⟩, undef, .pointer (some ⟨w.heap.size, 0, none⟩), .pointer (some ⟨g8, 0, none⟩), .int .u64 (0 : Int), .pointer (some ⟨g20, 0, none⟩), .pointer (some ⟨gjq23_5_0, 0, none⟩), .string ⟨(m ++ [b]).toArray⟩, .int .i64 (32 : Int), .bool false, undef, .string ⟨(m ++ [b]).toArray⟩, .agg Nn, .pointer (some ⟨g8, 3, none⟩), .int .u64 (d3 : Int), .int .u64 (0 : Int), .pointer (some ⟨g8, 3, none⟩), .int .u64 (d3 : Int), .int .u64 (s3 : Int), .int .u64 (r3 : Int), .pointer (some ⟨g8, 3, none⟩), .agg Yn, .agg NN4, .bool true, .bool false, undef, .agg Yn, .agg Yn, .agg NN6, .agg NN6, .agg NN9, .agg NN10, .agg NN14, .agg NN6, undef, .agg NN9, undef, undef, undef, undef, undef, undef, undef, undef, undef, undef, undef, undef, undef, undef, undef, undef, undef, undef, undef, undef, undef, undef, undef, undef, undef, undef, undef, undef, undef, undef], defers := [] } ∧ Kt w [(g20, NN6, 24), (g8, Yn, 24), (w.heap.size, ZR1, 31)] W ∧ Kt w [(gjq23_5_0, ZR12, 60)] W ∧ w.heap.size ≤ gjq23_5_0 ∧ gjq23_5_0 ≠ g20 ∧ gjq23_5_0 ≠ g8 ∧ gjq23_5_0 ≠ w.heap.size) ?_ ?_
    · rintro a wq23x41 ⟨gjq23_5_0, rfl, Hq23x42, Eq23x43, fJq23_5_0, fJq23_5_1, fJq23_5_2, fJq23_5_3⟩
      refine rdy [5] (rcl (some 34) 34 #[.tmp 32, .tmp 33] #[24, 24] #[.agg NN14, .agg NN6] en34 _ (HC16.out _) ?_ ReadyF.nil)
      rintro v wq23x44 ⟨he, hb⟩
      cases he
      have Hq23x45 := Hq23x42.below hb
      have Eq23x46 := Eq23x43.below hb
      clear hb
      refine ⟨Hq23x45, ?_⟩
      simp only [Act.put, sT, sS, sZ]
      exact F_to (by kernel_rfl) (by kernel_rfl) (Jq23_4 _ _ ⟨gjq23_5_0, rfl, Hq23x45, Eq23x46, by omega, by omega, by omega, by omega⟩)
    intro Jq23_5
    refine F_have 7 #[true, true, true, false, true, false, true, false, false, false, false, true, false] (fun a W => ∃ gjq23_6_0, a = { tmps := #[.string ⟨(m ++ [b]).toArray⟩, undef, .pointer (some ⟨w.heap.size, 0, none⟩), .pointer (some ⟨g8, 0, none⟩), .int .u64 (0 : Int), .pointer (some ⟨g20, 0, none⟩), .pointer (some ⟨gjq23_6_0, 0, none⟩), .string ⟨(m ++ [b]).toArray⟩, .int .i64 (32 : Int), .bool false, undef, .string ⟨(m ++ [b]).toArray⟩, .agg Nn, .pointer (some ⟨g8, 3, none⟩), .int .u64 (d3 : Int), .int .u64 (0 : Int), .pointer (some ⟨g8, 3, none⟩), .int .u64 (d3 : Int), .int .u64 (s3 : Int), .int .u64 (r3 : Int), .pointer (some ⟨g8, 3, none⟩), .agg Yn, .agg NN4, .bool true, .bool false, undef, .agg Yn, .agg Yn, .agg NN6, .agg NN6, .agg NN9, .agg NN10, undef, .agg NN6, undef, .agg NN9, undef, undef, undef, undef, undef, undef, undef, undef, undef, undef, undef, undef, undef, undef, undef, undef, undef, undef, undef, undef, undef, undef, undef, undef, undef, undef, undef, undef, undef, undef], defers := [] } ∧ Kt w [(g20, NN6, 24), (g8, Yn, 24), (w.heap.size, ZR1, 31)] W ∧ Kt w [(gjq23_6_0, ZR12, 60)] W ∧ w.heap.size ≤ gjq23_6_0 ∧ gjq23_6_0 ≠ g20 ∧ gjq23_6_0 ≠ g8 ∧ gjq23_6_0 ≠ w.heap.size) ?_ ?_
    · rintro a wq23x47 ⟨gjq23_6_0, rfl, Hq23x48, Eq23x49, fJq23_6_0, fJq23_6_1, fJq23_6_2, fJq23_6_3⟩
      refine rdy [3] (rcl (some 32) 38 #[] #[] #[] en38 _ (HC13.out _) ?_ ReadyF.nil)
      rintro v wq23x50 ⟨he, hb⟩
      cases he
      have Hq23x51 := Hq23x48.below hb
      have Eq23x52 := Eq23x49.below hb
      clear hb
      refine ⟨Hq23x51, ?_⟩
      simp only [Act.put, sT, sS, sZ]
      exact F_to (by kernel_rfl) (by kernel_rfl) (Jq23_5 _ _ ⟨gjq23_6_0, rfl, Hq23x51, Eq23x52, by omega, by omega, by omega, by omega⟩)
    intro Jq23_6
    refine tkG 0 (some 29) (.load 24 (.tmp 5)) none (.agg NN6) (fun o ho w2 hw => exec_load_of _ 24 (.tmp 5) ho ⟨g20, 0, none⟩ rfl _ (loadA24 INN6 (hw.get (g20) NN6 24 (by simp)))) HDq23x1 ?_
    simp only [Act.put, sT, sS, sZ]
    refine tkG 1 (some 30) (.build 24 #[(0, .const (.int .u64 1))]) none (.agg NN9) (fun o ho w2 hw => exec_buildN _ 24 #[(0, .const (.int .u64 1))] ho #[(0, .int .u64 1)] (by simp [Act.eval]) _ (BF8 _)) HDq23x1 ?_
    simp only [Act.put, sT, sS, sZ]
    refine tkG 4 (some 33) (.load 24 (.tmp 5)) none (.agg NN6) (fun o ho w2 hw => exec_load_of _ 24 (.tmp 5) ho ⟨g20, 0, none⟩ rfl _ (loadA24 INN6 (hw.get (g20) NN6 24 (by simp)))) HDq23x1 ?_
    simp only [Act.put, sT, sS, sZ]
    refine tkG 6 (some 35) (.build 24 #[(0, .const (.int .u64 1))]) none (.agg NN9) (fun o ho w2 hw => exec_buildN _ 24 #[(0, .const (.int .u64 1))] ho #[(0, .int .u64 1)] (by simp [Act.eval]) _ (BF8 _)) HDq23x1 ?_
    simp only [Act.put, sT, sS, sZ]
    refine rdy [2, 11] (rcl (some 31) 24 #[.tmp 29, .tmp 30] #[24, 24] #[.agg NN6, .agg NN9] en24 _ (HC11.out _) ?_ (ral 6 60 HZ60 (HDq23x1.alloc _) ?_ ReadyF.nil))
    · rintro v wq23x53 ⟨he, hb⟩
      cases he
      have Hq23x54 := HDq23x1.below hb
      clear hb
      refine ⟨Hq23x54, ?_⟩
      simp only [Act.put, sT, sS, sZ]
      refine rdy [3, 11] (rcl (some 32) 38 #[] #[] #[] en38 _ (HC13.out _) ?_ (ral 6 60 HZ60 (Hq23x54.alloc _) ?_ ReadyF.nil))
      · rintro v wq23x55 ⟨he, hb⟩
        cases he
        have Hq23x56 := Hq23x54.below hb
        clear hb
        refine ⟨Hq23x56, ?_⟩
        simp only [Act.put, sT, sS, sZ]
        refine rdy [5, 11] (rcl (some 34) 34 #[.tmp 32, .tmp 33] #[24, 24] #[.agg NN14, .agg NN6] en34 _ (HC16.out _) ?_ (ral 6 60 HZ60 (Hq23x56.alloc _) ?_ ReadyF.nil))
        · rintro v wq23x57 ⟨he, hb⟩
          cases he
          have Hq23x58 := Hq23x56.below hb
          clear hb
          refine ⟨Hq23x58, ?_⟩
          simp only [Act.put, sT, sS, sZ]
          refine rdy [7, 11] (rcl (some 36) 37 #[.tmp 34, .tmp 35] #[24, 24] #[.agg NN15, .agg NN9] en37 _ (HC18.out _) ?_ (ral 6 60 HZ60 (Hq23x58.alloc _) ?_ ReadyF.nil))
          · rintro v wq23x59 ⟨he, hb⟩
            cases he
            have Hq23x60 := Hq23x58.below hb
            clear hb
            refine ⟨Hq23x60, ?_⟩
            simp only [Act.put, sT, sS, sZ]
            refine rdy [8, 11] (rcl (some 37) 36 #[.tmp 36] #[24] #[.agg NN17] en36 _ (HC20.out _) ?_ (ral 6 60 HZ60 (Hq23x60.alloc _) ?_ ReadyF.nil))
            · rintro v wq23x61 ⟨he, hb⟩
              cases he
              have Hq23x62 := Hq23x60.below hb
              clear hb
              refine ⟨Hq23x62, ?_⟩
              simp only [Act.put, sT, sS, sZ]
              refine rdy [9, 11] (rcl (some 38) 34 #[.tmp 31, .tmp 37] #[24, 24] #[.agg NN10, .agg NN19] en34 _ (HC22.out _) ?_ (ral 6 60 HZ60 (Hq23x62.alloc _) ?_ ReadyF.nil))
              · rintro v wq23x63 ⟨he, hb⟩
                cases he
                have Hq23x64 := Hq23x62.below hb
                clear hb
                refine ⟨Hq23x64, ?_⟩
                simp only [Act.put, sT, sS, sZ]
                refine rdy [10, 11] (rcl (some 39) 35 #[.tmp 38] #[24] #[.agg NN21] en35 _ (HC25.out _) ?_ (ral 6 60 HZ60 (Hq23x64.alloc _) ?_ ReadyF.nil))
                · rintro v wq23x65 ⟨he, hb⟩
                  cases he
                  have Hq23x66 := Hq23x64.below hb
                  clear hb
                  refine ⟨Hq23x66, ?_⟩
                  simp only [Act.put, sT, sS, sZ]
                  refine rdy [11] (ral 6 60 HZ60 (Hq23x66.alloc _) ?_ ReadyF.nil)
                  have l0wq23x67 := Hq23x66.lt (g20) NN6 24 (by simp)
                  have l1wq23x67 := Hq23x66.lt (g8) Yn 24 (by simp)
                  have l2wq23x67 := Hq23x66.lt (w.heap.size) ZR1 31 (by simp)
                  have bwq23x67 := Hq23x66.1.size
                  have Hq23x68 := Hq23x66.alloc (.cells ZR12 60)
                  have Eq23x69 := (Hq23x66.sub (m := []) (fun p hp => by cases hp)).new ZR12 60
                  simp only [Act.put, sT, sS, sZ]
                  obtain ⟨wq23x67, hwq23x67⟩ : ∃ W, W = wq23x65.alloc (.cells ZR12 60) := ⟨_, rfl⟩
                  rw [← hwq23x67] at Hq23x68 Eq23x69 ⊢
                  clear hwq23x67
                  exact F_to (by kernel_rfl) (by kernel_rfl) (Jq23_0 _ _ ⟨wq23x65.heap.size, rfl, Hq23x68, Eq23x69, by omega, by omega, by omega, by omega⟩)
                · have l0wq23x70 := Hq23x64.lt (g20) NN6 24 (by simp)
                  have l1wq23x70 := Hq23x64.lt (g8) Yn 24 (by simp)
                  have l2wq23x70 := Hq23x64.lt (w.heap.size) ZR1 31 (by simp)
                  have bwq23x70 := Hq23x64.1.size
                  have Hq23x71 := Hq23x64.alloc (.cells ZR12 60)
                  have Eq23x72 := (Hq23x64.sub (m := []) (fun p hp => by cases hp)).new ZR12 60
                  simp only [Act.put, sT, sS, sZ]
                  obtain ⟨wq23x70, hwq23x70⟩ : ∃ W, W = wq23x63.alloc (.cells ZR12 60) := ⟨_, rfl⟩
                  rw [← hwq23x70] at Hq23x71 Eq23x72 ⊢
                  clear hwq23x70
                  exact F_to (by kernel_rfl) (by kernel_rfl) (Jq23_1 _ _ ⟨wq23x63.heap.size, rfl, Hq23x71, Eq23x72, by omega, by omega, by omega, by omega⟩)
              · have l0wq23x73 := Hq23x62.lt (g20) NN6 24 (by simp)
                have l1wq23x73 := Hq23x62.lt (g8) Yn 24 (by simp)
                have l2wq23x73 := Hq23x62.lt (w.heap.size) ZR1 31 (by simp)
                have bwq23x73 := Hq23x62.1.size
                have Hq23x74 := Hq23x62.alloc (.cells ZR12 60)
                have Eq23x75 := (Hq23x62.sub (m := []) (fun p hp => by cases hp)).new ZR12 60
                simp only [Act.put, sT, sS, sZ]
                obtain ⟨wq23x73, hwq23x73⟩ : ∃ W, W = wq23x61.alloc (.cells ZR12 60) := ⟨_, rfl⟩
                rw [← hwq23x73] at Hq23x74 Eq23x75 ⊢
                clear hwq23x73
                exact F_to (by kernel_rfl) (by kernel_rfl) (Jq23_2 _ _ ⟨wq23x61.heap.size, rfl, Hq23x74, Eq23x75, by omega, by omega, by omega, by omega⟩)
            · have l0wq23x76 := Hq23x60.lt (g20) NN6 24 (by simp)
              have l1wq23x76 := Hq23x60.lt (g8) Yn 24 (by simp)
              have l2wq23x76 := Hq23x60.lt (w.heap.size) ZR1 31 (by simp)
              have bwq23x76 := Hq23x60.1.size
              have Hq23x77 := Hq23x60.alloc (.cells ZR12 60)
              have Eq23x78 := (Hq23x60.sub (m := []) (fun p hp => by cases hp)).new ZR12 60
              simp only [Act.put, sT, sS, sZ]
              obtain ⟨wq23x76, hwq23x76⟩ : ∃ W, W = wq23x59.alloc (.cells ZR12 60) := ⟨_, rfl⟩
              rw [← hwq23x76] at Hq23x77 Eq23x78 ⊢
              clear hwq23x76
              exact F_to (by kernel_rfl) (by kernel_rfl) (Jq23_3 _ _ ⟨wq23x59.heap.size, rfl, Hq23x77, Eq23x78, by omega, by omega, by omega, by omega⟩)
          · have l0wq23x79 := Hq23x58.lt (g20) NN6 24 (by simp)
            have l1wq23x79 := Hq23x58.lt (g8) Yn 24 (by simp)
            have l2wq23x79 := Hq23x58.lt (w.heap.size) ZR1 31 (by simp)
            have bwq23x79 := Hq23x58.1.size
            have Hq23x80 := Hq23x58.alloc (.cells ZR12 60)
            have Eq23x81 := (Hq23x58.sub (m := []) (fun p hp => by cases hp)).new ZR12 60
            simp only [Act.put, sT, sS, sZ]
            obtain ⟨wq23x79, hwq23x79⟩ : ∃ W, W = wq23x57.alloc (.cells ZR12 60) := ⟨_, rfl⟩
            rw [← hwq23x79] at Hq23x80 Eq23x81 ⊢
            clear hwq23x79
            exact F_to (by kernel_rfl) (by kernel_rfl) (Jq23_4 _ _ ⟨wq23x57.heap.size, rfl, Hq23x80, Eq23x81, by omega, by omega, by omega, by omega⟩)
        · have l0wq23x82 := Hq23x56.lt (g20) NN6 24 (by simp)
          have l1wq23x82 := Hq23x56.lt (g8) Yn 24 (by simp)
          have l2wq23x82 := Hq23x56.lt (w.heap.size) ZR1 31 (by simp)
          have bwq23x82 := Hq23x56.1.size
          have Hq23x83 := Hq23x56.alloc (.cells ZR12 60)
          have Eq23x84 := (Hq23x56.sub (m := []) (fun p hp => by cases hp)).new ZR12 60
          simp only [Act.put, sT, sS, sZ]
          obtain ⟨wq23x82, hwq23x82⟩ : ∃ W, W = wq23x55.alloc (.cells ZR12 60) := ⟨_, rfl⟩
          rw [← hwq23x82] at Hq23x83 Eq23x84 ⊢
          clear hwq23x82
          exact F_to (by kernel_rfl) (by kernel_rfl) (Jq23_5 _ _ ⟨wq23x55.heap.size, rfl, Hq23x83, Eq23x84, by omega, by omega, by omega, by omega⟩)
      · have l0wq23x85 := Hq23x54.lt (g20) NN6 24 (by simp)
        have l1wq23x85 := Hq23x54.lt (g8) Yn 24 (by simp)
        have l2wq23x85 := Hq23x54.lt (w.heap.size) ZR1 31 (by simp)
        have bwq23x85 := Hq23x54.1.size
        have Hq23x86 := Hq23x54.alloc (.cells ZR12 60)
        have Eq23x87 := (Hq23x54.sub (m := []) (fun p hp => by cases hp)).new ZR12 60
        simp only [Act.put, sT, sS, sZ]
        obtain ⟨wq23x85, hwq23x85⟩ : ∃ W, W = wq23x53.alloc (.cells ZR12 60) := ⟨_, rfl⟩
        rw [← hwq23x85] at Hq23x86 Eq23x87 ⊢
        clear hwq23x85
        exact F_to (by kernel_rfl) (by kernel_rfl) (Jq23_6 _ _ ⟨wq23x53.heap.size, rfl, Hq23x86, Eq23x87, by omega, by omega, by omega, by omega⟩)
    · have l0wq23x88 := HDq23x1.lt (g20) NN6 24 (by simp)
      have l1wq23x88 := HDq23x1.lt (g8) Yn 24 (by simp)
      have l2wq23x88 := HDq23x1.lt (w.heap.size) ZR1 31 (by simp)
      have bwq23x88 := HDq23x1.1.size
      have Hq23x89 := HDq23x1.alloc (.cells ZR12 60)
      have Eq23x90 := (HDq23x1.sub (m := []) (fun p hp => by cases hp)).new ZR12 60
      simp only [Act.put, sT, sS, sZ]
      obtain ⟨wq23x88, hwq23x88⟩ : ∃ W, W = wdq23x2.alloc (.cells ZR12 60) := ⟨_, rfl⟩
      rw [← hwq23x88] at Hq23x89 Eq23x90 ⊢
      clear hwq23x88
      refine rdy [2] (rcl (some 31) 24 #[.tmp 29, .tmp 30] #[24, 24] #[.agg NN6, .agg NN9] en24 _ (HC11.out _) ?_ ReadyF.nil)
      rintro v wq23x91 ⟨he, hb⟩
      cases he
      have Hq23x92 := Hq23x89.below hb
      have Eq23x93 := Eq23x90.below hb
      clear hb
      refine ⟨Hq23x92, ?_⟩
      simp only [Act.put, sT, sS, sZ]
      exact F_to (by kernel_rfl) (by kernel_rfl) (Jq23_6 _ _ ⟨wdq23x2.heap.size, rfl, Hq23x92, Eq23x93, by omega, by omega, by omega, by omega⟩)
  rintro a' w24 ⟨gq23s0, rfl, hk, e26, e27, e28, e29⟩
  have HS25 := Lib.hid hk
  clear hk HS22
  go_upto_region 10 with fail
  refine wp_region_list ?_
  refine wpList_run rfl (.pointer (some ⟨gq23s0, 4, none⟩)) (exec_field 60 (.tmp 6) 1 rfl _ _ rfl _ (fa60_1 (gq23s0) _)) ?_
  simp only [Act.put, sT, sS, sZ]
  refine wpList_run rfl (.bool true) (exec_load_one _ 4 (.tmp 40) rfl ⟨gq23s0, 4, none⟩ rfl _ (cell_part (HS25.out.get (gq23s0) GT24 60 (by simp)) 4 _ CGT24_4) _ Tryd.underlying4 rfl) ?_
  simp only [Act.put, sT, sS, sZ]
  refine wpList_run rfl (.bool false) (exec_notv (.tmp 41) rfl _ rfl false rfl _) ?_
  simp only [Act.put, sT, sS, sZ]
  refine wpList_run rfl (.bool false) (exec_move (.tmp 42) rfl _ rfl _) ?_
  simp only [Act.put, sT, sS, sZ]
  refine wpList_runH (.int .u64 (0 : Int)) (exec_move (.tmp 4) rfl _ rfl _) ?_ (by rfl)
  simp only [Act.put, sT, sS, sZ]
  refine wpList_runH (.bool false) (exec_eql22 (.tmp 44) rfl rfl 0 false rfl (by decide) _) ?_ (by rfl)
  simp only [Act.put, sT, sS, sZ]
  refine wpList_runH (.bool false) (exec_move (.tmp 45) rfl _ rfl _) ?_ (by rfl)
  simp only [Act.put, sT, sS, sZ]
  refine wpList_skipG ?_ (by rfl)
  simp only [Act.put, sT, sS, sZ]
  refine wpList_skipG ?_ (by rfl)
  simp only [Act.put, sT, sS, sZ]
  refine wpList_skipG ?_ (by rfl)
  simp only [Act.put, sT, sS, sZ]
  refine wpList_skipG ?_ (by rfl)
  simp only [Act.put, sT, sS, sZ]
  refine wpList_runH (.bool false) (exec_pickf (.tmp 46) (.tmp 50) (.const (.bool false)) rfl rfl _ rfl _) ?_ (by rfl)
  simp only [Act.put, sT, sS, sZ]
  refine wpList_run rfl (.bool false) (exec_pickf (.tmp 43) (.const (.bool true)) (.tmp 51) rfl rfl _ rfl _) ?_
  simp only [Act.put, sT, sS, sZ]
  refine wpList_nil ?_
  go_upto_region 12 with fail
  refine wp_region_list ?_
  refine wpList_run rfl (.int .u64 (0 : Int)) (exec_move (.tmp 4) rfl _ rfl _) ?_
  simp only [Act.put, sT, sS, sZ]
  refine wpList_run rfl (.bool false) (exec_eql22 (.tmp 54) rfl rfl 0 false rfl (by decide) _) ?_
  simp only [Act.put, sT, sS, sZ]
  refine wpList_nil ?_
  go_upto_region 14 with fail
  refine wp_region_list ?_
  refine wpList_run rfl (.pointer (some ⟨gq23s0, 0, none⟩)) (exec_field 60 (.tmp 6) 0 rfl _ _ rfl _ (fa60_0 (gq23s0) _)) ?_
  simp only [Act.put, sT, sS, sZ]
  refine wpList_run rfl (.agg NN23) (exec_load_of _ 24 (.tmp 61) rfl ⟨gq23s0, 0, none⟩ rfl _ (load_part (HS25.out.get (gq23s0) GT24 60 (by simp)) INN23 0 SGT24_0)) ?_
  simp only [Act.put, sT, sS, sZ]
  refine wpList_run rfl (.agg Yn) (exec_load_of _ 24 (.tmp 3) rfl ⟨g8, 0, none⟩ rfl _ (loadA24 IYn (HS25.out.get (g8) Yn 24 (by simp)))) ?_
  simp only [Act.put, sT, sS, sZ]
  refine wpList_run rfl (.agg PP27) (exec_buildN _ 26 #[(0, .tmp 62), (1, .tmp 63)] rfl #[(0, .agg NN23), (1, .agg Yn)] (by simp [Act.eval]) _ (BF26 _)) ?_
  simp only [Act.put, sT, sS, sZ]
  refine wpList_run rfl (.agg SP29) (exec_buildN _ 31 #[(0, .tmp 64), (1, .const (.bool true))] rfl #[(0, .agg PP27), (1, .bool true)] (by simp [Act.eval]) _ (BF28 _)) ?_
  simp only [Act.put, sT, sS, sZ]
  refine wpList_run0 rfl (exec_storeT31 _ (.tmp 2) (.tmp 65) rfl (w.heap.size) rfl SP29 ISP29 rfl ZR1 31 (HS25.out.get (w.heap.size) ZR1 31 (by simp)) SZZR1) ?_
  simp only [Act.put, sT, sS, sZ]
  have HS31 : Hid (Kt w [(g8, Yn, 24), (w.heap.size, SP29, 31), (gq23s0, GT24, 60)] (w24.setRow (w.heap.size) SP29)) := Lib.hid (HS25.out.set (w.heap.size) SP29 ZR1 31 (HS25.out.get (w.heap.size) ZR1 31 (by simp)) (by omega) (fun p hp => by simp at hp; rcases hp with rfl | rfl | rfl <;> first | exact .inl rfl | exact .inr ⟨by simp, by simp only; omega⟩))
  clear HS25
  generalize w24.setRow (w.heap.size) SP29 = w30 at *
  refine wpList_nil ?_
  go_wp2
  exact bodyPost_ret (results_cell rfl _ _ _ ⟨w.heap.size, 0, none⟩ rfl _ (loadT31 ISP29 (HS31.out.get (w.heap.size) SP29 31 (by simp)))) rfl ⟨rfl, HS31.out.1⟩
end Go.Proofs.YtgbliacncahooaaDoor
