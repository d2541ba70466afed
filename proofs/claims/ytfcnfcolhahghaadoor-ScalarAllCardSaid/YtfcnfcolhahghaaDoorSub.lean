/- SubNum of the document: a difference modulo 2^256; numbers in rows that turn word by word. No condition but that the numbers have 256 bits. -/
import Derived.Test.YtfcnfcolhahghaaDoorOps
import Derived.Test.YtfcnfcolhahghaaDoorRef
namespace Go.Proofs.YtfcnfcolhahghaaDoor
open Go.RowKit Go.Shelf
set_option linter.unusedVariables false
set_option linter.unusedSimpArgs false
theorem enters18 : ∀ args w, (callFunc 18 args).run Tryd.prog w = .ok (.enter 18 args) w := enters_of Tryd.func18 (by kernel_rfl) rfl
theorem ones_xor (c : Nat) (hc : c < 18446744073709551616) : 18446744073709551615 ^^^ c = 18446744073709551615 - c := by
  have h : (BitVec.allOnes 64 ^^^ BitVec.ofNat 64 c) = ~~~ (BitVec.ofNat 64 c) := BitVec.allOnes_xor
  have h2 := congrArg BitVec.toNat h
  simp only [BitVec.toNat_not, BitVec.toNat_xor, BitVec.toNat_allOnes, BitVec.toNat_ofNat] at h2
  rw [show (2 : Nat) ^ 64 = 18446744073709551616 from rfl, Nat.mod_eq_of_lt hc] at h2
  exact h2
theorem exec_not64 {ρ : Operand → Value} {o : Oper} (x : Operand) (ho : o.op = .unOp .xor 22 x) (c r : Nat) (hc : c < 18446744073709551616) (hx : ρ x = .int .u64 (c : Int)) (hr : r = 18446744073709551615 - c) (w : World) : (execOp ρ o).run Tryd.prog w = .ok (.value (.int .u64 (r : Int))) w := by
  have hb0 := bits_xor_u64_nat 18446744073709551615 c (by decide) hc
  rw [ones_xor c hc, ← hr] at hb0
  have hb : bits .xor .u64 (if IntKind.u64.signed = true then -1 else IntKind.u64.max) (c : Int) = (r : Int) := hb0
  clear hb0
  clear hr
  unfold execOp
  rw [ho]
  simp only [hx]
  go_simp
/-- A difference modulo 2^256. -/
def subM (x y : Nat) : Nat := (x + (115792089237316195423570985008687907853269984665640564039457584007913129639936 - y)) % 115792089237316195423570985008687907853269984665640564039457584007913129639936
theorem subM_lt (x y : Nat) : subM x y < 115792089237316195423570985008687907853269984665640564039457584007913129639936 := Nat.mod_lt _ (by decide)
theorem subM_le (x y : Nat) (h : y ≤ x) (hx : x < 115792089237316195423570985008687907853269984665640564039457584007913129639936) : subM x y = x - y := by unfold subM; omega
def nTo (y k j : Nat) : Nat := if j < k then 18446744073709551615 - dig y j else 0
theorem nTo_step (y k v : Nat) (hv : v = 18446744073709551615 - dig y k) : ∀ j, j < 4 → upd (nTo y k) k v j = nTo y (k + 1) j := by
  intro j _
  unfold upd nTo
  by_cases e : j = k
  · subst e; rw [if_pos rfl, if_pos (by omega), hv]
  · rw [if_neg e]
    by_cases h : j < k
    · rw [if_pos h, if_pos (by omega)]
    · rw [if_neg h, if_neg (by omega)]
theorem nTo_all (y : Nat) (hy : y < 115792089237316195423570985008687907853269984665640564039457584007913129639936) : ∀ j, j < 4 → nTo y 4 j = dig (115792089237316195423570985008687907853269984665640564039457584007913129639935 - y) j := by
  have vy := val_dig y hy
  have l0 := dig_lt y 0
  have l1 := dig_lt y 1
  have l2 := dig_lt y 2
  have l3 := dig_lt y 3
  unfold valN at vy
  intro j hj
  rcases (show j = 0 ∨ j = 1 ∨ j = 2 ∨ j = 3 by omega) with rfl | rfl | rfl | rfl
  · rw [dig_0]; show 18446744073709551615 - dig y 0 = _; omega
  · rw [dig_1]; show 18446744073709551615 - dig y 1 = _; omega
  · rw [dig_2]; show 18446744073709551615 - dig y 2 = _; omega
  · rw [dig_3]; show 18446744073709551615 - dig y 3 = _; omega
/-- A row whose words have turned into a number's. -/
theorem Kn.ext {w0 w : World} {l m : List (Nat × Array Value)} (h : Kn w0 l w) (g : Nat) (f f' : Nat → Nat) (hf : ∀ j, j < 4 → f j = f' j) (hm : ∀ p ∈ m, p ∈ l ∨ (p = (g, (rowOf .u64 4 f').toArray) ∧ (g, (rowOf .u64 4 f).toArray) ∈ l)) : Kn w0 m w :=
  ⟨h.1, fun p hp => by
    rcases hm p hp with h1 | ⟨rfl, h2⟩
    · exact h.2 p h1
    · rw [show (rowOf .u64 4 f').toArray = (rowOf .u64 4 f).toArray by rw [rowOf_ext hf]]
      exact h.2 _ h2⟩
theorem Kn.nat {w0 w : World} {l : List (Nat × Array Value)} (h : Kn w0 l w) (g n : Nat) (hm : (g, num n) ∈ l) (j : Nat) (hj : j < 4) : w.cell? ⟨g, j, none⟩ = some (.int .u64 (dig n j : Int)) := by rw [h.cell g _ hm j, num_get n j hj]
theorem Kn.row {w0 w : World} {l : List (Nat × Array Value)} (h : Kn w0 l w) (g : Nat) (f : Nat → Nat) (hm : (g, (rowOf .u64 4 f).toArray) ∈ l) : Row w g 24 .u64 4 f := h.2 _ hm
set_option maxRecDepth 100000 in
set_option maxHeartbeats 1000000 in
theorem subnum_any (x y : Nat) (hx : x < 115792089237316195423570985008687907853269984665640564039457584007913129639936) (hy : y < 115792089237316195423570985008687907853269984665640564039457584007913129639936) (w : World) :
    Calls Tryd.prog 31 #[.agg (num x), .agg (num y)] w fun e w' => e = .returned (.agg (num (subM x y))) ∧ Below w.heap.size w w' := by
  have hny : 115792089237316195423570985008687907853269984665640564039457584007913129639935 - y < 115792089237316195423570985008687907853269984665640564039457584007913129639936 := by omega
  have H1 := Lib.hid (addnum_any x (115792089237316195423570985008687907853269984665640564039457584007913129639935 - y) hx hny)
  have H2 := Lib.hid (addnum_any ((x + (115792089237316195423570985008687907853269984665640564039457584007913129639935 - y)) % 115792089237316195423570985008687907853269984665640564039457584007913129639936) 1 (Nat.mod_lt _ (by decide)) (by decide))
  rw [show ((x + (115792089237316195423570985008687907853269984665640564039457584007913129639935 - y)) % 115792089237316195423570985008687907853269984665640564039457584007913129639936 + 1) % 115792089237316195423570985008687907853269984665640564039457584007913129639936 = subM x y by unfold subM; omega] at H2
  have hall := Lib.hid (nTo_all y hy)
  have hb1 := build_run 1 (by decide)
  have HZ := zero_run
  clear hx hy hny
  generalize (x + (115792089237316195423570985008687907853269984665640564039457584007913129639935 - y)) / 115792089237316195423570985008687907853269984665640564039457584007913129639936 = c1 at *
  generalize ((x + (115792089237316195423570985008687907853269984665640564039457584007913129639935 - y)) % 115792089237316195423570985008687907853269984665640564039457584007913129639936 + 1) / 115792089237316195423570985008687907853269984665640564039457584007913129639936 = c2 at *
  obtain ⟨A, hA⟩ : ∃ A, Hid (A = num x) := ⟨_, Lib.hid rfl⟩
  have IA : IsNum A := by rw [hA.out]; exact isNum _
  obtain ⟨B, hB⟩ : ∃ B, Hid (B = num y) := ⟨_, Lib.hid rfl⟩
  have IB : IsNum B := by rw [hB.out]; exact isNum _
  obtain ⟨NY, hNY⟩ : ∃ NY, Hid (NY = num (115792089237316195423570985008687907853269984665640564039457584007913129639935 - y)) := ⟨_, Lib.hid rfl⟩
  have INY : IsNum NY := by rw [hNY.out]; exact isNum _
  obtain ⟨S1, hS1⟩ : ∃ S1, Hid (S1 = num ((x + (115792089237316195423570985008687907853269984665640564039457584007913129639935 - y)) % 115792089237316195423570985008687907853269984665640564039457584007913129639936)) := ⟨_, Lib.hid rfl⟩
  have IS1 : IsNum S1 := by rw [hS1.out]; exact isNum _
  obtain ⟨S2, hS2⟩ : ∃ S2, Hid (S2 = num (subM x y)) := ⟨_, Lib.hid rfl⟩
  have IS2 : IsNum S2 := by rw [hS2.out]; exact isNum _
  obtain ⟨U1, hU1⟩ : ∃ U1, Hid (U1 = num 1) := ⟨_, Lib.hid rfl⟩
  have IU1 : IsNum U1 := by rw [hU1.out]; exact isNum _
  obtain ⟨Z, hZ⟩ : ∃ Z, Hid (Z = num 0) := ⟨_, Lib.hid rfl⟩
  have IZ : IsNum Z := by rw [hZ.out]; exact isNum _
  rw [← hA.out, ← hNY.out, ← hS1.out] at H1
  rw [← hS1.out, ← hU1.out, ← hS2.out] at H2
  rw [← hU1.out] at hb1
  have HB1 := Lib.hid hb1
  have HZ2 : ∀ w, (zeroValue 24).run Tryd.prog w = .ok (.agg Z) w := by rw [hZ.out]; exact HZ
  have IZ2 := IZ.size
  rw [← hA.out, ← hB.out, ← hS2.out]
  clear HZ hb1 hS1 hS2 hU1 hA
  have hz4 : ∀ W : World, Kn W [(W.heap.size, A), (W.heap.size + 1, B), (W.heap.size + 1 + 1, Z), (W.heap.size + 1 + 1 + 1, Z)] ((((W.alloc (.cells A 24)).alloc (.cells B 24)).alloc (.cells Z 24)).alloc (.cells Z 24)) := by
    intro W
    have h := ((((Kn.nil W).new A).new B).new Z).new Z
    simp only [World.size_alloc] at h
    exact h.sub (fun p hp => by simp at hp ⊢; rcases hp with h | h | h | h <;> simp [h])
  have HS := Lib.hid (hz4 w)
  clear hz4
  have hz0 : Hid (Z = (rowOf .u64 4 (nTo y 0)).toArray) := by
    unfold Hid
    rw [hZ.out, rowOf_ext (f := nTo y 0) (g := dig 0) (fun j hj => by unfold nTo; rw [if_neg (by omega)]; rcases (show j = 0 ∨ j = 1 ∨ j = 2 ∨ j = 3 by omega) with rfl | rfl | rfl | rfl <;> decide)]
    rfl
  go_enter Tryd.func31, Tryd.ntmps31
  go_wp2_with ((refine wpList_run rfl _ (exec_alloc_agg _ 24 rfl _ (HZ2 _)) ?_); try simp only [World.size_alloc])
  try simp only [Act.put, List.setIfInBounds_toArray, List.set_cons_succ, List.set_cons_zero]
  generalize (((w.alloc (.cells A 24)).alloc (.cells B 24)).alloc (.cells Z 24)).alloc (.cells Z 24) = W0 at *
  go_loopw [6] (fun i wr => ∃ q : Nat, q ≤ 4 ∧ i = .int .i64 q ∧ Kn w [(w.heap.size, A), (w.heap.size + 1, B), (w.heap.size + 1 + 1, Z), (w.heap.size + 1 + 1 + 1, (rowOf .u64 4 (nTo y q)).toArray)] wr) (fun i _ => 4 - (intOf i).toNat)
  case atStart => exact ⟨0, by omega, rfl, by rw [← hz0.out]; exact HS.out⟩
  case round =>
    clear HS hz0
    obtain ⟨q, hq, rfl, HK0⟩ := hrel
    have HK := Lib.hid HK0
    clear HK0
    by_cases hlt : q < 4
    · have hr := HK.out.row (w.heap.size + 1 + 1 + 1) (nTo y q) (by simp)
      have c1 : wr.cell? ⟨w.heap.size + 1, q, none⟩ = some (.int .u64 (dig y q : Int)) := by rw [HK.out.cell (w.heap.size + 1) B (by simp) q, hB.out, num_get y q hlt]
      have c3 := hr.cell q hlt
      have f3 := hr.free q
      have HN : Hid (Kn w [(w.heap.size, A), (w.heap.size + 1, B), (w.heap.size + 1 + 1, Z), (w.heap.size + 1 + 1 + 1, (rowOf .u64 4 (nTo y (q + 1))).toArray)] (wr.setCell ⟨w.heap.size + 1 + 1 + 1, q, none⟩ (.int .u64 ((18446744073709551615 - dig y q : Nat) : Int)))) := Lib.hid
        ((HK.out.setw (m := [(w.heap.size, A), (w.heap.size + 1, B), (w.heap.size + 1 + 1, Z), (w.heap.size + 1 + 1 + 1, (rowOf .u64 4 (upd (nTo y q) q (18446744073709551615 - dig y q))).toArray)]) (w.heap.size + 1 + 1 + 1) (nTo y q) q (18446744073709551615 - dig y q) hr (by omega) (fun p hp => by simp at hp; rcases hp with rfl | rfl | rfl | rfl <;> first | exact .inl rfl | exact .inr ⟨by simp, by simp only; omega⟩)).ext (w.heap.size + 1 + 1 + 1) _ _ (nTo_step y q _ rfl) (fun p hp => by simp at hp; rcases hp with rfl | rfl | rfl | rfl <;> first | exact .inr ⟨rfl, by simp⟩ | exact .inl (by simp)))
      have hd := dig_lt y q
      obtain ⟨r, hr2⟩ : ∃ r, r = 18446744073709551615 - dig y q := ⟨_, rfl⟩
      generalize dig y q = d at *
      generalize nTo y q q = old at *
      clear hr HK H1 H2
      have hltI : (q : Int) < 4 := by omega
      go_wp2_with (refine wpList_run rfl _ (exec_not64 (.tmp 18) rfl d r hd rfl hr2 _) ?_)
      go_roundw
      case rel => exact ⟨q + 1, by omega, by first | rfl | simp | go_num, HN.out⟩
      case measure => simp [intOf]; omega
    · obtain rfl : q = 4 := by omega
      have HK2 : Hid (Kn w [(w.heap.size, A), (w.heap.size + 1, B), (w.heap.size + 1 + 1, Z), (w.heap.size + 1 + 1 + 1, NY)] wr) := Lib.hid (HK.out.ext (w.heap.size + 1 + 1 + 1) _ _ hall.out (fun p hp => by simp at hp; rcases hp with rfl | rfl | rfl | rfl <;> first | exact .inr ⟨by rw [hNY.out]; rfl, by simp⟩ | exact .inl (by simp)))
      clear HK hall hB hNY hZ
      rw [show ((4 : Nat) : Int) = (4 : Int) from rfl]
      have hl1 := HK2.out.load (w.heap.size) A (by simp) IA
      have hl2 := HK2.out.load (w.heap.size + 1 + 1 + 1) NY (by simp) INY
      go_wp2_with (first | (refine wpList_run rfl _ (exec_load_of _ 24 (.tmp 2) rfl ⟨w.heap.size, 0, none⟩ rfl (.agg A) hl1) ?_) | (refine wpList_run rfl _ (exec_load_of _ 24 (.tmp 5) rfl ⟨w.heap.size + 1 + 1 + 1, 0, none⟩ rfl (.agg NY) hl2) ?_))
      clear hl1 hl2
      refine (H1.out _).mono ?_
      rintro e w3 ⟨rfl, hb⟩
      have HS4 := Lib.hid (HK2.out.below hb)
      clear hb HK2 H1
      have HS5_ : Kn w [(w.heap.size, A), (w.heap.size + 1, B), (w.heap.size + 1 + 1, Z), (w.heap.size + 1 + 1 + 1, NY), (w3.heap.size, S1)] (w3.alloc (.cells S1 24)) := (HS4.out.new S1).sub (fun p hp => by simp at hp ⊢; rcases hp with h | h | h | h | h <;> simp [h])
      have HS5 := Lib.hid HS5_
      clear HS5_ HS4
      go_upto_region 7 with (first | ((refine wpList_run rfl _ (exec_alloc_agg _ 24 rfl _ (HZ2 _)) ?_); try simp only [World.size_alloc]) | (refine wpList_run0 rfl (exec_new24 _ (.tmp 7) (.tmp 25) rfl _ _ rfl S1 IS1 rfl IZ2) ?_))
      try simp only [Act.put, List.setIfInBounds_toArray, List.set_cons_succ, List.set_cons_zero]
      generalize w3.alloc (.cells S1 24) = W6 at *
      generalize w3.heap.size = g7 at *
      have hl7 := HS5.out.load (g7) S1 (by simp) IS1
      go_wp2_with (first | (refine wpList_run rfl _ (exec_build1 _ 24 0 (.const (.int .u64 1)) rfl (.int .u64 1) rfl _ (HB1.out _)) ?_) | (refine wpList_run rfl _ (exec_load_of _ 24 (.tmp 7) rfl ⟨g7, 0, none⟩ rfl (.agg S1) hl7) ?_))
      clear hl7
      refine (H2.out _).mono ?_
      rintro e w8 ⟨rfl, hb⟩
      have HS9 := Lib.hid (HS5.out.below hb)
      clear hb HS5 H2
      have HS10_ : Kn w [(w.heap.size, A), (w.heap.size + 1, B), (w.heap.size + 1 + 1, Z), (w.heap.size + 1 + 1 + 1, NY), (g7, S1), (w8.heap.size, S2)] (w8.alloc (.cells S2 24)) := (HS9.out.new S2).sub (fun p hp => by simp at hp ⊢; rcases hp with h | h | h | h | h | h <;> simp [h])
      have HS10 := Lib.hid HS10_
      clear HS10_ HS9
      go_upto_region 8 with (first | ((refine wpList_run rfl _ (exec_alloc_agg _ 24 rfl _ (HZ2 _)) ?_); try simp only [World.size_alloc]) | (refine wpList_run0 rfl (exec_new24 _ (.tmp 9) (.tmp 31) rfl _ _ rfl S2 IS2 rfl IZ2) ?_))
      try simp only [Act.put, List.setIfInBounds_toArray, List.set_cons_succ, List.set_cons_zero]
      generalize w8.alloc (.cells S2 24) = W11 at *
      generalize w8.heap.size = g9 at *
      have hl9 := HS10.out.load (g9) S2 (by simp) IS2
      go_wp2_with (first | (refine wpList_run rfl _ (exec_load_of _ 24 (.tmp 9) rfl ⟨g9, 0, none⟩ rfl (.agg S2) hl9) ?_) | (refine wpList_run0 rfl (exec_store_kn (w0 := w) (l := [(w.heap.size, A), (w.heap.size + 1, B), (w.heap.size + 1 + 1, Z), (w.heap.size + 1 + 1 + 1, NY), (g7, S1), (g9, S2)]) _ HS10.out (.tmp 4) (.tmp 33) rfl (w.heap.size + 1 + 1) rfl S2 IS2 rfl Z IZ (by simp)) ?_))
      have HSZ : Kn w [(w.heap.size + 1 + 1, S2)] (World.setRow _ (w.heap.size + 1 + 1) S2) := HS10.out.set (w.heap.size + 1 + 1) S2 Z (HS10.out.get (w.heap.size + 1 + 1) Z (by simp)) (by omega) (fun p hp => by simp at hp; subst hp; simp)
      exact bodyPost_ret (results_cell rfl _ _ _ ⟨w.heap.size + 1 + 1, 0, none⟩ rfl _ (HSZ.load (w.heap.size + 1 + 1) S2 (by simp) IS2)) rfl ⟨rfl, HSZ.1⟩
end Go.Proofs.YtfcnfcolhahghaaDoor
