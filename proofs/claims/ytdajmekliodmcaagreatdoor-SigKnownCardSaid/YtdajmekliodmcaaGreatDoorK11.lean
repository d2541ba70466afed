/- Several texts, one behind the other; each says by itself what it proves, and on what conditions. -/
import Derived.Test.YtdajmekliodmcaaGreatDoorK10
import Derived.KernelRfl
namespace Go.Proofs.YtdajmekliodmcaaGreatDoor.P8
open Go.RowKit Go.Shelf
set_option linter.unusedVariables false
set_option linter.unusedSimpArgs false
theorem enters39 : ∀ args w, (callFunc 118 args).run Tryz.prog w = .ok (.enter 118 args) w := enters_of Tryz.func118 (by kernel_rfl) rfl
theorem exec_neqv {ρ : Operand → Value} {o : Oper} (x y : Operand) (ho : o.op = .binOp .neq 36 x y 36) (a b : Nat) (ha : a < 115792089237316195423570985008687907853269984665640564039457584007913129639936) (hb : b < 115792089237316195423570985008687907853269984665640564039457584007913129639936) (hx : ρ x = .agg (num a)) (hy : ρ y = .agg (num b)) (v : Bool) (hv : decide (a = b) = !v) (w : World) :
    (execOp ρ o).run Tryz.prog w = .ok (.value (.bool v)) w := by
  have h := eq_num a b ha hb (!v) hv w
  have hvv : (!(!v)) = v := by simp
  unfold execOp
  rw [ho]
  simp only [hx, hy]
  rw [num_lit, num_lit] at *
  go_simp
theorem Kn.setw {w0 w : World} {l m : List (Nat × Array Value)} (h : Kn w0 l w) (g : Nat) (f : Nat → Nat) (j v : Nat) (hg : Row w g 36 .u64 4 f) (hw : w0.heap.size ≤ g) (hm : ∀ p ∈ m, p = (g, (rowOf .u64 4 (upd f j v)).toArray) ∨ (p ∈ l ∧ p.1 ≠ g)) : Kn w0 m (w.setCell ⟨g, j, none⟩ (.int .u64 (v : Int))) :=
  ⟨h.1.setCell (p := ⟨g, j, none⟩) hw _, fun p hp => by
    rcases hm p hp with rfl | ⟨h1, h2⟩
    · exact hg.set j v
    · exact (heap_setCell_other _ _ _ _ h2).trans (h.2 p h1)⟩
theorem exec_quo8 {ρ : Operand → Value} {o : Oper} (x : Operand) (ho : o.op = .binOp .quo 3 x (.const (.int .i64 8)) 3) (hc : ρ (.const (.int .i64 8)) = .int .i64 8) (i j : Nat) (hi : i < 1000) (hx : ρ x = .int .i64 (i : Int)) (hj : j = i / 8) (w : World) : (execOp ρ o).run Tryz.prog w = .ok (.value (.int .i64 (j : Int))) w := by
  have hq : (i : Int).tdiv 8 = (j : Int) := by rw [Int.tdiv_eq_ediv_of_nonneg (by omega)]; omega
  have hq2 : (i : Int) / 8 = (j : Int) := by omega
  have hw : IntKind.i64.wrap (j : Int) = (j : Int) := IntWalk.i64_in _ (by omega)
  clear hj
  unfold execOp
  rw [ho]
  simp only [hx, hc]
  go_simp
theorem exec_rem8 {ρ : Operand → Value} {o : Oper} (x : Operand) (ho : o.op = .binOp .rem 3 x (.const (.int .i64 8)) 3) (hc : ρ (.const (.int .i64 8)) = .int .i64 8) (i j : Nat) (hi : i < 1000) (hx : ρ x = .int .i64 (i : Int)) (hj : j = i % 8) (w : World) : (execOp ρ o).run Tryz.prog w = .ok (.value (.int .i64 (j : Int))) w := by
  have hq : (i : Int).tmod 8 = (j : Int) := by rw [Int.tmod_eq_emod_of_nonneg (by omega)]; omega
  have hq2 : (i : Int) % 8 = (j : Int) := by omega
  have hw : IntKind.i64.wrap (j : Int) = (j : Int) := IntWalk.i64_in _ (by omega)
  clear hj
  unfold execOp
  rw [ho]
  simp only [hx, hc]
  go_simp
theorem exec_mul8 {ρ : Operand → Value} {o : Oper} (x : Operand) (ho : o.op = .binOp .mul 3 x (.const (.int .i64 8)) 3) (hc : ρ (.const (.int .i64 8)) = .int .i64 8) (i j : Nat) (hi : i < 8) (hx : ρ x = .int .i64 (i : Int)) (hj : j = 8 * i) (w : World) : (execOp ρ o).run Tryz.prog w = .ok (.value (.int .i64 (j : Int))) w := by
  have hq : (i : Int) * 8 = (j : Int) := by omega
  have hw : IntKind.i64.wrap (j : Int) = (j : Int) := IntWalk.i64_in _ (by omega)
  clear hj
  unfold execOp
  rw [ho]
  simp only [hx, hc]
  go_simp
theorem exec_shl {ρ : Operand → Value} {o : Oper} (x y : Operand) (ho : o.op = .binOp .shl 34 x y 3) (c s r : Nat) (hs : s < 64) (hx : ρ x = .int .u64 (c : Int)) (hy : ρ y = .int .i64 (s : Int)) (hr : r = c * 2 ^ s) (hl : r < 18446744073709551616) (w : World) : (execOp ρ o).run Tryz.prog w = .ok (.value (.int .u64 (r : Int))) w := by
  have hq : (c : Int) * 2 ^ s = (r : Int) := by rw [hr, Int.natCast_mul, Int.natCast_pow]; rfl
  have hw : IntKind.u64.wrap (r : Int) = (r : Int) := wrap_id hl
  have hsi : (s : Int) < 64 := by omega
  clear hr
  unfold execOp
  rw [ho]
  simp only [hx, hy]
  go_simp
theorem exec_or {ρ : Operand → Value} {o : Oper} (x y : Operand) (ho : o.op = .binOp .or 34 x y 34) (a c s r : Nat) (hx : ρ x = .int .u64 (a : Int)) (hy : ρ y = .int .u64 ((c * 2 ^ s : Nat) : Int)) (ha : a < 2 ^ s) (hr : r = a + c * 2 ^ s) (hl : r < 18446744073709551616) (w : World) : (execOp ρ o).run Tryz.prog w = .ok (.value (.int .u64 (r : Int))) w := by
  have hb := bits_or_u64_nat a (c * 2 ^ s) (by omega) (by omega)
  have ho2 : a ||| c * 2 ^ s = r := by rw [Nat.or_comm, or_join s c a ha, hr]; omega
  rw [ho2] at hb
  clear hr ho2
  generalize c * 2 ^ s = z at *
  unfold execOp
  rw [ho]
  simp only [hx, hy]
  go_simp
theorem exec_conv64 {ρ : Operand → Value} {o : Oper} (x : Operand) (ho : o.op = .convert 5 34 x) (c : Nat) (hc : c < 256) (hx : ρ x = .int .u8 (c : Int)) (w : World) : (execOp ρ o).run Tryz.prog w = .ok (.value (.int .u64 (c : Int))) w := by
  have hw : IntKind.u64.wrap (c : Int) = (c : Int) := wrap_id (by omega)
  unfold execOp
  rw [ho]
  simp only [hx]
  go_simp
theorem exec_index_str {ρ : Operand → Value} {o : Oper} (x y : Operand) (ho : o.op = .index 9 x y) (s : ByteArray) (i : Nat) (hi : i < s.size) (hx : ρ x = .string s) (hy : ρ y = .int .i64 (i : Int)) (c : Nat) (hc : c = s[i].toNat) (w : World) : (execOp ρ o).run Tryz.prog w = .ok (.value (.int .u8 (c : Int))) w := by
  subst hc
  unfold execOp
  rw [ho]
  simp only [hx, hy]
  go_simp
set_option maxRecDepth 100000 in
set_option maxHeartbeats 1000000 in
theorem from_short (s : ByteArray) (hs : s.size ≤ 9223372036854775807) (h32 : s.size ≠ 32) (w : World) :
    Calls Tryz.prog 87 #[.string s] w fun e w' => e = .returned (.tuple #[.agg (num 0), .bool false]) ∧ Below w.heap.size w w' := by
  have HZ := zero_run
  have hb0 := build0_run
  have IZ := isNum 0
  have hne : ((s.size : Int) != 32) = true := by rw [bne_iff_ne]; omega
  have HK : Hid (Kn w [(w.heap.size, num 0)] (w.alloc (.cells (num 0) 36))) := Lib.hid ((Kn.nil w).new (num 0))
  generalize num 0 = Z at *
  go_enter Tryz.func87, Tryz.ntmps87
  go_wp2_with (first | (refine wpList_run rfl _ (exec_alloc_agg _ 36 rfl _ (HZ _)) ?_) | (refine wpList_run rfl _ (exec_build0 rfl (.agg Z) (hb0 _) _) ?_) | (refine wpList_run0 rfl (exec_store_kn (w0 := w) (l := [(w.heap.size, Z)]) _ ?S2 (.tmp 2) (.tmp 9) rfl (w.heap.size) rfl Z IZ rfl Z IZ (by simp)) ?_))
  case S2 => exact HK.out
  have HS6 : Kn w [(w.heap.size, Z)] ((w.alloc (.cells Z 36)).setRow (w.heap.size) Z) := HK.out.set (w.heap.size) Z Z (HK.out.get (w.heap.size) Z (by simp)) (by omega) (fun p hp => by simp at hp; subst hp; simp)
  exact bodyPost_ret (results_two rfl _ _ _ ⟨w.heap.size, 0, none⟩ rfl _ (HS6.load (w.heap.size) Z (by simp) IZ)) rfl ⟨rfl, HS6.1⟩
set_option maxRecDepth 100000 in
set_option maxHeartbeats 1000000 in
theorem from_loop (s : ByteArray) (h32 : s.size = 32) (w : World) :
    Calls Tryz.prog 87 #[.string s] w fun e w' => e = .returned (.tuple #[.agg (num (fromF s.data.toList).1), .bool (fromF s.data.toList).2]) ∧ Below w.heap.size w w' := by
  have HZ := zero_run
  have IZ := isNum 0
  have hsl : s.data.toList.length = 32 := h32
  obtain ⟨l, hl⟩ : ∃ l, Hid (l = s.data.toList) := ⟨_, Lib.hid rfl⟩
  rw [← hl.out] at hsl ⊢
  have HK : Hid (Kn w [(w.heap.size, num 0), (w.heap.size + 1, (rowOf .u64 4 (wordAt (l.take 0))).toArray)] ((w.alloc (.cells (num 0) 36)).alloc (.cells (num 0) 36))) := by
    have h := ((Kn.nil w).new (num 0)).new (num 0)
    simp only [World.size_alloc] at h
    rw [List.take_zero, rowOf_ext (f := wordAt []) (g := fun _ => 0) (fun j _ => wordAt_nil j), num_zero]
    exact Lib.hid (h.sub (fun p hp => by simp at hp ⊢; rcases hp with h | h <;> simp [h]))
  have HZE : Hid (num 0 = num 0) := Lib.hid rfl
  obtain ⟨Z, hZe⟩ : ∃ Z, Hid (Z = num 0) := ⟨_, Lib.hid rfl⟩
  rw [← hZe.out] at HK IZ
  have HZ2 : ∀ w, (zeroValue 36).run Tryz.prog w = .ok (.agg Z) w := by rw [hZe.out]; exact HZ
  have hne : ((s.size : Int) != 32) = false := by rw [bne_eq_false_iff_eq]; omega
  have hs32 : (s.size : Int) = 32 := by omega
  clear HZ HZE
  go_enter Tryz.func87, Tryz.ntmps87
  go_wp2_with (refine wpList_run rfl _ (exec_alloc_agg _ 36 rfl _ (HZ2 _)) ?_)
  generalize (w.alloc (.cells Z 36)).alloc (.cells Z 36) = W0 at *
  go_loopw [10] (fun u wr => ∃ i : Nat, i ≤ 32 ∧ u = .int .i64 i ∧ Kn w [(w.heap.size, Z), (w.heap.size + 1, (rowOf .u64 4 (wordAt (l.take i))).toArray)] wr) (fun u _ => 32 - (intOf u).toNat)
  case atStart => exact ⟨0, by omega, rfl, HK.out⟩
  case round =>
    clear HK
    obtain ⟨i, hi, rfl, hK⟩ := hrel
    by_cases hlt : i < 32
    · have hil : i < l.length := by omega
      have his : i < s.size := by omega
      have htl : (l.take i).length = i := by rw [List.length_take]; omega
      obtain ⟨j, hj0⟩ : ∃ j, j = i / 8 := ⟨_, rfl⟩
      obtain ⟨q, hq0⟩ : ∃ q, q = i % 8 := ⟨_, rfl⟩
      obtain ⟨sh, hsh0⟩ : ∃ sh, sh = 8 * q := ⟨_, rfl⟩
      have hj4 : j < 4 := by omega
      have hq8 : q < 8 := by omega
      have hs64 : sh < 64 := by omega
      obtain ⟨c, hc0⟩ : ∃ c, c = s[i].toNat := ⟨_, rfl⟩
      have hcl2 : c = l[i].toNat := by rw [hc0]; congr 1; simp only [hl.out]; rfl
      have hc256 : c < 256 := by rw [hc0]; exact UInt8.toNat_lt _
      have hcl : c * 2 ^ sh < 18446744073709551616 := by
        have h1 : 2 ^ sh ≤ 2 ^ 56 := Nat.pow_le_pow_right (by decide) (by omega)
        have h2 : c * 2 ^ sh ≤ 255 * 2 ^ 56 := Nat.mul_le_mul (by omega) h1
        omega
      have hxs0 := wordAt_part (l.take i) i htl.symm
      rw [← hj0, ← hq0, ← hsh0] at hxs0
      obtain ⟨r, hr0⟩ : ∃ r, r = wordAt (l.take i) j + c * 2 ^ sh := ⟨_, rfl⟩
      have hstep : ∀ z, upd (wordAt (l.take i)) j r z = wordAt (l.take (i + 1)) z := by
        intro z
        rw [List.take_succ_eq_append_getElem hil, wordAt_snoc, htl, ← hj0, ← hq0, ← hsh0, ← hcl2]
        unfold upd
        by_cases hz : z = j
        · subst hz; rw [if_pos rfl, if_pos rfl, hr0]
        · rw [if_neg hz, if_neg hz]
      have hrl : r < 18446744073709551616 := by
        have h := hstep j
        rw [upd_same] at h
        rw [h]
        exact wordAt_lt _ _
      have HST : Hid ((rowOf .u64 4 (upd (wordAt (l.take i)) j r)).toArray = (rowOf .u64 4 (wordAt (l.take (i + 1)))).toArray) := by
        unfold Hid
        rw [rowOf_ext (fun z _ => hstep z)]
      have HRW : Hid (Row wr (w.heap.size + 1) 36 .u64 4 (wordAt (l.take i))) := Lib.hid (hK.get (w.heap.size + 1) _ (by simp))
      obtain ⟨x, hx0⟩ : ∃ x, x = wordAt (l.take i) j := ⟨_, rfl⟩
      rw [← hx0] at hxs0 hr0
      have hxs : x < 2 ^ sh := hxs0
      have hAj0 : (rowOf .u64 4 (wordAt (l.take i))).toArray[j]? = some (.int .u64 (x : Int)) := by rw [List.getElem?_toArray, rowOf_get _ _ _ _ hj4, hx0]
      obtain ⟨A, hA⟩ : ∃ A, Hid (A = (rowOf .u64 4 (wordAt (l.take i))).toArray) := ⟨_, Lib.hid rfl⟩
      rw [← hA.out] at hAj0 hK
      have hAj := hAj0
      have hj := Lib.hid hj0
      have hq := Lib.hid hq0
      have hsh := Lib.hid hsh0
      have hc := Lib.hid hc0
      have hr := Lib.hid hr0
      have hli : (i : Int) < 32 := by omega
      have HKK := Lib.hid hK
      clear hj0 hq0 hsh0 hc0 hr0 hx0 hcl2 htl hstep hxs0 hAj0 hK
      go_wp2
      refine wp_region_any (by kernel_rfl) ?_
      change wpAny _ _ _ _ _ _ _ (World.drew _)
      have HSD := HKK.out.drew
      generalize hWd : wr.drew = Wd at *
      refine any_of_F (S := Kn w [(w.heap.size, Z), (w.heap.size + 1, A)]) (f := 14) _ _ _ _ ?_
      refine tkL 0 (some 13) (.move (.tmp 5)) (.int .i64 (i : Int)) (fun o ho w2 hw => exec_move (.tmp 5) ho _ rfl w2) HSD ?_
      simp only [Act.put, sT, sS, sZ]
      refine tkL 1 (some 14) (.binOp .quo 3 (.tmp 13) (.const (.int .i64 8)) 3) (.int .i64 (j : Int)) (fun o ho w2 hw => exec_quo8 (.tmp 13) ho rfl i j (by omega) rfl hj.out w2) HSD ?_
      simp only [Act.put, sT, sS, sZ]
      refine tkL 2 (some 15) (.indexAddr 36 (.tmp 4) (.tmp 14)) (.pointer (some ⟨w.heap.size + 1, j, none⟩)) (fun o ho w2 hw => exec_indexAddr24 (.tmp 4) (.tmp 14) ho (w.heap.size + 1) j rfl rfl hj4 w2) HSD ?_
      simp only [Act.put, sT, sS, sZ]
      refine tkL 3 (some 16) (.load 34 (.tmp 15)) (.int .u64 (x : Int)) (fun o ho w2 hw => exec_load_one w2 34 (.tmp 15) ho ⟨w.heap.size + 1, j, none⟩ rfl _ ((hw.cell (w.heap.size + 1) A (by simp) j).trans hAj) _ Tryz.underlying34 rfl) HSD ?_
      simp only [Act.put, sT, sS, sZ]
      refine tkL 4 (some 17) (.move (.tmp 0)) (.string s) (fun o ho w2 hw => exec_move (.tmp 0) ho _ rfl w2) HSD ?_
      simp only [Act.put, sT, sS, sZ]
      refine tkL 5 (some 18) (.move (.tmp 5)) (.int .i64 (i : Int)) (fun o ho w2 hw => exec_move (.tmp 5) ho _ rfl w2) HSD ?_
      simp only [Act.put, sT, sS, sZ]
      refine tkL 6 (some 19) (.index 9 (.tmp 17) (.tmp 18)) (.int .u8 (c : Int)) (fun o ho w2 hw => exec_index_str (.tmp 17) (.tmp 18) ho s i his rfl rfl c hc.out w2) HSD ?_
      simp only [Act.put, sT, sS, sZ]
      refine tkL 7 (some 20) (.convert 5 34 (.tmp 19)) (.int .u64 (c : Int)) (fun o ho w2 hw => exec_conv64 (.tmp 19) ho c hc256 rfl w2) HSD ?_
      simp only [Act.put, sT, sS, sZ]
      refine tkL 8 (some 21) (.move (.tmp 5)) (.int .i64 (i : Int)) (fun o ho w2 hw => exec_move (.tmp 5) ho _ rfl w2) HSD ?_
      simp only [Act.put, sT, sS, sZ]
      refine tkL 9 (some 22) (.binOp .rem 3 (.tmp 21) (.const (.int .i64 8)) 3) (.int .i64 (q : Int)) (fun o ho w2 hw => exec_rem8 (.tmp 21) ho rfl i q (by omega) rfl hq.out w2) HSD ?_
      simp only [Act.put, sT, sS, sZ]
      refine tkL 10 (some 23) (.binOp .mul 3 (.tmp 22) (.const (.int .i64 8)) 3) (.int .i64 (sh : Int)) (fun o ho w2 hw => exec_mul8 (.tmp 22) ho rfl q sh hq8 rfl hsh.out w2) HSD ?_
      simp only [Act.put, sT, sS, sZ]
      refine tkL 11 (some 24) (.binOp .shl 34 (.tmp 20) (.tmp 23) 3) (.int .u64 ((c * 2 ^ sh : Nat) : Int)) (fun o ho w2 hw => exec_shl (.tmp 20) (.tmp 23) ho c sh _ hs64 rfl rfl rfl hcl w2) HSD ?_
      simp only [Act.put, sT, sS, sZ]
      refine tkL 12 (some 25) (.binOp .or 34 (.tmp 16) (.tmp 24) 34) (.int .u64 (r : Int)) (fun o ho w2 hw => exec_or (.tmp 16) (.tmp 24) ho x c sh r rfl rfl hxs hr.out hrl w2) HSD ?_
      simp only [Act.put, sT, sS, sZ]
      refine tkL 13 (some 26) (.indexAddr 36 (.tmp 4) (.tmp 14)) (.pointer (some ⟨w.heap.size + 1, j, none⟩)) (fun o ho w2 hw => exec_indexAddr24 (.tmp 4) (.tmp 14) ho (w.heap.size + 1) j rfl rfl hj4 w2) HSD ?_
      simp only [Act.put, sT, sS, sZ]
      have HRD : Row Wd (w.heap.size + 1) 36 .u64 4 (wordAt (l.take i)) := by rw [← hWd]; exact HRW.out
      have HN9 : Kn w [(w.heap.size, Z), (w.heap.size + 1, (rowOf .u64 4 (wordAt (l.take (i + 1)))).toArray)] (Wd.setCell ⟨w.heap.size + 1, j, none⟩ (.int .u64 (r : Int))) := by
        rw [← HST.out]
        exact HSD.setw (w.heap.size + 1) (wordAt (l.take i)) j r HRD (by omega) (fun p hp => by simp at hp; rcases hp with rfl | rfl <;> simp)
      refine rdy [14] (ReadyF.last (w2 := Wd.setCell ⟨w.heap.size + 1, j, none⟩ (.int .u64 (r : Int))) (.store 34 (.tmp 26) (.tmp 25)) rfl (fun o ho => exec_store_one _ 34 (.tmp 26) (.tmp 25) ho ⟨w.heap.size + 1, j, none⟩ rfl _ rfl rfl rfl _ (HRD.cell j hj4) (HRD.free j) (by kernel_rfl)) ?_ ReadyF.nil)
      refine any_doneF (by kernel_rfl) ?_ _
      have HN := Lib.hid HN9
      clear HN9 HRD HSD hAj hWd HKK HRW
      generalize Wd.setCell ⟨w.heap.size + 1, j, none⟩ (.int .u64 (r : Int)) = W9 at *
      go_wp2
      go_roundw
      case rel => exact ⟨i + 1, by omega, by simp, HN.out⟩
      case measure => simp [intOf]; omega
    · obtain rfl : i = 32 := by omega
      have htk : l.take 32 = l := List.take_of_length_le (by omega)
      rw [htk] at hK
      obtain ⟨N, hN⟩ : ∃ N, N = leVal l := ⟨_, rfl⟩
      have hN4 : N < 115792089237316195423570985008687907853269984665640564039457584007913129639936 := by
        have h := leVal_lt l
        rw [hsl, ← hN] at h
        exact Nat.lt_of_lt_of_le h (by decide)
      have hAN : (rowOf .u64 4 (wordAt l)).toArray = num N := by
        rw [← num_val _ (wordAt_lt l), val_words l hsl, hN]
      rw [hAN] at hK
      have HN0 := norm_any N hN4
      have hb0 := build0_run
      obtain ⟨A, hAe⟩ : ∃ A, Hid (A = num N) := ⟨_, Lib.hid rfl⟩
      have IA : IsNum A := by rw [hAe.out]; exact isNum N
      rw [← hZe.out] at hb0
      have HB0 := Lib.hid hb0
      by_cases hp : N < pp
      · have hres : Hid (fromF l = (N, true)) := by unfold Hid fromF; rw [if_pos ⟨hsl, by rw [← hN]; exact hp⟩, hN]
        rw [Nat.mod_eq_of_lt hp] at HN0
        have hM4 := hN4
        have hdec : decide (N = N) = !false := by simp
        obtain ⟨M, hM⟩ : ∃ M, Hid (M = N) := ⟨_, Lib.hid rfl⟩
        obtain ⟨R, hRe⟩ : ∃ R, Hid (R = num M) := ⟨_, Lib.hid rfl⟩
        have hRA : Hid (R = A) := by unfold Hid; rw [hRe.out, hM.out, hAe.out]
        rw [← hM.out] at hM4
        rw [show decide (N = N) = decide (M = N) by rw [hM.out]] at hdec
        have IR : IsNum R := by rw [hRe.out]; exact isNum M
        rw [← hAe.out] at HN0 hK
        have HN : Hid (∀ w, Calls Tryz.prog 118 #[.agg A] w fun e w' => e = .returned (.agg R) ∧ Below w.heap.size w w') := by rw [hRA.out]; exact Lib.hid HN0
        clear HN0 hAN htk hsl hN hp hb0
        go_wp2
        refine wp_cut (fun a' W => ∃ W', a' = { tmps := #[.string s, undef, .pointer (some ⟨w.heap.size, 0, none⟩), .bool false, .pointer (some ⟨w.heap.size + 1, 0, none⟩), u5, .string s, .int .i64 32, .bool false, undef, .int .i64 32, .bool false, u12, u13, u14, u15, u16, u17, u18, u19, u20, u21, u22, u23, u24, u25, u26, u27, .agg A, .agg R, .agg A, .bool false, undef, undef], defers := [] } ∧ W = W' ∧ Kn w [(w.heap.size, Z), (w.heap.size + 1, A)] W) ?_ ?_
        · refine wp_region_any (by kernel_rfl) ?_
          change wpAny _ _ _ _ _ _ _ (World.drew _)
          have HD := hK.drew
          generalize wr.drew = Wd at *
          refine any_of_F (S := Kn w [(w.heap.size, Z), (w.heap.size + 1, A)]) (f := 1000) _ _ _ _ ?_
          refine tkG 0 (some 28) (.load 36 (.tmp 4)) none (.agg A) (fun o ho w2 hw => exec_load_of _ 36 (.tmp 4) ho ⟨w.heap.size + 1, 0, none⟩ rfl _ (hw.load (w.heap.size + 1) A (by simp) IA)) HD ?_
          simp only [Act.put, sT, sS, sZ]
          refine tkG 2 (some 30) (.load 36 (.tmp 4)) none (.agg A) (fun o ho w2 hw => exec_load_of _ 36 (.tmp 4) ho ⟨w.heap.size + 1, 0, none⟩ rfl _ (hw.load (w.heap.size + 1) A (by simp) IA)) HD ?_
          simp only [Act.put, sT, sS, sZ]
          refine rdy [1] (rcl (some 29) 118 #[.tmp 28] #[36] #[.agg A] enters39 _ (HN.out _) ?_ ReadyF.nil)
          rintro v wt1 ⟨he, hb⟩
          cases he
          have Ht2 := HD.below hb
          clear hb
          refine ⟨Ht2, ?_⟩
          simp only [Act.put, sT, sS, sZ]
          refine tkG 3 (some 31) (.binOp .neq 36 (.tmp 29) (.tmp 30) 36) none (.bool false) (fun o ho w2 hw => exec_neqv (.tmp 29) (.tmp 30) ho M N hM4 hN4 (by rw [← hRe.out]; rfl) (by rw [← hAe.out]; rfl) false hdec w2) Ht2 ?_
          simp only [Act.put, sT, sS, sZ]
          refine AnyF.done (by kernel_rfl) ?_ _
          refine nrm_intro ⟨_, rfl, rfl, Ht2⟩
        · rintro a' W ⟨W2, rfl, rfl, HK9⟩
          clear hK
          go_wp2_with (first | (refine wpList_run rfl _ (exec_load_of _ 36 (.tmp 4) rfl ⟨w.heap.size + 1, 0, none⟩ rfl (.agg A) ?L4) ?_) | (refine wpList_run0 rfl (exec_store_kn (w0 := w) (l := [(w.heap.size, Z), (w.heap.size + 1, A)]) _ ?S2 (.tmp 2) (.tmp 33) rfl (w.heap.size) rfl A IA rfl Z IZ (by simp)) ?_))
          case L4 => exact HK9.load (w.heap.size + 1) A (by simp) IA
          case S2 => exact HK9
          have HS6 : Kn w [(w.heap.size, A)] (W.setRow (w.heap.size) A) := HK9.set (w.heap.size) A Z (HK9.get (w.heap.size) Z (by simp)) (by omega) (fun p hp => by simp at hp; subst hp; simp)
          refine bodyPost_ret (results_two rfl _ _ _ ⟨w.heap.size, 0, none⟩ rfl _ (HS6.load (w.heap.size) A (by simp) IA)) rfl ⟨?_, HS6.1⟩
          rw [hres.out, ← hAe.out]
          rfl
      · have hres : Hid (fromF l = (0, false)) := by unfold Hid fromF; rw [if_neg (fun h => hp (by rw [hN]; exact h.2))]
        have hM4 : N % pp < 115792089237316195423570985008687907853269984665640564039457584007913129639936 := pp_lt (Nat.mod_lt _ pp_pos)
        have hdec : decide (N % pp = N) = !true := by
          have : N % pp < pp := Nat.mod_lt _ pp_pos
          simp
          omega
        obtain ⟨M, hM⟩ : ∃ M, Hid (M = N % pp) := ⟨_, Lib.hid rfl⟩
        obtain ⟨R, hRe⟩ : ∃ R, Hid (R = num M) := ⟨_, Lib.hid rfl⟩
        rw [← hM.out] at hM4 hdec HN0
        have IR : IsNum R := by rw [hRe.out]; exact isNum M
        rw [← hAe.out] at HN0 hK
        rw [← hRe.out] at HN0
        have HN := Lib.hid HN0
        clear HN0 hAN htk hsl hN hp hb0
        go_wp2
        refine wp_cut (fun a' W => ∃ W', a' = { tmps := #[.string s, undef, .pointer (some ⟨w.heap.size, 0, none⟩), .bool false, .pointer (some ⟨w.heap.size + 1, 0, none⟩), u5, .string s, .int .i64 32, .bool false, undef, .int .i64 32, .bool false, u12, u13, u14, u15, u16, u17, u18, u19, u20, u21, u22, u23, u24, u25, u26, u27, .agg A, .agg R, .agg A, .bool true, undef, undef], defers := [] } ∧ W = W' ∧ Kn w [(w.heap.size, Z), (w.heap.size + 1, A)] W) ?_ ?_
        · refine wp_region_any (by kernel_rfl) ?_
          change wpAny _ _ _ _ _ _ _ (World.drew _)
          have HD := hK.drew
          generalize wr.drew = Wd at *
          refine any_of_F (S := Kn w [(w.heap.size, Z), (w.heap.size + 1, A)]) (f := 1000) _ _ _ _ ?_
          refine tkG 0 (some 28) (.load 36 (.tmp 4)) none (.agg A) (fun o ho w2 hw => exec_load_of _ 36 (.tmp 4) ho ⟨w.heap.size + 1, 0, none⟩ rfl _ (hw.load (w.heap.size + 1) A (by simp) IA)) HD ?_
          simp only [Act.put, sT, sS, sZ]
          refine tkG 2 (some 30) (.load 36 (.tmp 4)) none (.agg A) (fun o ho w2 hw => exec_load_of _ 36 (.tmp 4) ho ⟨w.heap.size + 1, 0, none⟩ rfl _ (hw.load (w.heap.size + 1) A (by simp) IA)) HD ?_
          simp only [Act.put, sT, sS, sZ]
          refine rdy [1] (rcl (some 29) 118 #[.tmp 28] #[36] #[.agg A] enters39 _ (HN.out _) ?_ ReadyF.nil)
          rintro v wt1 ⟨he, hb⟩
          cases he
          have Ht2 := HD.below hb
          clear hb
          refine ⟨Ht2, ?_⟩
          simp only [Act.put, sT, sS, sZ]
          refine tkG 3 (some 31) (.binOp .neq 36 (.tmp 29) (.tmp 30) 36) none (.bool true) (fun o ho w2 hw => exec_neqv (.tmp 29) (.tmp 30) ho M N hM4 hN4 (by rw [← hRe.out]; rfl) (by rw [← hAe.out]; rfl) true hdec w2) Ht2 ?_
          simp only [Act.put, sT, sS, sZ]
          refine AnyF.done (by kernel_rfl) ?_ _
          refine nrm_intro ⟨_, rfl, rfl, Ht2⟩
        · rintro a' W ⟨W2, rfl, rfl, HK9⟩
          clear hK
          go_wp2_with (first | (refine wpList_run rfl _ (exec_build0 rfl (.agg Z) (HB0.out _) _) ?_) | (refine wpList_run0 rfl (exec_store_kn (w0 := w) (l := [(w.heap.size, Z), (w.heap.size + 1, A)]) _ ?S2 (.tmp 2) (.tmp 32) rfl (w.heap.size) rfl Z IZ rfl Z IZ (by simp)) ?_))
          case S2 => exact HK9
          have HS6 : Kn w [(w.heap.size, Z)] (W.setRow (w.heap.size) Z) := HK9.set (w.heap.size) Z Z (HK9.get (w.heap.size) Z (by simp)) (by omega) (fun p hp => by simp at hp; subst hp; simp)
          refine bodyPost_ret (results_two rfl _ _ _ ⟨w.heap.size, 0, none⟩ rfl _ (HS6.load (w.heap.size) Z (by simp) IZ)) rfl ⟨?_, HS6.1⟩
          rw [hres.out, ← hZe.out]
          rfl
theorem from_any (s : ByteArray) (hs : s.size ≤ 9223372036854775807) (w : World) :
    Calls Tryz.prog 87 #[.string s] w fun e w' => e = .returned (.tuple #[.agg (num (fromF s.data.toList).1), .bool (fromF s.data.toList).2]) ∧ Below w.heap.size w w' := by
  by_cases h : s.size = 32
  · exact from_loop s h w
  · have hf : fromF s.data.toList = (0, false) := by unfold fromF; rw [if_neg (fun h2 => h h2.1)]
    rw [hf]
    exact from_short s hs h w
end Go.Proofs.YtdajmekliodmcaaGreatDoor.P8
namespace Go.Proofs.YtdajmekliodmcaaGreatDoor.W4
set_option linter.unusedSimpArgs false
set_option linter.unusedVariables false
open Go.Proofs.YtdajmekliodmcaaGreatDoor.P8
def force {α : Type} (x : Nat) (f : Nat → α) : α := match x with
  | 0 => f 0
  | n + 1 => f (n + 1)
theorem force_eq {α : Type} (x : Nat) (f : Nat → α) : force x f = f x := by unfold force; cases x <;> rfl
def add (a b : Nat) : Nat := (a + b) % 18446744073709551616
def rorN (x n : Nat) : Nat := x / 2 ^ n ||| x * 2 ^ (64 - n) % 18446744073709551616
def nearN (x : Nat) : Nat := rorN x 1 ^^^ rorN x 8 ^^^ x / 128
def farN (x : Nat) : Nat := rorN x 19 ^^^ rorN x 61 ^^^ x / 64
def be (l : List UInt8) (i : Nat) : Nat := (l.getD (8 * i) 0).toNat * 72057594037927936 + (l.getD (8 * i + 1) 0).toNat * 281474976710656 + (l.getD (8 * i + 2) 0).toNat * 1099511627776 + (l.getD (8 * i + 3) 0).toNat * 4294967296 + (l.getD (8 * i + 4) 0).toNat * 16777216 + (l.getD (8 * i + 5) 0).toNat * 65536 + (l.getD (8 * i + 6) 0).toNat * 256 + (l.getD (8 * i + 7) 0).toNat
def nx (q : List Nat) : Nat := add (add (add (q.getD 15 0) (nearN (q.getD 14 0))) (q.getD 6 0)) (farN (q.getD 1 0))
def wrev (l : List UInt8) : Nat → List Nat
  | 0 => [be l 15, be l 14, be l 13, be l 12, be l 11, be l 10, be l 9, be l 8, be l 7, be l 6, be l 5, be l 4, be l 3, be l 2, be l 1, be l 0]
  | k + 1 => nx (wrev l k) :: wrev l k
def W (l : List UInt8) (i : Nat) : Nat := (wrev l (i - 15)).getD (15 - i) 0
structure St where
  a : Nat
  b : Nat
  c : Nat
  d : Nat
  e : Nat
  f : Nat
  g : Nat
  h : Nat
def uN (s : St) (k w : Nat) : Nat := add (add (add (add s.h (rorN s.e 14 ^^^ rorN s.e 18 ^^^ rorN s.e 41)) ((s.e &&& s.f) ^^^ ((18446744073709551615 ^^^ s.e) &&& s.g))) k) w
def vN (s : St) : Nat := add (rorN s.a 28 ^^^ rorN s.a 34 ^^^ rorN s.a 39) ((s.a &&& s.b) ^^^ (s.a &&& s.c) ^^^ (s.b &&& s.c))
def rnd (s : St) (k w : Nat) : St := ⟨add (uN s k w) (vN s), s.a, s.b, s.c, add s.d (uN s k w), s.e, s.f, s.g⟩
def kL : List Nat := [4794697086780616226, 8158064640168781261, 13096744586834688815, 16840607885511220156, 4131703408338449720, 6480981068601479193, 10538285296894168987, 12329834152419229976, 15566598209576043074, 1334009975649890238, 2608012711638119052, 6128411473006802146, 8268148722764581231, 9286055187155687089, 11230858885718282805, 13951009754708518548, 16472876342353939154, 17275323862435702243, 1135362057144423861, 2597628984639134821, 3308224258029322869, 5365058923640841347, 6679025012923562964, 8573033837759648693, 10970295158949994411, 12119686244451234320, 12683024718118986047, 13788192230050041572, 14330467153632333762, 15395433587784984357, 489312712824947311, 1452737877330783856, 2861767655752347644, 3322285676063803686, 5560940570517711597, 5996557281743188959, 7280758554555802590, 8532644243296465576, 9350256976987008742, 10552545826968843579, 11727347734174303076, 12113106623233404929, 14000437183269869457, 14369950271660146224, 15101387698204529176, 15463397548674623760, 17586052441742319658, 1182934255886127544, 1847814050463011016, 2177327727835720531, 2830643537854262169, 3796741975233480872, 4115178125766777443, 5681478168544905931, 6601373596472566643, 7507060721942968483, 8399075790359081724, 8693463985226723168, 9568029438360202098, 10144078919501101548, 10430055236837252648, 11840083180663258601, 13761210420658862357, 14299343276471374635, 14566680578165727644, 15097957966210449927, 16922976911328602910, 17689382322260857208, 500013540394364858, 748580250866718886, 1242879168328830382, 1977374033974150939, 2944078676154940804, 3659926193048069267, 4368137639120453308, 4836135668995329356, 5532061633213252278, 6448918945643986474, 6902733635092675308, 7801388544844847127]
def kN (i : Nat) : Nat := kL.getD i 0
def rnds (l : List UInt8) (s : St) : Nat → St
  | 0 => s
  | i + 1 => rnd (rnds l s i) (kN i) (W l i)
def plus (s t : St) : St := ⟨add s.a t.a, add s.b t.b, add s.c t.c, add s.d t.d, add s.e t.e, add s.f t.f, add s.g t.g, add s.h t.h⟩
def comp (s : St) (l : List UInt8) : St := plus s (rnds l s 80)
def h0 : St := ⟨7640891576956012808, 13503953896175478587, 4354685564936845355, 11912009170470909681, 5840696475078001361, 11170449401992604703, 2270897969802886507, 6620516959819538809⟩
def chunk (l : List UInt8) (i : Nat) : List UInt8 := (l.drop (128 * i)).take 128
def mids (s : St) (l : List UInt8) : Nat → St
  | 0 => s
  | k + 1 => comp (mids s l k) (chunk l k)
def be8 (n : Nat) : List UInt8 := [UInt8.ofNat (n / 72057594037927936), UInt8.ofNat (n / 281474976710656), UInt8.ofNat (n / 1099511627776), UInt8.ofNat (n / 4294967296), UInt8.ofNat (n / 16777216), UInt8.ofNat (n / 65536), UInt8.ofNat (n / 256), UInt8.ofNat n]
def tell (s : St) : List UInt8 := be8 s.a ++ be8 s.b ++ be8 s.c ++ be8 s.d ++ be8 s.e ++ be8 s.f ++ be8 s.g ++ be8 s.h
def fill (n : Nat) : Nat := (239 - n % 128) % 128
def tailN (n : Nat) : List UInt8 := 128 :: (List.replicate (fill n) 0 ++ (be8 0 ++ be8 (8 * n)))
def pad (l : List UInt8) : List UInt8 := l ++ tailN l.length
def sha (l : List UInt8) : List UInt8 := tell (mids h0 (pad l) ((pad l).length / 128))
theorem add_lt (a b : Nat) : add a b < 18446744073709551616 := Nat.mod_lt _ (by decide)
theorem xor_lt {a b : Nat} (ha : a < 18446744073709551616) (hb : b < 18446744073709551616) : a ^^^ b < 18446744073709551616 := Nat.xor_lt_two_pow (n := 64) ha hb
theorem and_lt {a b : Nat} (ha : a < 18446744073709551616) : a &&& b < 18446744073709551616 := Nat.lt_of_le_of_lt Nat.and_le_left ha
theorem div_lt {a : Nat} (k : Nat) (ha : a < 18446744073709551616) : a / k < 18446744073709551616 := Nat.lt_of_le_of_lt (Nat.div_le_self _ _) ha
theorem rorN_lt {x : Nat} (n : Nat) (hx : x < 18446744073709551616) : rorN x n < 18446744073709551616 :=
  Nat.or_lt_two_pow (n := 64) (div_lt _ hx) (Nat.mod_lt _ (by decide))
theorem be_lt (l : List UInt8) (i : Nat) : be l i < 18446744073709551616 := by
  have h0 := (l.getD (8 * i) 0).toNat_lt
  have h1 := (l.getD (8 * i + 1) 0).toNat_lt
  have h2 := (l.getD (8 * i + 2) 0).toNat_lt
  have h3 := (l.getD (8 * i + 3) 0).toNat_lt
  have h4 := (l.getD (8 * i + 4) 0).toNat_lt
  have h5 := (l.getD (8 * i + 5) 0).toNat_lt
  have h6 := (l.getD (8 * i + 6) 0).toNat_lt
  have h7 := (l.getD (8 * i + 7) 0).toNat_lt
  unfold be
  omega
theorem nx_lt (q : List Nat) : nx q < 18446744073709551616 := add_lt _ _
theorem wrev_lt (l : List UInt8) : ∀ (k : Nat), ∀ x ∈ wrev l k, x < 18446744073709551616
  | 0 => by
    intro x hx
    unfold wrev at hx
    simp only [List.mem_cons, List.not_mem_nil, or_false] at hx
    rcases hx with rfl | rfl | rfl | rfl | rfl | rfl | rfl | rfl | rfl | rfl | rfl | rfl | rfl | rfl | rfl | rfl <;> exact be_lt _ _
  | k + 1 => by
    intro x hx
    unfold wrev at hx
    rcases List.mem_cons.1 hx with rfl | h
    · exact nx_lt _
    · exact wrev_lt l k x h
theorem W_lt (l : List UInt8) (i : Nat) : W l i < 18446744073709551616 := by
  unfold W
  rw [List.getD_eq_getElem?_getD]
  rcases h : (wrev l (i - 15))[15 - i]? with _ | v
  · simp
  · exact wrev_lt l _ _ (List.mem_of_getElem? h)
theorem wrev_get (l : List UInt8) : ∀ (k j : Nat), j < 16 + k → (wrev l k).getD j 0 = W l (15 + k - j)
  | 0, j, hj => by
    unfold W
    rw [show 15 + 0 - j - 15 = 0 by omega, show 15 - (15 + 0 - j) = j by omega]
  | k + 1, 0, _ => by
    unfold W
    rw [show 15 + (k + 1) - 0 - 15 = k + 1 by omega, show 15 - (15 + (k + 1) - 0) = 0 by omega]
  | k + 1, j + 1, hj => by
    have ih := wrev_get l k j (by omega)
    rw [show 15 + (k + 1) - (j + 1) = 15 + k - j by omega, ← ih]
    rfl
theorem W_low (l : List UInt8) (i : Nat) (hi : i < 16) : W l i = be l i := by
  rcases (show i = 0 ∨ i = 1 ∨ i = 2 ∨ i = 3 ∨ i = 4 ∨ i = 5 ∨ i = 6 ∨ i = 7 ∨ i = 8 ∨ i = 9 ∨ i = 10 ∨ i = 11 ∨ i = 12 ∨ i = 13 ∨ i = 14 ∨ i = 15 by omega) with rfl | rfl | rfl | rfl | rfl | rfl | rfl | rfl | rfl | rfl | rfl | rfl | rfl | rfl | rfl | rfl <;> rfl
theorem W_high (l : List UInt8) (i : Nat) (hi : 16 ≤ i) : W l i = add (add (add (W l (i - 16)) (nearN (W l (i - 15)))) (W l (i - 7))) (farN (W l (i - 2))) := by
  obtain ⟨k, rfl⟩ : ∃ k, i = 16 + k := ⟨i - 16, by omega⟩
  have h0 : W l (16 + k) = nx (wrev l k) := by
    unfold W
    rw [show 16 + k - 15 = k + 1 by omega, show 15 - (16 + k) = 0 by omega]
    rfl
  rw [h0]
  unfold nx
  rw [wrev_get l k 15 (by omega), wrev_get l k 14 (by omega), wrev_get l k 6 (by omega), wrev_get l k 1 (by omega)]
  rw [show 15 + k - 15 = 16 + k - 16 by omega, show 15 + k - 14 = 16 + k - 15 by omega, show 15 + k - 6 = 16 + k - 7 by omega, show 15 + k - 1 = 16 + k - 2 by omega]
def St.ok (s : St) : Prop := s.a < 18446744073709551616 ∧ s.b < 18446744073709551616 ∧ s.c < 18446744073709551616 ∧ s.d < 18446744073709551616 ∧ s.e < 18446744073709551616 ∧ s.f < 18446744073709551616 ∧ s.g < 18446744073709551616 ∧ s.h < 18446744073709551616
theorem rnd_ok {s : St} (h : s.ok) (k w : Nat) : (rnd s k w).ok := ⟨add_lt _ _, h.1, h.2.1, h.2.2.1, add_lt _ _, h.2.2.2.2.1, h.2.2.2.2.2.1, h.2.2.2.2.2.2.1⟩
theorem rnds_ok (l : List UInt8) {s : St} (h : s.ok) : ∀ i, (rnds l s i).ok
  | 0 => h
  | i + 1 => rnd_ok (rnds_ok l h i) _ _
theorem plus_ok (s t : St) : (plus s t).ok := ⟨add_lt _ _, add_lt _ _, add_lt _ _, add_lt _ _, add_lt _ _, add_lt _ _, add_lt _ _, add_lt _ _⟩
theorem comp_ok (s : St) (l : List UInt8) : (comp s l).ok := plus_ok _ _
theorem h0_ok : h0.ok := by unfold St.ok h0; decide
theorem mids_ok {s : St} (h : s.ok) (l : List UInt8) : ∀ k, (mids s l k).ok
  | 0 => h
  | k + 1 => comp_ok _ _
structure N4 where
  a : Nat
  b : Nat
  c : Nat
  d : Nat
def mk4 (a b c d : Nat) : N4 := force a fun a => force b fun b => force c fun c => force d fun d => ⟨a, b, c, d⟩
def addL (x y : N4) : N4 :=
  force (x.a + y.a) fun s0 => force (x.b + y.b + s0 / 18446744073709551616) fun s1 => force (x.c + y.c + s1 / 18446744073709551616) fun s2 => force (x.d + y.d + s2 / 18446744073709551616) fun s3 =>
    mk4 (s0 % 18446744073709551616) (s1 % 18446744073709551616) (s2 % 18446744073709551616) (s3 % 18446744073709551616)
def at4 (x : N4) : Nat → Nat
  | 0 => x.a
  | 1 => x.b
  | 2 => x.c
  | _ => x.d
def upW (x : N4) (n i : Nat) : Nat :=
  if i < n / 64 then 0 else if i = n / 64 then at4 x 0 * 2 ^ (n % 64) % 18446744073709551616
    else at4 x (i - n / 64) * 2 ^ (n % 64) % 18446744073709551616 ||| at4 x (i - n / 64 - 1) / 2 / 2 ^ (63 - n % 64)
def upL (x : N4) (n : Nat) : N4 := mk4 (upW x n 0) (upW x n 1) (upW x n 2) (upW x n 3)
def lessL (x y : N4) : Bool := if x.d = y.d then (if x.c = y.c then (if x.b = y.b then decide (x.a < y.a) else decide (x.b < y.b)) else decide (x.c < y.c)) else decide (x.d < y.d)
def sumL (x y z : N4) : N4 := addL (addL x y) z
structure R3 where
  x : N4
  s : N4
  c : N4
def one4 : N4 := ⟨1, 0, 0, 0⟩
def sqL (r : R3) (i : Nat) : N4 := sumL r.s (upL r.x (i + 1)) (upL one4 (2 * i))
def cuStep (r : R3) (i : Nat) (c : N4) : N4 := sumL c (upL r.s i) (upL r.x (2 * i))
def cuL (r : R3) (i : Nat) : N4 := addL (cuStep r i (cuStep r i (cuStep r i r.c))) (upL one4 (3 * i))
def setBit (x : N4) (i : Nat) : N4 := if i / 64 = 0 then ⟨x.a ||| 2 ^ (i % 64), x.b, x.c, x.d⟩ else ⟨x.a, x.b ||| 2 ^ (i % 64), x.c, x.d⟩
def rStep (a : N4) (p3 : Bool) (r : R3) (i : Nat) : R3 :=
  let s := sqL r i
  let c := cuL r i
  if lessL a (if p3 then c else s) then r else ⟨setBit r.x i, s, c⟩
def rTo (a : N4) (p3 : Bool) : Nat → R3 → R3
  | 0, r => r
  | k + 1, r => rTo a p3 k (rStep a p3 r k)
def r0 : R3 := ⟨⟨0, 0, 0, 0⟩, ⟨0, 0, 0, 0⟩, ⟨0, 0, 0, 0⟩⟩
def rootL (a : N4) (p3 : Bool) : N4 := (rTo a p3 70 r0).x
def cons (p : Nat) : Nat := (rootL ⟨0, 0, 0, p⟩ true).a
def pL : List Nat := [2, 3, 5, 7, 11, 13, 17, 19, 23, 29, 31, 37, 41, 43, 47, 53, 59, 61, 67, 71, 73, 79, 83, 89, 97, 101, 103, 107, 109, 113, 127, 131, 137, 139, 149, 151, 157, 163, 167, 173, 179, 181, 191, 193, 197, 199, 211, 223, 227, 229, 233, 239, 241, 251, 257, 263, 269, 271, 277, 281, 283, 293, 307, 311, 313, 317, 331, 337, 347, 349, 353, 359, 367, 373, 379, 383, 389, 397, 401, 409]
structure L3 where
  a : Nat
  b : Nat
  c : Nat
def tmMid (x : L3) (n : Nat) : Nat := mulHi x.a n + mulLo x.b n
def tmHigh (x : L3) (n : Nat) : Nat := mulHi x.b n + mulLo x.c n + tmMid x n / 18446744073709551616
def timesL (x : L3) (n : Nat) : L3 := ⟨mulLo x.a n, tmMid x n % 18446744073709551616, tmHigh x n % 18446744073709551616⟩
def timesO (x : L3) (n : Nat) : Nat := (mulHi x.c n + tmHigh x n / 18446744073709551616) % 18446744073709551616
def sqN (w f : Nat) : Nat := ((timesL ⟨f, 2 * w % 18446744073709551616, 0⟩ f).c + w * w % 18446744073709551616) % 18446744073709551616
def cuMid (w f : Nat) : L3 :=
  let l := timesL ⟨f, 3 * w % 18446744073709551616, 0⟩ f
  ⟨l.a, l.b, (l.c + 3 * w % 18446744073709551616 * w % 18446744073709551616) % 18446744073709551616⟩
def cuN (w f : Nat) : Nat := (timesO (cuMid w f) f + w * w % 18446744073709551616 * w % 18446744073709551616) % 18446744073709551616
def bitsTo (pw : Nat → Nat → Nat) (p w : Nat) : Nat → Nat → Nat
  | 0, f => f
  | n + 1, f => bitsTo pw p w n (if pw w (f ||| 2 ^ n) < p then f ||| 2 ^ n else f)
def wholeTo (pw : Nat → Nat → Nat) (p : Nat) : Nat → Nat → Nat
  | 0, k => k
  | n + 1, k => if pw (k + 1) 0 ≤ p then wholeTo pw p n (k + 1) else k
def wholeN (pw : Nat → Nat → Nat) (p : Nat) : Nat := wholeTo pw p 30 0
def rootN (pw : Nat → Nat → Nat) (p : Nat) : Nat := force (wholeN pw p) fun w => bitsTo pw p w 64 0
def prTo (p : Nat) : Nat → Nat → Bool
  | 0, _ => true
  | n + 1, q => if q * q ≤ p then (if p % q = 0 then false else prTo p n (q + 1)) else true
def isPr (p : Nat) : Bool := prTo p 30 2
def wholeOk (pw : Nat → Nat → Nat) (p : Nat) : Bool := decide (wholeN pw p < 30) && (List.range (wholeN pw p)).all (fun k => decide (pw (k + 1) 0 ≤ p)) && decide (p < pw (wholeN pw p + 1) 0)
theorem cu_all : pL.map (rootN cuN) = kL := by decide +kernel
theorem sq_all : (pL.take 8).map (rootN sqN) = [h0.a, h0.b, h0.c, h0.d, h0.e, h0.f, h0.g, h0.h] := by decide +kernel
theorem cu_whole : pL.all (wholeOk cuN) = true := by decide +kernel
theorem sq_whole : (pL.take 8).all (wholeOk sqN) = true := by decide +kernel
def qB (k : Nat) : List Nat := pL.filter fun p => decide (p < k)
theorem qB_pr : ∀ k, k < 410 → 2 ≤ k → qB (k + 1) = if isPr k then qB k ++ [k] else qB k := by decide +kernel
end Go.Proofs.YtdajmekliodmcaaGreatDoor.W4
