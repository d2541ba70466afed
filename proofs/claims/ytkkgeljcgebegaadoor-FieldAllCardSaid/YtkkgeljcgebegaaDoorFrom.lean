/- From of package field: the number whose bytes a text is. No condition. -/
import Derived.Test.YtkkgeljcgebegaaDoorAwake
import Derived.Test.YtkkgeljcgebegaaDoorLeMath
namespace Go.Proofs.YtkkgeljcgebegaaDoor
open Go.RowKit Go.Shelf
set_option linter.unusedVariables false
set_option linter.unusedSimpArgs false
theorem enters11 : ∀ args w, (callFunc 11 args).run Tryd.prog w = .ok (.enter 11 args) w := enters_of Tryd.func11 (by kernel_rfl) rfl
theorem exec_neqv {ρ : Operand → Value} {o : Oper} (x y : Operand) (ho : o.op = .binOp .neq 24 x y 24) (a b : Nat) (ha : a < 115792089237316195423570985008687907853269984665640564039457584007913129639936) (hb : b < 115792089237316195423570985008687907853269984665640564039457584007913129639936) (hx : ρ x = .agg (num a)) (hy : ρ y = .agg (num b)) (v : Bool) (hv : decide (a = b) = !v) (w : World) :
    (execOp ρ o).run Tryd.prog w = .ok (.value (.bool v)) w := by
  have h := eq_num a b ha hb (!v) hv w
  have hvv : (!(!v)) = v := by simp
  unfold execOp
  rw [ho]
  simp only [hx, hy]
  rw [num_lit, num_lit] at *
  go_simp
theorem Kn.setw {w0 w : World} {l m : List (Nat × Array Value)} (h : Kn w0 l w) (g : Nat) (f : Nat → Nat) (j v : Nat) (hg : Row w g 24 .u64 4 f) (hw : w0.heap.size ≤ g) (hm : ∀ p ∈ m, p = (g, (rowOf .u64 4 (upd f j v)).toArray) ∨ (p ∈ l ∧ p.1 ≠ g)) : Kn w0 m (w.setCell ⟨g, j, none⟩ (.int .u64 (v : Int))) :=
  ⟨h.1.setCell (p := ⟨g, j, none⟩) hw _, fun p hp => by
    rcases hm p hp with rfl | ⟨h1, h2⟩
    · exact hg.set j v
    · exact (heap_setCell_other _ _ _ _ h2).trans (h.2 p h1)⟩
theorem exec_quo8 {ρ : Operand → Value} {o : Oper} (x : Operand) (ho : o.op = .binOp .quo 3 x (.const (.int .i64 8)) 3) (hc : ρ (.const (.int .i64 8)) = .int .i64 8) (i j : Nat) (hi : i < 1000) (hx : ρ x = .int .i64 (i : Int)) (hj : j = i / 8) (w : World) : (execOp ρ o).run Tryd.prog w = .ok (.value (.int .i64 (j : Int))) w := by
  have hq : (i : Int).tdiv 8 = (j : Int) := by rw [Int.tdiv_eq_ediv_of_nonneg (by omega)]; omega
  have hq2 : (i : Int) / 8 = (j : Int) := by omega
  have hw : IntKind.i64.wrap (j : Int) = (j : Int) := IntWalk.i64_in _ (by omega)
  clear hj
  unfold execOp
  rw [ho]
  simp only [hx, hc]
  go_simp
theorem exec_rem8 {ρ : Operand → Value} {o : Oper} (x : Operand) (ho : o.op = .binOp .rem 3 x (.const (.int .i64 8)) 3) (hc : ρ (.const (.int .i64 8)) = .int .i64 8) (i j : Nat) (hi : i < 1000) (hx : ρ x = .int .i64 (i : Int)) (hj : j = i % 8) (w : World) : (execOp ρ o).run Tryd.prog w = .ok (.value (.int .i64 (j : Int))) w := by
  have hq : (i : Int).tmod 8 = (j : Int) := by rw [Int.tmod_eq_emod_of_nonneg (by omega)]; omega
  have hq2 : (i : Int) % 8 = (j : Int) := by omega
  have hw : IntKind.i64.wrap (j : Int) = (j : Int) := IntWalk.i64_in _ (by omega)
  clear hj
  unfold execOp
  rw [ho]
  simp only [hx, hc]
  go_simp
theorem exec_mul8 {ρ : Operand → Value} {o : Oper} (x : Operand) (ho : o.op = .binOp .mul 3 x (.const (.int .i64 8)) 3) (hc : ρ (.const (.int .i64 8)) = .int .i64 8) (i j : Nat) (hi : i < 8) (hx : ρ x = .int .i64 (i : Int)) (hj : j = 8 * i) (w : World) : (execOp ρ o).run Tryd.prog w = .ok (.value (.int .i64 (j : Int))) w := by
  have hq : (i : Int) * 8 = (j : Int) := by omega
  have hw : IntKind.i64.wrap (j : Int) = (j : Int) := IntWalk.i64_in _ (by omega)
  clear hj
  unfold execOp
  rw [ho]
  simp only [hx, hc]
  go_simp
theorem exec_shl {ρ : Operand → Value} {o : Oper} (x y : Operand) (ho : o.op = .binOp .shl 22 x y 3) (c s r : Nat) (hs : s < 64) (hx : ρ x = .int .u64 (c : Int)) (hy : ρ y = .int .i64 (s : Int)) (hr : r = c * 2 ^ s) (hl : r < 18446744073709551616) (w : World) : (execOp ρ o).run Tryd.prog w = .ok (.value (.int .u64 (r : Int))) w := by
  have hq : (c : Int) * 2 ^ s = (r : Int) := by rw [hr, Int.natCast_mul, Int.natCast_pow]; rfl
  have hw : IntKind.u64.wrap (r : Int) = (r : Int) := wrap_id hl
  have hsi : (s : Int) < 64 := by omega
  clear hr
  unfold execOp
  rw [ho]
  simp only [hx, hy]
  go_simp
theorem exec_or {ρ : Operand → Value} {o : Oper} (x y : Operand) (ho : o.op = .binOp .or 22 x y 22) (a c s r : Nat) (hx : ρ x = .int .u64 (a : Int)) (hy : ρ y = .int .u64 ((c * 2 ^ s : Nat) : Int)) (ha : a < 2 ^ s) (hr : r = a + c * 2 ^ s) (hl : r < 18446744073709551616) (w : World) : (execOp ρ o).run Tryd.prog w = .ok (.value (.int .u64 (r : Int))) w := by
  have hb := bits_or_u64_nat a (c * 2 ^ s) (by omega) (by omega)
  have ho2 : a ||| c * 2 ^ s = r := by rw [Nat.or_comm, or_join s c a ha, hr]; omega
  rw [ho2] at hb
  clear hr ho2
  generalize c * 2 ^ s = z at *
  unfold execOp
  rw [ho]
  simp only [hx, hy]
  go_simp
theorem exec_conv64 {ρ : Operand → Value} {o : Oper} (x : Operand) (ho : o.op = .convert 5 22 x) (c : Nat) (hc : c < 256) (hx : ρ x = .int .u8 (c : Int)) (w : World) : (execOp ρ o).run Tryd.prog w = .ok (.value (.int .u64 (c : Int))) w := by
  have hw : IntKind.u64.wrap (c : Int) = (c : Int) := wrap_id (by omega)
  unfold execOp
  rw [ho]
  simp only [hx]
  go_simp
theorem exec_index_str {ρ : Operand → Value} {o : Oper} (x y : Operand) (ho : o.op = .index 9 x y) (s : ByteArray) (i : Nat) (hi : i < s.size) (hx : ρ x = .string s) (hy : ρ y = .int .i64 (i : Int)) (c : Nat) (hc : c = s[i].toNat) (w : World) : (execOp ρ o).run Tryd.prog w = .ok (.value (.int .u8 (c : Int))) w := by
  subst hc
  unfold execOp
  rw [ho]
  simp only [hx, hy]
  go_simp
set_option maxRecDepth 100000 in
set_option maxHeartbeats 1000000 in
theorem from_short (s : ByteArray) (hs : s.size ≤ 9223372036854775807) (h32 : s.size ≠ 32) (w : World) :
    Calls Tryd.prog 9 #[.string s] w fun e w' => e = .returned (.tuple #[.agg (num 0), .bool false]) ∧ Below w.heap.size w w' := by
  have HZ := zero_run
  have hb0 := build0_run
  have IZ := isNum 0
  have hne : ((s.size : Int) != 32) = true := by rw [bne_iff_ne]; omega
  have HK : Hid (Kn w [(w.heap.size, num 0)] (w.alloc (.cells (num 0) 24))) := Lib.hid ((Kn.nil w).new (num 0))
  generalize num 0 = Z at *
  go_enter Tryd.func9, Tryd.ntmps9
  go_wp2_with (first | (refine wpList_run rfl _ (exec_alloc_agg _ 24 rfl _ (HZ _)) ?_) | (refine wpList_run rfl _ (exec_build0 rfl (.agg Z) (hb0 _) _) ?_) | (refine wpList_run0 rfl (exec_store_kn (w0 := w) (l := [(w.heap.size, Z)]) _ ?S2 (.tmp 2) (.tmp 9) rfl (w.heap.size) rfl Z IZ rfl Z IZ (by simp)) ?_))
  case S2 => exact HK.out
  have HS6 : Kn w [(w.heap.size, Z)] ((w.alloc (.cells Z 24)).setRow (w.heap.size) Z) := HK.out.set (w.heap.size) Z Z (HK.out.get (w.heap.size) Z (by simp)) (by omega) (fun p hp => by simp at hp; subst hp; simp)
  exact bodyPost_ret (results_two rfl _ _ _ ⟨w.heap.size, 0, none⟩ rfl _ (HS6.load (w.heap.size) Z (by simp) IZ)) rfl ⟨rfl, HS6.1⟩
set_option maxRecDepth 100000 in
set_option maxHeartbeats 1000000 in
theorem from_loop (s : ByteArray) (h32 : s.size = 32) (w : World) :
    Calls Tryd.prog 9 #[.string s] w fun e w' => e = .returned (.tuple #[.agg (num (fromF s.data.toList).1), .bool (fromF s.data.toList).2]) ∧ Below w.heap.size w w' := by
  have HZ := zero_run
  have IZ := isNum 0
  have hsl : s.data.toList.length = 32 := h32
  obtain ⟨l, hl⟩ : ∃ l, Hid (l = s.data.toList) := ⟨_, Lib.hid rfl⟩
  rw [← hl.out] at hsl ⊢
  have HK : Hid (Kn w [(w.heap.size, num 0), (w.heap.size + 1, (rowOf .u64 4 (wordAt (l.take 0))).toArray)] ((w.alloc (.cells (num 0) 24)).alloc (.cells (num 0) 24))) := by
    have h := ((Kn.nil w).new (num 0)).new (num 0)
    simp only [World.size_alloc] at h
    rw [List.take_zero, rowOf_ext (f := wordAt []) (g := fun _ => 0) (fun j _ => wordAt_nil j), num_zero]
    exact Lib.hid (h.sub (fun p hp => by simp at hp ⊢; rcases hp with h | h <;> simp [h]))
  have HZE : Hid (num 0 = num 0) := Lib.hid rfl
  obtain ⟨Z, hZe⟩ : ∃ Z, Hid (Z = num 0) := ⟨_, Lib.hid rfl⟩
  rw [← hZe.out] at HK IZ
  have HZ2 : ∀ w, (zeroValue 24).run Tryd.prog w = .ok (.agg Z) w := by rw [hZe.out]; exact HZ
  have hne : ((s.size : Int) != 32) = false := by rw [bne_eq_false_iff_eq]; omega
  have hs32 : (s.size : Int) = 32 := by omega
  clear HZ HZE
  go_enter Tryd.func9, Tryd.ntmps9
  go_wp2_with (refine wpList_run rfl _ (exec_alloc_agg _ 24 rfl _ (HZ2 _)) ?_)
  generalize (w.alloc (.cells Z 24)).alloc (.cells Z 24) = W0 at *
  go_loopw [10] (fun u wr => ∃ i : Nat, i ≤ 32 ∧ u = .int .i64 i ∧ Kn w [(w.heap.size, Z), (w.heap.size + 1, (rowOf .u64 4 (wordAt (l.take i))).toArray)] wr) (fun u _ => 32 - (intOf u).toNat)
  case atStart => exact ⟨0, by omega, rfl, HK.out⟩
  case round =>
    clear HK
    obtain ⟨i, hi, rfl, hK⟩ := hrel
    by_cases hlt : i < 32
    · have hil : i < l.length := by omega
      have his : i < s.size := by omega
      have htl : (l.take i).length = i := by rw [List.length_take]; omega
      obtain ⟨j, hj0⟩ : ∃ j, j = i / 8 := ⟨_, rfl⟩
      obtain ⟨q, hq0⟩ : ∃ q, q = i % 8 := ⟨_, rfl⟩
      obtain ⟨sh, hsh0⟩ : ∃ sh, sh = 8 * q := ⟨_, rfl⟩
      have hj4 : j < 4 := by omega
      have hq8 : q < 8 := by omega
      have hs64 : sh < 64 := by omega
      obtain ⟨c, hc0⟩ : ∃ c, c = s[i].toNat := ⟨_, rfl⟩
      have hcl2 : c = l[i].toNat := by rw [hc0]; congr 1; simp only [hl.out]; rfl
      have hc256 : c < 256 := by rw [hc0]; exact UInt8.toNat_lt _
      have hcl : c * 2 ^ sh < 18446744073709551616 := by
        have h1 : 2 ^ sh ≤ 2 ^ 56 := Nat.pow_le_pow_right (by decide) (by omega)
        have h2 : c * 2 ^ sh ≤ 255 * 2 ^ 56 := Nat.mul_le_mul (by omega) h1
        omega
      have hxs0 := wordAt_part (l.take i) i htl.symm
      rw [← hj0, ← hq0, ← hsh0] at hxs0
      obtain ⟨r, hr0⟩ : ∃ r, r = wordAt (l.take i) j + c * 2 ^ sh := ⟨_, rfl⟩
      have hstep : ∀ z, upd (wordAt (l.take i)) j r z = wordAt (l.take (i + 1)) z := by
        intro z
        rw [List.take_succ_eq_append_getElem hil, wordAt_snoc, htl, ← hj0, ← hq0, ← hsh0, ← hcl2]
        unfold upd
        by_cases hz : z = j
        · subst hz; rw [if_pos rfl, if_pos rfl, hr0]
        · rw [if_neg hz, if_neg hz]
      have hrl : r < 18446744073709551616 := by
        have h := hstep j
        rw [upd_same] at h
        rw [h]
        exact wordAt_lt _ _
      have HST : Hid ((rowOf .u64 4 (upd (wordAt (l.take i)) j r)).toArray = (rowOf .u64 4 (wordAt (l.take (i + 1)))).toArray) := by
        unfold Hid
        rw [rowOf_ext (fun z _ => hstep z)]
      have HRW : Hid (Row wr (w.heap.size + 1) 24 .u64 4 (wordAt (l.take i))) := Lib.hid (hK.get (w.heap.size + 1) _ (by simp))
      obtain ⟨x, hx0⟩ : ∃ x, x = wordAt (l.take i) j := ⟨_, rfl⟩
      rw [← hx0] at hxs0 hr0
      have hxs : x < 2 ^ sh := hxs0
      have hAj0 : (rowOf .u64 4 (wordAt (l.take i))).toArray[j]? = some (.int .u64 (x : Int)) := by rw [List.getElem?_toArray, rowOf_get _ _ _ _ hj4, hx0]
      obtain ⟨A, hA⟩ : ∃ A, Hid (A = (rowOf .u64 4 (wordAt (l.take i))).toArray) := ⟨_, Lib.hid rfl⟩
      rw [← hA.out] at hAj0 hK
      have hAj := hAj0
      have hj := Lib.hid hj0
      have hq := Lib.hid hq0
      have hsh := Lib.hid hsh0
      have hc := Lib.hid hc0
      have hr := Lib.hid hr0
      have hli : (i : Int) < 32 := by omega
      have HKK := Lib.hid hK
      clear hj0 hq0 hsh0 hc0 hr0 hx0 hcl2 htl hstep hxs0 hAj0 hK
      go_wp2
      refine wp_region_any (by kernel_rfl) ?_
      change wpAny _ _ _ _ _ _ _ (World.drew _)
      have HSD := HKK.out.drew
      generalize hWd : wr.drew = Wd at *
      refine any_of_F (S := Kn w [(w.heap.size, Z), (w.heap.size + 1, A)]) (f := 14) _ _ _ _ ?_
      refine AnyF.take 0 (some 13) (.move (.tmp 5)) (.int .i64 (i : Int)) rfl (by kernel_rfl) (by kernel_rfl) (by kernel_rfl) (fun _ _ _ h => h) rfl (by kernel_rfl) (fun o ho w2 hw => exec_move (.tmp 5) ho _ rfl w2) HSD ?_
      simp only [Act.put, List.setIfInBounds_toArray, List.set_cons_succ, List.set_cons_zero]
      refine AnyF.take 1 (some 14) (.binOp .quo 3 (.tmp 13) (.const (.int .i64 8)) 3) (.int .i64 (j : Int)) rfl (by kernel_rfl) (by kernel_rfl) (by kernel_rfl) (fun _ _ _ h => h) rfl (by kernel_rfl) (fun o ho w2 hw => exec_quo8 (.tmp 13) ho rfl i j (by omega) rfl hj.out w2) HSD ?_
      simp only [Act.put, List.setIfInBounds_toArray, List.set_cons_succ, List.set_cons_zero]
      refine AnyF.take 2 (some 15) (.indexAddr 24 (.tmp 4) (.tmp 14)) (.pointer (some ⟨w.heap.size + 1, j, none⟩)) rfl (by kernel_rfl) (by kernel_rfl) (by kernel_rfl) (fun _ _ _ h => h) rfl (by kernel_rfl) (fun o ho w2 hw => exec_indexAddr24 (.tmp 4) (.tmp 14) ho (w.heap.size + 1) j rfl rfl hj4 w2) HSD ?_
      simp only [Act.put, List.setIfInBounds_toArray, List.set_cons_succ, List.set_cons_zero]
      refine AnyF.take 3 (some 16) (.load 22 (.tmp 15)) (.int .u64 (x : Int)) rfl (by kernel_rfl) (by kernel_rfl) (by kernel_rfl) (fun _ _ _ h => h) rfl (by kernel_rfl) (fun o ho w2 hw => exec_load_one w2 22 (.tmp 15) ho ⟨w.heap.size + 1, j, none⟩ rfl _ ((hw.cell (w.heap.size + 1) A (by simp) j).trans hAj) _ Tryd.underlying22 rfl) HSD ?_
      simp only [Act.put, List.setIfInBounds_toArray, List.set_cons_succ, List.set_cons_zero]
      refine AnyF.take 4 (some 17) (.move (.tmp 0)) (.string s) rfl (by kernel_rfl) (by kernel_rfl) (by kernel_rfl) (fun _ _ _ h => h) rfl (by kernel_rfl) (fun o ho w2 hw => exec_move (.tmp 0) ho _ rfl w2) HSD ?_
      simp only [Act.put, List.setIfInBounds_toArray, List.set_cons_succ, List.set_cons_zero]
      refine AnyF.take 5 (some 18) (.move (.tmp 5)) (.int .i64 (i : Int)) rfl (by kernel_rfl) (by kernel_rfl) (by kernel_rfl) (fun _ _ _ h => h) rfl (by kernel_rfl) (fun o ho w2 hw => exec_move (.tmp 5) ho _ rfl w2) HSD ?_
      simp only [Act.put, List.setIfInBounds_toArray, List.set_cons_succ, List.set_cons_zero]
      refine AnyF.take 6 (some 19) (.index 9 (.tmp 17) (.tmp 18)) (.int .u8 (c : Int)) rfl (by kernel_rfl) (by kernel_rfl) (by kernel_rfl) (fun _ _ _ h => h) rfl (by kernel_rfl) (fun o ho w2 hw => exec_index_str (.tmp 17) (.tmp 18) ho s i his rfl rfl c hc.out w2) HSD ?_
      simp only [Act.put, List.setIfInBounds_toArray, List.set_cons_succ, List.set_cons_zero]
      refine AnyF.take 7 (some 20) (.convert 5 22 (.tmp 19)) (.int .u64 (c : Int)) rfl (by kernel_rfl) (by kernel_rfl) (by kernel_rfl) (fun _ _ _ h => h) rfl (by kernel_rfl) (fun o ho w2 hw => exec_conv64 (.tmp 19) ho c hc256 rfl w2) HSD ?_
      simp only [Act.put, List.setIfInBounds_toArray, List.set_cons_succ, List.set_cons_zero]
      refine AnyF.take 8 (some 21) (.move (.tmp 5)) (.int .i64 (i : Int)) rfl (by kernel_rfl) (by kernel_rfl) (by kernel_rfl) (fun _ _ _ h => h) rfl (by kernel_rfl) (fun o ho w2 hw => exec_move (.tmp 5) ho _ rfl w2) HSD ?_
      simp only [Act.put, List.setIfInBounds_toArray, List.set_cons_succ, List.set_cons_zero]
      refine AnyF.take 9 (some 22) (.binOp .rem 3 (.tmp 21) (.const (.int .i64 8)) 3) (.int .i64 (q : Int)) rfl (by kernel_rfl) (by kernel_rfl) (by kernel_rfl) (fun _ _ _ h => h) rfl (by kernel_rfl) (fun o ho w2 hw => exec_rem8 (.tmp 21) ho rfl i q (by omega) rfl hq.out w2) HSD ?_
      simp only [Act.put, List.setIfInBounds_toArray, List.set_cons_succ, List.set_cons_zero]
      refine AnyF.take 10 (some 23) (.binOp .mul 3 (.tmp 22) (.const (.int .i64 8)) 3) (.int .i64 (sh : Int)) rfl (by kernel_rfl) (by kernel_rfl) (by kernel_rfl) (fun _ _ _ h => h) rfl (by kernel_rfl) (fun o ho w2 hw => exec_mul8 (.tmp 22) ho rfl q sh hq8 rfl hsh.out w2) HSD ?_
      simp only [Act.put, List.setIfInBounds_toArray, List.set_cons_succ, List.set_cons_zero]
      refine AnyF.take 11 (some 24) (.binOp .shl 22 (.tmp 20) (.tmp 23) 3) (.int .u64 ((c * 2 ^ sh : Nat) : Int)) rfl (by kernel_rfl) (by kernel_rfl) (by kernel_rfl) (fun _ _ _ h => h) rfl (by kernel_rfl) (fun o ho w2 hw => exec_shl (.tmp 20) (.tmp 23) ho c sh _ hs64 rfl rfl rfl hcl w2) HSD ?_
      simp only [Act.put, List.setIfInBounds_toArray, List.set_cons_succ, List.set_cons_zero]
      refine AnyF.take 12 (some 25) (.binOp .or 22 (.tmp 16) (.tmp 24) 22) (.int .u64 (r : Int)) rfl (by kernel_rfl) (by kernel_rfl) (by kernel_rfl) (fun _ _ _ h => h) rfl (by kernel_rfl) (fun o ho w2 hw => exec_or (.tmp 16) (.tmp 24) ho x c sh r rfl rfl hxs hr.out hrl w2) HSD ?_
      simp only [Act.put, List.setIfInBounds_toArray, List.set_cons_succ, List.set_cons_zero]
      refine AnyF.take 13 (some 26) (.indexAddr 24 (.tmp 4) (.tmp 14)) (.pointer (some ⟨w.heap.size + 1, j, none⟩)) rfl (by kernel_rfl) (by kernel_rfl) (by kernel_rfl) (fun _ _ _ h => h) rfl (by kernel_rfl) (fun o ho w2 hw => exec_indexAddr24 (.tmp 4) (.tmp 14) ho (w.heap.size + 1) j rfl rfl hj4 w2) HSD ?_
      simp only [Act.put, List.setIfInBounds_toArray, List.set_cons_succ, List.set_cons_zero]
      have HRD : Row Wd (w.heap.size + 1) 24 .u64 4 (wordAt (l.take i)) := by rw [← hWd]; exact HRW.out
      have HN9 : Kn w [(w.heap.size, Z), (w.heap.size + 1, (rowOf .u64 4 (wordAt (l.take (i + 1)))).toArray)] (Wd.setCell ⟨w.heap.size + 1, j, none⟩ (.int .u64 (r : Int))) := by
        rw [← HST.out]
        exact HSD.setw (w.heap.size + 1) (wordAt (l.take i)) j r HRD (by omega) (fun p hp => by simp at hp; rcases hp with rfl | rfl <;> simp)
      refine AnyF.ready (rs := [14]) (by kernel_rfl) (by simp) (ReadyF.last (w2 := Wd.setCell ⟨w.heap.size + 1, j, none⟩ (.int .u64 (r : Int))) (.store 22 (.tmp 26) (.tmp 25)) rfl (fun o ho => exec_store_one _ 22 (.tmp 26) (.tmp 25) ho ⟨w.heap.size + 1, j, none⟩ rfl _ rfl rfl rfl _ (HRD.cell j hj4) (HRD.free j) (by kernel_rfl)) ?_ ReadyF.nil)
      refine any_doneF (by kernel_rfl) ?_ _
      have HN := Lib.hid HN9
      clear HN9 HRD HSD hAj hWd HKK HRW
      generalize Wd.setCell ⟨w.heap.size + 1, j, none⟩ (.int .u64 (r : Int)) = W9 at *
      go_wp2
      go_roundw
      case rel => exact ⟨i + 1, by omega, by simp, HN.out⟩
      case measure => simp [intOf]; omega
    · obtain rfl : i = 32 := by omega
      have htk : l.take 32 = l := List.take_of_length_le (by omega)
      rw [htk] at hK
      obtain ⟨N, hN⟩ : ∃ N, N = leVal l := ⟨_, rfl⟩
      have hN4 : N < 115792089237316195423570985008687907853269984665640564039457584007913129639936 := by
        have h := leVal_lt l
        rw [hsl, ← hN] at h
        exact Nat.lt_of_lt_of_le h (by decide)
      have hAN : (rowOf .u64 4 (wordAt l)).toArray = num N := by
        rw [← num_val _ (wordAt_lt l), val_words l hsl, hN]
      rw [hAN] at hK
      have HN0 := norm_any N hN4
      have hb0 := build0_run
      obtain ⟨A, hAe⟩ : ∃ A, Hid (A = num N) := ⟨_, Lib.hid rfl⟩
      have IA : IsNum A := by rw [hAe.out]; exact isNum N
      rw [← hZe.out] at hb0
      have HB0 := Lib.hid hb0
      by_cases hp : N < pp
      · have hres : Hid (fromF l = (N, true)) := by unfold Hid fromF; rw [if_pos ⟨hsl, by rw [← hN]; exact hp⟩, hN]
        rw [Nat.mod_eq_of_lt hp] at HN0
        have hM4 := hN4
        have hdec : decide (N = N) = !false := by simp
        obtain ⟨M, hM⟩ : ∃ M, Hid (M = N) := ⟨_, Lib.hid rfl⟩
        obtain ⟨R, hRe⟩ : ∃ R, Hid (R = num M) := ⟨_, Lib.hid rfl⟩
        have hRA : Hid (R = A) := by unfold Hid; rw [hRe.out, hM.out, hAe.out]
        rw [← hM.out] at hM4
        rw [show decide (N = N) = decide (M = N) by rw [hM.out]] at hdec
        have IR : IsNum R := by rw [hRe.out]; exact isNum M
        rw [← hAe.out] at HN0 hK
        have HN : Hid (∀ w, Calls Tryd.prog 11 #[.agg A] w fun e w' => e = .returned (.agg R) ∧ Below w.heap.size w w') := by rw [hRA.out]; exact Lib.hid HN0
        clear HN0 hAN htk hsl hN hp hb0
        go_wp2
        refine wp_cut (fun a' W => ∃ W', a' = { tmps := #[.string s, undef, .pointer (some ⟨w.heap.size, 0, none⟩), .bool false, .pointer (some ⟨w.heap.size + 1, 0, none⟩), u5, .string s, .int .i64 32, .bool false, undef, .int .i64 32, .bool false, u12, u13, u14, u15, u16, u17, u18, u19, u20, u21, u22, u23, u24, u25, u26, u27, .agg A, .agg R, .agg A, .bool false, undef, undef], defers := [] } ∧ W = W' ∧ Kn w [(w.heap.size, Z), (w.heap.size + 1, A)] W) ?_ ?_
        · refine wp_region_any (by kernel_rfl) ?_
          change wpAny _ _ _ _ _ _ _ (World.drew _)
          have HD := hK.drew
          generalize wr.drew = Wd at *
          refine any_of_F (S := Kn w [(w.heap.size, Z), (w.heap.size + 1, A)]) (f := 1000) _ _ _ _ ?_
          refine AnyF.takeG (by rfl) 0 (some 28) (.load 24 (.tmp 4)) none (.agg A) rfl (by kernel_rfl) (by kernel_rfl) (by kernel_rfl) (fun _ _ _ h => h) rfl (fun o h => by obtain rfl := Option.some.inj h; rfl) (fun o ho w2 hw => exec_load_of _ 24 (.tmp 4) ho ⟨w.heap.size + 1, 0, none⟩ rfl _ (hw.load (w.heap.size + 1) A (by simp) IA)) HD ?_
          simp only [Act.put, List.setIfInBounds_toArray, List.set_cons_succ, List.set_cons_zero]
          refine AnyF.takeG (by rfl) 2 (some 30) (.load 24 (.tmp 4)) none (.agg A) rfl (by kernel_rfl) (by kernel_rfl) (by kernel_rfl) (fun _ _ _ h => h) rfl (fun o h => by obtain rfl := Option.some.inj h; rfl) (fun o ho w2 hw => exec_load_of _ 24 (.tmp 4) ho ⟨w.heap.size + 1, 0, none⟩ rfl _ (hw.load (w.heap.size + 1) A (by simp) IA)) HD ?_
          simp only [Act.put, List.setIfInBounds_toArray, List.set_cons_succ, List.set_cons_zero]
          refine AnyF.ready (rs := [1]) (by kernel_rfl) (by simp) (ReadyF.call (some 29) 11 #[.tmp 28] #[24] rfl #[.agg A] (by simp [Act.eval]) enters11 _ (HN.out _) ?_ (fun c w' h => by cases h.1) (fun w' h => by cases h.1) ReadyF.nil)
          rintro v wt1 ⟨he, hb⟩
          cases he
          have Ht2 := HD.below hb
          clear hb
          refine ⟨Ht2, ?_⟩
          simp only [Act.put, List.setIfInBounds_toArray, List.set_cons_succ, List.set_cons_zero]
          refine AnyF.takeG (by rfl) 3 (some 31) (.binOp .neq 24 (.tmp 29) (.tmp 30) 24) none (.bool false) rfl (by kernel_rfl) (by kernel_rfl) (by kernel_rfl) (fun _ _ _ h => h) rfl (fun o h => by obtain rfl := Option.some.inj h; rfl) (fun o ho w2 hw => exec_neqv (.tmp 29) (.tmp 30) ho M N hM4 hN4 (by rw [← hRe.out]; rfl) (by rw [← hAe.out]; rfl) false hdec w2) Ht2 ?_
          simp only [Act.put, List.setIfInBounds_toArray, List.set_cons_succ, List.set_cons_zero]
          refine AnyF.done (by kernel_rfl) ?_ _
          refine nrm_intro ⟨_, rfl, rfl, Ht2⟩
        · rintro a' W ⟨W2, rfl, rfl, HK9⟩
          clear hK
          go_wp2_with (first | (refine wpList_run rfl _ (exec_load_of _ 24 (.tmp 4) rfl ⟨w.heap.size + 1, 0, none⟩ rfl (.agg A) ?L4) ?_) | (refine wpList_run0 rfl (exec_store_kn (w0 := w) (l := [(w.heap.size, Z), (w.heap.size + 1, A)]) _ ?S2 (.tmp 2) (.tmp 33) rfl (w.heap.size) rfl A IA rfl Z IZ (by simp)) ?_))
          case L4 => exact HK9.load (w.heap.size + 1) A (by simp) IA
          case S2 => exact HK9
          have HS6 : Kn w [(w.heap.size, A)] (W.setRow (w.heap.size) A) := HK9.set (w.heap.size) A Z (HK9.get (w.heap.size) Z (by simp)) (by omega) (fun p hp => by simp at hp; subst hp; simp)
          refine bodyPost_ret (results_two rfl _ _ _ ⟨w.heap.size, 0, none⟩ rfl _ (HS6.load (w.heap.size) A (by simp) IA)) rfl ⟨?_, HS6.1⟩
          rw [hres.out, ← hAe.out]
          rfl
      · have hres : Hid (fromF l = (0, false)) := by unfold Hid fromF; rw [if_neg (fun h => hp (by rw [hN]; exact h.2))]
        have hM4 : N % pp < 115792089237316195423570985008687907853269984665640564039457584007913129639936 := pp_lt (Nat.mod_lt _ pp_pos)
        have hdec : decide (N % pp = N) = !true := by
          have : N % pp < pp := Nat.mod_lt _ pp_pos
          simp
          omega
        obtain ⟨M, hM⟩ : ∃ M, Hid (M = N % pp) := ⟨_, Lib.hid rfl⟩
        obtain ⟨R, hRe⟩ : ∃ R, Hid (R = num M) := ⟨_, Lib.hid rfl⟩
        rw [← hM.out] at hM4 hdec HN0
        have IR : IsNum R := by rw [hRe.out]; exact isNum M
        rw [← hAe.out] at HN0 hK
        rw [← hRe.out] at HN0
        have HN := Lib.hid HN0
        clear HN0 hAN htk hsl hN hp hb0
        go_wp2
        refine wp_cut (fun a' W => ∃ W', a' = { tmps := #[.string s, undef, .pointer (some ⟨w.heap.size, 0, none⟩), .bool false, .pointer (some ⟨w.heap.size + 1, 0, none⟩), u5, .string s, .int .i64 32, .bool false, undef, .int .i64 32, .bool false, u12, u13, u14, u15, u16, u17, u18, u19, u20, u21, u22, u23, u24, u25, u26, u27, .agg A, .agg R, .agg A, .bool true, undef, undef], defers := [] } ∧ W = W' ∧ Kn w [(w.heap.size, Z), (w.heap.size + 1, A)] W) ?_ ?_
        · refine wp_region_any (by kernel_rfl) ?_
          change wpAny _ _ _ _ _ _ _ (World.drew _)
          have HD := hK.drew
          generalize wr.drew = Wd at *
          refine any_of_F (S := Kn w [(w.heap.size, Z), (w.heap.size + 1, A)]) (f := 1000) _ _ _ _ ?_
          refine AnyF.takeG (by rfl) 0 (some 28) (.load 24 (.tmp 4)) none (.agg A) rfl (by kernel_rfl) (by kernel_rfl) (by kernel_rfl) (fun _ _ _ h => h) rfl (fun o h => by obtain rfl := Option.some.inj h; rfl) (fun o ho w2 hw => exec_load_of _ 24 (.tmp 4) ho ⟨w.heap.size + 1, 0, none⟩ rfl _ (hw.load (w.heap.size + 1) A (by simp) IA)) HD ?_
          simp only [Act.put, List.setIfInBounds_toArray, List.set_cons_succ, List.set_cons_zero]
          refine AnyF.takeG (by rfl) 2 (some 30) (.load 24 (.tmp 4)) none (.agg A) rfl (by kernel_rfl) (by kernel_rfl) (by kernel_rfl) (fun _ _ _ h => h) rfl (fun o h => by obtain rfl := Option.some.inj h; rfl) (fun o ho w2 hw => exec_load_of _ 24 (.tmp 4) ho ⟨w.heap.size + 1, 0, none⟩ rfl _ (hw.load (w.heap.size + 1) A (by simp) IA)) HD ?_
          simp only [Act.put, List.setIfInBounds_toArray, List.set_cons_succ, List.set_cons_zero]
          refine AnyF.ready (rs := [1]) (by kernel_rfl) (by simp) (ReadyF.call (some 29) 11 #[.tmp 28] #[24] rfl #[.agg A] (by simp [Act.eval]) enters11 _ (HN.out _) ?_ (fun c w' h => by cases h.1) (fun w' h => by cases h.1) ReadyF.nil)
          rintro v wt1 ⟨he, hb⟩
          cases he
          have Ht2 := HD.below hb
          clear hb
          refine ⟨Ht2, ?_⟩
          simp only [Act.put, List.setIfInBounds_toArray, List.set_cons_succ, List.set_cons_zero]
          refine AnyF.takeG (by rfl) 3 (some 31) (.binOp .neq 24 (.tmp 29) (.tmp 30) 24) none (.bool true) rfl (by kernel_rfl) (by kernel_rfl) (by kernel_rfl) (fun _ _ _ h => h) rfl (fun o h => by obtain rfl := Option.some.inj h; rfl) (fun o ho w2 hw => exec_neqv (.tmp 29) (.tmp 30) ho M N hM4 hN4 (by rw [← hRe.out]; rfl) (by rw [← hAe.out]; rfl) true hdec w2) Ht2 ?_
          simp only [Act.put, List.setIfInBounds_toArray, List.set_cons_succ, List.set_cons_zero]
          refine AnyF.done (by kernel_rfl) ?_ _
          refine nrm_intro ⟨_, rfl, rfl, Ht2⟩
        · rintro a' W ⟨W2, rfl, rfl, HK9⟩
          clear hK
          go_wp2_with (first | (refine wpList_run rfl _ (exec_build0 rfl (.agg Z) (HB0.out _) _) ?_) | (refine wpList_run0 rfl (exec_store_kn (w0 := w) (l := [(w.heap.size, Z), (w.heap.size + 1, A)]) _ ?S2 (.tmp 2) (.tmp 32) rfl (w.heap.size) rfl Z IZ rfl Z IZ (by simp)) ?_))
          case S2 => exact HK9
          have HS6 : Kn w [(w.heap.size, Z)] (W.setRow (w.heap.size) Z) := HK9.set (w.heap.size) Z Z (HK9.get (w.heap.size) Z (by simp)) (by omega) (fun p hp => by simp at hp; subst hp; simp)
          refine bodyPost_ret (results_two rfl _ _ _ ⟨w.heap.size, 0, none⟩ rfl _ (HS6.load (w.heap.size) Z (by simp) IZ)) rfl ⟨?_, HS6.1⟩
          rw [hres.out, ← hZe.out]
          rfl
theorem from_any (s : ByteArray) (hs : s.size ≤ 9223372036854775807) (w : World) :
    Calls Tryd.prog 9 #[.string s] w fun e w' => e = .returned (.tuple #[.agg (num (fromF s.data.toList).1), .bool (fromF s.data.toList).2]) ∧ Below w.heap.size w w' := by
  by_cases h : s.size = 32
  · exact from_loop s h w
  · have hf : fromF s.data.toList = (0, false) := by unfold fromF; rw [if_neg (fun h2 => h h2.1)]
    rw [hf]
    exact from_short s hs h w
end Go.Proofs.YtkkgeljcgebegaaDoor
