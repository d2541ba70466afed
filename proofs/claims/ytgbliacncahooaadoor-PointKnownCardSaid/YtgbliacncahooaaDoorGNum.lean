/- Several texts, one behind the other; each says by itself what it proves, and on what conditions. -/
import Derived.Test.YtgbliacncahooaaDoorGByA
import Derived.Test.YtgbliacncahooaaDoorGKer
import Derived.Test.YtgbliacncahooaaDoorGMathA
import Derived.Test.YtgbliacncahooaaDoorGRef
/- The document example of package field holds. No condition. -/
namespace Go.Proofs.YtgbliacncahooaaDoor
open Go.RowKit Go.Shelf
set_option linter.unusedVariables false
set_option linter.unusedSimpArgs false
theorem eq_num (a b : Nat) (ha : a < 115792089237316195423570985008687907853269984665640564039457584007913129639936) (hb : b < 115792089237316195423570985008687907853269984665640564039457584007913129639936) (v : Bool) (hv : decide (a = b) = v) (w : World) : (Op.equalIn 10000 24 (.agg (num a)) (.agg (num b))).run Tryd.prog w = .ok v w := by
  rw [num_lit, num_lit, eq24]
  congr 1
  rw [← hv]
  by_cases e : a = b
  · subst e; simp
  · rw [decide_eq_false e]
    apply Bool.eq_false_iff.2
    intro hc
    simp at hc
    exact e (num_inj ha hb hc.1 hc.2.1 hc.2.2.1 hc.2.2.2)
end Go.Proofs.YtgbliacncahooaaDoor
/- From of package field: the number whose bytes a text is. No condition. -/
namespace Go.Proofs.YtgbliacncahooaaDoor
open Go.RowKit Go.Shelf
set_option linter.unusedVariables false
set_option linter.unusedSimpArgs false
theorem enters39 : ∀ args w, (callFunc 39 args).run Tryd.prog w = .ok (.enter 39 args) w := enters_of Tryd.func39 (by kernel_rfl) rfl
theorem exec_neqv {ρ : Operand → Value} {o : Oper} (x y : Operand) (ho : o.op = .binOp .neq 24 x y 24) (a b : Nat) (ha : a < 115792089237316195423570985008687907853269984665640564039457584007913129639936) (hb : b < 115792089237316195423570985008687907853269984665640564039457584007913129639936) (hx : ρ x = .agg (num a)) (hy : ρ y = .agg (num b)) (v : Bool) (hv : decide (a = b) = !v) (w : World) :
    (execOp ρ o).run Tryd.prog w = .ok (.value (.bool v)) w := by
  have h := eq_num a b ha hb (!v) hv w
  have hvv : (!(!v)) = v := by simp
  unfold execOp
  rw [ho]
  simp only [hx, hy]
  rw [num_lit, num_lit] at *
  go_simp
theorem Kn.setw {w0 w : World} {l m : List (Nat × Array Value)} (h : Kn w0 l w) (g : Nat) (f : Nat → Nat) (j v : Nat) (hg : Row w g 24 .u64 4 f) (hw : w0.heap.size ≤ g) (hm : ∀ p ∈ m, p = (g, (rowOf .u64 4 (upd f j v)).toArray) ∨ (p ∈ l ∧ p.1 ≠ g)) : Kn w0 m (w.setCell ⟨g, j, none⟩ (.int .u64 (v : Int))) :=
  ⟨h.1.setCell (p := ⟨g, j, none⟩) hw _, fun p hp => by
    rcases hm p hp with rfl | ⟨h1, h2⟩
    · exact hg.set j v
    · exact (heap_setCell_other _ _ _ _ h2).trans (h.2 p h1)⟩
theorem exec_quo8 {ρ : Operand → Value} {o : Oper} (x : Operand) (ho : o.op = .binOp .quo 3 x (.const (.int .i64 8)) 3) (hc : ρ (.const (.int .i64 8)) = .int .i64 8) (i j : Nat) (hi : i < 1000) (hx : ρ x = .int .i64 (i : Int)) (hj : j = i / 8) (w : World) : (execOp ρ o).run Tryd.prog w = .ok (.value (.int .i64 (j : Int))) w := by
  have hq : (i : Int).tdiv 8 = (j : Int) := by rw [Int.tdiv_eq_ediv_of_nonneg (by omega)]; omega
  have hq2 : (i : Int) / 8 = (j : Int) := by omega
  have hw : IntKind.i64.wrap (j : Int) = (j : Int) := IntWalk.i64_in _ (by omega)
  clear hj
  unfold execOp
  rw [ho]
  simp only [hx, hc]
  go_simp
theorem exec_rem8 {ρ : Operand → Value} {o : Oper} (x : Operand) (ho : o.op = .binOp .rem 3 x (.const (.int .i64 8)) 3) (hc : ρ (.const (.int .i64 8)) = .int .i64 8) (i j : Nat) (hi : i < 1000) (hx : ρ x = .int .i64 (i : Int)) (hj : j = i % 8) (w : World) : (execOp ρ o).run Tryd.prog w = .ok (.value (.int .i64 (j : Int))) w := by
  have hq : (i : Int).tmod 8 = (j : Int) := by rw [Int.tmod_eq_emod_of_nonneg (by omega)]; omega
  have hq2 : (i : Int) % 8 = (j : Int) := by omega
  have hw : IntKind.i64.wrap (j : Int) = (j : Int) := IntWalk.i64_in _ (by omega)
  clear hj
  unfold execOp
  rw [ho]
  simp only [hx, hc]
  go_simp
theorem exec_mul8 {ρ : Operand → Value} {o : Oper} (x : Operand) (ho : o.op = .binOp .mul 3 x (.const (.int .i64 8)) 3) (hc : ρ (.const (.int .i64 8)) = .int .i64 8) (i j : Nat) (hi : i < 8) (hx : ρ x = .int .i64 (i : Int)) (hj : j = 8 * i) (w : World) : (execOp ρ o).run Tryd.prog w = .ok (.value (.int .i64 (j : Int))) w := by
  have hq : (i : Int) * 8 = (j : Int) := by omega
  have hw : IntKind.i64.wrap (j : Int) = (j : Int) := IntWalk.i64_in _ (by omega)
  clear hj
  unfold execOp
  rw [ho]
  simp only [hx, hc]
  go_simp
theorem exec_shl {ρ : Operand → Value} {o : Oper} (x y : Operand) (ho : o.op = .binOp .shl 22 x y 3) (c s r : Nat) (hs : s < 64) (hx : ρ x = .int .u64 (c : Int)) (hy : ρ y = .int .i64 (s : Int)) (hr : r = c * 2 ^ s) (hl : r < 18446744073709551616) (w : World) : (execOp ρ o).run Tryd.prog w = .ok (.value (.int .u64 (r : Int))) w := by
  have hq : (c : Int) * 2 ^ s = (r : Int) := by rw [hr, Int.natCast_mul, Int.natCast_pow]; rfl
  have hw : IntKind.u64.wrap (r : Int) = (r : Int) := wrap_id hl
  have hsi : (s : Int) < 64 := by omega
  clear hr
  unfold execOp
  rw [ho]
  simp only [hx, hy]
  go_simp
theorem exec_or {ρ : Operand → Value} {o : Oper} (x y : Operand) (ho : o.op = .binOp .or 22 x y 22) (a c s r : Nat) (hx : ρ x = .int .u64 (a : Int)) (hy : ρ y = .int .u64 ((c * 2 ^ s : Nat) : Int)) (ha : a < 2 ^ s) (hr : r = a + c * 2 ^ s) (hl : r < 18446744073709551616) (w : World) : (execOp ρ o).run Tryd.prog w = .ok (.value (.int .u64 (r : Int))) w := by
  have hb := bits_or_u64_nat a (c * 2 ^ s) (by omega) (by omega)
  have ho2 : a ||| c * 2 ^ s = r := by rw [Nat.or_comm, or_join s c a ha, hr]; omega
  rw [ho2] at hb
  clear hr ho2
  generalize c * 2 ^ s = z at *
  unfold execOp
  rw [ho]
  simp only [hx, hy]
  go_simp
theorem exec_conv64 {ρ : Operand → Value} {o : Oper} (x : Operand) (ho : o.op = .convert 5 22 x) (c : Nat) (hc : c < 256) (hx : ρ x = .int .u8 (c : Int)) (w : World) : (execOp ρ o).run Tryd.prog w = .ok (.value (.int .u64 (c : Int))) w := by
  have hw : IntKind.u64.wrap (c : Int) = (c : Int) := wrap_id (by omega)
  unfold execOp
  rw [ho]
  simp only [hx]
  go_simp
theorem exec_index_str {ρ : Operand → Value} {o : Oper} (x y : Operand) (ho : o.op = .index 9 x y) (s : ByteArray) (i : Nat) (hi : i < s.size) (hx : ρ x = .string s) (hy : ρ y = .int .i64 (i : Int)) (c : Nat) (hc : c = s[i].toNat) (w : World) : (execOp ρ o).run Tryd.prog w = .ok (.value (.int .u8 (c : Int))) w := by
  subst hc
  unfold execOp
  rw [ho]
  simp only [hx, hy]
  go_simp
set_option maxRecDepth 100000 in
set_option maxHeartbeats 1000000 in
theorem from_short (s : ByteArray) (hs : s.size ≤ 9223372036854775807) (h32 : s.size ≠ 32) (w : World) :
    Calls Tryd.prog 28 #[.string s] w fun e w' => e = .returned (.tuple #[.agg (num 0), .bool false]) ∧ Below w.heap.size w w' := by
  have HZ := zero_run
  have hb0 := build0_run
  have IZ := isNum 0
  have hne : ((s.size : Int) != 32) = true := by rw [bne_iff_ne]; omega
  have HK : Hid (Kn w [(w.heap.size, num 0)] (w.alloc (.cells (num 0) 24))) := Lib.hid ((Kn.nil w).new (num 0))
  generalize num 0 = Z at *
  go_enter Tryd.func28, Tryd.ntmps28
  go_wp2_with (first | (refine wpList_run rfl _ (exec_alloc_agg _ 24 rfl _ (HZ _)) ?_) | (refine wpList_run rfl _ (exec_build0 rfl (.agg Z) (hb0 _) _) ?_) | (refine wpList_run0 rfl (exec_store_kn (w0 := w) (l := [(w.heap.size, Z)]) _ ?S2 (.tmp 2) (.tmp 9) rfl (w.heap.size) rfl Z IZ rfl Z IZ (by simp)) ?_))
  case S2 => exact HK.out
  have HS6 : Kn w [(w.heap.size, Z)] ((w.alloc (.cells Z 24)).setRow (w.heap.size) Z) := HK.out.set (w.heap.size) Z Z (HK.out.get (w.heap.size) Z (by simp)) (by omega) (fun p hp => by simp at hp; subst hp; simp)
  exact bodyPost_ret (results_two rfl _ _ _ ⟨w.heap.size, 0, none⟩ rfl _ (HS6.load (w.heap.size) Z (by simp) IZ)) rfl ⟨rfl, HS6.1⟩
set_option maxRecDepth 100000 in
set_option maxHeartbeats 1000000 in
theorem from_loop (s : ByteArray) (h32 : s.size = 32) (w : World) :
    Calls Tryd.prog 28 #[.string s] w fun e w' => e = .returned (.tuple #[.agg (num (fromF s.data.toList).1), .bool (fromF s.data.toList).2]) ∧ Below w.heap.size w w' := by
  have HZ := zero_run
  have IZ := isNum 0
  have hsl : s.data.toList.length = 32 := h32
  obtain ⟨l, hl⟩ : ∃ l, Hid (l = s.data.toList) := ⟨_, Lib.hid rfl⟩
  rw [← hl.out] at hsl ⊢
  have HK : Hid (Kn w [(w.heap.size, num 0), (w.heap.size + 1, (rowOf .u64 4 (wordAt (l.take 0))).toArray)] ((w.alloc (.cells (num 0) 24)).alloc (.cells (num 0) 24))) := by
    have h := ((Kn.nil w).new (num 0)).new (num 0)
    simp only [World.size_alloc] at h
    rw [List.take_zero, rowOf_ext (f := wordAt []) (g := fun _ => 0) (fun j _ => wordAt_nil j), num_zero]
    exact Lib.hid (h.sub (fun p hp => by simp at hp ⊢; rcases hp with h | h <;> simp [h]))
  have HZE : Hid (num 0 = num 0) := Lib.hid rfl
  obtain ⟨Z, hZe⟩ : ∃ Z, Hid (Z = num 0) := ⟨_, Lib.hid rfl⟩
  rw [← hZe.out] at HK IZ
  have HZ2 : ∀ w, (zeroValue 24).run Tryd.prog w = .ok (.agg Z) w := by rw [hZe.out]; exact HZ
  have hne : ((s.size : Int) != 32) = false := by rw [bne_eq_false_iff_eq]; omega
  have hs32 : (s.size : Int) = 32 := by omega
  clear HZ HZE
  go_enter Tryd.func28, Tryd.ntmps28
  go_wp2_with (refine wpList_run rfl _ (exec_alloc_agg _ 24 rfl _ (HZ2 _)) ?_)
  generalize (w.alloc (.cells Z 24)).alloc (.cells Z 24) = W0 at *
  go_loopw [10] (fun u wr => ∃ i : Nat, i ≤ 32 ∧ u = .int .i64 i ∧ Kn w [(w.heap.size, Z), (w.heap.size + 1, (rowOf .u64 4 (wordAt (l.take i))).toArray)] wr) (fun u _ => 32 - (intOf u).toNat)
  case atStart => exact ⟨0, by omega, rfl, HK.out⟩
  case round =>
    clear HK
    obtain ⟨i, hi, rfl, hK⟩ := hrel
    by_cases hlt : i < 32
    · have hil : i < l.length := by omega
      have his : i < s.size := by omega
      have htl : (l.take i).length = i := by rw [List.length_take]; omega
      obtain ⟨j, hj0⟩ : ∃ j, j = i / 8 := ⟨_, rfl⟩
      obtain ⟨q, hq0⟩ : ∃ q, q = i % 8 := ⟨_, rfl⟩
      obtain ⟨sh, hsh0⟩ : ∃ sh, sh = 8 * q := ⟨_, rfl⟩
      have hj4 : j < 4 := by omega
      have hq8 : q < 8 := by omega
      have hs64 : sh < 64 := by omega
      obtain ⟨c, hc0⟩ : ∃ c, c = s[i].toNat := ⟨_, rfl⟩
      have hcl2 : c = l[i].toNat := by rw [hc0]; congr 1; simp only [hl.out]; rfl
      have hc256 : c < 256 := by rw [hc0]; exact UInt8.toNat_lt _
      have hcl : c * 2 ^ sh < 18446744073709551616 := by
        have h1 : 2 ^ sh ≤ 2 ^ 56 := Nat.pow_le_pow_right (by decide) (by omega)
        have h2 : c * 2 ^ sh ≤ 255 * 2 ^ 56 := Nat.mul_le_mul (by omega) h1
        omega
      have hxs0 := wordAt_part (l.take i) i htl.symm
      rw [← hj0, ← hq0, ← hsh0] at hxs0
      obtain ⟨r, hr0⟩ : ∃ r, r = wordAt (l.take i) j + c * 2 ^ sh := ⟨_, rfl⟩
      have hstep : ∀ z, upd (wordAt (l.take i)) j r z = wordAt (l.take (i + 1)) z := by
        intro z
        rw [List.take_succ_eq_append_getElem hil, wordAt_snoc, htl, ← hj0, ← hq0, ← hsh0, ← hcl2]
        unfold upd
        by_cases hz : z = j
        · subst hz; rw [if_pos rfl, if_pos rfl, hr0]
        · rw [if_neg hz, if_neg hz]
      have hrl : r < 18446744073709551616 := by
        have h := hstep j
        rw [upd_same] at h
        rw [h]
        exact wordAt_lt _ _
      have HST : Hid ((rowOf .u64 4 (upd (wordAt (l.take i)) j r)).toArray = (rowOf .u64 4 (wordAt (l.take (i + 1)))).toArray) := by
        unfold Hid
        rw [rowOf_ext (fun z _ => hstep z)]
      have HRW : Hid (Row wr (w.heap.size + 1) 24 .u64 4 (wordAt (l.take i))) := Lib.hid (hK.get (w.heap.size + 1) _ (by simp))
      obtain ⟨x, hx0⟩ : ∃ x, x = wordAt (l.take i) j := ⟨_, rfl⟩
      rw [← hx0] at hxs0 hr0
      have hxs : x < 2 ^ sh := hxs0
      have hAj0 : (rowOf .u64 4 (wordAt (l.take i))).toArray[j]? = some (.int .u64 (x : Int)) := by rw [List.getElem?_toArray, rowOf_get _ _ _ _ hj4, hx0]
      obtain ⟨A, hA⟩ : ∃ A, Hid (A = (rowOf .u64 4 (wordAt (l.take i))).toArray) := ⟨_, Lib.hid rfl⟩
      rw [← hA.out] at hAj0 hK
      have hAj := hAj0
      have hj := Lib.hid hj0
      have hq := Lib.hid hq0
      have hsh := Lib.hid hsh0
      have hc := Lib.hid hc0
      have hr := Lib.hid hr0
      have hli : (i : Int) < 32 := by omega
      have HKK := Lib.hid hK
      clear hj0 hq0 hsh0 hc0 hr0 hx0 hcl2 htl hstep hxs0 hAj0 hK
      go_wp2
      refine wp_region_any (by kernel_rfl) ?_
      change wpAny _ _ _ _ _ _ _ (World.drew _)
      have HSD := HKK.out.drew
      generalize hWd : wr.drew = Wd at *
      refine any_of_F (S := Kn w [(w.heap.size, Z), (w.heap.size + 1, A)]) (f := 14) _ _ _ _ ?_
      refine tkL 0 (some 13) (.move (.tmp 5)) (.int .i64 (i : Int)) (fun o ho w2 hw => exec_move (.tmp 5) ho _ rfl w2) HSD ?_
      simp only [Act.put, sT, sS, sZ]
      refine tkL 1 (some 14) (.binOp .quo 3 (.tmp 13) (.const (.int .i64 8)) 3) (.int .i64 (j : Int)) (fun o ho w2 hw => exec_quo8 (.tmp 13) ho rfl i j (by omega) rfl hj.out w2) HSD ?_
      simp only [Act.put, sT, sS, sZ]
      refine tkL 2 (some 15) (.indexAddr 24 (.tmp 4) (.tmp 14)) (.pointer (some ⟨w.heap.size + 1, j, none⟩)) (fun o ho w2 hw => exec_indexAddr24 (.tmp 4) (.tmp 14) ho (w.heap.size + 1) j rfl rfl hj4 w2) HSD ?_
      simp only [Act.put, sT, sS, sZ]
      refine tkL 3 (some 16) (.load 22 (.tmp 15)) (.int .u64 (x : Int)) (fun o ho w2 hw => exec_load_one w2 22 (.tmp 15) ho ⟨w.heap.size + 1, j, none⟩ rfl _ ((hw.cell (w.heap.size + 1) A (by simp) j).trans hAj) _ Tryd.underlying22 rfl) HSD ?_
      simp only [Act.put, sT, sS, sZ]
      refine tkL 4 (some 17) (.move (.tmp 0)) (.string s) (fun o ho w2 hw => exec_move (.tmp 0) ho _ rfl w2) HSD ?_
      simp only [Act.put, sT, sS, sZ]
      refine tkL 5 (some 18) (.move (.tmp 5)) (.int .i64 (i : Int)) (fun o ho w2 hw => exec_move (.tmp 5) ho _ rfl w2) HSD ?_
      simp only [Act.put, sT, sS, sZ]
      refine tkL 6 (some 19) (.index 9 (.tmp 17) (.tmp 18)) (.int .u8 (c : Int)) (fun o ho w2 hw => exec_index_str (.tmp 17) (.tmp 18) ho s i his rfl rfl c hc.out w2) HSD ?_
      simp only [Act.put, sT, sS, sZ]
      refine tkL 7 (some 20) (.convert 5 22 (.tmp 19)) (.int .u64 (c : Int)) (fun o ho w2 hw => exec_conv64 (.tmp 19) ho c hc256 rfl w2) HSD ?_
      simp only [Act.put, sT, sS, sZ]
      refine tkL 8 (some 21) (.move (.tmp 5)) (.int .i64 (i : Int)) (fun o ho w2 hw => exec_move (.tmp 5) ho _ rfl w2) HSD ?_
      simp only [Act.put, sT, sS, sZ]
      refine tkL 9 (some 22) (.binOp .rem 3 (.tmp 21) (.const (.int .i64 8)) 3) (.int .i64 (q : Int)) (fun o ho w2 hw => exec_rem8 (.tmp 21) ho rfl i q (by omega) rfl hq.out w2) HSD ?_
      simp only [Act.put, sT, sS, sZ]
      refine tkL 10 (some 23) (.binOp .mul 3 (.tmp 22) (.const (.int .i64 8)) 3) (.int .i64 (sh : Int)) (fun o ho w2 hw => exec_mul8 (.tmp 22) ho rfl q sh hq8 rfl hsh.out w2) HSD ?_
      simp only [Act.put, sT, sS, sZ]
      refine tkL 11 (some 24) (.binOp .shl 22 (.tmp 20) (.tmp 23) 3) (.int .u64 ((c * 2 ^ sh : Nat) : Int)) (fun o ho w2 hw => exec_shl (.tmp 20) (.tmp 23) ho c sh _ hs64 rfl rfl rfl hcl w2) HSD ?_
      simp only [Act.put, sT, sS, sZ]
      refine tkL 12 (some 25) (.binOp .or 22 (.tmp 16) (.tmp 24) 22) (.int .u64 (r : Int)) (fun o ho w2 hw => exec_or (.tmp 16) (.tmp 24) ho x c sh r rfl rfl hxs hr.out hrl w2) HSD ?_
      simp only [Act.put, sT, sS, sZ]
      refine tkL 13 (some 26) (.indexAddr 24 (.tmp 4) (.tmp 14)) (.pointer (some ⟨w.heap.size + 1, j, none⟩)) (fun o ho w2 hw => exec_indexAddr24 (.tmp 4) (.tmp 14) ho (w.heap.size + 1) j rfl rfl hj4 w2) HSD ?_
      simp only [Act.put, sT, sS, sZ]
      have HRD : Row Wd (w.heap.size + 1) 24 .u64 4 (wordAt (l.take i)) := by rw [← hWd]; exact HRW.out
      have HN9 : Kn w [(w.heap.size, Z), (w.heap.size + 1, (rowOf .u64 4 (wordAt (l.take (i + 1)))).toArray)] (Wd.setCell ⟨w.heap.size + 1, j, none⟩ (.int .u64 (r : Int))) := by
        rw [← HST.out]
        exact HSD.setw (w.heap.size + 1) (wordAt (l.take i)) j r HRD (by omega) (fun p hp => by simp at hp; rcases hp with rfl | rfl <;> simp)
      refine rdy [14] (ReadyF.last (w2 := Wd.setCell ⟨w.heap.size + 1, j, none⟩ (.int .u64 (r : Int))) (.store 22 (.tmp 26) (.tmp 25)) rfl (fun o ho => exec_store_one _ 22 (.tmp 26) (.tmp 25) ho ⟨w.heap.size + 1, j, none⟩ rfl _ rfl rfl rfl _ (HRD.cell j hj4) (HRD.free j) (by kernel_rfl)) ?_ ReadyF.nil)
      refine any_doneF (by kernel_rfl) ?_ _
      have HN := Lib.hid HN9
      clear HN9 HRD HSD hAj hWd HKK HRW
      generalize Wd.setCell ⟨w.heap.size + 1, j, none⟩ (.int .u64 (r : Int)) = W9 at *
      go_wp2
      go_roundw
      case rel => exact ⟨i + 1, by omega, by simp, HN.out⟩
      case measure => simp [intOf]; omega
    · obtain rfl : i = 32 := by omega
      have htk : l.take 32 = l := List.take_of_length_le (by omega)
      rw [htk] at hK
      obtain ⟨N, hN⟩ : ∃ N, N = leVal l := ⟨_, rfl⟩
      have hN4 : N < 115792089237316195423570985008687907853269984665640564039457584007913129639936 := by
        have h := leVal_lt l
        rw [hsl, ← hN] at h
        exact Nat.lt_of_lt_of_le h (by decide)
      have hAN : (rowOf .u64 4 (wordAt l)).toArray = num N := by
        rw [← num_val _ (wordAt_lt l), val_words l hsl, hN]
      rw [hAN] at hK
      have HN0 := norm_any N hN4
      have hb0 := build0_run
      obtain ⟨A, hAe⟩ : ∃ A, Hid (A = num N) := ⟨_, Lib.hid rfl⟩
      have IA : IsNum A := by rw [hAe.out]; exact isNum N
      rw [← hZe.out] at hb0
      have HB0 := Lib.hid hb0
      by_cases hp : N < pp
      · have hres : Hid (fromF l = (N, true)) := by unfold Hid fromF; rw [if_pos ⟨hsl, by rw [← hN]; exact hp⟩, hN]
        rw [Nat.mod_eq_of_lt hp] at HN0
        have hM4 := hN4
        have hdec : decide (N = N) = !false := by simp
        obtain ⟨M, hM⟩ : ∃ M, Hid (M = N) := ⟨_, Lib.hid rfl⟩
        obtain ⟨R, hRe⟩ : ∃ R, Hid (R = num M) := ⟨_, Lib.hid rfl⟩
        have hRA : Hid (R = A) := by unfold Hid; rw [hRe.out, hM.out, hAe.out]
        rw [← hM.out] at hM4
        rw [show decide (N = N) = decide (M = N) by rw [hM.out]] at hdec
        have IR : IsNum R := by rw [hRe.out]; exact isNum M
        rw [← hAe.out] at HN0 hK
        have HN : Hid (∀ w, Calls Tryd.prog 39 #[.agg A] w fun e w' => e = .returned (.agg R) ∧ Below w.heap.size w w') := by rw [hRA.out]; exact Lib.hid HN0
        clear HN0 hAN htk hsl hN hp hb0
        go_wp2
        refine wp_cut (fun a' W => ∃ W', a' = { tmps := #[.string s, undef, .pointer (some ⟨w.heap.size, 0, none⟩), .bool false, .pointer (some ⟨w.heap.size + 1, 0, none⟩), u5, .string s, .int .i64 32, .bool false, undef, .int .i64 32, .bool false, u12, u13, u14, u15, u16, u17, u18, u19, u20, u21, u22, u23, u24, u25, u26, u27, .agg A, .agg R, .agg A, .bool false, undef, undef], defers := [] } ∧ W = W' ∧ Kn w [(w.heap.size, Z), (w.heap.size + 1, A)] W) ?_ ?_
        · refine wp_region_any (by kernel_rfl) ?_
          change wpAny _ _ _ _ _ _ _ (World.drew _)
          have HD := hK.drew
          generalize wr.drew = Wd at *
          refine any_of_F (S := Kn w [(w.heap.size, Z), (w.heap.size + 1, A)]) (f := 1000) _ _ _ _ ?_
          refine tkG 0 (some 28) (.load 24 (.tmp 4)) none (.agg A) (fun o ho w2 hw => exec_load_of _ 24 (.tmp 4) ho ⟨w.heap.size + 1, 0, none⟩ rfl _ (hw.load (w.heap.size + 1) A (by simp) IA)) HD ?_
          simp only [Act.put, sT, sS, sZ]
          refine tkG 2 (some 30) (.load 24 (.tmp 4)) none (.agg A) (fun o ho w2 hw => exec_load_of _ 24 (.tmp 4) ho ⟨w.heap.size + 1, 0, none⟩ rfl _ (hw.load (w.heap.size + 1) A (by simp) IA)) HD ?_
          simp only [Act.put, sT, sS, sZ]
          refine rdy [1] (rcl (some 29) 39 #[.tmp 28] #[24] #[.agg A] enters39 _ (HN.out _) ?_ ReadyF.nil)
          rintro v wt1 ⟨he, hb⟩
          cases he
          have Ht2 := HD.below hb
          clear hb
          refine ⟨Ht2, ?_⟩
          simp only [Act.put, sT, sS, sZ]
          refine tkG 3 (some 31) (.binOp .neq 24 (.tmp 29) (.tmp 30) 24) none (.bool false) (fun o ho w2 hw => exec_neqv (.tmp 29) (.tmp 30) ho M N hM4 hN4 (by rw [← hRe.out]; rfl) (by rw [← hAe.out]; rfl) false hdec w2) Ht2 ?_
          simp only [Act.put, sT, sS, sZ]
          refine AnyF.done (by kernel_rfl) ?_ _
          refine nrm_intro ⟨_, rfl, rfl, Ht2⟩
        · rintro a' W ⟨W2, rfl, rfl, HK9⟩
          clear hK
          go_wp2_with (first | (refine wpList_run rfl _ (exec_load_of _ 24 (.tmp 4) rfl ⟨w.heap.size + 1, 0, none⟩ rfl (.agg A) ?L4) ?_) | (refine wpList_run0 rfl (exec_store_kn (w0 := w) (l := [(w.heap.size, Z), (w.heap.size + 1, A)]) _ ?S2 (.tmp 2) (.tmp 33) rfl (w.heap.size) rfl A IA rfl Z IZ (by simp)) ?_))
          case L4 => exact HK9.load (w.heap.size + 1) A (by simp) IA
          case S2 => exact HK9
          have HS6 : Kn w [(w.heap.size, A)] (W.setRow (w.heap.size) A) := HK9.set (w.heap.size) A Z (HK9.get (w.heap.size) Z (by simp)) (by omega) (fun p hp => by simp at hp; subst hp; simp)
          refine bodyPost_ret (results_two rfl _ _ _ ⟨w.heap.size, 0, none⟩ rfl _ (HS6.load (w.heap.size) A (by simp) IA)) rfl ⟨?_, HS6.1⟩
          rw [hres.out, ← hAe.out]
          rfl
      · have hres : Hid (fromF l = (0, false)) := by unfold Hid fromF; rw [if_neg (fun h => hp (by rw [hN]; exact h.2))]
        have hM4 : N % pp < 115792089237316195423570985008687907853269984665640564039457584007913129639936 := pp_lt (Nat.mod_lt _ pp_pos)
        have hdec : decide (N % pp = N) = !true := by
          have : N % pp < pp := Nat.mod_lt _ pp_pos
          simp
          omega
        obtain ⟨M, hM⟩ : ∃ M, Hid (M = N % pp) := ⟨_, Lib.hid rfl⟩
        obtain ⟨R, hRe⟩ : ∃ R, Hid (R = num M) := ⟨_, Lib.hid rfl⟩
        rw [← hM.out] at hM4 hdec HN0
        have IR : IsNum R := by rw [hRe.out]; exact isNum M
        rw [← hAe.out] at HN0 hK
        rw [← hRe.out] at HN0
        have HN := Lib.hid HN0
        clear HN0 hAN htk hsl hN hp hb0
        go_wp2
        refine wp_cut (fun a' W => ∃ W', a' = { tmps := #[.string s, undef, .pointer (some ⟨w.heap.size, 0, none⟩), .bool false, .pointer (some ⟨w.heap.size + 1, 0, none⟩), u5, .string s, .int .i64 32, .bool false, undef, .int .i64 32, .bool false, u12, u13, u14, u15, u16, u17, u18, u19, u20, u21, u22, u23, u24, u25, u26, u27, .agg A, .agg R, .agg A, .bool true, undef, undef], defers := [] } ∧ W = W' ∧ Kn w [(w.heap.size, Z), (w.heap.size + 1, A)] W) ?_ ?_
        · refine wp_region_any (by kernel_rfl) ?_
          change wpAny _ _ _ _ _ _ _ (World.drew _)
          have HD := hK.drew
          generalize wr.drew = Wd at *
          refine any_of_F (S := Kn w [(w.heap.size, Z), (w.heap.size + 1, A)]) (f := 1000) _ _ _ _ ?_
          refine tkG 0 (some 28) (.load 24 (.tmp 4)) none (.agg A) (fun o ho w2 hw => exec_load_of _ 24 (.tmp 4) ho ⟨w.heap.size + 1, 0, none⟩ rfl _ (hw.load (w.heap.size + 1) A (by simp) IA)) HD ?_
          simp only [Act.put, sT, sS, sZ]
          refine tkG 2 (some 30) (.load 24 (.tmp 4)) none (.agg A) (fun o ho w2 hw => exec_load_of _ 24 (.tmp 4) ho ⟨w.heap.size + 1, 0, none⟩ rfl _ (hw.load (w.heap.size + 1) A (by simp) IA)) HD ?_
          simp only [Act.put, sT, sS, sZ]
          refine rdy [1] (rcl (some 29) 39 #[.tmp 28] #[24] #[.agg A] enters39 _ (HN.out _) ?_ ReadyF.nil)
          rintro v wt1 ⟨he, hb⟩
          cases he
          have Ht2 := HD.below hb
          clear hb
          refine ⟨Ht2, ?_⟩
          simp only [Act.put, sT, sS, sZ]
          refine tkG 3 (some 31) (.binOp .neq 24 (.tmp 29) (.tmp 30) 24) none (.bool true) (fun o ho w2 hw => exec_neqv (.tmp 29) (.tmp 30) ho M N hM4 hN4 (by rw [← hRe.out]; rfl) (by rw [← hAe.out]; rfl) true hdec w2) Ht2 ?_
          simp only [Act.put, sT, sS, sZ]
          refine AnyF.done (by kernel_rfl) ?_ _
          refine nrm_intro ⟨_, rfl, rfl, Ht2⟩
        · rintro a' W ⟨W2, rfl, rfl, HK9⟩
          clear hK
          go_wp2_with (first | (refine wpList_run rfl _ (exec_build0 rfl (.agg Z) (HB0.out _) _) ?_) | (refine wpList_run0 rfl (exec_store_kn (w0 := w) (l := [(w.heap.size, Z), (w.heap.size + 1, A)]) _ ?S2 (.tmp 2) (.tmp 32) rfl (w.heap.size) rfl Z IZ rfl Z IZ (by simp)) ?_))
          case S2 => exact HK9
          have HS6 : Kn w [(w.heap.size, Z)] (W.setRow (w.heap.size) Z) := HK9.set (w.heap.size) Z Z (HK9.get (w.heap.size) Z (by simp)) (by omega) (fun p hp => by simp at hp; subst hp; simp)
          refine bodyPost_ret (results_two rfl _ _ _ ⟨w.heap.size, 0, none⟩ rfl _ (HS6.load (w.heap.size) Z (by simp) IZ)) rfl ⟨?_, HS6.1⟩
          rw [hres.out, ← hZe.out]
          rfl
theorem from_any (s : ByteArray) (hs : s.size ≤ 9223372036854775807) (w : World) :
    Calls Tryd.prog 28 #[.string s] w fun e w' => e = .returned (.tuple #[.agg (num (fromF s.data.toList).1), .bool (fromF s.data.toList).2]) ∧ Below w.heap.size w w' := by
  by_cases h : s.size = 32
  · exact from_loop s h w
  · have hf : fromF s.data.toList = (0, false) := by unfold fromF; rw [if_neg (fun h2 => h h2.1)]
    rw [hf]
    exact from_short s hs h w
end Go.Proofs.YtgbliacncahooaaDoor
/- SubNum of the document: a difference modulo 2^256; numbers in rows that turn word by word. No condition but that the numbers have 256 bits. -/
namespace Go.Proofs.YtgbliacncahooaaDoor
open Go.RowKit Go.Shelf
set_option linter.unusedVariables false
set_option linter.unusedSimpArgs false
theorem enters57 : ∀ args w, (callFunc 57 args).run Tryd.prog w = .ok (.enter 57 args) w := enters_of Tryd.func57 (by kernel_rfl) rfl
theorem ones_xor (c : Nat) (hc : c < 18446744073709551616) : 18446744073709551615 ^^^ c = 18446744073709551615 - c := by
  have h : (BitVec.allOnes 64 ^^^ BitVec.ofNat 64 c) = ~~~ (BitVec.ofNat 64 c) := BitVec.allOnes_xor
  have h2 := congrArg BitVec.toNat h
  simp only [BitVec.toNat_not, BitVec.toNat_xor, BitVec.toNat_allOnes, BitVec.toNat_ofNat] at h2
  rw [show (2 : Nat) ^ 64 = 18446744073709551616 from rfl, Nat.mod_eq_of_lt hc] at h2
  exact h2
theorem exec_not64 {ρ : Operand → Value} {o : Oper} (x : Operand) (ho : o.op = .unOp .xor 22 x) (c r : Nat) (hc : c < 18446744073709551616) (hx : ρ x = .int .u64 (c : Int)) (hr : r = 18446744073709551615 - c) (w : World) : (execOp ρ o).run Tryd.prog w = .ok (.value (.int .u64 (r : Int))) w := by
  have hb0 := bits_xor_u64_nat 18446744073709551615 c (by decide) hc
  rw [ones_xor c hc, ← hr] at hb0
  have hb : bits .xor .u64 (if IntKind.u64.signed = true then -1 else IntKind.u64.max) (c : Int) = (r : Int) := hb0
  clear hb0
  clear hr
  unfold execOp
  rw [ho]
  simp only [hx]
  go_simp
/-- A difference modulo 2^256. -/
def subM (x y : Nat) : Nat := (x + (115792089237316195423570985008687907853269984665640564039457584007913129639936 - y)) % 115792089237316195423570985008687907853269984665640564039457584007913129639936
theorem subM_lt (x y : Nat) : subM x y < 115792089237316195423570985008687907853269984665640564039457584007913129639936 := Nat.mod_lt _ (by decide)
theorem subM_le (x y : Nat) (h : y ≤ x) (hx : x < 115792089237316195423570985008687907853269984665640564039457584007913129639936) : subM x y = x - y := by unfold subM; omega
def nTo (y k j : Nat) : Nat := if j < k then 18446744073709551615 - dig y j else 0
theorem nTo_step (y k v : Nat) (hv : v = 18446744073709551615 - dig y k) : ∀ j, j < 4 → upd (nTo y k) k v j = nTo y (k + 1) j := by
  intro j _
  unfold upd nTo
  by_cases e : j = k
  · subst e; rw [if_pos rfl, if_pos (by omega), hv]
  · rw [if_neg e]
    by_cases h : j < k
    · rw [if_pos h, if_pos (by omega)]
    · rw [if_neg h, if_neg (by omega)]
theorem nTo_all (y : Nat) (hy : y < 115792089237316195423570985008687907853269984665640564039457584007913129639936) : ∀ j, j < 4 → nTo y 4 j = dig (115792089237316195423570985008687907853269984665640564039457584007913129639935 - y) j := by
  have vy := val_dig y hy
  have l0 := dig_lt y 0
  have l1 := dig_lt y 1
  have l2 := dig_lt y 2
  have l3 := dig_lt y 3
  unfold valN at vy
  intro j hj
  rcases (show j = 0 ∨ j = 1 ∨ j = 2 ∨ j = 3 by omega) with rfl | rfl | rfl | rfl
  · rw [dig_0]; show 18446744073709551615 - dig y 0 = _; omega
  · rw [dig_1]; show 18446744073709551615 - dig y 1 = _; omega
  · rw [dig_2]; show 18446744073709551615 - dig y 2 = _; omega
  · rw [dig_3]; show 18446744073709551615 - dig y 3 = _; omega
/-- A row whose words have turned into a number's. -/
theorem Kn.ext {w0 w : World} {l m : List (Nat × Array Value)} (h : Kn w0 l w) (g : Nat) (f f' : Nat → Nat) (hf : ∀ j, j < 4 → f j = f' j) (hm : ∀ p ∈ m, p ∈ l ∨ (p = (g, (rowOf .u64 4 f').toArray) ∧ (g, (rowOf .u64 4 f).toArray) ∈ l)) : Kn w0 m w :=
  ⟨h.1, fun p hp => by
    rcases hm p hp with h1 | ⟨rfl, h2⟩
    · exact h.2 p h1
    · rw [show (rowOf .u64 4 f').toArray = (rowOf .u64 4 f).toArray by rw [rowOf_ext hf]]
      exact h.2 _ h2⟩
theorem Kn.nat {w0 w : World} {l : List (Nat × Array Value)} (h : Kn w0 l w) (g n : Nat) (hm : (g, num n) ∈ l) (j : Nat) (hj : j < 4) : w.cell? ⟨g, j, none⟩ = some (.int .u64 (dig n j : Int)) := by rw [h.cell g _ hm j, num_get n j hj]
theorem Kn.row {w0 w : World} {l : List (Nat × Array Value)} (h : Kn w0 l w) (g : Nat) (f : Nat → Nat) (hm : (g, (rowOf .u64 4 f).toArray) ∈ l) : Row w g 24 .u64 4 f := h.2 _ hm
set_option maxRecDepth 100000 in
set_option maxHeartbeats 1000000 in
theorem subnum_any (x y : Nat) (hx : x < 115792089237316195423570985008687907853269984665640564039457584007913129639936) (hy : y < 115792089237316195423570985008687907853269984665640564039457584007913129639936) (w : World) :
    Calls Tryd.prog 50 #[.agg (num x), .agg (num y)] w fun e w' => e = .returned (.agg (num (subM x y))) ∧ Below w.heap.size w w' := by
  have hny : 115792089237316195423570985008687907853269984665640564039457584007913129639935 - y < 115792089237316195423570985008687907853269984665640564039457584007913129639936 := by omega
  have H1 := Lib.hid (addnum_any x (115792089237316195423570985008687907853269984665640564039457584007913129639935 - y) hx hny)
  have H2 := Lib.hid (addnum_any ((x + (115792089237316195423570985008687907853269984665640564039457584007913129639935 - y)) % 115792089237316195423570985008687907853269984665640564039457584007913129639936) 1 (Nat.mod_lt _ (by decide)) (by decide))
  rw [show ((x + (115792089237316195423570985008687907853269984665640564039457584007913129639935 - y)) % 115792089237316195423570985008687907853269984665640564039457584007913129639936 + 1) % 115792089237316195423570985008687907853269984665640564039457584007913129639936 = subM x y by unfold subM; omega] at H2
  have hall := Lib.hid (nTo_all y hy)
  have hb1 := build_run 1 (by decide)
  have HZ := zero_run
  clear hx hy hny
  generalize (x + (115792089237316195423570985008687907853269984665640564039457584007913129639935 - y)) / 115792089237316195423570985008687907853269984665640564039457584007913129639936 = c1 at *
  generalize ((x + (115792089237316195423570985008687907853269984665640564039457584007913129639935 - y)) % 115792089237316195423570985008687907853269984665640564039457584007913129639936 + 1) / 115792089237316195423570985008687907853269984665640564039457584007913129639936 = c2 at *
  obtain ⟨A, hA⟩ : ∃ A, Hid (A = num x) := ⟨_, Lib.hid rfl⟩
  have IA : IsNum A := by rw [hA.out]; exact isNum _
  obtain ⟨B, hB⟩ : ∃ B, Hid (B = num y) := ⟨_, Lib.hid rfl⟩
  have IB : IsNum B := by rw [hB.out]; exact isNum _
  obtain ⟨NY, hNY⟩ : ∃ NY, Hid (NY = num (115792089237316195423570985008687907853269984665640564039457584007913129639935 - y)) := ⟨_, Lib.hid rfl⟩
  have INY : IsNum NY := by rw [hNY.out]; exact isNum _
  obtain ⟨S1, hS1⟩ : ∃ S1, Hid (S1 = num ((x + (115792089237316195423570985008687907853269984665640564039457584007913129639935 - y)) % 115792089237316195423570985008687907853269984665640564039457584007913129639936)) := ⟨_, Lib.hid rfl⟩
  have IS1 : IsNum S1 := by rw [hS1.out]; exact isNum _
  obtain ⟨S2, hS2⟩ : ∃ S2, Hid (S2 = num (subM x y)) := ⟨_, Lib.hid rfl⟩
  have IS2 : IsNum S2 := by rw [hS2.out]; exact isNum _
  obtain ⟨U1, hU1⟩ : ∃ U1, Hid (U1 = num 1) := ⟨_, Lib.hid rfl⟩
  have IU1 : IsNum U1 := by rw [hU1.out]; exact isNum _
  obtain ⟨Z, hZ⟩ : ∃ Z, Hid (Z = num 0) := ⟨_, Lib.hid rfl⟩
  have IZ : IsNum Z := by rw [hZ.out]; exact isNum _
  rw [← hA.out, ← hNY.out, ← hS1.out] at H1
  rw [← hS1.out, ← hU1.out, ← hS2.out] at H2
  rw [← hU1.out] at hb1
  have HB1 := Lib.hid hb1
  have HZ2 : ∀ w, (zeroValue 24).run Tryd.prog w = .ok (.agg Z) w := by rw [hZ.out]; exact HZ
  have IZ2 := IZ.size
  rw [← hA.out, ← hB.out, ← hS2.out]
  clear HZ hb1 hS1 hS2 hU1 hA
  have hz4 : ∀ W : World, Kn W [(W.heap.size, A), (W.heap.size + 1, B), (W.heap.size + 1 + 1, Z), (W.heap.size + 1 + 1 + 1, Z)] ((((W.alloc (.cells A 24)).alloc (.cells B 24)).alloc (.cells Z 24)).alloc (.cells Z 24)) := by
    intro W
    have h := ((((Kn.nil W).new A).new B).new Z).new Z
    simp only [World.size_alloc] at h
    exact h.sub (fun p hp => by simp at hp ⊢; rcases hp with h | h | h | h <;> simp [h])
  have HS := Lib.hid (hz4 w)
  clear hz4
  have hz0 : Hid (Z = (rowOf .u64 4 (nTo y 0)).toArray) := by
    unfold Hid
    rw [hZ.out, rowOf_ext (f := nTo y 0) (g := dig 0) (fun j hj => by unfold nTo; rw [if_neg (by omega)]; rcases (show j = 0 ∨ j = 1 ∨ j = 2 ∨ j = 3 by omega) with rfl | rfl | rfl | rfl <;> decide)]
    rfl
  go_enter Tryd.func50, Tryd.ntmps50
  go_wp2_with ((refine wpList_run rfl _ (exec_alloc_agg _ 24 rfl _ (HZ2 _)) ?_); try simp only [World.size_alloc])
  try simp only [Act.put, sT, sS, sZ]
  generalize (((w.alloc (.cells A 24)).alloc (.cells B 24)).alloc (.cells Z 24)).alloc (.cells Z 24) = W0 at *
  go_loopw [6] (fun i wr => ∃ q : Nat, q ≤ 4 ∧ i = .int .i64 q ∧ Kn w [(w.heap.size, A), (w.heap.size + 1, B), (w.heap.size + 1 + 1, Z), (w.heap.size + 1 + 1 + 1, (rowOf .u64 4 (nTo y q)).toArray)] wr) (fun i _ => 4 - (intOf i).toNat)
  case atStart => exact ⟨0, by omega, rfl, by rw [← hz0.out]; exact HS.out⟩
  case round =>
    clear HS hz0
    obtain ⟨q, hq, rfl, HK0⟩ := hrel
    have HK := Lib.hid HK0
    clear HK0
    by_cases hlt : q < 4
    · have hr := HK.out.row (w.heap.size + 1 + 1 + 1) (nTo y q) (by simp)
      have c1 : wr.cell? ⟨w.heap.size + 1, q, none⟩ = some (.int .u64 (dig y q : Int)) := by rw [HK.out.cell (w.heap.size + 1) B (by simp) q, hB.out, num_get y q hlt]
      have c3 := hr.cell q hlt
      have f3 := hr.free q
      have HN : Hid (Kn w [(w.heap.size, A), (w.heap.size + 1, B), (w.heap.size + 1 + 1, Z), (w.heap.size + 1 + 1 + 1, (rowOf .u64 4 (nTo y (q + 1))).toArray)] (wr.setCell ⟨w.heap.size + 1 + 1 + 1, q, none⟩ (.int .u64 ((18446744073709551615 - dig y q : Nat) : Int)))) := Lib.hid
        ((HK.out.setw (m := [(w.heap.size, A), (w.heap.size + 1, B), (w.heap.size + 1 + 1, Z), (w.heap.size + 1 + 1 + 1, (rowOf .u64 4 (upd (nTo y q) q (18446744073709551615 - dig y q))).toArray)]) (w.heap.size + 1 + 1 + 1) (nTo y q) q (18446744073709551615 - dig y q) hr (by omega) (fun p hp => by simp at hp; rcases hp with rfl | rfl | rfl | rfl <;> first | exact .inl rfl | exact .inr ⟨by simp, by simp only; omega⟩)).ext (w.heap.size + 1 + 1 + 1) _ _ (nTo_step y q _ rfl) (fun p hp => by simp at hp; rcases hp with rfl | rfl | rfl | rfl <;> first | exact .inr ⟨rfl, by simp⟩ | exact .inl (by simp)))
      have hd := dig_lt y q
      obtain ⟨r, hr2⟩ : ∃ r, r = 18446744073709551615 - dig y q := ⟨_, rfl⟩
      generalize dig y q = d at *
      generalize nTo y q q = old at *
      clear hr HK H1 H2
      have hltI : (q : Int) < 4 := by omega
      go_wp2_with (refine wpList_run rfl _ (exec_not64 (.tmp 18) rfl d r hd rfl hr2 _) ?_)
      go_roundw
      case rel => exact ⟨q + 1, by omega, by first | rfl | simp | go_num, HN.out⟩
      case measure => simp [intOf]; omega
    · obtain rfl : q = 4 := by omega
      have HK2 : Hid (Kn w [(w.heap.size, A), (w.heap.size + 1, B), (w.heap.size + 1 + 1, Z), (w.heap.size + 1 + 1 + 1, NY)] wr) := Lib.hid (HK.out.ext (w.heap.size + 1 + 1 + 1) _ _ hall.out (fun p hp => by simp at hp; rcases hp with rfl | rfl | rfl | rfl <;> first | exact .inr ⟨by rw [hNY.out]; rfl, by simp⟩ | exact .inl (by simp)))
      clear HK hall hB hNY hZ
      rw [show ((4 : Nat) : Int) = (4 : Int) from rfl]
      have hl1 := HK2.out.load (w.heap.size) A (by simp) IA
      have hl2 := HK2.out.load (w.heap.size + 1 + 1 + 1) NY (by simp) INY
      go_wp2_with (first | (refine wpList_run rfl _ (exec_load_of _ 24 (.tmp 2) rfl ⟨w.heap.size, 0, none⟩ rfl (.agg A) hl1) ?_) | (refine wpList_run rfl _ (exec_load_of _ 24 (.tmp 5) rfl ⟨w.heap.size + 1 + 1 + 1, 0, none⟩ rfl (.agg NY) hl2) ?_))
      clear hl1 hl2
      refine (H1.out _).mono ?_
      rintro e w3 ⟨rfl, hb⟩
      have HS4 := Lib.hid (HK2.out.below hb)
      clear hb HK2 H1
      have HS5_ : Kn w [(w.heap.size, A), (w.heap.size + 1, B), (w.heap.size + 1 + 1, Z), (w.heap.size + 1 + 1 + 1, NY), (w3.heap.size, S1)] (w3.alloc (.cells S1 24)) := (HS4.out.new S1).sub (fun p hp => by simp at hp ⊢; rcases hp with h | h | h | h | h <;> simp [h])
      have HS5 := Lib.hid HS5_
      clear HS5_ HS4
      go_upto_region 7 with (first | ((refine wpList_run rfl _ (exec_alloc_agg _ 24 rfl _ (HZ2 _)) ?_); try simp only [World.size_alloc]) | (refine wpList_run0 rfl (exec_new24 _ (.tmp 7) (.tmp 25) rfl _ _ rfl S1 IS1 rfl IZ2) ?_))
      try simp only [Act.put, sT, sS, sZ]
      generalize w3.alloc (.cells S1 24) = W6 at *
      generalize w3.heap.size = g7 at *
      have hl7 := HS5.out.load (g7) S1 (by simp) IS1
      go_wp2_with (first | (refine wpList_run rfl _ (exec_build1 _ 24 0 (.const (.int .u64 1)) rfl (.int .u64 1) rfl _ (HB1.out _)) ?_) | (refine wpList_run rfl _ (exec_load_of _ 24 (.tmp 7) rfl ⟨g7, 0, none⟩ rfl (.agg S1) hl7) ?_))
      clear hl7
      refine (H2.out _).mono ?_
      rintro e w8 ⟨rfl, hb⟩
      have HS9 := Lib.hid (HS5.out.below hb)
      clear hb HS5 H2
      have HS10_ : Kn w [(w.heap.size, A), (w.heap.size + 1, B), (w.heap.size + 1 + 1, Z), (w.heap.size + 1 + 1 + 1, NY), (g7, S1), (w8.heap.size, S2)] (w8.alloc (.cells S2 24)) := (HS9.out.new S2).sub (fun p hp => by simp at hp ⊢; rcases hp with h | h | h | h | h | h <;> simp [h])
      have HS10 := Lib.hid HS10_
      clear HS10_ HS9
      go_upto_region 8 with (first | ((refine wpList_run rfl _ (exec_alloc_agg _ 24 rfl _ (HZ2 _)) ?_); try simp only [World.size_alloc]) | (refine wpList_run0 rfl (exec_new24 _ (.tmp 9) (.tmp 31) rfl _ _ rfl S2 IS2 rfl IZ2) ?_))
      try simp only [Act.put, sT, sS, sZ]
      generalize w8.alloc (.cells S2 24) = W11 at *
      generalize w8.heap.size = g9 at *
      have hl9 := HS10.out.load (g9) S2 (by simp) IS2
      go_wp2_with (first | (refine wpList_run rfl _ (exec_load_of _ 24 (.tmp 9) rfl ⟨g9, 0, none⟩ rfl (.agg S2) hl9) ?_) | (refine wpList_run0 rfl (exec_store_kn (w0 := w) (l := [(w.heap.size, A), (w.heap.size + 1, B), (w.heap.size + 1 + 1, Z), (w.heap.size + 1 + 1 + 1, NY), (g7, S1), (g9, S2)]) _ HS10.out (.tmp 4) (.tmp 33) rfl (w.heap.size + 1 + 1) rfl S2 IS2 rfl Z IZ (by simp)) ?_))
      have HSZ : Kn w [(w.heap.size + 1 + 1, S2)] (World.setRow _ (w.heap.size + 1 + 1) S2) := HS10.out.set (w.heap.size + 1 + 1) S2 Z (HS10.out.get (w.heap.size + 1 + 1) Z (by simp)) (by omega) (fun p hp => by simp at hp; subst hp; simp)
      exact bodyPost_ret (results_cell rfl _ _ _ ⟨w.heap.size + 1 + 1, 0, none⟩ rfl _ (HSZ.load (w.heap.size + 1 + 1) S2 (by simp) IS2)) rfl ⟨rfl, HSZ.1⟩
end Go.Proofs.YtgbliacncahooaaDoor
/- Norm of the document: a number modulo the prime. No condition but that the number has 256 bits. -/
namespace Go.Proofs.YtgbliacncahooaaDoor
open Go.RowKit Go.Shelf
set_option linter.unusedVariables false
set_option linter.unusedSimpArgs false
theorem enters33 : ∀ args w, (callFunc 33 args).run Tryd.prog w = .ok (.enter 33 args) w := enters_of Tryd.func33 (by kernel_rfl) rfl
theorem enters50 : ∀ args w, (callFunc 50 args).run Tryd.prog w = .ok (.enter 50 args) w := enters_of Tryd.func50 (by kernel_rfl) rfl
theorem enters32 : ∀ args w, (callFunc 32 args).run Tryd.prog w = .ok (.enter 32 args) w := enters_of Tryd.func32 (by kernel_rfl) rfl
theorem exec_notb {ρ : Operand → Value} {o : Oper} (x : Operand) (ho : o.op = .unOp .not 4 x) (b c : Bool) (hx : ρ x = .bool b) (hc : c = !b) (w : World) :
    (execOp ρ o).run Tryd.prog w = .ok (.value (.bool c)) w := by
  subst hc
  unfold execOp
  rw [ho]
  simp only [hx]
  go_simp
set_option maxRecDepth 100000 in
set_option maxHeartbeats 1000000 in
theorem rnorm_any (a : Nat) (ha : a < 115792089237316195423570985008687907853269984665640564039457584007913129639936) (w : World) :
    Calls Tryd.prog 51 #[.agg (num a)] w fun e w' => e = .returned (.agg (num (a % pp))) ∧ Below w.heap.size w w' := by
  have HP := Lib.hid prime_any
  have HZ := zero_run
  have HA := Lib.hid ha
  have hp4 : pp < 115792089237316195423570985008687907853269984665640564039457584007913129639936 := by decide
  have hp0 : 0 < pp := by decide
  obtain ⟨PR, hPR⟩ : ∃ PR, Hid (PR = num pp) := ⟨_, Lib.hid rfl⟩
  have IPR : IsNum PR := by rw [hPR.out]; exact isNum _
  obtain ⟨T, hT⟩ : ∃ T, Hid (T = num (a % pp)) := ⟨_, Lib.hid rfl⟩
  have IT : IsNum T := by rw [hT.out]; exact isNum _
  obtain ⟨Z, hZ⟩ : ∃ Z, Hid (Z = num 0) := ⟨_, Lib.hid rfl⟩
  have IZ : IsNum Z := by rw [hZ.out]; exact isNum _
  rw [← hPR.out] at HP
  have HZ2 : ∀ w, (zeroValue 24).run Tryd.prog w = .ok (.agg Z) w := by rw [hZ.out]; exact HZ
  have IZ2 := IZ.size
  rw [← hT.out]
  have hz4 : ∀ W : World, Kn W [(W.heap.size, num a), (W.heap.size + 1, Z)] ((W.alloc (.cells (num a) 24)).alloc (.cells Z 24)) := by
    intro W
    have h := ((Kn.nil W).new (num a)).new Z
    simp only [World.size_alloc] at h
    exact h.sub (fun p hp => by simp at hp ⊢; rcases hp with h | h <;> simp [h])
  have HS := Lib.hid (hz4 w)
  clear HZ ha hz4
  obtain ⟨A0, hA0⟩ : ∃ A0, Hid (A0 = num a) := ⟨_, Lib.hid rfl⟩
  rw [← hA0.out] at HS ⊢
  go_enter Tryd.func51, Tryd.ntmps51
  go_wp2_with ((refine wpList_run rfl _ (exec_alloc_agg _ 24 rfl _ (HZ2 _)) ?_); try simp only [World.size_alloc])
  try simp only [Act.put, sT, sS, sZ]
  generalize (w.alloc (.cells A0 24)).alloc (.cells Z 24) = W0 at *
  go_loopw [] (fun wr => ∃ n : Nat, n < 115792089237316195423570985008687907853269984665640564039457584007913129639936 ∧ n % pp = a % pp ∧ Kn w [(w.heap.size, num n), (w.heap.size + 1, Z)] wr) (fun wr => valO (wr.heap[w.heap.size]?))
  case atStart => exact ⟨a, HA.out, rfl, by rw [← hA0.out]; exact HS.out⟩
  case round =>
    clear HS hA0 HA
    obtain ⟨n, hn, hm, HK0⟩ := hrel
    have HG := Lib.hid (HK0.get (w.heap.size) (num n) (by simp))
    have HV := Lib.hid (valO_num n hn 24 (0, 0))
    have HL := Lib.hid (less_any n pp hn hp4)
    have HU := Lib.hid (subnum_any n pp hn hp4)
    have IA := isNum n
    have HK := Lib.hid HK0
    clear HK0
    by_cases hlt : n < pp
    · have hT2 : Hid (num n = T) := by unfold Hid; rw [hT.out, ← hm, Nat.mod_eq_of_lt hlt]
      have hd : decide (n < pp) = true := by simp [hlt]
      rw [hd] at HL
      clear hd hm hn hp4 hp0 HG HV HU
      rw [← hPR.out, hT2.out] at HL
      rw [hT2.out] at HK IA
      clear hPR hT hT2 hlt
      go_upto_region 1 with fail
      try simp only [Act.put, sT, sS, sZ]
      refine wp_nrm ?_
      refine wp_region_any (by kernel_rfl) ?_
      change wpAny _ _ _ _ _ _ _ (World.drew _)
      have HD := HK.out.drew
      generalize wr.drew = Wd at *
      refine any_of_F (S := Kn w [(w.heap.size, T), (w.heap.size + 1, Z)]) (f := 1000) _ _ _ _ ?_
      refine tkG 0 (some 3) (.load 24 (.tmp 1)) none (.agg T) (fun o ho w2 hw => exec_load_of _ 24 (.tmp 1) ho ⟨w.heap.size, 0, none⟩ rfl _ (hw.load (w.heap.size) T (by simp) IA)) HD ?_
      simp only [Act.put, sT, sS, sZ]
      refine rdy [1] (rcl (some 4) 33 #[] #[] #[] enters33 _ (HP.out _) ?_ ReadyF.nil)
      rintro v ws1 ⟨he, hb⟩
      cases he
      have Hs2 := HD.below hb
      clear hb
      refine ⟨Hs2, ?_⟩
      simp only [Act.put, sT, sS, sZ]
      refine rdy [2] (rcl (some 5) 32 #[.tmp 3, .tmp 4] #[24, 24] #[.agg T, .agg PR] enters32 _ (HL.out _) ?_ ReadyF.nil)
      rintro v ws3 ⟨he, hb⟩
      cases he
      have Hs4 := Hs2.below hb
      clear hb
      refine ⟨Hs4, ?_⟩
      simp only [Act.put, sT, sS, sZ]
      refine tkG 3 (some 6) (.unOp .not 4 (.tmp 5)) none (.bool false) (fun o ho w2 hw => exec_notb (.tmp 5) ho true false rfl rfl w2) Hs4 ?_
      simp only [Act.put, sT, sS, sZ]
      refine AnyF.done (by kernel_rfl) ?_ _
      refine nrm_intro ?_
      have hl := Hs4.load (w.heap.size) T (by simp) IA
      go_wp2_with (first | (refine wpList_run rfl _ (exec_load_of _ 24 (.tmp 1) rfl ⟨w.heap.size, 0, none⟩ rfl (.agg T) hl) ?_) | (refine wpList_run0 rfl (exec_store_kn (w0 := w) (l := [(w.heap.size, T), (w.heap.size + 1, Z)]) _ Hs4 (.tmp 2) (.tmp 10) rfl (w.heap.size + 1) rfl T IA rfl Z IZ (by simp)) ?_))
      have HSZ : Kn w [(w.heap.size + 1, T)] (World.setRow _ (w.heap.size + 1) T) := Hs4.set (w.heap.size + 1) T Z (Hs4.get (w.heap.size + 1) Z (by simp)) (by omega) (fun p hp => by simp at hp; subst hp; simp)
      exact bodyPost_ret (results_cell rfl _ _ _ ⟨w.heap.size + 1, 0, none⟩ rfl _ (HSZ.load (w.heap.size + 1) T (by simp) IA)) rfl ⟨rfl, HSZ.1⟩
    · have hd : decide (n < pp) = false := by simp [hlt]
      rw [hd] at HL
      have hsub : subM n pp = n - pp := subM_le n pp (by omega) hn
      rw [hsub] at HU
      have HM : Hid ((n - pp) % pp = a % pp) := by unfold Hid; rw [← hm, ← Nat.mod_eq_sub_mod (by omega)]
      have HN2 : Hid (n - pp < 115792089237316195423570985008687907853269984665640564039457584007913129639936) := by unfold Hid; omega
      have HLT : Hid (n - pp < n) := by unfold Hid; omega
      have HV2 := Lib.hid (valO_num (n - pp) HN2.out 24 (0, 0))
      have IB := isNum (n - pp)
      clear hd hm hsub hn hp4 hp0 hlt hT
      rw [← hPR.out] at HL HU
      clear hPR
      obtain ⟨A, hA⟩ : ∃ A, Hid (A = num n) := ⟨_, Lib.hid rfl⟩
      obtain ⟨B, hB⟩ : ∃ B, Hid (B = num (n - pp)) := ⟨_, Lib.hid rfl⟩
      rw [← hA.out] at HL HU HK IA HG HV
      rw [← hB.out] at HU IB HV2
      generalize n - pp = m at *
      clear hA
      go_upto_region 1 with fail
      try simp only [Act.put, sT, sS, sZ]
      refine wp_nrm ?_
      refine wp_region_any (by kernel_rfl) ?_
      change wpAny _ _ _ _ _ _ _ (World.drew _)
      have HD := HK.out.drew
      generalize wr.drew = Wd at *
      refine any_of_F (S := Kn w [(w.heap.size, A), (w.heap.size + 1, Z)]) (f := 1000) _ _ _ _ ?_
      refine tkG 0 (some 3) (.load 24 (.tmp 1)) none (.agg A) (fun o ho w2 hw => exec_load_of _ 24 (.tmp 1) ho ⟨w.heap.size, 0, none⟩ rfl _ (hw.load (w.heap.size) A (by simp) IA)) HD ?_
      simp only [Act.put, sT, sS, sZ]
      refine rdy [1] (rcl (some 4) 33 #[] #[] #[] enters33 _ (HP.out _) ?_ ReadyF.nil)
      rintro v wt1 ⟨he, hb⟩
      cases he
      have Ht2 := HD.below hb
      clear hb
      refine ⟨Ht2, ?_⟩
      simp only [Act.put, sT, sS, sZ]
      refine rdy [2] (rcl (some 5) 32 #[.tmp 3, .tmp 4] #[24, 24] #[.agg A, .agg PR] enters32 _ (HL.out _) ?_ ReadyF.nil)
      rintro v wt3 ⟨he, hb⟩
      cases he
      have Ht4 := Ht2.below hb
      clear hb
      refine ⟨Ht4, ?_⟩
      simp only [Act.put, sT, sS, sZ]
      refine tkG 3 (some 6) (.unOp .not 4 (.tmp 5)) none (.bool true) (fun o ho w2 hw => exec_notb (.tmp 5) ho false true rfl rfl w2) Ht4 ?_
      simp only [Act.put, sT, sS, sZ]
      refine AnyF.done (by kernel_rfl) ?_ _
      refine nrm_intro ?_
      go_upto_region 2 with fail
      try simp only [Act.put, sT, sS, sZ]
      refine wp_nrm ?_
      refine wp_region_any (by kernel_rfl) ?_
      change wpAny _ _ _ _ _ _ _ (World.drew _)
      have HD2 := Ht4.drew
      generalize wt3.drew = We at *
      refine any_of_F (S := Kn w [(w.heap.size, A), (w.heap.size + 1, Z)]) (f := 3) _ _ _ _ ?_
      refine tkL 0 (some 7) (.load 24 (.tmp 1)) (.agg A) (fun o ho w2 hw => exec_load_of _ 24 (.tmp 1) ho ⟨w.heap.size, 0, none⟩ rfl _ (hw.load (w.heap.size) A (by simp) IA)) HD2 ?_
      simp only [Act.put, sT, sS, sZ]
      refine rdy [1] (rcl (some 8) 33 #[] #[] #[] enters33 _ (HP.out _) ?_ ReadyF.nil)
      rintro v wv1 ⟨he, hb⟩
      cases he
      have Hv2 := HD2.below hb
      clear hb
      refine ⟨Hv2, ?_⟩
      simp only [Act.put, sT, sS, sZ]
      refine rdy [2] (rcl (some 9) 50 #[.tmp 7, .tmp 8] #[24, 24] #[.agg A, .agg PR] enters50 _ (HU.out _) ?_ ReadyF.nil)
      rintro v wv3 ⟨he, hb⟩
      cases he
      have Hv4 := Hv2.below hb
      clear hb
      refine ⟨Hv4, ?_⟩
      simp only [Act.put, sT, sS, sZ]
      refine rdy [3] (ReadyF.last (.store 24 (.tmp 1) (.tmp 9)) rfl (fun o ho => exec_store_kn wv3 Hv4 (.tmp 1) (.tmp 9) ho (w.heap.size) rfl B IB rfl A IA (by simp)) ?_ ReadyF.nil)
      refine any_doneF (by kernel_rfl) ?_ _
      refine nrm_intro ?_
      have HSr : Kn w [(w.heap.size, B), (w.heap.size + 1, Z)] (World.setRow _ (w.heap.size) B) := Hv4.set (w.heap.size) B A (Hv4.get (w.heap.size) A (by simp)) (by omega) (fun p hp => by simp at hp; rcases hp with rfl | rfl <;> simp)
      generalize World.setRow _ (w.heap.size) B = Wz at *
      go_roundw
      case rel => exact ⟨_, _, _, _, _, _, _, ⟨m, HN2.out, HM.out, by rw [← hB.out]; exact HSr⟩, rfl⟩
      case measure =>
        rw [HSr.get (w.heap.size) B (by simp), HG.out, HV2.out, HV.out]
        exact HLT.out
end Go.Proofs.YtgbliacncahooaaDoor
/- Add, Sub of the document: sums and differences modulo the prime. No condition but that the numbers have 256 bits. -/
namespace Go.Proofs.YtgbliacncahooaaDoor
open Go.RowKit Go.Shelf
set_option linter.unusedVariables false
set_option linter.unusedSimpArgs false
theorem enters51 : ∀ args w, (callFunc 51 args).run Tryd.prog w = .ok (.enter 51 args) w := enters_of Tryd.func51 (by kernel_rfl) rfl
theorem enters37 : ∀ args w, (callFunc 37 args).run Tryd.prog w = .ok (.enter 37 args) w := enters_of Tryd.func37 (by kernel_rfl) rfl
set_option maxRecDepth 100000 in
set_option maxHeartbeats 1000000 in
theorem radd_any (a b : Nat) (ha : a < 115792089237316195423570985008687907853269984665640564039457584007913129639936) (hb : b < 115792089237316195423570985008687907853269984665640564039457584007913129639936) (w : World) :
    Calls Tryd.prog 37 #[.agg (num a), .agg (num b)] w fun e w' => e = .returned (.agg (num (addF a b))) ∧ Below w.heap.size w w' := by
  have la : a % pp < pp := Nat.mod_lt _ pp_pos
  have lb : b % pp < pp := Nat.mod_lt _ pp_pos
  have hpp : pp = 57896044618658097711785492504343953926634992332820282019728792003956564819949 := rfl
  have H1 := Lib.hid (rnorm_any a ha)
  have H2 := Lib.hid (rnorm_any b hb)
  have H3 := Lib.hid (addnum_any (a % pp) (b % pp) (pp_lt la) (pp_lt lb))
  rw [show (a % pp + b % pp) % 115792089237316195423570985008687907853269984665640564039457584007913129639936 = a % pp + b % pp by omega] at H3
  have H4 := Lib.hid (rnorm_any (a % pp + b % pp) (by omega))
  rw [show (a % pp + b % pp) % pp = addF a b by unfold addF; rw [← Nat.add_mod]] at H4
  have HZ := zero_run
  generalize (a % pp + b % pp) / 115792089237316195423570985008687907853269984665640564039457584007913129639936 = c1 at *
  clear la lb hpp
  obtain ⟨A, hA⟩ : ∃ A, Hid (A = num a) := ⟨_, Lib.hid rfl⟩
  have IA : IsNum A := by rw [hA.out]; exact isNum _
  obtain ⟨B, hB⟩ : ∃ B, Hid (B = num b) := ⟨_, Lib.hid rfl⟩
  have IB : IsNum B := by rw [hB.out]; exact isNum _
  obtain ⟨NA, hNA⟩ : ∃ NA, Hid (NA = num (a % pp)) := ⟨_, Lib.hid rfl⟩
  have INA : IsNum NA := by rw [hNA.out]; exact isNum _
  obtain ⟨NB, hNB⟩ : ∃ NB, Hid (NB = num (b % pp)) := ⟨_, Lib.hid rfl⟩
  have INB : IsNum NB := by rw [hNB.out]; exact isNum _
  obtain ⟨S, hS⟩ : ∃ S, Hid (S = num (a % pp + b % pp)) := ⟨_, Lib.hid rfl⟩
  have IS : IsNum S := by rw [hS.out]; exact isNum _
  obtain ⟨T, hT⟩ : ∃ T, Hid (T = num (addF a b)) := ⟨_, Lib.hid rfl⟩
  have IT : IsNum T := by rw [hT.out]; exact isNum _
  obtain ⟨Z, hZ⟩ : ∃ Z, Hid (Z = num 0) := ⟨_, Lib.hid rfl⟩
  have IZ : IsNum Z := by rw [hZ.out]; exact isNum _
  rw [← hA.out, ← hNA.out] at H1
  rw [← hB.out, ← hNB.out] at H2
  rw [← hNA.out, ← hNB.out, ← hS.out] at H3
  rw [← hS.out, ← hT.out] at H4
  have HZ2 : ∀ w, (zeroValue 24).run Tryd.prog w = .ok (.agg Z) w := by rw [hZ.out]; exact HZ
  have IZ2 := IZ.size
  rw [← hA.out, ← hB.out, ← hT.out]
  clear HZ ha hb hA hB hNA hNB hS hT hZ
  have hz4 : ∀ W : World, Kn W [(W.heap.size, A), (W.heap.size + 1, B), (W.heap.size + 1 + 1, Z)] (((W.alloc (.cells A 24)).alloc (.cells B 24)).alloc (.cells Z 24)) := by
    intro W
    have h := (((Kn.nil W).new A).new B).new Z
    simp only [World.size_alloc] at h
    exact h.sub (fun p hp => by simp at hp ⊢; rcases hp with h | h | h <;> simp [h])
  have HS := Lib.hid (hz4 w)
  clear hz4
  go_enter Tryd.func37, Tryd.ntmps37
  go_upto_region 1 with ((refine wpList_run rfl _ (exec_alloc_agg _ 24 rfl _ (HZ2 _)) ?_); try simp only [World.size_alloc])
  try simp only [Act.put, sT, sS, sZ]
  generalize ((w.alloc (.cells A 24)).alloc (.cells B 24)).alloc (.cells Z 24) = W0 at *
  have hl1 := HS.out.load (w.heap.size) A (by simp) IA
  go_wp2_with (refine wpList_run rfl _ (exec_load_of _ 24 (.tmp 2) rfl ⟨w.heap.size, 0, none⟩ rfl (.agg A) hl1) ?_)
  clear hl1
  refine (H1.out _).mono ?_
  rintro e w2 ⟨rfl, hb⟩
  have HS3 := Lib.hid (HS.out.below hb)
  clear hb HS H1
  go_upto_region 2 with (first | (refine wpList_run0 rfl (exec_store_kn (w0 := w) (l := [(w.heap.size, A), (w.heap.size + 1, B), (w.heap.size + 1 + 1, Z)]) _ HS3.out (.tmp 2) (.tmp 8) rfl (w.heap.size) rfl NA INA rfl A IA (by simp)) ?_))
  try simp only [Act.put, sT, sS, sZ]
  have HS4 : Hid (Kn w [(w.heap.size, NA), (w.heap.size + 1, B), (w.heap.size + 1 + 1, Z)] (w2.setRow (w.heap.size) NA)) := Lib.hid (HS3.out.set (w.heap.size) NA A (HS3.out.get (w.heap.size) A (by simp)) (by omega) (fun p hp => by simp at hp; rcases hp with rfl | rfl | rfl <;> simp <;> omega))
  clear HS3
  generalize w2.setRow (w.heap.size) NA = W5 at *
  have hl6 := HS4.out.load (w.heap.size + 1) B (by simp) IB
  go_wp2_with (refine wpList_run rfl _ (exec_load_of _ 24 (.tmp 3) rfl ⟨w.heap.size + 1, 0, none⟩ rfl (.agg B) hl6) ?_)
  clear hl6
  refine (H2.out _).mono ?_
  rintro e w7 ⟨rfl, hb⟩
  have HS8 := Lib.hid (HS4.out.below hb)
  clear hb HS4 H2
  go_upto_region 3 with (first | (refine wpList_run0 rfl (exec_store_kn (w0 := w) (l := [(w.heap.size, NA), (w.heap.size + 1, B), (w.heap.size + 1 + 1, Z)]) _ HS8.out (.tmp 3) (.tmp 10) rfl (w.heap.size + 1) rfl NB INB rfl B IB (by simp)) ?_))
  try simp only [Act.put, sT, sS, sZ]
  have HS9 : Hid (Kn w [(w.heap.size, NA), (w.heap.size + 1, NB), (w.heap.size + 1 + 1, Z)] (w7.setRow (w.heap.size + 1) NB)) := Lib.hid (HS8.out.set (w.heap.size + 1) NB B (HS8.out.get (w.heap.size + 1) B (by simp)) (by omega) (fun p hp => by simp at hp; rcases hp with rfl | rfl | rfl <;> simp <;> omega))
  clear HS8
  generalize w7.setRow (w.heap.size + 1) NB = W10 at *
  have hl11 := HS9.out.load (w.heap.size) NA (by simp) INA
  have hl12 := HS9.out.load (w.heap.size + 1) NB (by simp) INB
  go_wp2_with (first | (refine wpList_run rfl _ (exec_load_of _ 24 (.tmp 2) rfl ⟨w.heap.size, 0, none⟩ rfl (.agg NA) hl11) ?_) | (refine wpList_run rfl _ (exec_load_of _ 24 (.tmp 3) rfl ⟨w.heap.size + 1, 0, none⟩ rfl (.agg NB) hl12) ?_))
  clear hl11 hl12
  refine (H3.out _).mono ?_
  rintro e w13 ⟨rfl, hb⟩
  have HS14 := Lib.hid (HS9.out.below hb)
  clear hb HS9 H3
  have HS15_ : Kn w [(w.heap.size, NA), (w.heap.size + 1, NB), (w.heap.size + 1 + 1, Z), (w13.heap.size, S)] (w13.alloc (.cells S 24)) := (HS14.out.new S).sub (fun p hp => by simp at hp ⊢; rcases hp with h | h | h | h <;> simp [h])
  have HS15 := Lib.hid HS15_
  clear HS15_ HS14
  go_upto_region 4 with (first | ((refine wpList_run rfl _ (exec_alloc_agg _ 24 rfl _ (HZ2 _)) ?_); try simp only [World.size_alloc]) | (refine wpList_run0 rfl (exec_new24 _ (.tmp 5) (.tmp 15) rfl _ _ rfl S IS rfl IZ2) ?_))
  try simp only [Act.put, sT, sS, sZ]
  generalize w13.alloc (.cells S 24) = W16 at *
  generalize w13.heap.size = g5 at *
  have hl17 := HS15.out.load (g5) S (by simp) IS
  go_wp2_with (refine wpList_run rfl _ (exec_load_of _ 24 (.tmp 5) rfl ⟨g5, 0, none⟩ rfl (.agg S) hl17) ?_)
  clear hl17
  refine (H4.out _).mono ?_
  rintro e w18 ⟨rfl, hb⟩
  have HS19 := Lib.hid (HS15.out.below hb)
  clear hb HS15 H4
  go_wp2_with (refine wpList_run0 rfl (exec_store_kn (w0 := w) (l := [(w.heap.size, NA), (w.heap.size + 1, NB), (w.heap.size + 1 + 1, Z), (g5, S)]) _ HS19.out (.tmp 4) (.tmp 18) rfl (w.heap.size + 1 + 1) rfl T IT rfl Z IZ (by simp)) ?_)
  have HSZ : Kn w [(w.heap.size + 1 + 1, T)] (World.setRow _ (w.heap.size + 1 + 1) T) := HS19.out.set (w.heap.size + 1 + 1) T Z (HS19.out.get (w.heap.size + 1 + 1) Z (by simp)) (by omega) (fun p hp => by simp at hp; subst hp; simp)
  exact bodyPost_ret (results_cell rfl _ _ _ ⟨w.heap.size + 1 + 1, 0, none⟩ rfl _ (HSZ.load (w.heap.size + 1 + 1) T (by simp) IT)) rfl ⟨rfl, HSZ.1⟩
theorem enters50b : ∀ args w, (callFunc 50 args).run Tryd.prog w = .ok (.enter 50 args) w := enters_of Tryd.func50 (by kernel_rfl) rfl
set_option maxRecDepth 100000 in
set_option maxHeartbeats 1000000 in
theorem rsub_any (a b : Nat) (ha : a < 115792089237316195423570985008687907853269984665640564039457584007913129639936) (hb : b < 115792089237316195423570985008687907853269984665640564039457584007913129639936) (w : World) :
    Calls Tryd.prog 24 #[.agg (num a), .agg (num b)] w fun e w' => e = .returned (.agg (num (subF a b))) ∧ Below w.heap.size w w' := by
  have lb : b % pp < pp := Nat.mod_lt _ pp_pos
  have hpp : pp = 57896044618658097711785492504343953926634992332820282019728792003956564819949 := rfl
  have HP := Lib.hid prime_any
  have H2 := Lib.hid (rnorm_any b hb)
  have H3 := Lib.hid (subnum_any pp (b % pp) (by decide) (pp_lt lb))
  rw [subM_le pp (b % pp) (by omega) (by decide)] at H3
  have H4 := Lib.hid (radd_any a (pp - b % pp) ha (by omega))
  rw [show addF a (pp - b % pp) = subF a b by
    unfold addF subF
    have h1 := Nat.mod_add_div b pp
    have h2 : b / pp ≤ 2 := Nat.lt_succ_iff.1 ((Nat.div_lt_iff_lt_mul pp_pos).2 (by omega))
    have e : a + 3 * pp - b = a + (pp - b % pp) + pp * (2 - b / pp) := by
      generalize b / pp = q at *
      rcases (show q = 0 ∨ q = 1 ∨ q = 2 by omega) with rfl | rfl | rfl <;> omega
    rw [e, Nat.add_mul_mod_self_left]] at H4
  have HZ := zero_run
  clear lb hpp
  obtain ⟨A, hA⟩ : ∃ A, Hid (A = num a) := ⟨_, Lib.hid rfl⟩
  have IA : IsNum A := by rw [hA.out]; exact isNum _
  obtain ⟨B, hB⟩ : ∃ B, Hid (B = num b) := ⟨_, Lib.hid rfl⟩
  have IB : IsNum B := by rw [hB.out]; exact isNum _
  obtain ⟨PR, hPR⟩ : ∃ PR, Hid (PR = num pp) := ⟨_, Lib.hid rfl⟩
  have IPR : IsNum PR := by rw [hPR.out]; exact isNum _
  obtain ⟨NB, hNB⟩ : ∃ NB, Hid (NB = num (b % pp)) := ⟨_, Lib.hid rfl⟩
  have INB : IsNum NB := by rw [hNB.out]; exact isNum _
  obtain ⟨D, hD⟩ : ∃ D, Hid (D = num (pp - b % pp)) := ⟨_, Lib.hid rfl⟩
  have ID : IsNum D := by rw [hD.out]; exact isNum _
  obtain ⟨T, hT⟩ : ∃ T, Hid (T = num (subF a b)) := ⟨_, Lib.hid rfl⟩
  have IT : IsNum T := by rw [hT.out]; exact isNum _
  obtain ⟨Z, hZ⟩ : ∃ Z, Hid (Z = num 0) := ⟨_, Lib.hid rfl⟩
  have IZ : IsNum Z := by rw [hZ.out]; exact isNum _
  rw [← hPR.out] at HP
  rw [← hB.out, ← hNB.out] at H2
  rw [← hPR.out, ← hNB.out, ← hD.out] at H3
  rw [← hA.out, ← hD.out, ← hT.out] at H4
  have HZ2 : ∀ w, (zeroValue 24).run Tryd.prog w = .ok (.agg Z) w := by rw [hZ.out]; exact HZ
  have IZ2 := IZ.size
  rw [← hA.out, ← hB.out, ← hT.out]
  clear HZ ha hb hA hB hPR hNB hD hT hZ
  have hz4 : ∀ W : World, Kn W [(W.heap.size, A), (W.heap.size + 1, B), (W.heap.size + 1 + 1, Z)] (((W.alloc (.cells A 24)).alloc (.cells B 24)).alloc (.cells Z 24)) := by
    intro W
    have h := (((Kn.nil W).new A).new B).new Z
    simp only [World.size_alloc] at h
    exact h.sub (fun p hp => by simp at hp ⊢; rcases hp with h | h | h <;> simp [h])
  have HS := Lib.hid (hz4 w)
  clear hz4
  go_enter Tryd.func24, Tryd.ntmps24
  go_upto_region 1 with ((refine wpList_run rfl _ (exec_alloc_agg _ 24 rfl _ (HZ2 _)) ?_); try simp only [World.size_alloc])
  try simp only [Act.put, sT, sS, sZ]
  generalize ((w.alloc (.cells A 24)).alloc (.cells B 24)).alloc (.cells Z 24) = W0 at *
  refine wp_nrm ?_
  refine wp_region_any (by kernel_rfl) ?_
  change wpAny _ _ _ _ _ _ _ (World.drew _)
  have HD := HS.out.drew
  clear HS
  generalize W0.drew = Wd at *
  refine any_of_F (S := Kn w [(w.heap.size, A), (w.heap.size + 1, B), (w.heap.size + 1 + 1, Z)]) (f := 6) _ _ _ _ ?_
  refine tkL 0 (some 5) (.load 24 (.tmp 2)) (.agg A) (fun o ho w2 hw => exec_load_of _ 24 (.tmp 2) ho ⟨w.heap.size, 0, none⟩ rfl _ (hw.load (w.heap.size) A (by simp) IA)) HD ?_
  simp only [Act.put, sT, sS, sZ]
  refine tkL 2 (some 7) (.load 24 (.tmp 3)) (.agg B) (fun o ho w2 hw => exec_load_of _ 24 (.tmp 3) ho ⟨w.heap.size + 1, 0, none⟩ rfl _ (hw.load (w.heap.size + 1) B (by simp) IB)) HD ?_
  simp only [Act.put, sT, sS, sZ]
  refine rdy [1] (rcl (some 6) 33 #[] #[] #[] enters33 _ (HP.out _) ?_ ReadyF.nil)
  rintro v ws1 ⟨he, hb⟩
  cases he
  have Hs2 := HD.below hb
  clear hb
  refine ⟨Hs2, ?_⟩
  simp only [Act.put, sT, sS, sZ]
  refine rdy [3] (rcl (some 8) 51 #[.tmp 7] #[24] #[.agg B] enters51 _ (H2.out _) ?_ ReadyF.nil)
  rintro v ws3 ⟨he, hb⟩
  cases he
  have Hs4 := Hs2.below hb
  clear hb
  refine ⟨Hs4, ?_⟩
  simp only [Act.put, sT, sS, sZ]
  refine rdy [4] (rcl (some 9) 50 #[.tmp 6, .tmp 8] #[24, 24] #[.agg PR, .agg NB] enters50 _ (H3.out _) ?_ ReadyF.nil)
  rintro v ws5 ⟨he, hb⟩
  cases he
  have Hs6 := Hs4.below hb
  clear hb
  refine ⟨Hs6, ?_⟩
  simp only [Act.put, sT, sS, sZ]
  refine rdy [5] (rcl (some 10) 37 #[.tmp 5, .tmp 9] #[24, 24] #[.agg A, .agg D] enters37 _ (H4.out _) ?_ ReadyF.nil)
  rintro v ws7 ⟨he, hb⟩
  cases he
  have Hs8 := Hs6.below hb
  clear hb
  refine ⟨Hs8, ?_⟩
  simp only [Act.put, sT, sS, sZ]
  refine rdy [6] (ReadyF.last (.store 24 (.tmp 4) (.tmp 10)) rfl (fun o ho => exec_store_kn ws7 Hs8 (.tmp 4) (.tmp 10) ho (w.heap.size + 1 + 1) rfl T IT rfl Z IZ (by simp)) ?_ ReadyF.nil)
  refine any_doneF (by kernel_rfl) ?_ _
  refine nrm_intro ?_
  have HSZ : Kn w [(w.heap.size + 1 + 1, T)] (World.setRow _ (w.heap.size + 1 + 1) T) := Hs8.set (w.heap.size + 1 + 1) T Z (Hs8.get (w.heap.size + 1 + 1) Z (by simp)) (by omega) (fun p hp => by simp at hp; subst hp; simp)
  generalize World.setRow _ (w.heap.size + 1 + 1) T = Wz at *
  go_wp2
  exact bodyPost_ret (results_cell rfl _ _ _ ⟨w.heap.size + 1 + 1, 0, none⟩ rfl _ (HSZ.load (w.heap.size + 1 + 1) T (by simp) IT)) rfl ⟨rfl, HSZ.1⟩
end Go.Proofs.YtgbliacncahooaaDoor
/- halves of the document: a number as eight words of 32 bits; rows of eight and sixteen words. No condition but that the number has 256 bits. -/
namespace Go.Proofs.YtgbliacncahooaaDoor
open Go.RowKit Go.Shelf
set_option linter.unusedVariables false
set_option linter.unusedSimpArgs false
def IsRw (n : Nat) (A : Array Value) : Prop := ∃ f : Nat → Nat, A = (rowOf .u64 n f).toArray
theorem size59 (f : Nat → Nat) : (Tryd.prog.info? 92).map (·.size) = some (rowOf .u64 8 f).length := by rw [rowOf_length]; kernel_rfl
theorem size50 (f : Nat → Nat) : (Tryd.prog.info? 79).map (·.size) = some (rowOf .u64 16 f).length := by rw [rowOf_length]; kernel_rfl
theorem zero59 (w : World) : (zeroValue 92).run Tryd.prog w = .ok (.agg (rowOf .u64 8 (fun _ => 0)).toArray) w := by kernel_rfl
theorem zero50 (w : World) : (zeroValue 79).run Tryd.prog w = .ok (.agg (rowOf .u64 16 (fun _ => 0)).toArray) w := by kernel_rfl
theorem load59 {W : World} {g : Nat} {A : Array Value} (hA : IsRw 8 A) {t : TypeId} (hg : W.heap[g]? = some (.cells A t (0, 0))) : (loadVar 92 ⟨g, 0, none⟩).run Tryd.prog W = .ok (.agg A) W := by
  obtain ⟨f, rfl⟩ := hA
  exact run_loadVar_seg W 92 g 0 (rowOf .u64 8 f) _ (Row.seg (t := t) hg) Tryd.underlying92 rfl (size59 f)
theorem load50 {W : World} {g : Nat} {A : Array Value} (hA : IsRw 16 A) {t : TypeId} (hg : W.heap[g]? = some (.cells A t (0, 0))) : (loadVar 79 ⟨g, 0, none⟩).run Tryd.prog W = .ok (.agg A) W := by
  obtain ⟨f, rfl⟩ := hA
  exact run_loadVar_seg W 79 g 0 (rowOf .u64 16 f) _ (Row.seg (t := t) hg) Tryd.underlying79 rfl (size50 f)
theorem exec_store59 {ρ : Operand → Value} {o : Oper} (w : World) (x y : Operand) (ho : o.op = .store 92 x y) (g : Nat) (hx : ρ x = .pointer (some ⟨g, 0, none⟩)) (A : Array Value) (hA : IsRw 8 A) (hy : ρ y = .agg A) (cur : Array Value) (t : TypeId)
    (hg : w.heap[g]? = some (.cells cur t (0, 0))) (h8 : cur.size = 8) : (execOp ρ o).run Tryd.prog w = .ok .skip (w.setRow g A) := by
  obtain ⟨f, rfl⟩ := hA
  have h := exec_store_seg (P := Tryd.prog) (ρ := ρ) (o := o) w 92 x y ho g 0 hx (rowOf .u64 8 f) hy cur t hg (by rw [rowOf_length]; omega) (rowOf_one _ _ _) (size59 f)
  rwa [splice_all _ _ (by rw [rowOf_length]; exact h8)] at h
theorem exec_store50 {ρ : Operand → Value} {o : Oper} (w : World) (x y : Operand) (ho : o.op = .store 79 x y) (g : Nat) (hx : ρ x = .pointer (some ⟨g, 0, none⟩)) (A : Array Value) (hA : IsRw 16 A) (hy : ρ y = .agg A) (cur : Array Value) (t : TypeId)
    (hg : w.heap[g]? = some (.cells cur t (0, 0))) (h8 : cur.size = 16) : (execOp ρ o).run Tryd.prog w = .ok .skip (w.setRow g A) := by
  obtain ⟨f, rfl⟩ := hA
  have h := exec_store_seg (P := Tryd.prog) (ρ := ρ) (o := o) w 79 x y ho g 0 hx (rowOf .u64 16 f) hy cur t hg (by rw [rowOf_length]; omega) (rowOf_one _ _ _) (size50 f)
  rwa [splice_all _ _ (by rw [rowOf_length]; exact h8)] at h
theorem exec_and32 {ρ : Operand → Value} {o : Oper} (x : Operand) (ho : o.op = .binOp .and 22 x (.const (.int .u64 4294967295)) 22) (hc : ρ (.const (.int .u64 4294967295)) = .int .u64 4294967295) (d r : Nat) (hd : d < 18446744073709551616) (hr : r = d % 4294967296) (hx : ρ x = .int .u64 (d : Int)) (w : World) :
    (execOp ρ o).run Tryd.prog w = .ok (.value (.int .u64 (r : Int))) w := by
  have hb := bits_and_u64_nat d 4294967295 hd (by decide)
  rw [show d &&& 4294967295 = r by rw [hr]; exact Nat.and_two_pow_sub_one_eq_mod d 32] at hb
  have hb2 : bits .and .u64 (d : Int) 4294967295 = (r : Int) := hb
  clear hr
  unfold execOp
  rw [ho]
  simp only [hx, hc]
  go_simp
theorem exec_shr32 {ρ : Operand → Value} {o : Oper} (x : Operand) (ho : o.op = .binOp .shr 22 x (.const (.int .u64 32)) 57) (hc : ρ (.const (.int .u64 32)) = .int .u64 32) (d r : Nat) (hr : r = d / 4294967296) (hx : ρ x = .int .u64 (d : Int)) (w : World) :
    (execOp ρ o).run Tryd.prog w = .ok (.value (.int .u64 (r : Int))) w := by
  have hq : (d : Int) / 4294967296 = (r : Int) := by omega
  clear hr
  unfold execOp
  rw [ho]
  simp only [hx, hc]
  go_simp
def hTo (a i j : Nat) : Nat := if j < 2 * i then half a j else 0
theorem hTo_step (a i v v2 S T : Nat) (hS : S = 2 * i) (hT : T = 2 * i + 1) (hv : v = dig a i % 4294967296) (hv2 : v2 = dig a i / 4294967296) : ∀ j, j < 8 → upd (upd (hTo a i) S v) T v2 j = hTo a (i + 1) j := by
  intro j _
  subst hS hT
  have e0 : half a (2 * i) = dig a i % 4294967296 := by unfold half; rw [if_pos (by omega), show 2 * i / 2 = i by omega]
  have e1 : half a (2 * i + 1) = dig a i / 4294967296 := by unfold half; rw [if_neg (by omega), show (2 * i + 1) / 2 = i by omega]
  unfold upd hTo
  by_cases h1 : j = 2 * i + 1
  · subst h1; rw [if_pos rfl, if_pos (by omega), hv2, e1]
  · rw [if_neg h1]
    by_cases h0 : j = 2 * i
    · subst h0; rw [if_pos rfl, if_pos (by omega), hv, e0]
    · rw [if_neg h0]
      by_cases h : j < 2 * i
      · rw [if_pos h, if_pos (by omega)]
      · rw [if_neg h, if_neg (by omega)]
set_option maxRecDepth 100000 in
set_option maxHeartbeats 1000000 in
theorem halves_any (a : Nat) (w : World) :
    Calls Tryd.prog 71 #[.agg (num a)] w fun e w' => e = .returned (.agg (rowOf .u64 8 (half a)).toArray) ∧ Below w.heap.size w w' := by
  have HD := Lib.hid (dig_lt a)
  have h0 := ((Row.new w 24 .u64 4 (dig a)).alloc (.cells (rowOf .u64 8 (fun _ => 0)).toArray 92)).alloc (.cells (rowOf .u64 8 (fun _ => 0)).toArray 92)
  have h1 := (Row.new (w.alloc (.cells (num a) 24)) 92 .u64 8 (fun _ => 0)).alloc (.cells (rowOf .u64 8 (fun _ => 0)).toArray 92)
  have h2 := Row.new ((w.alloc (.cells (num a) 24)).alloc (.cells (rowOf .u64 8 (fun _ => 0)).toArray 92)) 92 .u64 8 (fun _ => 0)
  have hb : Below w.heap.size w (((w.alloc (.cells (num a) 24)).alloc (.cells (rowOf .u64 8 (fun _ => 0)).toArray 92)).alloc (.cells (rowOf .u64 8 (fun _ => 0)).toArray 92)) := (((Below.refl _ w).alloc (Nat.le_refl _) _).alloc (by simp) _).alloc (by simp <;> omega) _
  simp only [World.size_alloc] at h1 h2
  change Row (((w.alloc (.cells (num a) 24)).alloc (.cells (rowOf .u64 8 (fun _ => 0)).toArray 92)).alloc (.cells (rowOf .u64 8 (fun _ => 0)).toArray 92)) _ _ _ _ _ at h0
  have HZ := zero59
  obtain ⟨A, hA⟩ : ∃ A, Hid (A = num a) := ⟨_, Lib.hid rfl⟩
  obtain ⟨Z, hZ⟩ : ∃ Z, Hid (Z = (rowOf .u64 8 (fun _ => 0)).toArray) := ⟨_, Lib.hid rfl⟩
  obtain ⟨T, hT⟩ : ∃ T, Hid (T = (rowOf .u64 8 (half a)).toArray) := ⟨_, Lib.hid rfl⟩
  rw [← hA.out, ← hZ.out] at h0 h1 h2 hb
  rw [← hA.out, ← hT.out]
  rw [← hZ.out] at HZ
  have H0 := Lib.hid h0
  have H1 := Lib.hid h1
  have H2 := Lib.hid h2
  have HB := Lib.hid hb
  clear h0 h1 h2 hb
  go_enter Tryd.func71, Tryd.ntmps71
  go_wp2_with ((refine wpList_run rfl _ (exec_alloc_agg _ 92 rfl _ (HZ _)) ?_); try simp only [World.size_alloc])
  try simp only [Act.put, sT, sS, sZ]
  generalize ((w.alloc (.cells A 24)).alloc (.cells Z 92)).alloc (.cells Z 92) = W0 at *
  go_loopw [4] (fun i wr => ∃ q : Nat, q ≤ 4 ∧ i = .int .i64 q ∧ Row wr (w.heap.size) 24 .u64 4 (dig a) ∧ Row wr (w.heap.size + 1) 92 .u64 8 (fun _ => 0) ∧ Row wr (w.heap.size + 1 + 1) 92 .u64 8 (hTo a q) ∧ Below w.heap.size w wr) (fun i _ => 4 - (intOf i).toNat)
  case atStart => exact ⟨0, by omega, rfl, H0.out, H1.out, H2.out.ext (fun j _ => by unfold hTo; rw [if_neg (by omega)]), HB.out⟩
  case round =>
    clear H0 H1 H2 HB
    obtain ⟨q, hq, rfl, h0, h1, h2, hb⟩ := hrel
    have H0 := Lib.hid h0
    have H1 := Lib.hid h1
    have H2 := Lib.hid h2
    have HB := Lib.hid hb
    clear h0 h1 h2 hb
    by_cases hlt : q < 4
    · have hltI : (q : Int) < 4 := by omega
      have c0 := H0.out.cell q hlt
      obtain ⟨S, hS⟩ : ∃ S, Hid (S = 2 * q) := ⟨_, Lib.hid rfl⟩
      obtain ⟨U, hU⟩ : ∃ U, Hid (U = 2 * q + 1) := ⟨_, Lib.hid rfl⟩
      have hS1 : (2 : Int) * (q : Int) = (S : Int) := by rw [hS.out]; omega
      have hU1 : (S : Int) + 1 = (U : Int) := by rw [hS.out, hU.out]; omega
      have hS8 : (S : Int) < 8 := by rw [hS.out]; omega
      have hU8 : (U : Int) < 8 := by rw [hU.out]; omega
      have c2 := H2.out.cell S (by omega)
      have f2 := H2.out.free S
      obtain ⟨lo, hlo⟩ : ∃ lo, Hid (lo = dig a q % 4294967296) := ⟨_, Lib.hid rfl⟩
      obtain ⟨hi, hhi⟩ : ∃ hi, Hid (hi = dig a q / 4294967296) := ⟨_, Lib.hid rfl⟩
      have hd := HD.out q
      have HN : Hid (Row ((wr.setCell ⟨w.heap.size + 1 + 1, S, none⟩ (.int .u64 (lo : Int))).setCell ⟨w.heap.size + 1 + 1, U, none⟩ (.int .u64 (hi : Int))) (w.heap.size + 1 + 1) 92 .u64 8 (hTo a (q + 1))) :=
        Lib.hid (((H2.out.set S lo).set U hi).ext (hTo_step a q lo hi S U hS.out hU.out hlo.out hhi.out))
      have h2' := H2.out.set S lo
      have c3 := h2'.cell U (by omega)
      have f3 := h2'.free U
      have h0' := H0.out.other ⟨w.heap.size + 1 + 1, S, none⟩ (.int .u64 (lo : Int)) (by show w.heap.size ≠ w.heap.size + 1 + 1; omega)
      have c4 := h0'.cell q hlt
      have H0n := Lib.hid (h0'.other ⟨w.heap.size + 1 + 1, U, none⟩ (.int .u64 (hi : Int)) (by show w.heap.size ≠ w.heap.size + 1 + 1; omega))
      have H1n := Lib.hid ((H1.out.other ⟨w.heap.size + 1 + 1, S, none⟩ (.int .u64 (lo : Int)) (by show w.heap.size + 1 ≠ w.heap.size + 1 + 1; omega)).other ⟨w.heap.size + 1 + 1, U, none⟩ (.int .u64 (hi : Int)) (by show w.heap.size + 1 ≠ w.heap.size + 1 + 1; omega))
      have HBn := Lib.hid ((HB.out.setCell (p := ⟨w.heap.size + 1 + 1, S, none⟩) (by show w.heap.size ≤ w.heap.size + 1 + 1; omega) (.int .u64 (lo : Int))).setCell (p := ⟨w.heap.size + 1 + 1, U, none⟩) (by show w.heap.size ≤ w.heap.size + 1 + 1; omega) (.int .u64 (hi : Int)))
      generalize upd (hTo a q) S lo U = old2 at *
      generalize hTo a q S = old at *
      generalize dig a q = d at *
      clear h0' h2' H0 H1 H2 HB hA hZ hT HD
      go_wp2_with (first | (refine wpList_run rfl _ (exec_and32 (.tmp 13) rfl rfl d lo hd hlo.out rfl _) ?_) | (refine wpList_run rfl _ (exec_shr32 (.tmp 21) rfl rfl d hi hhi.out rfl _) ?_))
      go_roundw
      case rel => exact ⟨q + 1, by omega, by first | rfl | simp | go_num, H0n.out, H1n.out, HN.out, HBn.out⟩
      case measure => simp [intOf]; omega
    · obtain rfl : q = 4 := by omega
      have hr : wr.heap[w.heap.size + 1 + 1]? = some (.cells T 92 (0, 0)) := by rw [hT.out]; exact H2.out.ext (fun j hj => by unfold hTo; rw [if_pos (by omega)])
      have IT : IsRw 8 T := ⟨_, hT.out⟩
      have hl := load59 IT hr
      have h1 : wr.heap[w.heap.size + 1]? = some (.cells Z 92 (0, 0)) := by rw [hZ.out]; exact H1.out
      have hz8 : Z.size = 8 := by rw [hZ.out]; exact rowOf_size _ _ _
      clear H0 H1 H2 HD hA hZ hT hr
      rw [show ((4 : Nat) : Int) = (4 : Int) from rfl]
      go_wp2_with (first | (refine wpList_run rfl _ (exec_load_of _ 92 (.tmp 3) rfl ⟨w.heap.size + 1 + 1, 0, none⟩ rfl (.agg T) hl) ?_) | (refine wpList_run0 rfl (exec_store59 _ (.tmp 2) (.tmp 24) rfl (w.heap.size + 1) rfl T IT rfl Z 92 h1 hz8) ?_))
      exact bodyPost_ret (results_cell rfl _ _ _ ⟨w.heap.size + 1, 0, none⟩ rfl _ (load59 (t := 92) IT (setRow_heap _ _ _ _ _ _ h1))) rfl ⟨rfl, HB.out.trans ⟨rfl, rfl, rfl, by simp, fun k hk => setRow_other _ _ _ _ (by omega)⟩⟩
end Go.Proofs.YtgbliacncahooaaDoor
/- Whole of the document: a number of eight words of 32 bits. No condition but that the words have 32 bits. -/
namespace Go.Proofs.YtgbliacncahooaaDoor
open Go.RowKit Go.Shelf
set_option linter.unusedVariables false
set_option linter.unusedSimpArgs false
def wTo (f : Nat → Nat) (i j : Nat) : Nat := if j < i then f (2 * j) + f (2 * j + 1) * 4294967296 else 0
theorem wTo_step (f : Nat → Nat) (i v : Nat) (hv : v = f (2 * i) + f (2 * i + 1) * 4294967296) : ∀ j, j < 4 → upd (wTo f i) i v j = wTo f (i + 1) j := by
  intro j _
  unfold upd wTo
  by_cases e : j = i
  · subst e; rw [if_pos rfl, if_pos (by omega), hv]
  · rw [if_neg e]
    by_cases h : j < i
    · rw [if_pos h, if_pos (by omega)]
    · rw [if_neg h, if_neg (by omega)]
theorem or_half (x y : Nat) (hx : x < 4294967296) (hy : y < 4294967296) : bits .or .u64 (x : Int) ((y * 4294967296 : Nat) : Int) = ((x + y * 4294967296 : Nat) : Int) := by
  have hb := bits_or_u64_nat x (y * 4294967296) (by omega) (by omega)
  have ho2 : x ||| y * 4294967296 = x + y * 4294967296 := by rw [Nat.or_comm]; have h := or_join 32 y x hx; rw [show (2 : Nat) ^ 32 = 4294967296 from rfl] at h; rw [h]; omega
  rw [ho2] at hb
  exact hb
set_option maxRecDepth 100000 in
set_option maxHeartbeats 1000000 in
theorem whole_any (f : Nat → Nat) (hf : ∀ j, j < 8 → f j < 4294967296) (w : World) :
    Calls Tryd.prog 70 #[.agg (rowOf .u64 8 f).toArray] w fun e w' => e = .returned (.agg (num (v32 8 f))) ∧ Below w.heap.size w w' := by
  have HF := Lib.hid hf
  have h0 := ((Row.new w 92 .u64 8 f).alloc (.cells (rowOf .u64 4 (fun _ => 0)).toArray 24)).alloc (.cells (rowOf .u64 4 (fun _ => 0)).toArray 24)
  have h1 := (Row.new (w.alloc (.cells (rowOf .u64 8 f).toArray 92)) 24 .u64 4 (fun _ => 0)).alloc (.cells (rowOf .u64 4 (fun _ => 0)).toArray 24)
  have h2 := Row.new ((w.alloc (.cells (rowOf .u64 8 f).toArray 92)).alloc (.cells (rowOf .u64 4 (fun _ => 0)).toArray 24)) 24 .u64 4 (fun _ => 0)
  have hb : Below w.heap.size w (((w.alloc (.cells (rowOf .u64 8 f).toArray 92)).alloc (.cells (rowOf .u64 4 (fun _ => 0)).toArray 24)).alloc (.cells (rowOf .u64 4 (fun _ => 0)).toArray 24)) := (((Below.refl _ w).alloc (Nat.le_refl _) _).alloc (by simp) _).alloc (by simp <;> omega) _
  simp only [World.size_alloc] at h1 h2
  have HZ := zero24
  obtain ⟨A, hA⟩ : ∃ A, Hid (A = (rowOf .u64 8 f).toArray) := ⟨_, Lib.hid rfl⟩
  obtain ⟨Z, hZ⟩ : ∃ Z, Hid (Z = (rowOf .u64 4 (fun _ => 0)).toArray) := ⟨_, Lib.hid rfl⟩
  obtain ⟨T, hT⟩ : ∃ T, Hid (T = num (v32 8 f)) := ⟨_, Lib.hid rfl⟩
  rw [← hA.out, ← hZ.out] at h0 h1 h2 hb
  rw [← hA.out, ← hT.out]
  rw [← hZ.out] at HZ
  have H0 := Lib.hid h0
  have H1 := Lib.hid h1
  have H2 := Lib.hid h2
  have HB := Lib.hid hb
  clear h0 h1 h2 hb hf
  go_enter Tryd.func70, Tryd.ntmps70
  go_wp2_with ((refine wpList_run rfl _ (exec_alloc_agg _ 24 rfl _ (HZ _)) ?_); try simp only [World.size_alloc])
  try simp only [Act.put, sT, sS, sZ]
  generalize ((w.alloc (.cells A 92)).alloc (.cells Z 24)).alloc (.cells Z 24) = W0 at *
  go_loopw [4] (fun i wr => ∃ q : Nat, q ≤ 4 ∧ i = .int .i64 q ∧ Row wr (w.heap.size) 92 .u64 8 f ∧ Row wr (w.heap.size + 1) 24 .u64 4 (fun _ => 0) ∧ Row wr (w.heap.size + 1 + 1) 24 .u64 4 (wTo f q) ∧ Below w.heap.size w wr) (fun i _ => 4 - (intOf i).toNat)
  case atStart => exact ⟨0, by omega, rfl, H0.out, H1.out, H2.out.ext (fun j _ => by unfold wTo; rw [if_neg (by omega)]), HB.out⟩
  case round =>
    clear H0 H1 H2 HB
    obtain ⟨q, hq, rfl, h0, h1, h2, hb⟩ := hrel
    have H0 := Lib.hid h0
    have H1 := Lib.hid h1
    have H2 := Lib.hid h2
    have HB := Lib.hid hb
    clear h0 h1 h2 hb
    by_cases hlt : q < 4
    · have hltI : (q : Int) < 4 := by omega
      obtain ⟨S, hS⟩ : ∃ S, Hid (S = 2 * q) := ⟨_, Lib.hid rfl⟩
      obtain ⟨U, hU⟩ : ∃ U, Hid (U = 2 * q + 1) := ⟨_, Lib.hid rfl⟩
      have hS1 : (2 : Int) * (q : Int) = (S : Int) := by rw [hS.out]; omega
      have hU1 : (S : Int) + 1 = (U : Int) := by rw [hS.out, hU.out]; omega
      have hSl : S < 8 := by rw [hS.out]; omega
      have hUl : U < 8 := by rw [hU.out]; omega
      have c0 := H0.out.cell S hSl
      have c1 := H0.out.cell U hUl
      have c2 := H2.out.cell q hlt
      have f2 := H2.out.free q
      have hor := or_half (f S) (f U) (HF.out S hSl) (HF.out U hUl)
      obtain ⟨Y, hY⟩ : ∃ Y, Hid (Y = f U * 4294967296) := ⟨_, Lib.hid rfl⟩
      have hw : IntKind.u64.wrap ((f U : Int) * 4294967296) = (Y : Int) := by
        have h := HF.out U hUl
        have e : (f U : Int) * 4294967296 = (Y : Int) := by rw [hY.out]; omega
        rw [e]; exact wrap_id (by rw [hY.out]; omega)
      rw [← hY.out] at hor
      obtain ⟨r, hr⟩ : ∃ r, Hid (r = f S + Y) := ⟨_, Lib.hid rfl⟩
      rw [← hr.out] at hor
      have HN : Hid (Row (wr.setCell ⟨w.heap.size + 1 + 1, q, none⟩ (.int .u64 (r : Int))).drew (w.heap.size + 1 + 1) 24 .u64 4 (wTo f (q + 1))) := Lib.hid ((Row.set (w := wr) H2.out q r).ext (wTo_step f q r (by rw [hr.out, hY.out, hS.out, hU.out])))
      have H0n : Hid (Row (wr.setCell ⟨w.heap.size + 1 + 1, q, none⟩ (.int .u64 (r : Int))).drew (w.heap.size) 92 .u64 8 f) := Lib.hid (Row.other (w := wr) H0.out ⟨w.heap.size + 1 + 1, q, none⟩ (.int .u64 (r : Int)) (by show w.heap.size ≠ w.heap.size + 1 + 1; omega))
      have H1n : Hid (Row (wr.setCell ⟨w.heap.size + 1 + 1, q, none⟩ (.int .u64 (r : Int))).drew (w.heap.size + 1) 24 .u64 4 (fun _ => 0)) := Lib.hid (Row.other (w := wr) H1.out ⟨w.heap.size + 1 + 1, q, none⟩ (.int .u64 (r : Int)) (by show w.heap.size + 1 ≠ w.heap.size + 1 + 1; omega))
      have HBn : Hid (Below w.heap.size w (wr.setCell ⟨w.heap.size + 1 + 1, q, none⟩ (.int .u64 (r : Int))).drew) := Lib.hid (HB.out.setCell (p := ⟨w.heap.size + 1 + 1, q, none⟩) (by show w.heap.size ≤ w.heap.size + 1 + 1; omega) (.int .u64 (r : Int))).drew
      have hSI : (S : Int) < 8 := by omega
      have hUI : (U : Int) < 8 := by omega
      generalize wTo f q q = old at *
      generalize f S = x at *
      generalize f U = y at *
      clear H0 H1 H2 HB hA hZ hT HF hSl hUl
      go_wp2
      go_region
      go_wp2
      go_roundw
      case rel => exact ⟨q + 1, by omega, by first | rfl | simp | go_num, H0n.out, H1n.out, HN.out, HBn.out⟩
      case measure => simp [intOf]; omega
    · obtain rfl : q = 4 := by omega
      have hr : wr.heap[w.heap.size + 1 + 1]? = some (.cells T 24 (0, 0)) := by rw [hT.out]; exact H2.out.ext (fun j hj => by unfold wTo; rw [if_pos hj, whole_val f HF.out j hj])
      have IT : IsNum T := ⟨_, hT.out⟩
      have hl := loadA IT hr
      have h1 : wr.heap[w.heap.size + 1]? = some (.cells Z 24 (0, 0)) := by rw [hZ.out]; exact H1.out
      have hz8 : Z.size = 4 := by rw [hZ.out]; exact rowOf_size _ _ _
      clear H0 H1 H2 hA hZ hT hr
      rw [show ((4 : Nat) : Int) = (4 : Int) from rfl]
      go_wp2_with (first | (refine wpList_run rfl _ (exec_load_of _ 24 (.tmp 3) rfl ⟨w.heap.size + 1 + 1, 0, none⟩ rfl (.agg T) hl) ?_) | (refine wpList_run0 rfl (exec_store24 _ (.tmp 2) (.tmp 22) rfl (w.heap.size + 1) rfl T IT rfl Z 24 h1 hz8) ?_))
      exact bodyPost_ret (results_cell rfl _ _ _ ⟨w.heap.size + 1, 0, none⟩ rfl _ (loadA IT (setRow_heap _ _ _ _ _ _ h1))) rfl ⟨rfl, HB.out.trans ⟨rfl, rfl, rfl, by simp, fun k hk => setRow_other _ _ _ _ (by omega)⟩⟩
end Go.Proofs.YtgbliacncahooaaDoor
/- Which rows lie where, of any type; a store as one step of a region that draws its order. No condition. -/
namespace Go.Proofs.YtgbliacncahooaaDoor
open Go.RowKit Go.Shelf
set_option linter.unusedVariables false
set_option linter.unusedSimpArgs false
section
variable {P : Program} {ops : Array Oper} {Q : Exit → Act → World → Prop} {md : Region.Mode} {S : World → Prop} {f n : Nat} {listed : Array Bool} {a : Act} {w w2 : World} {rs : List Nat}
theorem ReadyF.op0 {i : Nat} (opr : Op) (ho : (ops[i]?).map (fun o => (o.dst, o.op, o.guard)) = some (none, opr, none))
    (hrun : ∀ o : Oper, o.op = opr → (execOp a.eval o).run P w = .ok .skip w2) (hS : S w2) (h : AnyF P md ops Q S f n (listed.setIfInBounds i true) a w2)
    (hs : ReadyF P md ops Q S f n listed a w rs) (hif : i ≠ f := by decide) : ReadyF P md ops Q S f n listed a w (i :: rs) := by
  cases hq : ops[i]? with
  | none => simp [hq] at ho
  | some o =>
    simp [hq] at ho
    obtain ⟨hd, rfl, hg⟩ := ho
    refine ReadyF.cons hq hg (fun K hK => ?_) hs
    unfold Oper.wp
    rw [hrun o rfl]
    have : a.put o.dst undef = a := by rw [hd]; rfl
    have h2 : K a w2 := hK _ _ ⟨fun _ => ⟨hS, h⟩, fun e => absurd e hif⟩
    rw [← this] at h2
    exact h2
end
/-- Since w0 nothing that lay has turned; these blocks hold these rows. -/
def Kt (w0 : World) (l : List (Nat × Array Value × TypeId)) (w : World) : Prop := Below w0.heap.size w0 w ∧ ∀ p ∈ l, w.heap[p.1]? = some (.cells p.2.1 p.2.2 (0, 0))
theorem Kt.get {w0 w : World} {l : List (Nat × Array Value × TypeId)} (h : Kt w0 l w) (g : Nat) (A : Array Value) (t : TypeId) (hm : (g, A, t) ∈ l) : w.heap[g]? = some (.cells A t (0, 0)) := h.2 (g, A, t) hm
theorem Kt.lt {w0 w : World} {l : List (Nat × Array Value × TypeId)} (h : Kt w0 l w) (g : Nat) (A : Array Value) (t : TypeId) (hm : (g, A, t) ∈ l) : g < w.heap.size := (Array.getElem?_eq_some_iff.1 (h.get g A t hm)).1
theorem Kt.below {w0 w w2 : World} {l : List (Nat × Array Value × TypeId)} (h : Kt w0 l w) (hb : Below w.heap.size w w2) : Kt w0 l w2 :=
  ⟨h.1.trans (hb.mono h.1.size), fun p hp => (hb.block p.1 (Array.getElem?_eq_some_iff.1 (h.2 p hp)).1).trans (h.2 p hp)⟩
theorem Kt.drew {w0 w : World} {l : List (Nat × Array Value × TypeId)} (h : Kt w0 l w) : Kt w0 l w.drew := ⟨h.1.drew, h.2⟩
theorem Kt.alloc {w0 w : World} {l : List (Nat × Array Value × TypeId)} (h : Kt w0 l w) (o : Obj) : Kt w0 l (w.alloc o) := h.below ((Below.refl _ w).alloc (Nat.le_refl _) o)
theorem Kt.new {w0 w : World} {l : List (Nat × Array Value × TypeId)} (h : Kt w0 l w) (A : Array Value) (t : TypeId) : Kt w0 ((w.heap.size, A, t) :: l) (w.alloc (.cells A t)) :=
  ⟨(h.alloc _).1, fun p hp => by
    rcases List.mem_cons.1 hp with rfl | hp
    · exact heap_alloc_new w _
    · exact (h.alloc _).2 p hp⟩
theorem Kt.nil (w : World) : Kt w [] w := ⟨Below.refl _ _, fun p hp => by cases hp⟩
theorem Kt.sub {w0 w : World} {l m : List (Nat × Array Value × TypeId)} (h : Kt w0 l w) (hs : ∀ p ∈ m, p ∈ l) : Kt w0 m w := ⟨h.1, fun p hp => h.2 p (hs p hp)⟩
theorem Kt.add {w0 w : World} {l : List (Nat × Array Value × TypeId)} (h : Kt w0 l w) (g : Nat) (A : Array Value) (t : TypeId) (hg : w.heap[g]? = some (.cells A t (0, 0))) : Kt w0 ((g, A, t) :: l) w :=
  ⟨h.1, fun p hp => by
    rcases List.mem_cons.1 hp with rfl | hp
    · exact hg
    · exact h.2 p hp⟩
theorem Kt.app {w0 w : World} {l m : List (Nat × Array Value × TypeId)} (h : Kt w0 l w) (h2 : Kt w0 m w) : Kt w0 (l ++ m) w := ⟨h.1, fun p hp => (List.mem_append.1 hp).elim (h.2 p) (h2.2 p)⟩
/-- A store over a whole row. -/
theorem Kt.set {w0 w : World} {l m : List (Nat × Array Value × TypeId)} (h : Kt w0 l w) (g : Nat) (A B : Array Value) (t : TypeId) (hg : w.heap[g]? = some (.cells B t (0, 0))) (hw : w0.heap.size ≤ g) (hm : ∀ p ∈ m, p = (g, A, t) ∨ (p ∈ l ∧ p.1 ≠ g)) : Kt w0 m (w.setRow g A) :=
  ⟨h.1.trans ⟨rfl, rfl, rfl, by simp, fun k hk => setRow_other _ _ _ _ (by omega)⟩, fun p hp => by
    rcases hm p hp with rfl | ⟨h1, h2⟩
    · exact setRow_heap _ _ _ _ _ _ hg
    · exact (setRow_other _ _ _ _ h2).trans (h.2 p h1)⟩
/-- A store into one cell of a row of numbers. -/
theorem Kt.setw {w0 w : World} {l m : List (Nat × Array Value × TypeId)} (h : Kt w0 l w) (g : Nat) (t : TypeId) (kd : IntKind) (n : Nat) (f : Nat → Nat) (j v : Nat) (hg : Row w g t kd n f) (hw : w0.heap.size ≤ g) (hm : ∀ p ∈ m, p = (g, (rowOf kd n (upd f j v)).toArray, t) ∨ (p ∈ l ∧ p.1 ≠ g)) : Kt w0 m (w.setCell ⟨g, j, none⟩ (.int kd (v : Int))) :=
  ⟨h.1.setCell (p := ⟨g, j, none⟩) hw _, fun p hp => by
    rcases hm p hp with rfl | ⟨h1, h2⟩
    · exact hg.set j v
    · exact (heap_setCell_other _ _ _ _ h2).trans (h.2 p h1)⟩
theorem Kt.row {w0 w : World} {l : List (Nat × Array Value × TypeId)} (h : Kt w0 l w) (g : Nat) (t : TypeId) (kd : IntKind) (n : Nat) (f : Nat → Nat) (hm : (g, (rowOf kd n f).toArray, t) ∈ l) : Row w g t kd n f := h.2 _ hm
theorem Kt.cell {w0 w : World} {l : List (Nat × Array Value × TypeId)} (h : Kt w0 l w) (g : Nat) (A : Array Value) (t : TypeId) (hm : (g, A, t) ∈ l) (j : Nat) : w.cell? ⟨g, j, none⟩ = A[j]? := cell_of_row w g j A t (0, 0) (h.get g A t hm)
theorem Kt.free {w0 w : World} {l : List (Nat × Array Value × TypeId)} (h : Kt w0 l w) (g : Nat) (A : Array Value) (t : TypeId) (hm : (g, A, t) ∈ l) (j : Nat) : w.frozen? ⟨g, j, none⟩ = false := by
  unfold World.frozen?
  simp only [h.get g A t hm]
  simp
/-- A row whose words have turned into others'. -/
theorem Kt.ext {w0 w : World} {l m : List (Nat × Array Value × TypeId)} (h : Kt w0 l w) (g : Nat) (t : TypeId) (kd : IntKind) (n : Nat) (f f' : Nat → Nat) (hf : ∀ j, j < n → f j = f' j) (hm : ∀ p ∈ m, p ∈ l ∨ (p = (g, (rowOf kd n f').toArray, t) ∧ (g, (rowOf kd n f).toArray, t) ∈ l)) : Kt w0 m w :=
  ⟨h.1, fun p hp => by
    rcases hm p hp with h1 | ⟨rfl, h2⟩
    · exact h.2 p h1
    · rw [show (rowOf kd n f').toArray = (rowOf kd n f).toArray by rw [rowOf_ext hf]]
      exact h.2 _ h2⟩
end Go.Proofs.YtgbliacncahooaaDoor
/- Single operations of the walks over roots; what is odd. No condition but what each names. -/
namespace Go.Proofs.YtgbliacncahooaaDoor
open Go.RowKit Go.Shelf
set_option linter.unusedVariables false
set_option linter.unusedSimpArgs false
theorem exec_neqL {ρ : Operand → Value} {o : Oper} (x y : Operand) (ho : o.op = .binOp .neq 24 x y 24) (a b : Nat) (ha : a < 115792089237316195423570985008687907853269984665640564039457584007913129639936) (hb : b < 115792089237316195423570985008687907853269984665640564039457584007913129639936) (A B : Array Value) (hA : Hid (A = num a)) (hB : Hid (B = num b)) (hx : ρ x = .agg A) (hy : ρ y = .agg B) (v : Bool) (hv : decide (a = b) = !v) (w : World) :
    (execOp ρ o).run Tryd.prog w = .ok (.value (.bool v)) w :=
  exec_neqv x y ho a b ha hb (by rw [hx, hA.out]) (by rw [hy, hB.out]) v hv w
theorem exec_rem2 {ρ : Operand → Value} {o : Oper} (x : Operand) (ho : o.op = .binOp .rem 22 x (.const (.int .u64 2)) 22) (hc : ρ (.const (.int .u64 2)) = .int .u64 2) (d : Nat) (q : Nat) (hd : d % 2 = q) (hx : ρ x = .int .u64 (d : Int)) (w : World) :
    (execOp ρ o).run Tryd.prog w = .ok (.value (.int .u64 (q : Int))) w := by
  have hq : (d : Int).tmod 2 = (q : Int) := by rw [Int.tmod_eq_emod_of_nonneg (by omega)]; omega
  have hq2 : (d : Int) % 2 = (q : Int) := by omega
  have hw : IntKind.u64.wrap (q : Int) = (q : Int) := wrap_id (by omega)
  clear hd
  unfold execOp
  rw [ho]
  simp only [hx, hc]
  go_simp
theorem dig0_odd (x : Nat) : dig x 0 % 2 = x % 2 := by rw [dig_0]; omega
theorem rootR_is (a : Nat) : sqF (onF (a % pp) 251) 1 = rootR a := by
  rw [sqF_pos _ 1 (by decide), Nat.pow_one, onF_pos _ 251 (by decide), powF_pow, powF_mod]
  unfold rootR
  rw [show (2 ^ 251 - 1) * 2 = 7237005577332262213973186563042994240829374041602535252466099000494570602494 by decide]
end Go.Proofs.YtgbliacncahooaaDoor
