/- number of the document: the number that 32 bytes say, the lowest first. No condition but that there are 32. -/
import Derived.Test.YtfcnfcolhahghaaDoorKt
namespace Go.Proofs.YtfcnfcolhahghaaDoor
open Go.RowKit Go.Shelf
set_option linter.unusedVariables false
set_option linter.unusedSimpArgs false
set_option maxRecDepth 100000 in
set_option maxHeartbeats 1000000 in
theorem number_any (s : ByteArray) (h32 : s.size = 32) (w : World) :
    Calls Tryd.prog 21 #[.string s] w fun e w' => e = .returned (.agg (num (leVal s.data.toList))) ∧ Below w.heap.size w w' := by
  have HZ := zero_run
  have IZ := isNum 0
  have hsl : s.data.toList.length = 32 := h32
  obtain ⟨l, hl⟩ : ∃ l, Hid (l = s.data.toList) := ⟨_, Lib.hid rfl⟩
  rw [← hl.out] at hsl ⊢
  have HK : Hid (Kn w [(w.heap.size, num 0), (w.heap.size + 1, (rowOf .u64 4 (wordAt (l.take 0))).toArray)] ((w.alloc (.cells (num 0) 24)).alloc (.cells (num 0) 24))) := by
    have h := ((Kn.nil w).new (num 0)).new (num 0)
    simp only [World.size_alloc] at h
    rw [List.take_zero, rowOf_ext (f := wordAt []) (g := fun _ => 0) (fun j _ => wordAt_nil j), num_zero]
    exact Lib.hid (h.sub (fun p hp => by simp at hp ⊢; rcases hp with h | h <;> simp [h]))
  obtain ⟨Z, hZe⟩ : ∃ Z, Hid (Z = num 0) := ⟨_, Lib.hid rfl⟩
  rw [← hZe.out] at HK IZ
  have HZ2 : ∀ w, (zeroValue 24).run Tryd.prog w = .ok (.agg Z) w := by rw [hZe.out]; exact HZ
  have hs32 : (s.size : Int) = 32 := by omega
  clear HZ
  go_enter Tryd.func21, Tryd.ntmps21
  go_wp2_with ((refine wpList_run rfl _ (exec_alloc_agg _ 24 rfl _ (HZ2 _)) ?_); try simp only [World.size_alloc])
  try simp only [Act.put, List.setIfInBounds_toArray, List.set_cons_succ, List.set_cons_zero]
  generalize (w.alloc (.cells Z 24)).alloc (.cells Z 24) = W0 at *
  go_loopw [4] (fun u wr => ∃ i : Nat, i ≤ 32 ∧ u = .int .i64 i ∧ Kn w [(w.heap.size, Z), (w.heap.size + 1, (rowOf .u64 4 (wordAt (l.take i))).toArray)] wr) (fun u _ => 32 - (intOf u).toNat)
  case atStart => exact ⟨0, by omega, rfl, HK.out⟩
  case round =>
    clear HK
    obtain ⟨i, hi, rfl, hK⟩ := hrel
    by_cases hlt : i < 32
    · have hil : i < l.length := by omega
      have his : i < s.size := by omega
      have htl : (l.take i).length = i := by rw [List.length_take]; omega
      obtain ⟨j, hj0⟩ : ∃ j, j = i / 8 := ⟨_, rfl⟩
      obtain ⟨q, hq0⟩ : ∃ q, q = i % 8 := ⟨_, rfl⟩
      obtain ⟨sh, hsh0⟩ : ∃ sh, sh = 8 * q := ⟨_, rfl⟩
      have hj4 : j < 4 := by omega
      have hq8 : q < 8 := by omega
      have hs64 : sh < 64 := by omega
      obtain ⟨c, hc0⟩ : ∃ c, c = s[i].toNat := ⟨_, rfl⟩
      have hcl2 : c = l[i].toNat := by rw [hc0]; congr 1; simp only [hl.out]; rfl
      have hc256 : c < 256 := by rw [hc0]; exact UInt8.toNat_lt _
      have hcl : c * 2 ^ sh < 18446744073709551616 := by
        have h1 : 2 ^ sh ≤ 2 ^ 56 := Nat.pow_le_pow_right (by decide) (by omega)
        have h2 : c * 2 ^ sh ≤ 255 * 2 ^ 56 := Nat.mul_le_mul (by omega) h1
        omega
      have hxs0 := wordAt_part (l.take i) i htl.symm
      rw [← hj0, ← hq0, ← hsh0] at hxs0
      obtain ⟨r, hr0⟩ : ∃ r, r = wordAt (l.take i) j + c * 2 ^ sh := ⟨_, rfl⟩
      have hstep : ∀ z, upd (wordAt (l.take i)) j r z = wordAt (l.take (i + 1)) z := by
        intro z
        rw [List.take_succ_eq_append_getElem hil, wordAt_snoc, htl, ← hj0, ← hq0, ← hsh0, ← hcl2]
        unfold upd
        by_cases hz : z = j
        · subst hz; rw [if_pos rfl, if_pos rfl, hr0]
        · rw [if_neg hz, if_neg hz]
      have hrl : r < 18446744073709551616 := by
        have h := hstep j
        rw [upd_same] at h
        rw [h]
        exact wordAt_lt _ _
      have HST : Hid ((rowOf .u64 4 (upd (wordAt (l.take i)) j r)).toArray = (rowOf .u64 4 (wordAt (l.take (i + 1)))).toArray) := by
        unfold Hid
        rw [rowOf_ext (fun z _ => hstep z)]
      have HRW : Hid (Row wr (w.heap.size + 1) 24 .u64 4 (wordAt (l.take i))) := Lib.hid (hK.get (w.heap.size + 1) _ (by simp))
      obtain ⟨x, hx0⟩ : ∃ x, x = wordAt (l.take i) j := ⟨_, rfl⟩
      rw [← hx0] at hxs0 hr0
      have hxs : x < 2 ^ sh := hxs0
      have hAj0 : (rowOf .u64 4 (wordAt (l.take i))).toArray[j]? = some (.int .u64 (x : Int)) := by rw [List.getElem?_toArray, rowOf_get _ _ _ _ hj4, hx0]
      obtain ⟨A, hA⟩ : ∃ A, Hid (A = (rowOf .u64 4 (wordAt (l.take i))).toArray) := ⟨_, Lib.hid rfl⟩
      rw [← hA.out] at hAj0 hK
      have hAj := hAj0
      have hj := Lib.hid hj0
      have hq := Lib.hid hq0
      have hsh := Lib.hid hsh0
      have hc := Lib.hid hc0
      have hr := Lib.hid hr0
      have hli : (i : Int) < 32 := by omega
      have HKK := Lib.hid hK
      clear hj0 hq0 hsh0 hc0 hr0 hx0 hcl2 htl hstep hxs0 hAj0 hK
      go_wp2
      refine wp_region_any (by kernel_rfl) ?_
      change wpAny _ _ _ _ _ _ _ (World.drew _)
      have HSD := HKK.out.drew
      generalize hWd : wr.drew = Wd at *
      refine any_of_F (S := Kn w [(w.heap.size, Z), (w.heap.size + 1, A)]) (f := 14) _ _ _ _ ?_
      refine AnyF.take 0 (some 15) (.move (.tmp 4)) (.int .i64 (i : Int)) rfl (by kernel_rfl) (by kernel_rfl) (by kernel_rfl) (fun _ _ _ h => h) rfl (by kernel_rfl) (fun o ho w2 hw => exec_move (.tmp 4) ho _ rfl w2) HSD ?_
      simp only [Act.put, List.setIfInBounds_toArray, List.set_cons_succ, List.set_cons_zero]
      refine AnyF.take 1 (some 16) (.binOp .quo 3 (.tmp 15) (.const (.int .i64 8)) 3) (.int .i64 (j : Int)) rfl (by kernel_rfl) (by kernel_rfl) (by kernel_rfl) (fun _ _ _ h => h) rfl (by kernel_rfl) (fun o ho w2 hw => exec_quo8 (.tmp 15) ho rfl i j (by omega) rfl hj.out w2) HSD ?_
      simp only [Act.put, List.setIfInBounds_toArray, List.set_cons_succ, List.set_cons_zero]
      refine AnyF.take 2 (some 17) (.indexAddr 24 (.tmp 3) (.tmp 16)) (.pointer (some ⟨w.heap.size + 1, j, none⟩)) rfl (by kernel_rfl) (by kernel_rfl) (by kernel_rfl) (fun _ _ _ h => h) rfl (by kernel_rfl) (fun o ho w2 hw => exec_indexAddr24 (.tmp 3) (.tmp 16) ho (w.heap.size + 1) j rfl rfl hj4 w2) HSD ?_
      simp only [Act.put, List.setIfInBounds_toArray, List.set_cons_succ, List.set_cons_zero]
      refine AnyF.take 3 (some 18) (.load 22 (.tmp 17)) (.int .u64 (x : Int)) rfl (by kernel_rfl) (by kernel_rfl) (by kernel_rfl) (fun _ _ _ h => h) rfl (by kernel_rfl) (fun o ho w2 hw => exec_load_one w2 22 (.tmp 17) ho ⟨w.heap.size + 1, j, none⟩ rfl _ ((hw.cell (w.heap.size + 1) A (by simp) j).trans hAj) _ Tryd.underlying22 rfl) HSD ?_
      simp only [Act.put, List.setIfInBounds_toArray, List.set_cons_succ, List.set_cons_zero]
      refine AnyF.take 4 (some 19) (.move (.tmp 0)) (.string s) rfl (by kernel_rfl) (by kernel_rfl) (by kernel_rfl) (fun _ _ _ h => h) rfl (by kernel_rfl) (fun o ho w2 hw => exec_move (.tmp 0) ho _ rfl w2) HSD ?_
      simp only [Act.put, List.setIfInBounds_toArray, List.set_cons_succ, List.set_cons_zero]
      refine AnyF.take 5 (some 20) (.move (.tmp 4)) (.int .i64 (i : Int)) rfl (by kernel_rfl) (by kernel_rfl) (by kernel_rfl) (fun _ _ _ h => h) rfl (by kernel_rfl) (fun o ho w2 hw => exec_move (.tmp 4) ho _ rfl w2) HSD ?_
      simp only [Act.put, List.setIfInBounds_toArray, List.set_cons_succ, List.set_cons_zero]
      refine AnyF.take 6 (some 21) (.index 9 (.tmp 19) (.tmp 20)) (.int .u8 (c : Int)) rfl (by kernel_rfl) (by kernel_rfl) (by kernel_rfl) (fun _ _ _ h => h) rfl (by kernel_rfl) (fun o ho w2 hw => exec_index_str (.tmp 19) (.tmp 20) ho s i his rfl rfl c hc.out w2) HSD ?_
      simp only [Act.put, List.setIfInBounds_toArray, List.set_cons_succ, List.set_cons_zero]
      refine AnyF.take 7 (some 22) (.convert 5 22 (.tmp 21)) (.int .u64 (c : Int)) rfl (by kernel_rfl) (by kernel_rfl) (by kernel_rfl) (fun _ _ _ h => h) rfl (by kernel_rfl) (fun o ho w2 hw => exec_conv64 (.tmp 21) ho c hc256 rfl w2) HSD ?_
      simp only [Act.put, List.setIfInBounds_toArray, List.set_cons_succ, List.set_cons_zero]
      refine AnyF.take 8 (some 23) (.move (.tmp 4)) (.int .i64 (i : Int)) rfl (by kernel_rfl) (by kernel_rfl) (by kernel_rfl) (fun _ _ _ h => h) rfl (by kernel_rfl) (fun o ho w2 hw => exec_move (.tmp 4) ho _ rfl w2) HSD ?_
      simp only [Act.put, List.setIfInBounds_toArray, List.set_cons_succ, List.set_cons_zero]
      refine AnyF.take 9 (some 24) (.binOp .rem 3 (.tmp 23) (.const (.int .i64 8)) 3) (.int .i64 (q : Int)) rfl (by kernel_rfl) (by kernel_rfl) (by kernel_rfl) (fun _ _ _ h => h) rfl (by kernel_rfl) (fun o ho w2 hw => exec_rem8 (.tmp 23) ho rfl i q (by omega) rfl hq.out w2) HSD ?_
      simp only [Act.put, List.setIfInBounds_toArray, List.set_cons_succ, List.set_cons_zero]
      refine AnyF.take 10 (some 25) (.binOp .mul 3 (.tmp 24) (.const (.int .i64 8)) 3) (.int .i64 (sh : Int)) rfl (by kernel_rfl) (by kernel_rfl) (by kernel_rfl) (fun _ _ _ h => h) rfl (by kernel_rfl) (fun o ho w2 hw => exec_mul8 (.tmp 24) ho rfl q sh hq8 rfl hsh.out w2) HSD ?_
      simp only [Act.put, List.setIfInBounds_toArray, List.set_cons_succ, List.set_cons_zero]
      refine AnyF.take 11 (some 26) (.binOp .shl 22 (.tmp 22) (.tmp 25) 3) (.int .u64 ((c * 2 ^ sh : Nat) : Int)) rfl (by kernel_rfl) (by kernel_rfl) (by kernel_rfl) (fun _ _ _ h => h) rfl (by kernel_rfl) (fun o ho w2 hw => exec_shl (.tmp 22) (.tmp 25) ho c sh _ hs64 rfl rfl rfl hcl w2) HSD ?_
      simp only [Act.put, List.setIfInBounds_toArray, List.set_cons_succ, List.set_cons_zero]
      refine AnyF.take 12 (some 27) (.binOp .or 22 (.tmp 18) (.tmp 26) 22) (.int .u64 (r : Int)) rfl (by kernel_rfl) (by kernel_rfl) (by kernel_rfl) (fun _ _ _ h => h) rfl (by kernel_rfl) (fun o ho w2 hw => exec_or (.tmp 18) (.tmp 26) ho x c sh r rfl rfl hxs hr.out hrl w2) HSD ?_
      simp only [Act.put, List.setIfInBounds_toArray, List.set_cons_succ, List.set_cons_zero]
      refine AnyF.take 13 (some 28) (.indexAddr 24 (.tmp 3) (.tmp 16)) (.pointer (some ⟨w.heap.size + 1, j, none⟩)) rfl (by kernel_rfl) (by kernel_rfl) (by kernel_rfl) (fun _ _ _ h => h) rfl (by kernel_rfl) (fun o ho w2 hw => exec_indexAddr24 (.tmp 3) (.tmp 16) ho (w.heap.size + 1) j rfl rfl hj4 w2) HSD ?_
      simp only [Act.put, List.setIfInBounds_toArray, List.set_cons_succ, List.set_cons_zero]
      have HRD : Row Wd (w.heap.size + 1) 24 .u64 4 (wordAt (l.take i)) := by rw [← hWd]; exact HRW.out
      have HN9 : Kn w [(w.heap.size, Z), (w.heap.size + 1, (rowOf .u64 4 (wordAt (l.take (i + 1)))).toArray)] (Wd.setCell ⟨w.heap.size + 1, j, none⟩ (.int .u64 (r : Int))) := by
        rw [← HST.out]
        exact HSD.setw (w.heap.size + 1) (wordAt (l.take i)) j r HRD (by omega) (fun p hp => by simp at hp; rcases hp with rfl | rfl <;> simp)
      refine AnyF.ready (rs := [14]) (by kernel_rfl) (by simp) (ReadyF.last (w2 := Wd.setCell ⟨w.heap.size + 1, j, none⟩ (.int .u64 (r : Int))) (.store 22 (.tmp 28) (.tmp 27)) rfl (fun o ho => exec_store_one _ 22 (.tmp 28) (.tmp 27) ho ⟨w.heap.size + 1, j, none⟩ rfl _ rfl rfl rfl _ (HRD.cell j hj4) (HRD.free j) (by kernel_rfl)) ?_ ReadyF.nil)
      refine any_doneF (by kernel_rfl) ?_ _
      have HN := Lib.hid HN9
      clear HN9 HRD HSD hAj hWd HKK HRW
      generalize Wd.setCell ⟨w.heap.size + 1, j, none⟩ (.int .u64 (r : Int)) = W9 at *
      go_wp2
      go_roundw
      case rel => exact ⟨i + 1, by omega, by simp, HN.out⟩
      case measure => simp [intOf]; omega
    · obtain rfl : i = 32 := by omega
      have htk : l.take 32 = l := List.take_of_length_le (by omega)
      rw [htk] at hK
      have hN4 : leVal l < 115792089237316195423570985008687907853269984665640564039457584007913129639936 := by
        have h := leVal_lt l
        rw [hsl] at h
        exact Nat.lt_of_lt_of_le h (by decide)
      have hAN : (rowOf .u64 4 (wordAt l)).toArray = num (leVal l) := by
        rw [← num_val _ (wordAt_lt l), val_words l hsl]
      rw [hAN] at hK
      obtain ⟨A, hAe⟩ : ∃ A, Hid (A = num (leVal l)) := ⟨_, Lib.hid rfl⟩
      have IA : IsNum A := by rw [hAe.out]; exact isNum _
      rw [← hAe.out] at hK
      rw [show ((32 : Nat) : Int) = (32 : Int) from rfl]
      have HK := Lib.hid hK
      have hl1 := HK.out.load (w.heap.size + 1) A (by simp) IA
      have SZ := IZ.size
      clear hK hAN hN4 htk hsl hl
      go_wp2_with (first | (refine wpList_run rfl _ (exec_load_of _ 24 (.tmp 3) rfl ⟨w.heap.size + 1, 0, none⟩ rfl (.agg A) hl1) ?_) | (refine wpList_run0 rfl (exec_store_kn (w0 := w) (l := [(w.heap.size, Z), (w.heap.size + 1, A)]) _ HK.out (.tmp 2) (.tmp 29) rfl (w.heap.size) rfl A IA rfl Z IZ (by simp)) ?_))
      have HS6 : Kn w [(w.heap.size, A)] (World.setRow _ (w.heap.size) A) := HK.out.set (w.heap.size) A Z (HK.out.get (w.heap.size) Z (by simp)) (by omega) (fun p hp => by simp at hp; subst hp; simp)
      exact bodyPost_ret (results_cell rfl _ _ _ ⟨w.heap.size, 0, none⟩ rfl _ (HS6.load (w.heap.size) A (by simp) IA)) rfl ⟨by rw [hAe.out], HS6.1⟩
end Go.Proofs.YtfcnfcolhahghaaDoor
