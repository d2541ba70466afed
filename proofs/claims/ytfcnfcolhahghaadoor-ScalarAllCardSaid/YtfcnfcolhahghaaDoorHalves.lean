/- halves of the document: a number as eight words of 32 bits; rows of eight and sixteen words. No condition but that the number has 256 bits. -/
import Derived.Test.YtfcnfcolhahghaaDoorSub
import Derived.Test.YtfcnfcolhahghaaDoorMulMath
namespace Go.Proofs.YtfcnfcolhahghaaDoor
open Go.RowKit Go.Shelf
set_option linter.unusedVariables false
set_option linter.unusedSimpArgs false
def IsRw (n : Nat) (A : Array Value) : Prop := ∃ f : Nat → Nat, A = (rowOf .u64 n f).toArray
theorem size59 (f : Nat → Nat) : (Tryd.prog.info? 56).map (·.size) = some (rowOf .u64 8 f).length := by rw [rowOf_length]; kernel_rfl
theorem size50 (f : Nat → Nat) : (Tryd.prog.info? 49).map (·.size) = some (rowOf .u64 16 f).length := by rw [rowOf_length]; kernel_rfl
theorem zero59 (w : World) : (zeroValue 56).run Tryd.prog w = .ok (.agg (rowOf .u64 8 (fun _ => 0)).toArray) w := by kernel_rfl
theorem zero50 (w : World) : (zeroValue 49).run Tryd.prog w = .ok (.agg (rowOf .u64 16 (fun _ => 0)).toArray) w := by kernel_rfl
theorem load59 {W : World} {g : Nat} {A : Array Value} (hA : IsRw 8 A) {t : TypeId} (hg : W.heap[g]? = some (.cells A t (0, 0))) : (loadVar 56 ⟨g, 0, none⟩).run Tryd.prog W = .ok (.agg A) W := by
  obtain ⟨f, rfl⟩ := hA
  exact run_loadVar_seg W 56 g 0 (rowOf .u64 8 f) _ (Row.seg (t := t) hg) Tryd.underlying56 rfl (size59 f)
theorem load50 {W : World} {g : Nat} {A : Array Value} (hA : IsRw 16 A) {t : TypeId} (hg : W.heap[g]? = some (.cells A t (0, 0))) : (loadVar 49 ⟨g, 0, none⟩).run Tryd.prog W = .ok (.agg A) W := by
  obtain ⟨f, rfl⟩ := hA
  exact run_loadVar_seg W 49 g 0 (rowOf .u64 16 f) _ (Row.seg (t := t) hg) Tryd.underlying49 rfl (size50 f)
theorem exec_store59 {ρ : Operand → Value} {o : Oper} (w : World) (x y : Operand) (ho : o.op = .store 56 x y) (g : Nat) (hx : ρ x = .pointer (some ⟨g, 0, none⟩)) (A : Array Value) (hA : IsRw 8 A) (hy : ρ y = .agg A) (cur : Array Value) (t : TypeId)
    (hg : w.heap[g]? = some (.cells cur t (0, 0))) (h8 : cur.size = 8) : (execOp ρ o).run Tryd.prog w = .ok .skip (w.setRow g A) := by
  obtain ⟨f, rfl⟩ := hA
  have h := exec_store_seg (P := Tryd.prog) (ρ := ρ) (o := o) w 56 x y ho g 0 hx (rowOf .u64 8 f) hy cur t hg (by rw [rowOf_length]; omega) (rowOf_one _ _ _) (size59 f)
  rwa [splice_all _ _ (by rw [rowOf_length]; exact h8)] at h
theorem exec_store50 {ρ : Operand → Value} {o : Oper} (w : World) (x y : Operand) (ho : o.op = .store 49 x y) (g : Nat) (hx : ρ x = .pointer (some ⟨g, 0, none⟩)) (A : Array Value) (hA : IsRw 16 A) (hy : ρ y = .agg A) (cur : Array Value) (t : TypeId)
    (hg : w.heap[g]? = some (.cells cur t (0, 0))) (h8 : cur.size = 16) : (execOp ρ o).run Tryd.prog w = .ok .skip (w.setRow g A) := by
  obtain ⟨f, rfl⟩ := hA
  have h := exec_store_seg (P := Tryd.prog) (ρ := ρ) (o := o) w 49 x y ho g 0 hx (rowOf .u64 16 f) hy cur t hg (by rw [rowOf_length]; omega) (rowOf_one _ _ _) (size50 f)
  rwa [splice_all _ _ (by rw [rowOf_length]; exact h8)] at h
theorem exec_and32 {ρ : Operand → Value} {o : Oper} (x : Operand) (ho : o.op = .binOp .and 22 x (.const (.int .u64 4294967295)) 22) (hc : ρ (.const (.int .u64 4294967295)) = .int .u64 4294967295) (d r : Nat) (hd : d < 18446744073709551616) (hr : r = d % 4294967296) (hx : ρ x = .int .u64 (d : Int)) (w : World) :
    (execOp ρ o).run Tryd.prog w = .ok (.value (.int .u64 (r : Int))) w := by
  have hb := bits_and_u64_nat d 4294967295 hd (by decide)
  rw [show d &&& 4294967295 = r by rw [hr]; exact Nat.and_two_pow_sub_one_eq_mod d 32] at hb
  have hb2 : bits .and .u64 (d : Int) 4294967295 = (r : Int) := hb
  clear hr
  unfold execOp
  rw [ho]
  simp only [hx, hc]
  go_simp
theorem exec_shr32 {ρ : Operand → Value} {o : Oper} (x : Operand) (ho : o.op = .binOp .shr 22 x (.const (.int .u64 32)) 58) (hc : ρ (.const (.int .u64 32)) = .int .u64 32) (d r : Nat) (hr : r = d / 4294967296) (hx : ρ x = .int .u64 (d : Int)) (w : World) :
    (execOp ρ o).run Tryd.prog w = .ok (.value (.int .u64 (r : Int))) w := by
  have hq : (d : Int) / 4294967296 = (r : Int) := by omega
  clear hr
  unfold execOp
  rw [ho]
  simp only [hx, hc]
  go_simp
def hTo (a i j : Nat) : Nat := if j < 2 * i then half a j else 0
theorem hTo_step (a i v v2 S T : Nat) (hS : S = 2 * i) (hT : T = 2 * i + 1) (hv : v = dig a i % 4294967296) (hv2 : v2 = dig a i / 4294967296) : ∀ j, j < 8 → upd (upd (hTo a i) S v) T v2 j = hTo a (i + 1) j := by
  intro j _
  subst hS hT
  have e0 : half a (2 * i) = dig a i % 4294967296 := by unfold half; rw [if_pos (by omega), show 2 * i / 2 = i by omega]
  have e1 : half a (2 * i + 1) = dig a i / 4294967296 := by unfold half; rw [if_neg (by omega), show (2 * i + 1) / 2 = i by omega]
  unfold upd hTo
  by_cases h1 : j = 2 * i + 1
  · subst h1; rw [if_pos rfl, if_pos (by omega), hv2, e1]
  · rw [if_neg h1]
    by_cases h0 : j = 2 * i
    · subst h0; rw [if_pos rfl, if_pos (by omega), hv, e0]
    · rw [if_neg h0]
      by_cases h : j < 2 * i
      · rw [if_pos h, if_pos (by omega)]
      · rw [if_neg h, if_neg (by omega)]
set_option maxRecDepth 100000 in
set_option maxHeartbeats 1000000 in
theorem halves_any (a : Nat) (w : World) :
    Calls Tryd.prog 34 #[.agg (num a)] w fun e w' => e = .returned (.agg (rowOf .u64 8 (half a)).toArray) ∧ Below w.heap.size w w' := by
  have HD := Lib.hid (dig_lt a)
  have h0 := ((Row.new w 24 .u64 4 (dig a)).alloc (.cells (rowOf .u64 8 (fun _ => 0)).toArray 56)).alloc (.cells (rowOf .u64 8 (fun _ => 0)).toArray 56)
  have h1 := (Row.new (w.alloc (.cells (num a) 24)) 56 .u64 8 (fun _ => 0)).alloc (.cells (rowOf .u64 8 (fun _ => 0)).toArray 56)
  have h2 := Row.new ((w.alloc (.cells (num a) 24)).alloc (.cells (rowOf .u64 8 (fun _ => 0)).toArray 56)) 56 .u64 8 (fun _ => 0)
  have hb : Below w.heap.size w (((w.alloc (.cells (num a) 24)).alloc (.cells (rowOf .u64 8 (fun _ => 0)).toArray 56)).alloc (.cells (rowOf .u64 8 (fun _ => 0)).toArray 56)) := (((Below.refl _ w).alloc (Nat.le_refl _) _).alloc (by simp) _).alloc (by simp <;> omega) _
  simp only [World.size_alloc] at h1 h2
  change Row (((w.alloc (.cells (num a) 24)).alloc (.cells (rowOf .u64 8 (fun _ => 0)).toArray 56)).alloc (.cells (rowOf .u64 8 (fun _ => 0)).toArray 56)) _ _ _ _ _ at h0
  have HZ := zero59
  obtain ⟨A, hA⟩ : ∃ A, Hid (A = num a) := ⟨_, Lib.hid rfl⟩
  obtain ⟨Z, hZ⟩ : ∃ Z, Hid (Z = (rowOf .u64 8 (fun _ => 0)).toArray) := ⟨_, Lib.hid rfl⟩
  obtain ⟨T, hT⟩ : ∃ T, Hid (T = (rowOf .u64 8 (half a)).toArray) := ⟨_, Lib.hid rfl⟩
  rw [← hA.out, ← hZ.out] at h0 h1 h2 hb
  rw [← hA.out, ← hT.out]
  rw [← hZ.out] at HZ
  have H0 := Lib.hid h0
  have H1 := Lib.hid h1
  have H2 := Lib.hid h2
  have HB := Lib.hid hb
  clear h0 h1 h2 hb
  go_enter Tryd.func34, Tryd.ntmps34
  go_wp2_with ((refine wpList_run rfl _ (exec_alloc_agg _ 56 rfl _ (HZ _)) ?_); try simp only [World.size_alloc])
  try simp only [Act.put, List.setIfInBounds_toArray, List.set_cons_succ, List.set_cons_zero]
  generalize ((w.alloc (.cells A 24)).alloc (.cells Z 56)).alloc (.cells Z 56) = W0 at *
  go_loopw [4] (fun i wr => ∃ q : Nat, q ≤ 4 ∧ i = .int .i64 q ∧ Row wr (w.heap.size) 24 .u64 4 (dig a) ∧ Row wr (w.heap.size + 1) 56 .u64 8 (fun _ => 0) ∧ Row wr (w.heap.size + 1 + 1) 56 .u64 8 (hTo a q) ∧ Below w.heap.size w wr) (fun i _ => 4 - (intOf i).toNat)
  case atStart => exact ⟨0, by omega, rfl, H0.out, H1.out, H2.out.ext (fun j _ => by unfold hTo; rw [if_neg (by omega)]), HB.out⟩
  case round =>
    clear H0 H1 H2 HB
    obtain ⟨q, hq, rfl, h0, h1, h2, hb⟩ := hrel
    have H0 := Lib.hid h0
    have H1 := Lib.hid h1
    have H2 := Lib.hid h2
    have HB := Lib.hid hb
    clear h0 h1 h2 hb
    by_cases hlt : q < 4
    · have hltI : (q : Int) < 4 := by omega
      have c0 := H0.out.cell q hlt
      obtain ⟨S, hS⟩ : ∃ S, Hid (S = 2 * q) := ⟨_, Lib.hid rfl⟩
      obtain ⟨U, hU⟩ : ∃ U, Hid (U = 2 * q + 1) := ⟨_, Lib.hid rfl⟩
      have hS1 : (2 : Int) * (q : Int) = (S : Int) := by rw [hS.out]; omega
      have hU1 : (S : Int) + 1 = (U : Int) := by rw [hS.out, hU.out]; omega
      have hS8 : (S : Int) < 8 := by rw [hS.out]; omega
      have hU8 : (U : Int) < 8 := by rw [hU.out]; omega
      have c2 := H2.out.cell S (by omega)
      have f2 := H2.out.free S
      obtain ⟨lo, hlo⟩ : ∃ lo, Hid (lo = dig a q % 4294967296) := ⟨_, Lib.hid rfl⟩
      obtain ⟨hi, hhi⟩ : ∃ hi, Hid (hi = dig a q / 4294967296) := ⟨_, Lib.hid rfl⟩
      have hd := HD.out q
      have HN : Hid (Row ((wr.setCell ⟨w.heap.size + 1 + 1, S, none⟩ (.int .u64 (lo : Int))).setCell ⟨w.heap.size + 1 + 1, U, none⟩ (.int .u64 (hi : Int))) (w.heap.size + 1 + 1) 56 .u64 8 (hTo a (q + 1))) :=
        Lib.hid (((H2.out.set S lo).set U hi).ext (hTo_step a q lo hi S U hS.out hU.out hlo.out hhi.out))
      have h2' := H2.out.set S lo
      have c3 := h2'.cell U (by omega)
      have f3 := h2'.free U
      have h0' := H0.out.other ⟨w.heap.size + 1 + 1, S, none⟩ (.int .u64 (lo : Int)) (by show w.heap.size ≠ w.heap.size + 1 + 1; omega)
      have c4 := h0'.cell q hlt
      have H0n := Lib.hid (h0'.other ⟨w.heap.size + 1 + 1, U, none⟩ (.int .u64 (hi : Int)) (by show w.heap.size ≠ w.heap.size + 1 + 1; omega))
      have H1n := Lib.hid ((H1.out.other ⟨w.heap.size + 1 + 1, S, none⟩ (.int .u64 (lo : Int)) (by show w.heap.size + 1 ≠ w.heap.size + 1 + 1; omega)).other ⟨w.heap.size + 1 + 1, U, none⟩ (.int .u64 (hi : Int)) (by show w.heap.size + 1 ≠ w.heap.size + 1 + 1; omega))
      have HBn := Lib.hid ((HB.out.setCell (p := ⟨w.heap.size + 1 + 1, S, none⟩) (by show w.heap.size ≤ w.heap.size + 1 + 1; omega) (.int .u64 (lo : Int))).setCell (p := ⟨w.heap.size + 1 + 1, U, none⟩) (by show w.heap.size ≤ w.heap.size + 1 + 1; omega) (.int .u64 (hi : Int)))
      generalize upd (hTo a q) S lo U = old2 at *
      generalize hTo a q S = old at *
      generalize dig a q = d at *
      clear h0' h2' H0 H1 H2 HB hA hZ hT HD
      go_wp2_with (first | (refine wpList_run rfl _ (exec_and32 (.tmp 13) rfl rfl d lo hd hlo.out rfl _) ?_) | (refine wpList_run rfl _ (exec_shr32 (.tmp 21) rfl rfl d hi hhi.out rfl _) ?_))
      go_roundw
      case rel => exact ⟨q + 1, by omega, by first | rfl | simp | go_num, H0n.out, H1n.out, HN.out, HBn.out⟩
      case measure => simp [intOf]; omega
    · obtain rfl : q = 4 := by omega
      have hr : wr.heap[w.heap.size + 1 + 1]? = some (.cells T 56 (0, 0)) := by rw [hT.out]; exact H2.out.ext (fun j hj => by unfold hTo; rw [if_pos (by omega)])
      have IT : IsRw 8 T := ⟨_, hT.out⟩
      have hl := load59 IT hr
      have h1 : wr.heap[w.heap.size + 1]? = some (.cells Z 56 (0, 0)) := by rw [hZ.out]; exact H1.out
      have hz8 : Z.size = 8 := by rw [hZ.out]; exact rowOf_size _ _ _
      clear H0 H1 H2 HD hA hZ hT hr
      rw [show ((4 : Nat) : Int) = (4 : Int) from rfl]
      go_wp2_with (first | (refine wpList_run rfl _ (exec_load_of _ 56 (.tmp 3) rfl ⟨w.heap.size + 1 + 1, 0, none⟩ rfl (.agg T) hl) ?_) | (refine wpList_run0 rfl (exec_store59 _ (.tmp 2) (.tmp 24) rfl (w.heap.size + 1) rfl T IT rfl Z 56 h1 hz8) ?_))
      exact bodyPost_ret (results_cell rfl _ _ _ ⟨w.heap.size + 1, 0, none⟩ rfl _ (load59 (t := 56) IT (setRow_heap _ _ _ _ _ _ h1))) rfl ⟨rfl, HB.out.trans ⟨rfl, rfl, rfl, by simp, fun k hk => setRow_other _ _ _ _ (by omega)⟩⟩
end Go.Proofs.YtfcnfcolhahghaaDoor
