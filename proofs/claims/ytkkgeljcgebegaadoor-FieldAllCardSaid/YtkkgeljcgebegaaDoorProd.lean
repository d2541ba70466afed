/- product of package field: a number times another one. No condition but that the numbers have 256 bits. -/
import Derived.Test.YtkkgeljcgebegaaDoorMinus
namespace Go.Proofs.YtkkgeljcgebegaaDoor
open Go.RowKit Go.Shelf
set_option linter.unusedVariables false
attribute [local go_sem] Oper.semAt_some

def PrI (w : World) (a : Nat) (f : Nat → Nat) (pre : List (Fin 4)) (W : World) : Prop :=
  (Row W w.heap.size 24 .u64 4 (dig a) ∧ Row W (w.heap.size + 1 + 1) 24 .u64 4 (prSt a f pre).1 ∧ Row W (w.heap.size + 1 + 1 + 1) 24 .u64 4 (dig (prSt a f pre).2)) ∧ Below w.heap.size w W
theorem prI_own (w : World) (a : Nat) (f : Nat → Nat) (B : Nat) (hB : w.heap.size + 4 ≤ B) : OwnFrom B (PrI w a f) := by
  rintro s W W' row ⟨⟨h1, h3, h4⟩, h5⟩ hg hr
  exact ⟨⟨row_own h1 (by omega) hg hr, row_own h3 (by omega) hg hr, row_own h4 (by omega) hg hr⟩, below_own h5 (by omega) h5.size hg hr⟩
theorem keeps_of_below {W W2 : World} (h : Below W.heap.size W W2) : KeepsOthers W W2 :=
  ⟨h.size, fun k o hk _ => (h.block k (Array.getElem?_eq_some_iff.1 hk).1).trans hk⟩
theorem keeps_setRow {W : World} {g : Nat} {cs cur : Array Value} {t : TypeId} {fr : Nat × Nat} (hg : W.heap[g]? = some (.cells cur t fr)) : KeepsOthers W (W.setRow g cs) :=
  KeepsOthers.of_grownBy (row := some g) ⟨rfl, rfl, rfl, by simp, fun k _ hk => setRow_other _ _ _ _ (fun e => hk (by rw [e]))⟩ (fun j o e ho => by cases e; rw [hg] at ho; cases ho; rfl)
theorem dig_zero (j : Nat) : dig 0 j = 0 := by unfold dig; split <;> rfl
theorem num_zero : (rowOf .u64 4 fun _ => 0).toArray = num 0 := by unfold num; rw [rowOf_ext (fun j _ => (dig_zero j).symm)]
theorem exec_new24 {ρ : Operand → Value} {o : Oper} (w : World) (x y : Operand) (ho : o.op = .store 24 x y) (c : Array Value) (t : TypeId) (hx : ρ x = .pointer (some ⟨w.heap.size, 0, none⟩)) (A : Array Value) (hA : IsNum A) (hy : ρ y = .agg A) (h4 : c.size = 4) :
    (execOp ρ o).run Tryd.prog (w.alloc (.cells c t)) = .ok .skip (w.alloc (.cells A t)) := by
  have h := exec_store24 (w.alloc (.cells c t)) x y ho w.heap.size hx A hA hy c t (heap_alloc_new _ _) h4
  rw [setRow_alloc _ _ _ _ _ _ rfl] at h
  exact h
theorem results_cells2 {fn : Func} {a b : Tmp} {t u : TypeId} (h : fn.results = #[.cell a t, .cell b u]) (tmps : Array Value) (P : Program) (w : World) (ad bd : Addr) (ha : tmps.getD a undef = .pointer (some ad)) (hb : tmps.getD b undef = .pointer (some bd)) (v x : Value)
    (hl : (loadVar t ad).run P w = .ok v w) (hl2 : (loadVar u bd).run P w = .ok x w) : (results fn tmps).run P w = .ok (.tuple #[v, x]) w := by
  have ha2 : tmps[a]?.getD undef = .pointer (some ad) := by rw [← Array.getD_eq_getD_getElem?]; exact ha
  have hb2 : tmps[b]?.getD undef = .pointer (some bd) := by rw [← Array.getD_eq_getD_getElem?]; exact hb
  unfold results
  rw [h]
  simp [Array.mapM_eq_mapM_toList, ha2, hb2, asAddr, hl, hl2]
/-- The words that one round leaves. -/
theorem prod_words (T : Nat) (hT : T / 115792089237316195423570985008687907853269984665640564039457584007913129639936 < 18446744073709551616) :
    T % 18446744073709551616 = dig (T % 115792089237316195423570985008687907853269984665640564039457584007913129639936) 0 ∧ num (T / 18446744073709551616) = #[.int .u64 (dig (T % 115792089237316195423570985008687907853269984665640564039457584007913129639936) 1), .int .u64 (dig (T % 115792089237316195423570985008687907853269984665640564039457584007913129639936) 2), .int .u64 (dig (T % 115792089237316195423570985008687907853269984665640564039457584007913129639936) 3), .int .u64 ((T / 115792089237316195423570985008687907853269984665640564039457584007913129639936 : Nat) : Int)] := by
  refine ⟨by rw [dig_0]; omega, ?_⟩
  have e0 : dig (T / 18446744073709551616) 0 = dig (T % 115792089237316195423570985008687907853269984665640564039457584007913129639936) 1 := by rw [dig_0, dig_1]; omega
  have e1 : dig (T / 18446744073709551616) 1 = dig (T % 115792089237316195423570985008687907853269984665640564039457584007913129639936) 2 := by rw [dig_1, dig_2]; omega
  have e2 : dig (T / 18446744073709551616) 2 = dig (T % 115792089237316195423570985008687907853269984665640564039457584007913129639936) 3 := by rw [dig_2, dig_3]; omega
  have e3 : dig (T / 18446744073709551616) 3 = T / 115792089237316195423570985008687907853269984665640564039457584007913129639936 := by rw [dig_3]; omega
  rw [← e0, ← e1, ← e2, ← e3]
  rfl
set_option maxRecDepth 100000 in
set_option maxHeartbeats 1000000 in
theorem product_any (a b : Nat) (ha : a < 115792089237316195423570985008687907853269984665640564039457584007913129639936) (hb : b < 115792089237316195423570985008687907853269984665640564039457584007913129639936) (w : World) :
    Calls Tryd.prog 36 #[.agg (num a), .agg (num b)] w fun e w' => e = .returned (.tuple #[.agg (num (a * b % 115792089237316195423570985008687907853269984665640564039457584007913129639936)), .agg (num (a * b / 115792089237316195423570985008687907853269984665640564039457584007913129639936))]) ∧ Below w.heap.size w w' := by
  obtain ⟨hall1, hall2⟩ := prSt_all a b ha hb
  rw [← hall1, ← hall2]
  have HOK := Lib.hid (prSt_ok a (dig b) ha (dig_lt b))
  have HF := Lib.hid (dig_lt b)
  have HA := Lib.hid ha
  clear hall1 hall2 ha hb
  rw [show num b = (rowOf .u64 4 (dig b)).toArray from rfl]
  generalize dig b = F at *
  refine (callsIn_wide (n := 6)).1 ?_
  refine callsIn_of_wp_marks Tryd.func36 rfl trivial ?_ rfl
  simp only [Tryd.ntmps36, List.size_toArray, List.length_cons, List.length_nil, Nat.reduceAdd, Nat.reduceSub, Array.replicate_succ, Array.replicate_zero, List.push_toArray, List.append_toArray, List.nil_append, List.cons_append]
  obtain ⟨ra, hra⟩ : ∃ ra, Hid (ra = num a) := ⟨_, Lib.hid rfl⟩
  obtain ⟨rb, hrb⟩ : ∃ rb, Hid (rb = (rowOf .u64 4 F).toArray) := ⟨_, Lib.hid rfl⟩
  rw [← hra.out, ← hrb.out]
  gi_wp2_with (first | (refine wpListIn_run rfl rfl rfl _ (exec_alloc_agg _ 24 rfl _ (zero24 _)) ?_) | (refine wpListIn_run rfl rfl rfl _ (exec_load_of _ 24 (.tmp 3) rfl ⟨w.heap.size + 1, 0, none⟩ rfl (.agg rb) ?ld) ?_))
  case ld =>
    rw [hrb.out]
    exact load24 (by unfold Row; rw [← hrb.out]; simp only [heapA, Array.getElem?_push, Array.size_push]; (repeat (first | rw [if_pos (by first | trivial | omega)] | rw [if_neg (by omega)])))
  gi_wp2_with (refine ⟨trivial, ?_⟩; gi_at_call 39; refine (words_in _ _ _).mono ?_; rintro e w' ⟨rfl, rfl⟩)
  have hrows : ∀ W0, W0 = ((((w.alloc (.cells ra 24)).alloc (.cells rb 24)).alloc (.cells (rowOf .u64 4 fun _ => 0).toArray 24)).alloc (.cells (rowOf .u64 4 fun _ => 0).toArray 24)).alloc (.cells rb 24) →
      PrI w a F [] W0 ∧ Row W0 (w.heap.size + 1 + 1 + 1 + 1) 24 .u64 4 F ∧ W0.heap.size = w.heap.size + 5 := by
    rintro W0 rfl
    refine ⟨⟨⟨?_, ?_, ?_⟩, ?_⟩, ?_, by simp⟩
    · unfold Row; rw [hra.out]; simp only [heapA, Array.getElem?_push, Array.size_push]; (repeat (first | rw [if_pos (by first | trivial | omega)] | rw [if_neg (by omega)])); rfl
    · unfold Row; simp only [heapA, Array.getElem?_push, Array.size_push]; (repeat (first | rw [if_pos (by first | trivial | omega)] | rw [if_neg (by omega)])); rfl
    · have e : rowOf .u64 4 (dig (prSt a F []).2) = rowOf .u64 4 (fun _ => 0) := rowOf_ext (fun j hj => dig_zero j)
      unfold Row; rw [e]; simp only [heapA, Array.getElem?_push, Array.size_push]; (repeat (first | rw [if_pos (by first | trivial | omega)] | rw [if_neg (by omega)]))
    · repeat (refine bel_alloc ?_ (by simp <;> omega) _)
      exact Below.refl _ _
    · unfold Row; rw [hrb.out]; simp only [heapA, Array.getElem?_push, Array.size_push]; (repeat (first | rw [if_pos (by first | trivial | omega)] | rw [if_neg (by omega)]))
  have hrows2 := hrows _ rfl
  clear hrows
  generalize ((((w.alloc (.cells ra 24)).alloc (.cells rb 24)).alloc (.cells (rowOf .u64 4 fun _ => 0).toArray 24)).alloc (.cells (rowOf .u64 4 fun _ => 0).toArray 24)).alloc (.cells rb 24) = W0 at *
  obtain ⟨hI0, hbox, hsz0⟩ := hrows2
  refine wpIn_rangeFunc_ownF rfl (by omega) (gf := 46) (lb := #[.pointer (some ⟨w.heap.size + 1 + 1 + 1 + 1, 0, none⟩)]) rfl trivial (enters_of Tryd.func46 (by kernel_rfl) rfl) (words_stops 5 (w.heap.size + 1 + 1 + 1 + 1) F W0 hbox (by omega))
    (fun _ _ => trivial) (fun _ _ _ _ _ _ _ _ => trivial) (Below.refl _ _) (fun _ => rfl)
    (PrI w a F) (fun _ _ _ => False) (prI_own w a F _ (by omega)) (fun _ _ _ _ _ hs _ _ => hs) hI0
    (fun x => { tmps := #[.agg ra, .agg rb, .pointer (some ⟨w.heap.size, 0, none⟩), .pointer (some ⟨w.heap.size + 1, 0, none⟩), .pointer (some ⟨w.heap.size + 1 + 1, 0, none⟩), .pointer (some ⟨w.heap.size + 1 + 1 + 1, 0, none⟩), .int .i64 (x.1 : Int), .int .u64 (F x.1 : Int), undef, undef, .agg rb, .func (.func 46) #[] #[.pointer (some ⟨w.heap.size + 1 + 1 + 1 + 1, 0, none⟩)], .int .i64 (x.1 : Int), .int .u64 (F x.1 : Int), undef, undef, undef, undef, undef, undef, undef, undef, undef, undef, undef, undef, undef, undef, undef, undef, undef, undef, undef, undef, undef], defers := [] }) ?assign ?body ?done ?stop
  case assign =>
    intro l x W K hK
    unfold encW
    gi_wp2
    exact hK
  case body =>
    rintro l pre x W ⟨⟨h2, h4, h5⟩, hbl⟩ _
    obtain ⟨hok1, hok2⟩ := HOK.out pre
    have hx4 := x.2
    have hy := HF.out x.1
    have hnew := prSt_snoc a F pre x
    have hT := mul_lt4 HA.out hy
    have hTT : ((prSt a F pre).2 + a * F x.1) / 115792089237316195423570985008687907853269984665640564039457584007913129639936 < 18446744073709551616 := by generalize a * F x.1 = z at *; omega
    obtain ⟨pw1, pw2⟩ := prod_words ((prSt a F pre).2 + a * F x.1) hTT
    have HP := Lib.hid (plus_any (prSt a F pre).2 a (F x.1) hok2 HA.out hy)
    have HL5 : Hid ((loadVar 24 ⟨w.heap.size + 1 + 1 + 1, 0, none⟩).run Tryd.prog W = .ok (.agg (num (prSt a F pre).2)) W) := Lib.hid (load24 h5)
    have HL2 : Hid ((loadVar 24 ⟨w.heap.size, 0, none⟩).run Tryd.prog W = .ok (.agg ra) W) := by rw [hra.out]; exact Lib.hid (load24 h2)
    rw [← hra.out] at HP
    have hszW := hbl.size
    have hl5 := h5.lt
    have hl4 := h4.lt
    have hl2 := h2.lt
    generalize hTe : (prSt a F pre).2 + a * F x.1 = T at *
    have HN1 : Hid ((prSt a F (pre ++ [x])).1 = upd (prSt a F pre).1 x.1 (dig (T % 115792089237316195423570985008687907853269984665640564039457584007913129639936) 0)) := by unfold Hid; rw [hnew, ← pw1, ← hTe]; rfl
    have HN2 : Hid ((prSt a F (pre ++ [x])).2 = T / 18446744073709551616) := by unfold Hid; rw [hnew, ← hTe]; rfl
    clear hTe hnew hT hTT pw1 hok1 hok2 hI0 hbox HOK HF
    obtain ⟨v, hv⟩ : ∃ v : Nat, v = T / 115792089237316195423570985008687907853269984665640564039457584007913129639936 := ⟨_, rfl⟩
    rw [← hv] at pw2 HP
    have hnumS : num (T % 115792089237316195423570985008687907853269984665640564039457584007913129639936) = #[.int .u64 (dig (T % 115792089237316195423570985008687907853269984665640564039457584007913129639936) 0), .int .u64 (dig (T % 115792089237316195423570985008687907853269984665640564039457584007913129639936) 1), .int .u64 (dig (T % 115792089237316195423570985008687907853269984665640564039457584007913129639936) 2), .int .u64 (dig (T % 115792089237316195423570985008687907853269984665640564039457584007913129639936) 3)] := rfl
    have HIS : Hid (IsNum #[.int .u64 (dig (T % 115792089237316195423570985008687907853269984665640564039457584007913129639936) 0), .int .u64 (dig (T % 115792089237316195423570985008687907853269984665640564039457584007913129639936) 1), .int .u64 (dig (T % 115792089237316195423570985008687907853269984665640564039457584007913129639936) 2), .int .u64 (dig (T % 115792089237316195423570985008687907853269984665640564039457584007913129639936) 3)]) := Lib.hid (isNum (T % 115792089237316195423570985008687907853269984665640564039457584007913129639936))
    rw [hnumS] at HP
    clear hnumS
    generalize dig (T % 115792089237316195423570985008687907853269984665640564039457584007913129639936) 0 = s0 at *
    generalize dig (T % 115792089237316195423570985008687907853269984665640564039457584007913129639936) 1 = s1 at *
    generalize dig (T % 115792089237316195423570985008687907853269984665640564039457584007913129639936) 2 = s2 at *
    generalize dig (T % 115792089237316195423570985008687907853269984665640564039457584007913129639936) 3 = s3 at *
    have HH := Lib.hid pw2
    have H2 := Lib.hid h2
    have H4 := Lib.hid h4
    have H5 := Lib.hid h5
    have HB := Lib.hid hbl
    clear pw2 h2 h4 h5 hbl hv
    obtain ⟨rh, hrh⟩ : ∃ rh, Hid (rh = num (prSt a F pre).2) := ⟨_, Lib.hid rfl⟩
    rw [← hrh.out] at HP HL5
    have HIH : Hid (IsNum #[.int .u64 (s1 : Int), .int .u64 (s2 : Int), .int .u64 (s3 : Int), .int .u64 (v : Int)]) := by rw [← HH.out]; exact Lib.hid (isNum _)
    generalize F x.1 = y at *
    gi_wp2_with (first | (refine wpListIn_run rfl rfl rfl _ (exec_load_of _ 24 (.tmp 5) rfl ⟨w.heap.size + 1 + 1 + 1, 0, none⟩ rfl _ HL5.out) ?_) | (refine wpListIn_run rfl rfl rfl _ (exec_load_of _ 24 (.tmp 2) rfl ⟨w.heap.size, 0, none⟩ rfl _ HL2.out) ?_))
    refine ⟨trivial, ?_⟩
    refine (CallsIn.inRound l (callsIn_wide.2 (HP.out _))).mono ?_
    rintro e w1 ⟨rfl, hb1⟩
    have R2 := Lib.hid (H2.out.below hb1)
    have R4 := Lib.hid (H4.out.below hb1)
    have R5 := Lib.hid (H5.out.below hb1)
    have HK1 := Lib.hid (keeps_of_below hb1)
    have HB1 := Lib.hid (HB.out.trans (hb1.mono hszW))
    have c4 : w1.cell? ⟨w.heap.size + 1 + 1, x.1, none⟩ = some _ := R4.out.cell x.1 hx4
    have f4 : w1.frozen? ⟨w.heap.size + 1 + 1, x.1, none⟩ = false := R4.out.free x.1
    have z1 : w.heap.size + 1 + 1 < w1.heap.size := R4.out.lt
    have z2 : w.heap.size + 1 + 1 + 1 < w1.heap.size := R5.out.lt
    have z3 : w.heap.size < w1.heap.size := R2.out.lt
    have y1 : ¬ w.heap.size + 1 + 1 = w1.heap.size := by omega
    have y2 : ¬ w1.heap.size = w.heap.size + 1 + 1 := by omega
    have y3 : ¬ w.heap.size + 1 + 1 + 1 = w1.heap.size := by omega
    have y4 : ¬ w1.heap.size = w.heap.size + 1 + 1 + 1 := by omega
    have HG5 : Hid (((w1.setCell ⟨w.heap.size + 1 + 1, x.1, none⟩ (.int .u64 (s0 : Int))).alloc (.cells #[.int .u64 (s0 : Int), .int .u64 (s1 : Int), .int .u64 (s2 : Int), .int .u64 (s3 : Int)] 24)).heap[w.heap.size + 1 + 1 + 1]? = some (.cells (num (prSt a F pre).2) 24 (0, 0))) := Lib.hid (Row.alloc (Row.other R5.out _ _ (by show w.heap.size + 1 + 1 + 1 ≠ w.heap.size + 1 + 1; omega)) _)
    have HS5 : Hid ((num (prSt a F pre).2).size = 4) := Lib.hid (rowOf_size _ _ _)
    clear HP HL5 HL2 H2 H4 H5 HB hb1 hszW hl5 hl4 hl2
    gi_wp2_with (first | (refine wpListIn_run rfl rfl rfl _ (exec_alloc_agg _ 24 rfl _ (zero24 _)) ?_) | (refine wpListIn_run0 rfl rfl rfl (exec_new24 _ (.tmp 8) (.tmp 19) rfl _ _ rfl _ HIS.out rfl (rowOf_size _ _ _)) ?_) | (refine wpListIn_run0 rfl rfl rfl (exec_store24 _ (.tmp 5) (.tmp 32) rfl (w.heap.size + 1 + 1 + 1) rfl _ HIH.out rfl _ 24 HG5.out HS5.out) ?_))
    have hA : Row ((w1.setCell ⟨w.heap.size + 1 + 1, x.1, none⟩ (.int .u64 (s0 : Int))).alloc (.cells #[.int .u64 (s0 : Int), .int .u64 (s1 : Int), .int .u64 (s2 : Int), .int .u64 (s3 : Int)] 24)) w.heap.size 24 .u64 4 (dig a) := Row.alloc (Row.other R2.out _ _ (by show w.heap.size ≠ w.heap.size + 1 + 1; omega)) _
    have hB4 : Row ((w1.setCell ⟨w.heap.size + 1 + 1, x.1, none⟩ (.int .u64 (s0 : Int))).alloc (.cells #[.int .u64 (s0 : Int), .int .u64 (s1 : Int), .int .u64 (s2 : Int), .int .u64 (s3 : Int)] 24)) (w.heap.size + 1 + 1) 24 .u64 4 (prSt a F (pre ++ [x])).1 := by rw [HN1.out]; exact Row.alloc (Row.set R4.out x.1 s0) _
    have hC : Row ((w1.setCell ⟨w.heap.size + 1 + 1, x.1, none⟩ (.int .u64 (s0 : Int))).alloc (.cells #[.int .u64 (s0 : Int), .int .u64 (s1 : Int), .int .u64 (s2 : Int), .int .u64 (s3 : Int)] 24)) (w.heap.size + 1 + 1 + 1) 24 .u64 4 (dig (prSt a F pre).2) := Row.alloc (Row.other R5.out _ _ (by show w.heap.size + 1 + 1 + 1 ≠ w.heap.size + 1 + 1; omega)) _
    have hKp : KeepsOthers W ((w1.setCell ⟨w.heap.size + 1 + 1, x.1, none⟩ (.int .u64 (s0 : Int))).alloc (.cells #[.int .u64 (s0 : Int), .int .u64 (s1 : Int), .int .u64 (s2 : Int), .int .u64 (s3 : Int)] 24)) := (HK1.out.trans (KeepsOthers.setCell _ _ _)).trans (KeepsOthers.alloc _ _)
    have hBl : Below w.heap.size w ((w1.setCell ⟨w.heap.size + 1 + 1, x.1, none⟩ (.int .u64 (s0 : Int))).alloc (.cells #[.int .u64 (s0 : Int), .int .u64 (s1 : Int), .int .u64 (s2 : Int), .int .u64 (s3 : Int)] 24)) := (HB1.out.setCell (p := ⟨w.heap.size + 1 + 1, x.1, none⟩) (by show w.heap.size ≤ w.heap.size + 1 + 1; omega) _).alloc (by simp [World.setCell]; omega) _
    generalize (w1.setCell ⟨w.heap.size + 1 + 1, x.1, none⟩ (.int .u64 (s0 : Int))).alloc (.cells #[.int .u64 (s0 : Int), .int .u64 (s1 : Int), .int .u64 (s2 : Int), .int .u64 (s3 : Int)] 24) = W5 at *
    refine ⟨hKp.trans (keeps_setRow hC), trivial, ⟨(setRow_other _ _ _ _ (by omega)).trans hA, (setRow_other _ _ _ _ (by omega)).trans hB4, ?_⟩, hBl.trans ⟨rfl, rfl, rfl, by simp, fun j hj => setRow_other _ _ _ _ (by omega)⟩⟩
    rw [HN2.out]
    unfold Row
    rw [show (rowOf .u64 4 (dig (T / 18446744073709551616))).toArray = num (T / 18446744073709551616) from rfl, HH.out]
    exact setRow_heap _ _ _ _ _ _ hC
  case done =>
    rintro D xs W hD rfl ⟨⟨h2, h4, h5⟩, hbl⟩ hK
    obtain ⟨S, hS⟩ : ∃ S, Hid (S = prSt a F (List.finRange 4)) := ⟨_, Lib.hid rfl⟩
    rw [← hS.out] at h4 h5
    obtain ⟨A4, hA4⟩ : ∃ A4, Hid (A4 = (rowOf .u64 4 S.1).toArray) := ⟨_, Lib.hid rfl⟩
    obtain ⟨A5, hA5⟩ : ∃ A5, Hid (A5 = num S.2) := ⟨_, Lib.hid rfl⟩
    have I4 : Hid (IsNum A4) := by unfold Hid; rw [hA4.out]; exact ⟨_, rfl⟩
    have I5 : Hid (IsNum A5) := by unfold Hid; rw [hA5.out]; exact isNum _
    have r4 : W.drew.heap[w.heap.size + 1 + 1]? = some (.cells A4 24 (0, 0)) := by rw [hA4.out]; exact h4
    have r5 : W.drew.heap[w.heap.size + 1 + 1 + 1]? = some (.cells A5 24 (0, 0)) := by rw [hA5.out]; exact h5
    have s4 : A4.size = 4 := by rw [hA4.out]; exact rowOf_size _ _ _
    have s5 : A5.size = 4 := by rw [hA5.out]; exact rowOf_size _ _ _
    gi_wp2
    refine wpIn_nrm ?_
    refine wpIn_region_any (by kernel_rfl) ?_
    change wpAnyIn _ _ _ _ _ _ _ _ _ (World.drew _)
    refine anyIn_of_G (T := fun i => i == 0 || i == 1) (S := fun i w2 => (i = 0 → (loadVar 24 ⟨w.heap.size + 1 + 1, 0, none⟩).run Tryd.prog w2 = .ok (.agg A4) w2) ∧ (i = 1 → (loadVar 24 ⟨w.heap.size + 1 + 1 + 1, 0, none⟩).run Tryd.prog w2 = .ok (.agg A5) w2)) _ _ _ _ ?_
    refine AnyG.take 0 (some 33) (.load 24 (.tmp 4)) (.agg A4) rfl rfl (fun _ e => by cases e) (by kernel_rfl) (by kernel_rfl) (by kernel_rfl) (by kernel_rfl) rfl (fun _ _ _ h => h) (fun o ho w2 hw => exec_load_of _ 24 (.tmp 4) ho ⟨w.heap.size + 1 + 1, 0, none⟩ rfl _ (hw.1 rfl)) ⟨fun _ => loadA I4.out r4, fun e => (by cases e)⟩ ?_
    simp only [Act.put, List.setIfInBounds_toArray, List.set_cons_succ, List.set_cons_zero]
    refine AnyG.take 1 (some 34) (.load 24 (.tmp 5)) (.agg A5) rfl rfl (fun _ e => by cases e) (by kernel_rfl) (by kernel_rfl) (by kernel_rfl) (by kernel_rfl) rfl (fun _ _ _ h => h) (fun o ho w2 hw => exec_load_of _ 24 (.tmp 5) ho ⟨w.heap.size + 1 + 1 + 1, 0, none⟩ rfl _ (hw.2 rfl)) ⟨fun e => (by cases e), fun _ => loadA I5.out r5⟩ ?_
    simp only [Act.put, List.setIfInBounds_toArray, List.set_cons_succ, List.set_cons_zero]
    have q4 : (W.drew.setRow (w.heap.size + 1 + 1) A4).heap[w.heap.size + 1 + 1]? = some (.cells A4 24 (0, 0)) := setRow_heap _ _ _ _ _ _ r4
    have q5 : (W.drew.setRow (w.heap.size + 1 + 1) A4).heap[w.heap.size + 1 + 1 + 1]? = some (.cells A5 24 (0, 0)) := (setRow_other _ _ _ _ (by omega)).trans r5
    have p4 : ((W.drew.setRow (w.heap.size + 1 + 1) A4).setRow (w.heap.size + 1 + 1 + 1) A5).heap[w.heap.size + 1 + 1]? = some (.cells A4 24 (0, 0)) := (setRow_other _ _ _ _ (by omega)).trans q4
    have p5 : ((W.drew.setRow (w.heap.size + 1 + 1) A4).setRow (w.heap.size + 1 + 1 + 1) A5).heap[w.heap.size + 1 + 1 + 1]? = some (.cells A5 24 (0, 0)) := setRow_heap _ _ _ _ _ _ q5
    refine AnyG.ready (rs := [2]) (by kernel_rfl) (by simp) (ReadyG.skip (w2 := W.drew.setRow (w.heap.size + 1 + 1) A4) (.store 24 (.tmp 4) (.tmp 33)) rfl rfl (fun _ e => by cases e) (fun o ho => exec_store24 W.drew (.tmp 4) (.tmp 33) ho (w.heap.size + 1 + 1) rfl A4 I4.out rfl _ 24 r4 s4) rfl ?hk ?_ ReadyG.nil)
    case hk =>
      intro x _ _ _
      exact ⟨fun _ => loadA I4.out q4, fun _ => loadA I5.out q5⟩
    refine AnyG.ready (rs := [3]) (by kernel_rfl) (by simp) (ReadyG.skip (w2 := (W.drew.setRow (w.heap.size + 1 + 1) A4).setRow (w.heap.size + 1 + 1 + 1) A5) (.store 24 (.tmp 5) (.tmp 34)) rfl rfl (fun _ e => by cases e) (fun o ho => exec_store24 _ (.tmp 5) (.tmp 34) ho (w.heap.size + 1 + 1 + 1) rfl A5 I5.out rfl _ 24 q5 s5) rfl ?hk2 ?_ ReadyG.nil)
    case hk2 =>
      intro x _ _ _
      exact ⟨fun _ => loadA I4.out p4, fun _ => loadA I5.out p5⟩
    refine AnyG.done (by kernel_rfl) ?_ _
    refine nrm_intro ?_
    have hK2 : ((W.drew.setRow (w.heap.size + 1 + 1) A4).setRow (w.heap.size + 1 + 1 + 1) A5).heap[D]? = some (.deferred (some [])) := (setRow_other _ _ _ _ (by omega)).trans ((setRow_other _ _ _ _ (by omega)).trans hK)
    have HB : Hid (Below w.heap.size w ((W.drew.setRow (w.heap.size + 1 + 1) A4).setRow (w.heap.size + 1 + 1 + 1) A5)) := Lib.hid (hbl.trans ⟨rfl, rfl, rfl, by simp, fun k hk => (setRow_other _ _ _ _ (by omega)).trans (setRow_other _ _ _ _ (by omega))⟩)
    clear q4 q5
    generalize (W.drew.setRow (w.heap.size + 1 + 1) A4).setRow (w.heap.size + 1 + 1 + 1) A5 = W2 at *
    gi_wp2
    refine ⟨by simp, .inl ⟨_, _, rfl, run_takeDeferred hK2, ?_⟩⟩
    have t4 : (W2.putObj D (.deferred none)).heap[w.heap.size + 1 + 1]? = some (.cells A4 24 (0, 0)) := (World.putObj_heap_other (by omega)).trans p4
    have t5 : (W2.putObj D (.deferred none)).heap[w.heap.size + 1 + 1 + 1]? = some (.cells A5 24 (0, 0)) := (World.putObj_heap_other (by omega)).trans p5
    refine ⟨_, results_cells2 rfl _ _ _ ⟨w.heap.size + 1 + 1, 0, none⟩ ⟨w.heap.size + 1 + 1 + 1, 0, none⟩ rfl rfl _ _ (loadA I4.out t4) (loadA I5.out t5), ?_, HB.out.trans (belowK_b (w := w) (Nat.le_refl _) W2 D _ _ (by omega) hK2 rfl rfl)⟩
    rw [← hS.out, hA4.out, hA5.out]
  case stop =>
    rintro D c pre W _ _ h _
    exact h.elim
end Go.Proofs.YtkkgeljcgebegaaDoor
