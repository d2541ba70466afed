/- Several texts, one behind the other; each says by itself what it proves, and on what conditions. -/
import Derived.Test.YtdajmekliodmcaaGreatDoorK04
namespace Go.Proofs.YtdajmekliodmcaaGreatDoor.P8
set_option linter.unusedSimpArgs false
open Go.RowKit Go.Shelf
set_option linter.unusedVariables false
attribute [local go_sem] Oper.semAt_some
def PlI (w : World) (n : Nat) (f a : Nat → Nat) (pre : List (Fin 4)) (W : World) : Prop :=
  (Row W w.heap.size 36 .u64 4 (plSt n f a pre).1 ∧ Row W (w.heap.size + 1 + 1) 34 .u64 1 (fun _ => n) ∧ Row W (w.heap.size + 1 + 1 + 1) 36 .u64 4 (fun _ => 0) ∧
    Row W (w.heap.size + 1 + 1 + 1 + 1) 34 .u64 1 (fun _ => (plSt n f a pre).2)) ∧ Below w.heap.size w W
theorem row_own {B g : Nat} {t : TypeId} {kd : IntKind} {m : Nat} {f : Nat → Nat} {W W' : World} {row : Option Nat} (h : Row W g t kd m f) (hB : g < B) (hg : W.grownBy W' row) (hr : ∀ r, row = some r → B ≤ r ∧ ∃ o : Obj, W.heap[r]? = some o ∧ o.isCells = false) : Row W' g t kd m f :=
  (hg.block g h.lt (fun e => by have := (hr g e.symm).1; omega)).trans h
theorem below_own {B b : Nat} {w W W' : World} {row : Option Nat} (h : Below b w W) (hB : b ≤ B) (hb : b ≤ W.heap.size) (hg : W.grownBy W' row) (hr : ∀ r, row = some r → B ≤ r ∧ ∃ o : Obj, W.heap[r]? = some o ∧ o.isCells = false) : Below b w W' :=
  h.grown hg hb (fun k e => by have := (hr k e).1; omega)
theorem plI_own (w : World) (n : Nat) (f a : Nat → Nat) (B : Nat) (hB : w.heap.size + 5 ≤ B) : OwnFrom B (PlI w n f a) := by
  rintro s W W' row ⟨⟨h1, h2, h3, h4⟩, h5⟩ hg hr
  exact ⟨⟨row_own h1 (by omega) hg hr, row_own h2 (by omega) hg hr, row_own h3 (by omega) hg hr, row_own h4 (by omega) hg hr⟩, below_own h5 (by omega) h5.size hg hr⟩
set_option maxRecDepth 100000 in
set_option maxHeartbeats 1000000 in
theorem plus_any (a b n : Nat) (ha : a < 115792089237316195423570985008687907853269984665640564039457584007913129639936) (hb : b < 115792089237316195423570985008687907853269984665640564039457584007913129639936) (hn : n < 18446744073709551616) (w : World) :
    Calls Tryz.prog 158 #[.agg (num a), .agg (num b), .int .u64 n] w fun e w' => e = .returned (.tuple #[.agg (num ((a + b * n) % 115792089237316195423570985008687907853269984665640564039457584007913129639936)), .int .u64 (((a + b * n) / 115792089237316195423570985008687907853269984665640564039457584007913129639936 : Nat) : Int)]) ∧ Below w.heap.size w w' := by
  obtain ⟨hall1, hall2⟩ := plSt_all a b n ha hb hn
  rw [← hall1, ← hall2]
  have HOK := Lib.hid (plSt_ok n (dig b) (dig a) hn (dig_lt b) (dig_lt a))
  have HF := Lib.hid (dig_lt b)
  clear hall1 hall2 ha hb
  unfold num
  generalize dig a = A at *
  generalize dig b = F at *
  refine (callsIn_wide (n := 6)).1 ?_
  refine callsIn_of_wp_marks Tryz.func158 rfl trivial ?_ rfl
  simp only [Tryz.ntmps158, List.size_toArray, List.length_cons, List.length_nil, Nat.reduceAdd, Nat.reduceSub, Array.replicate_succ, Array.replicate_zero, List.push_toArray, List.append_toArray, List.nil_append, List.cons_append]
  obtain ⟨ra, hra⟩ : ∃ ra, Hid (ra = (rowOf .u64 4 A).toArray) := ⟨_, Lib.hid rfl⟩
  obtain ⟨rb, hrb⟩ : ∃ rb, Hid (rb = (rowOf .u64 4 F).toArray) := ⟨_, Lib.hid rfl⟩
  rw [← hra.out, ← hrb.out]
  gi_wp2_with (first | (refine wpListIn_run rfl rfl rfl _ (exec_alloc_agg _ 36 rfl _ (zero24 _)) ?_) | (refine wpListIn_run rfl rfl rfl _ (exec_load_of _ 36 (.tmp 4) rfl ⟨w.heap.size + 1, 0, none⟩ rfl (.agg rb) ?ld) ?_))
  case ld =>
    rw [hrb.out]
    exact load24 (by unfold Row; rw [← hrb.out]; simp only [heapA, Array.getElem?_push, Array.size_push]; (repeat (first | rw [if_pos (by first | trivial | omega)] | rw [if_neg (by omega)])))
  gi_wp2_with (refine ⟨trivial, ?_⟩; gi_at_call 117; refine (words_in _ _ _).mono ?_; rintro e w' ⟨rfl, rfl⟩)
  have hrows : ∀ W0, W0 = (((((w.alloc (.cells ra 36)).alloc (.cells rb 36)).alloc (.cells #[.int .u64 n] 34)).alloc (.cells (rowOf .u64 4 fun _ => 0).toArray 36)).alloc (.cells #[.int .u64 0] 34)).alloc (.cells rb 36) →
      PlI w n F A [] W0 ∧ Row W0 (w.heap.size + 1 + 1 + 1 + 1 + 1) 36 .u64 4 F ∧ W0.heap.size = w.heap.size + 6 := by
    rintro W0 rfl
    refine ⟨⟨⟨?_, ?_, ?_, ?_⟩, ?_⟩, ?_, by simp⟩
    · unfold Row; rw [hra.out]; simp only [heapA, Array.getElem?_push, Array.size_push]; (repeat (first | rw [if_pos (by first | trivial | omega)] | rw [if_neg (by omega)])); rfl
    · unfold Row; simp only [heapA, Array.getElem?_push, Array.size_push]; (repeat (first | rw [if_pos (by first | trivial | omega)] | rw [if_neg (by omega)])); rfl
    · unfold Row; simp only [heapA, Array.getElem?_push, Array.size_push]; (repeat (first | rw [if_pos (by first | trivial | omega)] | rw [if_neg (by omega)]))
    · unfold Row; simp only [heapA, Array.getElem?_push, Array.size_push]; (repeat (first | rw [if_pos (by first | trivial | omega)] | rw [if_neg (by omega)])); rfl
    · repeat (refine bel_alloc ?_ (by simp <;> omega) _)
      exact Below.refl _ _
    · unfold Row; rw [hrb.out]; simp only [heapA, Array.getElem?_push, Array.size_push]; (repeat (first | rw [if_pos (by first | trivial | omega)] | rw [if_neg (by omega)]))
  have hrows2 := hrows _ rfl
  clear hrows
  generalize (((((w.alloc (.cells ra 36)).alloc (.cells rb 36)).alloc (.cells #[.int .u64 n] 34)).alloc (.cells (rowOf .u64 4 fun _ => 0).toArray 36)).alloc (.cells #[.int .u64 0] 34)).alloc (.cells rb 36) = W0 at *
  obtain ⟨hI0, hbox, hsz0⟩ := hrows2
  refine wpIn_rangeFunc_ownF rfl (by omega) (gf := 157) (lb := #[.pointer (some ⟨w.heap.size + 1 + 1 + 1 + 1 + 1, 0, none⟩)]) rfl trivial (enters_of Tryz.func157 (by kernel_rfl) rfl) (words_stops 5 (w.heap.size + 1 + 1 + 1 + 1 + 1) F W0 hbox (by omega))
    (fun _ _ => trivial) (fun _ _ _ _ _ _ _ _ => trivial) (Below.refl _ _) (fun _ => rfl)
    (PlI w n F A) (fun _ _ _ => False) (plI_own w n F A _ (by omega)) (fun _ _ _ _ _ hs _ _ => hs) hI0
    (fun x => { tmps := #[.agg ra, .agg rb, .int .u64 n, .pointer (some ⟨w.heap.size, 0, none⟩), .pointer (some ⟨w.heap.size + 1, 0, none⟩), .pointer (some ⟨w.heap.size + 1 + 1, 0, none⟩), .pointer (some ⟨w.heap.size + 1 + 1 + 1, 0, none⟩), .int .u64 0, .pointer (some ⟨w.heap.size + 1 + 1 + 1 + 1, 0, none⟩), .int .i64 (x.1 : Int), .int .u64 (F x.1 : Int), undef, undef, undef, .agg rb, .func (.func 157) #[] #[.pointer (some ⟨w.heap.size + 1 + 1 + 1 + 1 + 1, 0, none⟩)], .int .i64 (x.1 : Int), .int .u64 (F x.1 : Int), undef, undef, undef, undef, undef, undef, undef, undef, undef, undef, undef, undef, undef, undef, undef, undef, undef, undef, undef, undef, undef, undef, undef, undef, undef, undef, undef, undef, undef, undef], defers := [] }) ?assign ?body ?done ?stop
  case assign =>
    intro l x W K hK
    unfold encW
    gi_wp2
    exact hK
  case body =>
    rintro l pre x W ⟨⟨h3, h5, h6, h8⟩, hbl⟩ _
    obtain ⟨hok1, hok2⟩ := HOK.out pre
    have hy := HF.out x.1
    have hx4 := x.2
    have hax := hok1 x.1
    have c3 := h3.cell x.1 hx4
    have f3 := h3.free x.1
    have c5 := h5.cell 0 (by decide)
    have c8 := h8.cell 0 (by decide)
    have f8 := h8.free 0
    obtain ⟨w1, w2⟩ := plS_words (F x.1) n (plSt n F A pre).2 ((plSt n F A pre).1 x.1) hy hn hok2 hax
    have hnew := plSt_snoc n F A pre x
    have hm := mul64_any (F x.1) n hy hn
    have A1 := fun W => add64_run (mulLo (F x.1) n) (plSt n F A pre).2 0 (by omega) W
    have A2 := fun W => add64_run ((mulLo (F x.1) n + (plSt n F A pre).2) % 18446744073709551616) ((plSt n F A pre).1 x.1) 0 (by omega) W
    rw [Nat.add_zero] at A1 A2
    have W1 := wrapM (mulHi (F x.1) n + (mulLo (F x.1) n + (plSt n F A pre).2) / 18446744073709551616)
    have W2 := wrapM ((mulHi (F x.1) n + (mulLo (F x.1) n + (plSt n F A pre).2) / 18446744073709551616) % 18446744073709551616 + ((mulLo (F x.1) n + (plSt n F A pre).2) % 18446744073709551616 + (plSt n F A pre).1 x.1) / 18446744073709551616)
    rw [show F x.1 * n % 18446744073709551616 = mulLo (F x.1) n from rfl] at w1 w2
    rw [show F x.1 * n / 18446744073709551616 = mulHi (F x.1) n from rfl] at w2
    rw [w1] at A2
    rw [w2] at W2
    have HI3 : Hid (∀ W2 : World, Row W2 w.heap.size 36 .u64 4 (plSt n F A pre).1 → Row (W2.setCell ⟨w.heap.size, x.1, none⟩ (.int .u64 (((F x.1 * n + (plSt n F A pre).2 + (plSt n F A pre).1 x.1) % 18446744073709551616 : Nat) : Int))) w.heap.size 36 .u64 4 (plSt n F A (pre ++ [x])).1) := by
      intro W2 h
      rw [hnew]
      exact h.set x.1 _
    have HI8 : Hid (∀ W2 : World, Row W2 (w.heap.size + 1 + 1 + 1 + 1) 34 .u64 1 (fun _ => (plSt n F A pre).2) → Row (W2.setCell ⟨w.heap.size + 1 + 1 + 1 + 1, 0, none⟩ (.int .u64 (((F x.1 * n + (plSt n F A pre).2 + (plSt n F A pre).1 x.1) / 18446744073709551616 : Nat) : Int))) (w.heap.size + 1 + 1 + 1 + 1) 34 .u64 1 (fun _ => (plSt n F A (pre ++ [x])).2)) := by
      intro W2 h
      rw [hnew]
      exact (h.set 0 _).ext (fun j hj => by unfold upd; rw [if_pos (by omega)]; rfl)
    have H3 := Lib.hid h3
    have H5 := Lib.hid h5
    have H6 := Lib.hid h6
    have H8 := Lib.hid h8
    have HB := Lib.hid hbl
    clear h3 h5 h6 h8 hbl hok1 hok2 hy hax w1 w2 hnew hI0 hbox HOK HF
    generalize (F x.1 * n + (plSt n F A pre).2 + (plSt n F A pre).1 x.1) % 18446744073709551616 = s2 at *
    generalize (F x.1 * n + (plSt n F A pre).2 + (plSt n F A pre).1 x.1) / 18446744073709551616 = v2 at *
    generalize ((mulLo (F x.1) n + (plSt n F A pre).2) % 18446744073709551616 + (plSt n F A pre).1 x.1) / 18446744073709551616 = cc at *
    generalize (mulHi (F x.1) n + (mulLo (F x.1) n + (plSt n F A pre).2) / 18446744073709551616) % 18446744073709551616 = h1 at *
    generalize (mulLo (F x.1) n + (plSt n F A pre).2) % 18446744073709551616 = s1 at *
    generalize (mulLo (F x.1) n + (plSt n F A pre).2) / 18446744073709551616 = c1 at *
    generalize mulHi (F x.1) n = hi at *
    generalize mulLo (F x.1) n = lo at *
    generalize (plSt n F A pre).1 x.1 = ax at *
    have HM := Lib.hid hm
    clear hm
    have A1' : ∀ W, (callFunc 124 #[.int .u64 lo, .int .u64 (plSt n F A pre).2, .int .u64 0]).run Tryz.prog W = .ok (.value (.tuple #[.int .u64 (s1 : Int), .int .u64 (c1 : Int)])) W := A1
    have A2' : ∀ W, (callFunc 124 #[.int .u64 s1, .int .u64 ax, .int .u64 0]).run Tryz.prog W = .ok (.value (.tuple #[.int .u64 (s2 : Int), .int .u64 (cc : Int)])) W := A2
    clear A1 A2
    generalize (plSt n F A pre).2 = v at *
    generalize F x.1 = y at *
    have hxi : (x.1 : Int) < 4 := by omega
    rw [Int.natCast_add] at W1 W2
    gi_wp2_with (first | (refine ⟨trivial, ?_⟩; gi_at_call 174; refine (CallsIn.inRound l (callsIn_wide.2 (HM.out _))).mono ?_; rintro e w' ⟨rfl, rfl⟩) | (refine ⟨(show Fence.wide.fn 124 from trivial), ?_⟩))
    exact ⟨(KeepsOthers.setCell _ _ _).trans (KeepsOthers.setCell _ _ _), trivial, ⟨(HI3.out W H3.out).other _ _ (by show w.heap.size ≠ w.heap.size + 1 + 1 + 1 + 1; omega),
      (H5.out.other _ _ (by show w.heap.size + 1 + 1 ≠ w.heap.size; omega)).other _ _ (by show w.heap.size + 1 + 1 ≠ w.heap.size + 1 + 1 + 1 + 1; omega),
      (H6.out.other _ _ (by show w.heap.size + 1 + 1 + 1 ≠ w.heap.size; omega)).other _ _ (by show w.heap.size + 1 + 1 + 1 ≠ w.heap.size + 1 + 1 + 1 + 1; omega),
      HI8.out _ (H8.out.other _ _ (by show w.heap.size + 1 + 1 + 1 + 1 ≠ w.heap.size; omega))⟩,
      (HB.out.setCell (p := ⟨w.heap.size, x.1, none⟩) (Nat.le_refl _) _).setCell (p := ⟨w.heap.size + 1 + 1 + 1 + 1, 0, none⟩) (by show w.heap.size ≤ w.heap.size + 1 + 1 + 1 + 1; omega) _⟩
  case done =>
    rintro D xs W hD rfl ⟨⟨h3, -, h6, h8⟩, hbl⟩ hK
    have hl3 := load24 h3
    have c8 := h8.cell 0 (by decide)
    obtain ⟨S, hS⟩ : ∃ S, Hid (S = plSt n F A (List.finRange 4)) := ⟨_, Lib.hid rfl⟩
    rw [← hS.out] at h3 h8 hl3 c8
    obtain ⟨cs, hcs⟩ : ∃ cs, Hid (cs = rowOf .u64 4 S.1) := ⟨_, Lib.hid rfl⟩
    have HLEN : Hid (cs.length = 4) := by unfold Hid; rw [hcs.out, rowOf_length]
    have HL : ∀ W2 : World, W2.heap[w.heap.size]? = W.heap[w.heap.size]? → (loadVar 36 ⟨w.heap.size, 0, none⟩).run Tryz.prog W2 = .ok (.agg cs.toArray) W2 := by
      intro W2 he
      rw [hcs.out]
      exact load24 (he.trans h3)
    clear hl3
    gi_wp2
    refine wpIn_nrm ?_
    refine wpIn_region_any (by kernel_rfl) ?_
    change wpAnyIn _ _ _ _ _ _ _ _ _ (World.drew _)
    refine anyIn_of_G (T := fun i => i == 0 || i == 1) (S := fun i w2 => (i = 0 → (loadVar 36 ⟨w.heap.size, 0, none⟩).run Tryz.prog w2 = .ok (.agg cs.toArray) w2) ∧ (i = 1 → w2.cell? ⟨w.heap.size + 1 + 1 + 1 + 1, 0, none⟩ = some (.int .u64 (S.2 : Int)))) _ _ _ _ ?_
    refine AnyG.take 0 (some 46) (.load 36 (.tmp 3)) (.agg cs.toArray) rfl rfl (fun _ e => by cases e) (by kernel_rfl) (by kernel_rfl) (by kernel_rfl) (by kernel_rfl) rfl (fun _ _ _ h => h) (fun o ho w2 hw => exec_load_of _ 36 (.tmp 3) ho ⟨w.heap.size, 0, none⟩ rfl _ (hw.1 rfl)) ⟨fun _ => HL W.drew rfl, fun e => by cases e⟩ ?_
    simp only [Act.put, sT, sS, sZ]
    refine AnyG.take 1 (some 47) (.load 34 (.tmp 8)) (.int .u64 (S.2 : Int)) rfl rfl (fun _ e => by cases e) (by kernel_rfl) (by kernel_rfl) (by kernel_rfl) (by kernel_rfl) rfl (fun _ _ _ h => h) (fun o ho w2 hw => exec_load_one w2 34 (.tmp 8) ho ⟨w.heap.size + 1 + 1 + 1 + 1, 0, none⟩ rfl _ (hw.2 rfl) _ Tryz.underlying34 rfl) ⟨fun e => (by cases e), fun _ => c8⟩ ?_
    simp only [Act.put, sT, sS, sZ]
    have hother : ∀ k, k ≠ w.heap.size + 1 + 1 + 1 → (W.drew.setRow (w.heap.size + 1 + 1 + 1) cs.toArray).heap[k]? = W.heap[k]? := fun k hk => setRow_other _ _ _ _ (by omega)
    refine AnyG.ready (rs := [2]) (by kernel_rfl) (by simp) (ReadyG.skip (w2 := W.drew.setRow (w.heap.size + 1 + 1 + 1) cs.toArray) (.store 36 (.tmp 6) (.tmp 46)) rfl rfl (fun _ e => by cases e) (fun o ho => ?st) rfl ?hk ?_ ReadyG.nil)
    case st =>
      exact exec_store24 W.drew (.tmp 6) (.tmp 46) ho (w.heap.size + 1 + 1 + 1) rfl cs.toArray (by rw [hcs.out]; exact ⟨_, rfl⟩) rfl _ 36 h6 (rowOf_size _ _ _)
    case hk =>
      intro x _ _ _
      refine ⟨fun _ => ?_, fun _ => ?_⟩
      · exact HL _ (hother _ (by omega))
      · exact (World.cell?_of_block (w := W) (a := ⟨w.heap.size + 1 + 1 + 1 + 1, 0, none⟩) (hother _ (by show w.heap.size + 1 + 1 + 1 + 1 ≠ w.heap.size + 1 + 1 + 1; omega))).trans c8
    refine AnyG.ready (rs := [3]) (by kernel_rfl) (by simp) (ReadyG.op (some 7) (.assign (.tmp 47)) rfl rfl (fun _ e => by cases e) (.int .u64 (S.2 : Int)) (fun o ho => exec_assign (.tmp 47) ho _ rfl _) rfl ?hk2 ?_ ReadyG.nil)
    case hk2 =>
      intro x _ _ _
      refine ⟨fun _ => ?_, fun _ => ?_⟩
      · exact HL _ (hother _ (by omega))
      · exact (World.cell?_of_block (w := W) (a := ⟨w.heap.size + 1 + 1 + 1 + 1, 0, none⟩) (hother _ (by show w.heap.size + 1 + 1 + 1 + 1 ≠ w.heap.size + 1 + 1 + 1; omega))).trans c8
    simp only [Act.put, sT, sS, sZ]
    refine AnyG.done (by kernel_rfl) ?_ _
    refine nrm_intro ?_
    have hrow6 : (W.drew.setRow (w.heap.size + 1 + 1 + 1) cs.toArray).heap[w.heap.size + 1 + 1 + 1]? = some (.cells cs.toArray 36 (0, 0)) := setRow_heap _ _ _ _ _ _ h6
    have hK2 : (W.drew.setRow (w.heap.size + 1 + 1 + 1) cs.toArray).heap[D]? = some (.deferred (some [])) := (hother D (by omega)).trans hK
    have HB : Hid (Below w.heap.size w (W.drew.setRow (w.heap.size + 1 + 1 + 1) cs.toArray)) := Lib.hid (hbl.trans ⟨rfl, rfl, rfl, by simp, fun k hk => hother k (by omega)⟩)
    generalize W.drew.setRow (w.heap.size + 1 + 1 + 1) cs.toArray = W2 at *
    gi_wp2
    refine ⟨by simp, .inl ⟨_, _, rfl, run_takeDeferred hK2, ?_⟩⟩
    have hrow7 : (W2.putObj D (.deferred none)).heap[w.heap.size + 1 + 1 + 1]? = some (.cells cs.toArray 36 (0, 0)) := (World.putObj_heap_other (by omega)).trans hrow6
    refine ⟨_, results_two rfl _ _ _ ⟨w.heap.size + 1 + 1 + 1, 0, none⟩ rfl _ (loadA (by rw [hcs.out]; exact ⟨_, rfl⟩) hrow7), ?_, HB.out.trans (belowK_b (w := w) (Nat.le_refl _) W2 D _ _ (by omega) hK2 rfl rfl)⟩
    rw [← hS.out, hcs.out]
    rfl
  case stop =>
    rintro D c pre W _ _ h _
    exact h.elim
end Go.Proofs.YtdajmekliodmcaaGreatDoor.P8
namespace Go.Proofs.YtdajmekliodmcaaGreatDoor.P8
set_option linter.unusedSimpArgs false
open Go.RowKit Go.Shelf
set_option linter.unusedVariables false
attribute [local go_sem] Oper.semAt_some
def MiI (w : World) (f a : Nat → Nat) (pre : List (Fin 4)) (W : World) : Prop :=
  (Row W w.heap.size 36 .u64 4 (miSt f a pre).1 ∧ Row W (w.heap.size + 1 + 1) 36 .u64 4 (fun _ => 0) ∧ Row W (w.heap.size + 1 + 1 + 1) 34 .u64 1 (fun _ => (miSt f a pre).2)) ∧ Below w.heap.size w W
theorem miI_own (w : World) (f a : Nat → Nat) (B : Nat) (hB : w.heap.size + 4 ≤ B) : OwnFrom B (MiI w f a) := by
  rintro s W W' row ⟨⟨h1, h3, h4⟩, h5⟩ hg hr
  exact ⟨⟨row_own h1 (by omega) hg hr, row_own h3 (by omega) hg hr, row_own h4 (by omega) hg hr⟩, below_own h5 (by omega) h5.size hg hr⟩
theorem exec_indexAddr24 {ρ : Operand → Value} {o : Oper} (x y : Operand) (ho : o.op = .indexAddr 36 x y) (b i : Nat) (hx : ρ x = .pointer (some ⟨b, 0, none⟩)) (hy : ρ y = .int .i64 (i : Int)) (hi : i < 4) (w : World) :
    (execOp ρ o).run Tryz.prog w = .ok (.value (.pointer (some ⟨b, i, none⟩))) w := by
  unfold execOp
  rw [ho]
  simp only [hx, hy]
  have h1 : (i : Int) < 4 := by omega
  go_simp
theorem exec_extract {P : Program} {ρ : Operand → Value} {o : Oper} (x : Operand) (j : Nat) (ho : o.op = .extract x j) (vs : Array Value) (v : Value) (hx : ρ x = .tuple vs) (hv : vs[j]? = some v) (w : World) :
    (execOp ρ o).run P w = .ok (.value v) w := by
  unfold execOp
  simp [ho, hx, hv, Instr.extract]
set_option maxRecDepth 100000 in
set_option maxHeartbeats 1000000 in
theorem minus_any (a b : Nat) (ha : a < 115792089237316195423570985008687907853269984665640564039457584007913129639936) (hb : b < 115792089237316195423570985008687907853269984665640564039457584007913129639936) (w : World) :
    Calls Tryz.prog 134 #[.agg (num a), .agg (num b)] w fun e w' => e = .returned (.tuple #[.agg (num ((a + 115792089237316195423570985008687907853269984665640564039457584007913129639936 - b) % 115792089237316195423570985008687907853269984665640564039457584007913129639936)), .int .u64 ((if a < b then 1 else 0 : Nat) : Int)]) ∧ Below w.heap.size w w' := by
  obtain ⟨hall1, hall2⟩ := miSt_all a b ha hb
  rw [← hall1, ← hall2]
  have HOK := Lib.hid (miSt_ok (dig b) (dig a) (dig_lt a))
  have HF := Lib.hid (dig_lt b)
  clear hall1 hall2 ha hb
  unfold num
  generalize dig a = A at *
  generalize dig b = F at *
  refine (callsIn_wide (n := 6)).1 ?_
  refine callsIn_of_wp_marks Tryz.func134 rfl trivial ?_ rfl
  simp only [Tryz.ntmps134, List.size_toArray, List.length_cons, List.length_nil, Nat.reduceAdd, Nat.reduceSub, Array.replicate_succ, Array.replicate_zero, List.push_toArray, List.append_toArray, List.nil_append, List.cons_append]
  obtain ⟨ra, hra⟩ : ∃ ra, Hid (ra = (rowOf .u64 4 A).toArray) := ⟨_, Lib.hid rfl⟩
  obtain ⟨rb, hrb⟩ : ∃ rb, Hid (rb = (rowOf .u64 4 F).toArray) := ⟨_, Lib.hid rfl⟩
  rw [← hra.out, ← hrb.out]
  gi_wp2_with (first | (refine wpListIn_run rfl rfl rfl _ (exec_alloc_agg _ 36 rfl _ (zero24 _)) ?_) | (refine wpListIn_run rfl rfl rfl _ (exec_load_of _ 36 (.tmp 3) rfl ⟨w.heap.size + 1, 0, none⟩ rfl (.agg rb) ?ld) ?_))
  case ld =>
    rw [hrb.out]
    exact load24 (by unfold Row; rw [← hrb.out]; simp only [heapA, Array.getElem?_push, Array.size_push]; (repeat (first | rw [if_pos (by first | trivial | omega)] | rw [if_neg (by omega)])))
  gi_wp2_with (refine ⟨trivial, ?_⟩; gi_at_call 117; refine (words_in _ _ _).mono ?_; rintro e w' ⟨rfl, rfl⟩)
  have hrows : ∀ W0, W0 = ((((w.alloc (.cells ra 36)).alloc (.cells rb 36)).alloc (.cells (rowOf .u64 4 fun _ => 0).toArray 36)).alloc (.cells #[.int .u64 0] 34)).alloc (.cells rb 36) →
      MiI w F A [] W0 ∧ Row W0 (w.heap.size + 1 + 1 + 1 + 1) 36 .u64 4 F ∧ W0.heap.size = w.heap.size + 5 := by
    rintro W0 rfl
    refine ⟨⟨⟨?_, ?_, ?_⟩, ?_⟩, ?_, by simp⟩
    · unfold Row; rw [hra.out]; simp only [heapA, Array.getElem?_push, Array.size_push]; (repeat (first | rw [if_pos (by first | trivial | omega)] | rw [if_neg (by omega)])); rfl
    · unfold Row; simp only [heapA, Array.getElem?_push, Array.size_push]; (repeat (first | rw [if_pos (by first | trivial | omega)] | rw [if_neg (by omega)]))
    · unfold Row; simp only [heapA, Array.getElem?_push, Array.size_push]; (repeat (first | rw [if_pos (by first | trivial | omega)] | rw [if_neg (by omega)])); rfl
    · repeat (refine bel_alloc ?_ (by simp <;> omega) _)
      exact Below.refl _ _
    · unfold Row; rw [hrb.out]; simp only [heapA, Array.getElem?_push, Array.size_push]; (repeat (first | rw [if_pos (by first | trivial | omega)] | rw [if_neg (by omega)]))
  have hrows2 := hrows _ rfl
  clear hrows
  generalize ((((w.alloc (.cells ra 36)).alloc (.cells rb 36)).alloc (.cells (rowOf .u64 4 fun _ => 0).toArray 36)).alloc (.cells #[.int .u64 0] 34)).alloc (.cells rb 36) = W0 at *
  obtain ⟨hI0, hbox, hsz0⟩ := hrows2
  refine wpIn_rangeFunc_ownF rfl (by omega) (gf := 157) (lb := #[.pointer (some ⟨w.heap.size + 1 + 1 + 1 + 1, 0, none⟩)]) rfl trivial (enters_of Tryz.func157 (by kernel_rfl) rfl) (words_stops 5 (w.heap.size + 1 + 1 + 1 + 1) F W0 hbox (by omega))
    (fun _ _ => trivial) (fun _ _ _ _ _ _ _ _ => trivial) (Below.refl _ _) (fun _ => rfl)
    (MiI w F A) (fun _ _ _ => False) (miI_own w F A _ (by omega)) (fun _ _ _ _ _ hs _ _ => hs) hI0
    (fun x => { tmps := #[.agg ra, .agg rb, .pointer (some ⟨w.heap.size, 0, none⟩), .pointer (some ⟨w.heap.size + 1, 0, none⟩), .pointer (some ⟨w.heap.size + 1 + 1, 0, none⟩), .int .u64 0, .pointer (some ⟨w.heap.size + 1 + 1 + 1, 0, none⟩), .int .i64 (x.1 : Int), .int .u64 (F x.1 : Int), .agg rb, .func (.func 157) #[] #[.pointer (some ⟨w.heap.size + 1 + 1 + 1 + 1, 0, none⟩)], .int .i64 (x.1 : Int), .int .u64 (F x.1 : Int), undef, undef, undef, undef, undef, undef, undef, undef, undef, undef, undef, undef, undef], defers := [] }) ?assign ?body ?done ?stop
  case assign =>
    intro l x W K hK
    unfold encW
    gi_wp2
    exact hK
  case body =>
    rintro l pre x W ⟨⟨h3, h6, h8⟩, hbl⟩ _
    obtain ⟨hok1, hok2⟩ := HOK.out pre
    have hx4 := x.2
    have c3 := h3.cell x.1 hx4
    have f3 := h3.free x.1
    have c8 := h8.cell 0 (by decide)
    have f8 := h8.free 0
    have hnew := miSt_snoc F A pre x
    have A1 := fun W => sub64_run ((miSt F A pre).1 x.1) (F x.1) (miSt F A pre).2 hok2 W
    have HI3 : Hid (∀ W2 : World, Row W2 w.heap.size 36 .u64 4 (miSt F A pre).1 → Row (W2.setCell ⟨w.heap.size, x.1, none⟩ (.int .u64 ((((miSt F A pre).1 x.1 + 18446744073709551616 - F x.1 - (miSt F A pre).2) % 18446744073709551616 : Nat) : Int))) w.heap.size 36 .u64 4 (miSt F A (pre ++ [x])).1) := by
      intro W2 h
      rw [hnew]
      exact h.set x.1 _
    have HI8 : Hid (∀ W2 : World, Row W2 (w.heap.size + 1 + 1 + 1) 34 .u64 1 (fun _ => (miSt F A pre).2) → Row (W2.setCell ⟨w.heap.size + 1 + 1 + 1, 0, none⟩ (.int .u64 ((if (miSt F A pre).1 x.1 < F x.1 + (miSt F A pre).2 then 1 else 0 : Nat) : Int))) (w.heap.size + 1 + 1 + 1) 34 .u64 1 (fun _ => (miSt F A (pre ++ [x])).2)) := by
      intro W2 h
      rw [hnew]
      exact (h.set 0 _).ext (fun j hj => by unfold upd; rw [if_pos (by omega)]; rfl)
    have H3 := Lib.hid h3
    have H6 := Lib.hid h6
    have H8 := Lib.hid h8
    have HB := Lib.hid hbl
    clear h3 h6 h8 hbl hok1 hok2 hnew hI0 hbox HOK HF
    obtain ⟨d, hd⟩ : ∃ d : Nat, d = ((miSt F A pre).1 x.1 + 18446744073709551616 - F x.1 - (miSt F A pre).2) % 18446744073709551616 := ⟨_, rfl⟩
    obtain ⟨v2, hv2⟩ : ∃ v2 : Nat, v2 = if (miSt F A pre).1 x.1 < F x.1 + (miSt F A pre).2 then 1 else 0 := ⟨_, rfl⟩
    rw [← hd] at HI3 A1
    rw [← hv2] at HI8 A1
    clear hd hv2
    generalize (miSt F A pre).1 x.1 = ax at *
    generalize (miSt F A pre).2 = v at *
    generalize F x.1 = y at *
    gi_wp2
    refine wpIn_region_any (by kernel_rfl) ?_
    change wpAnyIn _ _ _ _ _ _ _ _ _ (World.drew _)
    refine anyIn_unround l rfl (noDefer_spec (by kernel_rfl)) _ _ _ _ ?_
    refine anyIn_of_G (T := fun i => i < 6 || (7 ≤ i && i ≤ 10)) (S := fun i w2 => (i = 3 → w2.cell? ⟨w.heap.size, x.1, none⟩ = some (.int .u64 (ax : Int))) ∧ (i = 5 → w2.cell? ⟨w.heap.size + 1 + 1 + 1, 0, none⟩ = some (.int .u64 (v : Int)))) _ _ _ _ ?_
    refine AnyG.take 0 (some 14) (.move (.tmp 7)) (.int .i64 (x.1 : Int)) rfl rfl (fun _ e => by cases e) (by kernel_rfl) (by kernel_rfl) (by kernel_rfl) (by kernel_rfl) rfl (fun _ _ _ h => h) (fun o ho w2 hw => exec_move (.tmp 7) ho _ rfl w2) ⟨fun e => (by cases e), fun e => (by cases e)⟩ ?_
    simp only [Act.put, sT, sS, sZ]
    refine AnyG.take 1 (some 15) (.move (.tmp 7)) (.int .i64 (x.1 : Int)) rfl rfl (fun _ e => by cases e) (by kernel_rfl) (by kernel_rfl) (by kernel_rfl) (by kernel_rfl) rfl (fun _ _ _ h => h) (fun o ho w2 hw => exec_move (.tmp 7) ho _ rfl w2) ⟨fun e => (by cases e), fun e => (by cases e)⟩ ?_
    simp only [Act.put, sT, sS, sZ]
    refine AnyG.take 2 (some 16) (.indexAddr 36 (.tmp 2) (.tmp 15)) (.pointer (some ⟨w.heap.size, x.1, none⟩)) rfl rfl (fun _ e => by cases e) (by kernel_rfl) (by kernel_rfl) (by kernel_rfl) (by kernel_rfl) rfl (fun _ _ _ h => h) (fun o ho w2 hw => exec_indexAddr24 (.tmp 2) (.tmp 15) ho (w.heap.size) x.1 rfl rfl hx4 w2) ⟨fun e => (by cases e), fun e => (by cases e)⟩ ?_
    simp only [Act.put, sT, sS, sZ]
    refine AnyG.take 3 (some 17) (.load 34 (.tmp 16)) (.int .u64 (ax : Int)) rfl rfl (fun _ e => by cases e) (by kernel_rfl) (by kernel_rfl) (by kernel_rfl) (by kernel_rfl) rfl (fun _ _ _ h => h) (fun o ho w2 hw => exec_load_one w2 34 (.tmp 16) ho ⟨w.heap.size, x.1, none⟩ rfl _ (hw.1 rfl) _ Tryz.underlying34 rfl) ⟨fun _ => c3, fun e => (by cases e)⟩ ?_
    simp only [Act.put, sT, sS, sZ]
    refine AnyG.take 4 (some 18) (.move (.tmp 8)) (.int .u64 (y : Int)) rfl rfl (fun _ e => by cases e) (by kernel_rfl) (by kernel_rfl) (by kernel_rfl) (by kernel_rfl) rfl (fun _ _ _ h => h) (fun o ho w2 hw => exec_move (.tmp 8) ho _ rfl w2) ⟨fun e => (by cases e), fun e => (by cases e)⟩ ?_
    simp only [Act.put, sT, sS, sZ]
    refine AnyG.take 5 (some 19) (.load 34 (.tmp 6)) (.int .u64 (v : Int)) rfl rfl (fun _ e => by cases e) (by kernel_rfl) (by kernel_rfl) (by kernel_rfl) (by kernel_rfl) rfl (fun _ _ _ h => h) (fun o ho w2 hw => exec_load_one w2 34 (.tmp 6) ho ⟨w.heap.size + 1 + 1 + 1, 0, none⟩ rfl _ (hw.2 rfl) _ Tryz.underlying34 rfl) ⟨fun e => (by cases e), fun _ => c8⟩ ?_
    simp only [Act.put, sT, sS, sZ]
    refine AnyG.ready (rs := [6]) (by kernel_rfl) (by simp) (ReadyG.outer (some 20) 125 #[.tmp 17, .tmp 18, .tmp 19] #[34, 34, 34] rfl rfl (fun _ => trivial) #[.int .u64 (ax : Int), .int .u64 (y : Int), .int .u64 (v : Int)] (by simp [Act.eval]) _ (A1 _) rfl ?hk6 ?_ ReadyG.nil)
    case hk6 =>
      intro z _ _ _
      exact ⟨fun _ => c3, fun _ => c8⟩
    simp only [Act.put, sT, sS, sZ]
    refine AnyG.take 7 (some 13) (.move (.tmp 20)) (.tuple #[.int .u64 (d : Int), .int .u64 (v2 : Int)]) rfl rfl (fun _ e => by cases e) (by kernel_rfl) (by kernel_rfl) (by kernel_rfl) (by kernel_rfl) rfl (fun _ _ _ h => h) (fun o ho w2 hw => exec_move (.tmp 20) ho _ rfl w2) ⟨fun e => (by cases e), fun e => (by cases e)⟩ ?_
    simp only [Act.put, sT, sS, sZ]
    refine AnyG.take 8 (some 21) (.extract (.tmp 13) 0) (.int .u64 (d : Int)) rfl rfl (fun _ e => by cases e) (by kernel_rfl) (by kernel_rfl) (by kernel_rfl) (by kernel_rfl) rfl (fun _ _ _ h => h) (fun o ho w2 hw => exec_extract (.tmp 13) 0 ho _ _ rfl rfl w2) ⟨fun e => (by cases e), fun e => (by cases e)⟩ ?_
    simp only [Act.put, sT, sS, sZ]
    refine AnyG.take 9 (some 22) (.extract (.tmp 13) 1) (.int .u64 (v2 : Int)) rfl rfl (fun _ e => by cases e) (by kernel_rfl) (by kernel_rfl) (by kernel_rfl) (by kernel_rfl) rfl (fun _ _ _ h => h) (fun o ho w2 hw => exec_extract (.tmp 13) 1 ho _ _ rfl rfl w2) ⟨fun e => (by cases e), fun e => (by cases e)⟩ ?_
    simp only [Act.put, sT, sS, sZ]
    refine AnyG.take 10 (some 23) (.indexAddr 36 (.tmp 2) (.tmp 14)) (.pointer (some ⟨w.heap.size, x.1, none⟩)) rfl rfl (fun _ e => by cases e) (by kernel_rfl) (by kernel_rfl) (by kernel_rfl) (by kernel_rfl) rfl (fun _ _ _ h => h) (fun o ho w2 hw => exec_indexAddr24 (.tmp 2) (.tmp 14) ho (w.heap.size) x.1 rfl rfl hx4 w2) ⟨fun e => (by cases e), fun e => (by cases e)⟩ ?_
    simp only [Act.put, sT, sS, sZ]
    have hne1 : (w.heap.size) ≠ w.heap.size + 1 + 1 + 1 := by omega
    have c8' : (W.drew.setCell ⟨w.heap.size, x.1, none⟩ (.int .u64 (d : Int))).cell? ⟨w.heap.size + 1 + 1 + 1, 0, none⟩ = some (.int .u64 (v : Int)) := (World.cell?_setCell_other (a := ⟨w.heap.size, x.1, none⟩) (h := by intro e; injection e with e1 _ _; exact hne1 e1) (w := W.drew) (v := _)).trans c8
    have f8' : (W.drew.setCell ⟨w.heap.size, x.1, none⟩ (.int .u64 (d : Int))).frozen? ⟨w.heap.size + 1 + 1 + 1, 0, none⟩ = false := by rw [World.frozen?_setCell]; exact f8
    refine AnyG.ready (rs := [11]) (by kernel_rfl) (by simp) (ReadyG.skip (w2 := W.drew.setCell ⟨w.heap.size, x.1, none⟩ (.int .u64 (d : Int))) (.store 34 (.tmp 23) (.tmp 21)) rfl rfl (fun _ e => by cases e) (fun o ho => exec_store_one _ 34 (.tmp 23) (.tmp 21) ho ⟨w.heap.size, x.1, none⟩ rfl _ rfl rfl rfl _ c3 f3 (by kernel_rfl)) rfl ?hk11 ?_ ReadyG.nil)
    case hk11 => intro z _ _ hw; exact ⟨fun e => (by subst e; exact no_wait hw (by kernel_rfl)), fun e => (by subst e; exact no_wait hw (by kernel_rfl))⟩
    refine AnyG.ready (rs := [12]) (by kernel_rfl) (by simp) (ReadyG.skip (w2 := (W.drew.setCell ⟨w.heap.size, x.1, none⟩ (.int .u64 (d : Int))).setCell ⟨w.heap.size + 1 + 1 + 1, 0, none⟩ (.int .u64 (v2 : Int))) (.store 34 (.tmp 6) (.tmp 22)) rfl rfl (fun _ e => by cases e) (fun o ho => exec_store_one _ 34 (.tmp 6) (.tmp 22) ho ⟨w.heap.size + 1 + 1 + 1, 0, none⟩ rfl _ rfl rfl rfl _ c8' f8' (by kernel_rfl)) rfl ?hk12 ?_ ReadyG.nil)
    case hk12 => intro z _ _ hw; exact ⟨fun e => (by subst e; exact no_wait hw (by kernel_rfl)), fun e => (by subst e; exact no_wait hw (by kernel_rfl))⟩
    refine AnyG.done (by kernel_rfl) ?_ _
    exact ⟨((KeepsOthers.drew W).trans (KeepsOthers.setCell _ _ _)).trans (KeepsOthers.setCell _ _ _), trivial, ⟨(HI3.out W.drew H3.out).other _ _ (by show w.heap.size ≠ w.heap.size + 1 + 1 + 1; omega),
      (Row.other (w := W.drew) H6.out ⟨w.heap.size, x.1, none⟩ _ (by show w.heap.size + 1 + 1 ≠ w.heap.size; omega)).other _ _ (by show w.heap.size + 1 + 1 ≠ w.heap.size + 1 + 1 + 1; omega),
      HI8.out _ (Row.other (w := W.drew) H8.out ⟨w.heap.size, x.1, none⟩ _ (by show w.heap.size + 1 + 1 + 1 ≠ w.heap.size; omega))⟩,
      (Below.setCell (w := W.drew) HB.out.drew (p := ⟨w.heap.size, x.1, none⟩) (Nat.le_refl _) _).setCell (p := ⟨w.heap.size + 1 + 1 + 1, 0, none⟩) (by show w.heap.size ≤ w.heap.size + 1 + 1 + 1; omega) _⟩
  case done =>
    rintro D xs W hD rfl ⟨⟨h3, h6, h8⟩, hbl⟩ hK
    have c8 := h8.cell 0 (by decide)
    obtain ⟨S, hS⟩ : ∃ S, Hid (S = miSt F A (List.finRange 4)) := ⟨_, Lib.hid rfl⟩
    rw [← hS.out] at h3 h8 c8
    obtain ⟨cs, hcs⟩ : ∃ cs, Hid (cs = rowOf .u64 4 S.1) := ⟨_, Lib.hid rfl⟩
    have HL : ∀ W2 : World, W2.heap[w.heap.size]? = W.heap[w.heap.size]? → (loadVar 36 ⟨w.heap.size, 0, none⟩).run Tryz.prog W2 = .ok (.agg cs.toArray) W2 := by
      intro W2 he
      rw [hcs.out]
      exact load24 (he.trans h3)
    gi_wp2
    refine wpIn_nrm ?_
    refine wpIn_region_any (by kernel_rfl) ?_
    change wpAnyIn _ _ _ _ _ _ _ _ _ (World.drew _)
    refine anyIn_of_G (T := fun i => i == 0 || i == 1) (S := fun i w2 => (i = 0 → (loadVar 36 ⟨w.heap.size, 0, none⟩).run Tryz.prog w2 = .ok (.agg cs.toArray) w2) ∧ (i = 1 → w2.cell? ⟨w.heap.size + 1 + 1 + 1, 0, none⟩ = some (.int .u64 (S.2 : Int)))) _ _ _ _ ?_
    refine AnyG.take 0 (some 24) (.load 36 (.tmp 2)) (.agg cs.toArray) rfl rfl (fun _ e => by cases e) (by kernel_rfl) (by kernel_rfl) (by kernel_rfl) (by kernel_rfl) rfl (fun _ _ _ h => h) (fun o ho w2 hw => exec_load_of _ 36 (.tmp 2) ho ⟨w.heap.size, 0, none⟩ rfl _ (hw.1 rfl)) ⟨fun _ => HL W.drew rfl, fun e => (by cases e)⟩ ?_
    simp only [Act.put, sT, sS, sZ]
    refine AnyG.take 1 (some 25) (.load 34 (.tmp 6)) (.int .u64 (S.2 : Int)) rfl rfl (fun _ e => by cases e) (by kernel_rfl) (by kernel_rfl) (by kernel_rfl) (by kernel_rfl) rfl (fun _ _ _ h => h) (fun o ho w2 hw => exec_load_one w2 34 (.tmp 6) ho ⟨w.heap.size + 1 + 1 + 1, 0, none⟩ rfl _ (hw.2 rfl) _ Tryz.underlying34 rfl) ⟨fun e => (by cases e), fun _ => c8⟩ ?_
    simp only [Act.put, sT, sS, sZ]
    have hother : ∀ k, k ≠ w.heap.size + 1 + 1 → (W.drew.setRow (w.heap.size + 1 + 1) cs.toArray).heap[k]? = W.heap[k]? := fun k hk => setRow_other _ _ _ _ (by omega)
    refine AnyG.ready (rs := [2]) (by kernel_rfl) (by simp) (ReadyG.skip (w2 := W.drew.setRow (w.heap.size + 1 + 1) cs.toArray) (.store 36 (.tmp 4) (.tmp 24)) rfl rfl (fun _ e => by cases e) (fun o ho => exec_store24 W.drew (.tmp 4) (.tmp 24) ho (w.heap.size + 1 + 1) rfl cs.toArray (by rw [hcs.out]; exact ⟨_, rfl⟩) rfl _ 36 h6 (rowOf_size _ _ _)) rfl ?hk ?_ ReadyG.nil)
    case hk =>
      intro x _ _ _
      refine ⟨fun _ => HL _ (hother _ (by omega)), fun _ => ?_⟩
      exact (World.cell?_of_block (w := W) (a := ⟨w.heap.size + 1 + 1 + 1, 0, none⟩) (hother _ (by show w.heap.size + 1 + 1 + 1 ≠ w.heap.size + 1 + 1; omega))).trans c8
    refine AnyG.ready (rs := [3]) (by kernel_rfl) (by simp) (ReadyG.op (some 5) (.assign (.tmp 25)) rfl rfl (fun _ e => by cases e) (.int .u64 (S.2 : Int)) (fun o ho => exec_assign (.tmp 25) ho _ rfl _) rfl ?hk2 ?_ ReadyG.nil)
    case hk2 =>
      intro x _ _ _
      refine ⟨fun _ => HL _ (hother _ (by omega)), fun _ => ?_⟩
      exact (World.cell?_of_block (w := W) (a := ⟨w.heap.size + 1 + 1 + 1, 0, none⟩) (hother _ (by show w.heap.size + 1 + 1 + 1 ≠ w.heap.size + 1 + 1; omega))).trans c8
    simp only [Act.put, sT, sS, sZ]
    refine AnyG.done (by kernel_rfl) ?_ _
    refine nrm_intro ?_
    have hrow6 : (W.drew.setRow (w.heap.size + 1 + 1) cs.toArray).heap[w.heap.size + 1 + 1]? = some (.cells cs.toArray 36 (0, 0)) := setRow_heap _ _ _ _ _ _ h6
    have hK2 : (W.drew.setRow (w.heap.size + 1 + 1) cs.toArray).heap[D]? = some (.deferred (some [])) := (hother D (by omega)).trans hK
    have HB : Hid (Below w.heap.size w (W.drew.setRow (w.heap.size + 1 + 1) cs.toArray)) := Lib.hid (hbl.trans ⟨rfl, rfl, rfl, by simp, fun k hk => hother k (by omega)⟩)
    generalize W.drew.setRow (w.heap.size + 1 + 1) cs.toArray = W2 at *
    gi_wp2
    refine ⟨by simp, .inl ⟨_, _, rfl, run_takeDeferred hK2, ?_⟩⟩
    have hrow7 : (W2.putObj D (.deferred none)).heap[w.heap.size + 1 + 1]? = some (.cells cs.toArray 36 (0, 0)) := (World.putObj_heap_other (by omega)).trans hrow6
    refine ⟨_, results_two rfl _ _ _ ⟨w.heap.size + 1 + 1, 0, none⟩ rfl _ (loadA (by rw [hcs.out]; exact ⟨_, rfl⟩) hrow7), ?_, HB.out.trans (belowK_b (w := w) (Nat.le_refl _) W2 D _ _ (by omega) hK2 rfl rfl)⟩
    rw [← hS.out, hcs.out]
    rfl
  case stop =>
    rintro D c pre W _ _ h _
    exact h.elim
end Go.Proofs.YtdajmekliodmcaaGreatDoor.P8
