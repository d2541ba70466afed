/- Several texts, one behind the other; each says by itself what it proves, and on what conditions. -/
import Derived.Test.YtgbliacncahooaaDoorGKer
import Derived.Laws.StructEq
import Derived.Laws.Cover2
import Derived.Laws.Tables
/- plus of package field: a number and n times another one. No condition but that the numbers have 256 and 64 bits. -/
namespace Go.Proofs.YtgbliacncahooaaDoor
open Go.RowKit Go.Shelf
set_option linter.unusedVariables false
attribute [local go_sem] Oper.semAt_some

def PlI (w : World) (n : Nat) (f a : Nat → Nat) (pre : List (Fin 4)) (W : World) : Prop :=
  (Row W w.heap.size 24 .u64 4 (plSt n f a pre).1 ∧ Row W (w.heap.size + 1 + 1) 22 .u64 1 (fun _ => n) ∧ Row W (w.heap.size + 1 + 1 + 1) 24 .u64 4 (fun _ => 0) ∧
    Row W (w.heap.size + 1 + 1 + 1 + 1) 22 .u64 1 (fun _ => (plSt n f a pre).2)) ∧ Below w.heap.size w W
theorem row_own {B g : Nat} {t : TypeId} {kd : IntKind} {m : Nat} {f : Nat → Nat} {W W' : World} {row : Option Nat} (h : Row W g t kd m f) (hB : g < B) (hg : W.grownBy W' row) (hr : ∀ r, row = some r → B ≤ r ∧ ∃ o : Obj, W.heap[r]? = some o ∧ o.isCells = false) : Row W' g t kd m f :=
  (hg.block g h.lt (fun e => by have := (hr g e.symm).1; omega)).trans h
theorem below_own {B b : Nat} {w W W' : World} {row : Option Nat} (h : Below b w W) (hB : b ≤ B) (hb : b ≤ W.heap.size) (hg : W.grownBy W' row) (hr : ∀ r, row = some r → B ≤ r ∧ ∃ o : Obj, W.heap[r]? = some o ∧ o.isCells = false) : Below b w W' :=
  h.grown hg hb (fun k e => by have := (hr k e).1; omega)
theorem plI_own (w : World) (n : Nat) (f a : Nat → Nat) (B : Nat) (hB : w.heap.size + 5 ≤ B) : OwnFrom B (PlI w n f a) := by
  rintro s W W' row ⟨⟨h1, h2, h3, h4⟩, h5⟩ hg hr
  exact ⟨⟨row_own h1 (by omega) hg hr, row_own h2 (by omega) hg hr, row_own h3 (by omega) hg hr, row_own h4 (by omega) hg hr⟩, below_own h5 (by omega) h5.size hg hr⟩
set_option maxRecDepth 100000 in
set_option maxHeartbeats 1000000 in
theorem plus_any (a b n : Nat) (ha : a < 115792089237316195423570985008687907853269984665640564039457584007913129639936) (hb : b < 115792089237316195423570985008687907853269984665640564039457584007913129639936) (hn : n < 18446744073709551616) (w : World) :
    Calls Tryd.prog 60 #[.agg (num a), .agg (num b), .int .u64 n] w fun e w' => e = .returned (.tuple #[.agg (num ((a + b * n) % 115792089237316195423570985008687907853269984665640564039457584007913129639936)), .int .u64 (((a + b * n) / 115792089237316195423570985008687907853269984665640564039457584007913129639936 : Nat) : Int)]) ∧ Below w.heap.size w w' := by
  obtain ⟨hall1, hall2⟩ := plSt_all a b n ha hb hn
  rw [← hall1, ← hall2]
  have HOK := Lib.hid (plSt_ok n (dig b) (dig a) hn (dig_lt b) (dig_lt a))
  have HF := Lib.hid (dig_lt b)
  clear hall1 hall2 ha hb
  unfold num
  generalize dig a = A at *
  generalize dig b = F at *
  refine (callsIn_wide (n := 6)).1 ?_
  refine callsIn_of_wp_marks Tryd.func60 rfl trivial ?_ rfl
  simp only [Tryd.ntmps60, List.size_toArray, List.length_cons, List.length_nil, Nat.reduceAdd, Nat.reduceSub, Array.replicate_succ, Array.replicate_zero, List.push_toArray, List.append_toArray, List.nil_append, List.cons_append]
  obtain ⟨ra, hra⟩ : ∃ ra, Hid (ra = (rowOf .u64 4 A).toArray) := ⟨_, Lib.hid rfl⟩
  obtain ⟨rb, hrb⟩ : ∃ rb, Hid (rb = (rowOf .u64 4 F).toArray) := ⟨_, Lib.hid rfl⟩
  rw [← hra.out, ← hrb.out]
  gi_wp2_with (first | (refine wpListIn_run rfl rfl rfl _ (exec_alloc_agg _ 24 rfl _ (zero24 _)) ?_) | (refine wpListIn_run rfl rfl rfl _ (exec_load_of _ 24 (.tmp 4) rfl ⟨w.heap.size + 1, 0, none⟩ rfl (.agg rb) ?ld) ?_))
  case ld =>
    rw [hrb.out]
    exact load24 (by unfold Row; rw [← hrb.out]; simp only [heapA, Array.getElem?_push, Array.size_push]; (repeat (first | rw [if_pos (by first | trivial | omega)] | rw [if_neg (by omega)])))
  gi_wp2_with (refine ⟨trivial, ?_⟩; gi_at_call 66; refine (words_in _ _ _).mono ?_; rintro e w' ⟨rfl, rfl⟩)
  have hrows : ∀ W0, W0 = (((((w.alloc (.cells ra 24)).alloc (.cells rb 24)).alloc (.cells #[.int .u64 n] 22)).alloc (.cells (rowOf .u64 4 fun _ => 0).toArray 24)).alloc (.cells #[.int .u64 0] 22)).alloc (.cells rb 24) →
      PlI w n F A [] W0 ∧ Row W0 (w.heap.size + 1 + 1 + 1 + 1 + 1) 24 .u64 4 F ∧ W0.heap.size = w.heap.size + 6 := by
    rintro W0 rfl
    refine ⟨⟨⟨?_, ?_, ?_, ?_⟩, ?_⟩, ?_, by simp⟩
    · unfold Row; rw [hra.out]; simp only [heapA, Array.getElem?_push, Array.size_push]; (repeat (first | rw [if_pos (by first | trivial | omega)] | rw [if_neg (by omega)])); rfl
    · unfold Row; simp only [heapA, Array.getElem?_push, Array.size_push]; (repeat (first | rw [if_pos (by first | trivial | omega)] | rw [if_neg (by omega)])); rfl
    · unfold Row; simp only [heapA, Array.getElem?_push, Array.size_push]; (repeat (first | rw [if_pos (by first | trivial | omega)] | rw [if_neg (by omega)]))
    · unfold Row; simp only [heapA, Array.getElem?_push, Array.size_push]; (repeat (first | rw [if_pos (by first | trivial | omega)] | rw [if_neg (by omega)])); rfl
    · repeat (refine bel_alloc ?_ (by simp <;> omega) _)
      exact Below.refl _ _
    · unfold Row; rw [hrb.out]; simp only [heapA, Array.getElem?_push, Array.size_push]; (repeat (first | rw [if_pos (by first | trivial | omega)] | rw [if_neg (by omega)]))
  have hrows2 := hrows _ rfl
  clear hrows
  generalize (((((w.alloc (.cells ra 24)).alloc (.cells rb 24)).alloc (.cells #[.int .u64 n] 22)).alloc (.cells (rowOf .u64 4 fun _ => 0).toArray 24)).alloc (.cells #[.int .u64 0] 22)).alloc (.cells rb 24) = W0 at *
  obtain ⟨hI0, hbox, hsz0⟩ := hrows2
  refine wpIn_rangeFunc_ownF rfl (by omega) (gf := 75) (lb := #[.pointer (some ⟨w.heap.size + 1 + 1 + 1 + 1 + 1, 0, none⟩)]) rfl trivial (enters_of Tryd.func75 (by kernel_rfl) rfl) (words_stops 5 (w.heap.size + 1 + 1 + 1 + 1 + 1) F W0 hbox (by omega))
    (fun _ _ => trivial) (fun _ _ _ _ _ _ _ _ => trivial) (Below.refl _ _) (fun _ => rfl)
    (PlI w n F A) (fun _ _ _ => False) (plI_own w n F A _ (by omega)) (fun _ _ _ _ _ hs _ _ => hs) hI0
    (fun x => { tmps := #[.agg ra, .agg rb, .int .u64 n, .pointer (some ⟨w.heap.size, 0, none⟩), .pointer (some ⟨w.heap.size + 1, 0, none⟩), .pointer (some ⟨w.heap.size + 1 + 1, 0, none⟩), .pointer (some ⟨w.heap.size + 1 + 1 + 1, 0, none⟩), .int .u64 0, .pointer (some ⟨w.heap.size + 1 + 1 + 1 + 1, 0, none⟩), .int .i64 (x.1 : Int), .int .u64 (F x.1 : Int), undef, undef, undef, .agg rb, .func (.func 75) #[] #[.pointer (some ⟨w.heap.size + 1 + 1 + 1 + 1 + 1, 0, none⟩)], .int .i64 (x.1 : Int), .int .u64 (F x.1 : Int), undef, undef, undef, undef, undef, undef, undef, undef, undef, undef, undef, undef, undef, undef, undef, undef, undef, undef, undef, undef, undef, undef, undef, undef, undef, undef, undef, undef, undef, undef], defers := [] }) ?assign ?body ?done ?stop
  case assign =>
    intro l x W K hK
    unfold encW
    gi_wp2
    exact hK
  case body =>
    rintro l pre x W ⟨⟨h3, h5, h6, h8⟩, hbl⟩ _
    obtain ⟨hok1, hok2⟩ := HOK.out pre
    have hy := HF.out x.1
    have hx4 := x.2
    have hax := hok1 x.1
    have c3 := h3.cell x.1 hx4
    have f3 := h3.free x.1
    have c5 := h5.cell 0 (by decide)
    have c8 := h8.cell 0 (by decide)
    have f8 := h8.free 0
    obtain ⟨w1, w2⟩ := plS_words (F x.1) n (plSt n F A pre).2 ((plSt n F A pre).1 x.1) hy hn hok2 hax
    have hnew := plSt_snoc n F A pre x
    have hm := mul64_any (F x.1) n hy hn
    have A1 := fun W => add64_run (mulLo (F x.1) n) (plSt n F A pre).2 0 (by omega) W
    have A2 := fun W => add64_run ((mulLo (F x.1) n + (plSt n F A pre).2) % 18446744073709551616) ((plSt n F A pre).1 x.1) 0 (by omega) W
    rw [Nat.add_zero] at A1 A2
    have W1 := wrapM (mulHi (F x.1) n + (mulLo (F x.1) n + (plSt n F A pre).2) / 18446744073709551616)
    have W2 := wrapM ((mulHi (F x.1) n + (mulLo (F x.1) n + (plSt n F A pre).2) / 18446744073709551616) % 18446744073709551616 + ((mulLo (F x.1) n + (plSt n F A pre).2) % 18446744073709551616 + (plSt n F A pre).1 x.1) / 18446744073709551616)
    rw [show F x.1 * n % 18446744073709551616 = mulLo (F x.1) n from rfl] at w1 w2
    rw [show F x.1 * n / 18446744073709551616 = mulHi (F x.1) n from rfl] at w2
    rw [w1] at A2
    rw [w2] at W2
    have HI3 : Hid (∀ W2 : World, Row W2 w.heap.size 24 .u64 4 (plSt n F A pre).1 → Row (W2.setCell ⟨w.heap.size, x.1, none⟩ (.int .u64 (((F x.1 * n + (plSt n F A pre).2 + (plSt n F A pre).1 x.1) % 18446744073709551616 : Nat) : Int))) w.heap.size 24 .u64 4 (plSt n F A (pre ++ [x])).1) := by
      intro W2 h
      rw [hnew]
      exact h.set x.1 _
    have HI8 : Hid (∀ W2 : World, Row W2 (w.heap.size + 1 + 1 + 1 + 1) 22 .u64 1 (fun _ => (plSt n F A pre).2) → Row (W2.setCell ⟨w.heap.size + 1 + 1 + 1 + 1, 0, none⟩ (.int .u64 (((F x.1 * n + (plSt n F A pre).2 + (plSt n F A pre).1 x.1) / 18446744073709551616 : Nat) : Int))) (w.heap.size + 1 + 1 + 1 + 1) 22 .u64 1 (fun _ => (plSt n F A (pre ++ [x])).2)) := by
      intro W2 h
      rw [hnew]
      exact (h.set 0 _).ext (fun j hj => by unfold upd; rw [if_pos (by omega)]; rfl)
    have H3 := Lib.hid h3
    have H5 := Lib.hid h5
    have H6 := Lib.hid h6
    have H8 := Lib.hid h8
    have HB := Lib.hid hbl
    clear h3 h5 h6 h8 hbl hok1 hok2 hy hax w1 w2 hnew hI0 hbox HOK HF
    generalize (F x.1 * n + (plSt n F A pre).2 + (plSt n F A pre).1 x.1) % 18446744073709551616 = s2 at *
    generalize (F x.1 * n + (plSt n F A pre).2 + (plSt n F A pre).1 x.1) / 18446744073709551616 = v2 at *
    generalize ((mulLo (F x.1) n + (plSt n F A pre).2) % 18446744073709551616 + (plSt n F A pre).1 x.1) / 18446744073709551616 = cc at *
    generalize (mulHi (F x.1) n + (mulLo (F x.1) n + (plSt n F A pre).2) / 18446744073709551616) % 18446744073709551616 = h1 at *
    generalize (mulLo (F x.1) n + (plSt n F A pre).2) % 18446744073709551616 = s1 at *
    generalize (mulLo (F x.1) n + (plSt n F A pre).2) / 18446744073709551616 = c1 at *
    generalize mulHi (F x.1) n = hi at *
    generalize mulLo (F x.1) n = lo at *
    generalize (plSt n F A pre).1 x.1 = ax at *
    have HM := Lib.hid hm
    clear hm
    have A1' : ∀ W, (callFunc 73 #[.int .u64 lo, .int .u64 (plSt n F A pre).2, .int .u64 0]).run Tryd.prog W = .ok (.value (.tuple #[.int .u64 (s1 : Int), .int .u64 (c1 : Int)])) W := A1
    have A2' : ∀ W, (callFunc 73 #[.int .u64 s1, .int .u64 ax, .int .u64 0]).run Tryd.prog W = .ok (.value (.tuple #[.int .u64 (s2 : Int), .int .u64 (cc : Int)])) W := A2
    clear A1 A2
    generalize (plSt n F A pre).2 = v at *
    generalize F x.1 = y at *
    have hxi : (x.1 : Int) < 4 := by omega
    rw [Int.natCast_add] at W1 W2
    gi_wp2_with (first | (refine ⟨trivial, ?_⟩; gi_at_call 72; refine (CallsIn.inRound l (callsIn_wide.2 (HM.out _))).mono ?_; rintro e w' ⟨rfl, rfl⟩) | (refine ⟨(show Fence.wide.fn 73 from trivial), ?_⟩))
    exact ⟨(KeepsOthers.setCell _ _ _).trans (KeepsOthers.setCell _ _ _), trivial, ⟨(HI3.out W H3.out).other _ _ (by show w.heap.size ≠ w.heap.size + 1 + 1 + 1 + 1; omega),
      (H5.out.other _ _ (by show w.heap.size + 1 + 1 ≠ w.heap.size; omega)).other _ _ (by show w.heap.size + 1 + 1 ≠ w.heap.size + 1 + 1 + 1 + 1; omega),
      (H6.out.other _ _ (by show w.heap.size + 1 + 1 + 1 ≠ w.heap.size; omega)).other _ _ (by show w.heap.size + 1 + 1 + 1 ≠ w.heap.size + 1 + 1 + 1 + 1; omega),
      HI8.out _ (H8.out.other _ _ (by show w.heap.size + 1 + 1 + 1 + 1 ≠ w.heap.size; omega))⟩,
      (HB.out.setCell (p := ⟨w.heap.size, x.1, none⟩) (Nat.le_refl _) _).setCell (p := ⟨w.heap.size + 1 + 1 + 1 + 1, 0, none⟩) (by show w.heap.size ≤ w.heap.size + 1 + 1 + 1 + 1; omega) _⟩
  case done =>
    rintro D xs W hD rfl ⟨⟨h3, -, h6, h8⟩, hbl⟩ hK
    have hl3 := load24 h3
    have c8 := h8.cell 0 (by decide)
    obtain ⟨S, hS⟩ : ∃ S, Hid (S = plSt n F A (List.finRange 4)) := ⟨_, Lib.hid rfl⟩
    rw [← hS.out] at h3 h8 hl3 c8
    obtain ⟨cs, hcs⟩ : ∃ cs, Hid (cs = rowOf .u64 4 S.1) := ⟨_, Lib.hid rfl⟩
    have HLEN : Hid (cs.length = 4) := by unfold Hid; rw [hcs.out, rowOf_length]
    have HL : ∀ W2 : World, W2.heap[w.heap.size]? = W.heap[w.heap.size]? → (loadVar 24 ⟨w.heap.size, 0, none⟩).run Tryd.prog W2 = .ok (.agg cs.toArray) W2 := by
      intro W2 he
      rw [hcs.out]
      exact load24 (he.trans h3)
    clear hl3
    gi_wp2
    refine wpIn_nrm ?_
    refine wpIn_region_any (by kernel_rfl) ?_
    change wpAnyIn _ _ _ _ _ _ _ _ _ (World.drew _)
    refine anyIn_of_G (T := fun i => i == 0 || i == 1) (S := fun i w2 => (i = 0 → (loadVar 24 ⟨w.heap.size, 0, none⟩).run Tryd.prog w2 = .ok (.agg cs.toArray) w2) ∧ (i = 1 → w2.cell? ⟨w.heap.size + 1 + 1 + 1 + 1, 0, none⟩ = some (.int .u64 (S.2 : Int)))) _ _ _ _ ?_
    refine AnyG.take 0 (some 46) (.load 24 (.tmp 3)) (.agg cs.toArray) rfl rfl (fun _ e => by cases e) (by kernel_rfl) (by kernel_rfl) (by kernel_rfl) (by kernel_rfl) rfl (fun _ _ _ h => h) (fun o ho w2 hw => exec_load_of _ 24 (.tmp 3) ho ⟨w.heap.size, 0, none⟩ rfl _ (hw.1 rfl)) ⟨fun _ => HL W.drew rfl, fun e => by cases e⟩ ?_
    simp only [Act.put, sT, sS, sZ]
    refine AnyG.take 1 (some 47) (.load 22 (.tmp 8)) (.int .u64 (S.2 : Int)) rfl rfl (fun _ e => by cases e) (by kernel_rfl) (by kernel_rfl) (by kernel_rfl) (by kernel_rfl) rfl (fun _ _ _ h => h) (fun o ho w2 hw => exec_load_one w2 22 (.tmp 8) ho ⟨w.heap.size + 1 + 1 + 1 + 1, 0, none⟩ rfl _ (hw.2 rfl) _ Tryd.underlying22 rfl) ⟨fun e => (by cases e), fun _ => c8⟩ ?_
    simp only [Act.put, sT, sS, sZ]
    have hother : ∀ k, k ≠ w.heap.size + 1 + 1 + 1 → (W.drew.setRow (w.heap.size + 1 + 1 + 1) cs.toArray).heap[k]? = W.heap[k]? := fun k hk => setRow_other _ _ _ _ (by omega)
    refine AnyG.ready (rs := [2]) (by kernel_rfl) (by simp) (ReadyG.skip (w2 := W.drew.setRow (w.heap.size + 1 + 1 + 1) cs.toArray) (.store 24 (.tmp 6) (.tmp 46)) rfl rfl (fun _ e => by cases e) (fun o ho => ?st) rfl ?hk ?_ ReadyG.nil)
    case st =>
      exact exec_store24 W.drew (.tmp 6) (.tmp 46) ho (w.heap.size + 1 + 1 + 1) rfl cs.toArray (by rw [hcs.out]; exact ⟨_, rfl⟩) rfl _ 24 h6 (rowOf_size _ _ _)
    case hk =>
      intro x _ _ _
      refine ⟨fun _ => ?_, fun _ => ?_⟩
      · exact HL _ (hother _ (by omega))
      · exact (World.cell?_of_block (w := W) (a := ⟨w.heap.size + 1 + 1 + 1 + 1, 0, none⟩) (hother _ (by show w.heap.size + 1 + 1 + 1 + 1 ≠ w.heap.size + 1 + 1 + 1; omega))).trans c8
    refine AnyG.ready (rs := [3]) (by kernel_rfl) (by simp) (ReadyG.op (some 7) (.assign (.tmp 47)) rfl rfl (fun _ e => by cases e) (.int .u64 (S.2 : Int)) (fun o ho => exec_assign (.tmp 47) ho _ rfl _) rfl ?hk2 ?_ ReadyG.nil)
    case hk2 =>
      intro x _ _ _
      refine ⟨fun _ => ?_, fun _ => ?_⟩
      · exact HL _ (hother _ (by omega))
      · exact (World.cell?_of_block (w := W) (a := ⟨w.heap.size + 1 + 1 + 1 + 1, 0, none⟩) (hother _ (by show w.heap.size + 1 + 1 + 1 + 1 ≠ w.heap.size + 1 + 1 + 1; omega))).trans c8
    simp only [Act.put, sT, sS, sZ]
    refine AnyG.done (by kernel_rfl) ?_ _
    refine nrm_intro ?_
    have hrow6 : (W.drew.setRow (w.heap.size + 1 + 1 + 1) cs.toArray).heap[w.heap.size + 1 + 1 + 1]? = some (.cells cs.toArray 24 (0, 0)) := setRow_heap _ _ _ _ _ _ h6
    have hK2 : (W.drew.setRow (w.heap.size + 1 + 1 + 1) cs.toArray).heap[D]? = some (.deferred (some [])) := (hother D (by omega)).trans hK
    have HB : Hid (Below w.heap.size w (W.drew.setRow (w.heap.size + 1 + 1 + 1) cs.toArray)) := Lib.hid (hbl.trans ⟨rfl, rfl, rfl, by simp, fun k hk => hother k (by omega)⟩)
    generalize W.drew.setRow (w.heap.size + 1 + 1 + 1) cs.toArray = W2 at *
    gi_wp2
    refine ⟨by simp, .inl ⟨_, _, rfl, run_takeDeferred hK2, ?_⟩⟩
    have hrow7 : (W2.putObj D (.deferred none)).heap[w.heap.size + 1 + 1 + 1]? = some (.cells cs.toArray 24 (0, 0)) := (World.putObj_heap_other (by omega)).trans hrow6
    refine ⟨_, results_two rfl _ _ _ ⟨w.heap.size + 1 + 1 + 1, 0, none⟩ rfl _ (loadA (by rw [hcs.out]; exact ⟨_, rfl⟩) hrow7), ?_, HB.out.trans (belowK_b (w := w) (Nat.le_refl _) W2 D _ _ (by omega) hK2 rfl rfl)⟩
    rw [← hS.out, hcs.out]
    rfl
  case stop =>
    rintro D c pre W _ _ h _
    exact h.elim
end Go.Proofs.YtgbliacncahooaaDoor
/- minus of package field: a number less another one, with what was lent. No condition but that the numbers have 256 bits. -/
namespace Go.Proofs.YtgbliacncahooaaDoor
open Go.RowKit Go.Shelf
set_option linter.unusedVariables false
attribute [local go_sem] Oper.semAt_some

def MiI (w : World) (f a : Nat → Nat) (pre : List (Fin 4)) (W : World) : Prop :=
  (Row W w.heap.size 24 .u64 4 (miSt f a pre).1 ∧ Row W (w.heap.size + 1 + 1) 24 .u64 4 (fun _ => 0) ∧ Row W (w.heap.size + 1 + 1 + 1) 22 .u64 1 (fun _ => (miSt f a pre).2)) ∧ Below w.heap.size w W
theorem miI_own (w : World) (f a : Nat → Nat) (B : Nat) (hB : w.heap.size + 4 ≤ B) : OwnFrom B (MiI w f a) := by
  rintro s W W' row ⟨⟨h1, h3, h4⟩, h5⟩ hg hr
  exact ⟨⟨row_own h1 (by omega) hg hr, row_own h3 (by omega) hg hr, row_own h4 (by omega) hg hr⟩, below_own h5 (by omega) h5.size hg hr⟩
theorem exec_indexAddr24 {ρ : Operand → Value} {o : Oper} (x y : Operand) (ho : o.op = .indexAddr 24 x y) (b i : Nat) (hx : ρ x = .pointer (some ⟨b, 0, none⟩)) (hy : ρ y = .int .i64 (i : Int)) (hi : i < 4) (w : World) :
    (execOp ρ o).run Tryd.prog w = .ok (.value (.pointer (some ⟨b, i, none⟩))) w := by
  unfold execOp
  rw [ho]
  simp only [hx, hy]
  have h1 : (i : Int) < 4 := by omega
  go_simp
theorem exec_extract {P : Program} {ρ : Operand → Value} {o : Oper} (x : Operand) (j : Nat) (ho : o.op = .extract x j) (vs : Array Value) (v : Value) (hx : ρ x = .tuple vs) (hv : vs[j]? = some v) (w : World) :
    (execOp ρ o).run P w = .ok (.value v) w := by
  unfold execOp
  simp [ho, hx, hv, Instr.extract]
set_option maxRecDepth 100000 in
set_option maxHeartbeats 1000000 in
theorem minus_any (a b : Nat) (ha : a < 115792089237316195423570985008687907853269984665640564039457584007913129639936) (hb : b < 115792089237316195423570985008687907853269984665640564039457584007913129639936) (w : World) :
    Calls Tryd.prog 54 #[.agg (num a), .agg (num b)] w fun e w' => e = .returned (.tuple #[.agg (num ((a + 115792089237316195423570985008687907853269984665640564039457584007913129639936 - b) % 115792089237316195423570985008687907853269984665640564039457584007913129639936)), .int .u64 ((if a < b then 1 else 0 : Nat) : Int)]) ∧ Below w.heap.size w w' := by
  obtain ⟨hall1, hall2⟩ := miSt_all a b ha hb
  rw [← hall1, ← hall2]
  have HOK := Lib.hid (miSt_ok (dig b) (dig a) (dig_lt a))
  have HF := Lib.hid (dig_lt b)
  clear hall1 hall2 ha hb
  unfold num
  generalize dig a = A at *
  generalize dig b = F at *
  refine (callsIn_wide (n := 6)).1 ?_
  refine callsIn_of_wp_marks Tryd.func54 rfl trivial ?_ rfl
  simp only [Tryd.ntmps54, List.size_toArray, List.length_cons, List.length_nil, Nat.reduceAdd, Nat.reduceSub, Array.replicate_succ, Array.replicate_zero, List.push_toArray, List.append_toArray, List.nil_append, List.cons_append]
  obtain ⟨ra, hra⟩ : ∃ ra, Hid (ra = (rowOf .u64 4 A).toArray) := ⟨_, Lib.hid rfl⟩
  obtain ⟨rb, hrb⟩ : ∃ rb, Hid (rb = (rowOf .u64 4 F).toArray) := ⟨_, Lib.hid rfl⟩
  rw [← hra.out, ← hrb.out]
  gi_wp2_with (first | (refine wpListIn_run rfl rfl rfl _ (exec_alloc_agg _ 24 rfl _ (zero24 _)) ?_) | (refine wpListIn_run rfl rfl rfl _ (exec_load_of _ 24 (.tmp 3) rfl ⟨w.heap.size + 1, 0, none⟩ rfl (.agg rb) ?ld) ?_))
  case ld =>
    rw [hrb.out]
    exact load24 (by unfold Row; rw [← hrb.out]; simp only [heapA, Array.getElem?_push, Array.size_push]; (repeat (first | rw [if_pos (by first | trivial | omega)] | rw [if_neg (by omega)])))
  gi_wp2_with (refine ⟨trivial, ?_⟩; gi_at_call 66; refine (words_in _ _ _).mono ?_; rintro e w' ⟨rfl, rfl⟩)
  have hrows : ∀ W0, W0 = ((((w.alloc (.cells ra 24)).alloc (.cells rb 24)).alloc (.cells (rowOf .u64 4 fun _ => 0).toArray 24)).alloc (.cells #[.int .u64 0] 22)).alloc (.cells rb 24) →
      MiI w F A [] W0 ∧ Row W0 (w.heap.size + 1 + 1 + 1 + 1) 24 .u64 4 F ∧ W0.heap.size = w.heap.size + 5 := by
    rintro W0 rfl
    refine ⟨⟨⟨?_, ?_, ?_⟩, ?_⟩, ?_, by simp⟩
    · unfold Row; rw [hra.out]; simp only [heapA, Array.getElem?_push, Array.size_push]; (repeat (first | rw [if_pos (by first | trivial | omega)] | rw [if_neg (by omega)])); rfl
    · unfold Row; simp only [heapA, Array.getElem?_push, Array.size_push]; (repeat (first | rw [if_pos (by first | trivial | omega)] | rw [if_neg (by omega)]))
    · unfold Row; simp only [heapA, Array.getElem?_push, Array.size_push]; (repeat (first | rw [if_pos (by first | trivial | omega)] | rw [if_neg (by omega)])); rfl
    · repeat (refine bel_alloc ?_ (by simp <;> omega) _)
      exact Below.refl _ _
    · unfold Row; rw [hrb.out]; simp only [heapA, Array.getElem?_push, Array.size_push]; (repeat (first | rw [if_pos (by first | trivial | omega)] | rw [if_neg (by omega)]))
  have hrows2 := hrows _ rfl
  clear hrows
  generalize ((((w.alloc (.cells ra 24)).alloc (.cells rb 24)).alloc (.cells (rowOf .u64 4 fun _ => 0).toArray 24)).alloc (.cells #[.int .u64 0] 22)).alloc (.cells rb 24) = W0 at *
  obtain ⟨hI0, hbox, hsz0⟩ := hrows2
  refine wpIn_rangeFunc_ownF rfl (by omega) (gf := 75) (lb := #[.pointer (some ⟨w.heap.size + 1 + 1 + 1 + 1, 0, none⟩)]) rfl trivial (enters_of Tryd.func75 (by kernel_rfl) rfl) (words_stops 5 (w.heap.size + 1 + 1 + 1 + 1) F W0 hbox (by omega))
    (fun _ _ => trivial) (fun _ _ _ _ _ _ _ _ => trivial) (Below.refl _ _) (fun _ => rfl)
    (MiI w F A) (fun _ _ _ => False) (miI_own w F A _ (by omega)) (fun _ _ _ _ _ hs _ _ => hs) hI0
    (fun x => { tmps := #[.agg ra, .agg rb, .pointer (some ⟨w.heap.size, 0, none⟩), .pointer (some ⟨w.heap.size + 1, 0, none⟩), .pointer (some ⟨w.heap.size + 1 + 1, 0, none⟩), .int .u64 0, .pointer (some ⟨w.heap.size + 1 + 1 + 1, 0, none⟩), .int .i64 (x.1 : Int), .int .u64 (F x.1 : Int), .agg rb, .func (.func 75) #[] #[.pointer (some ⟨w.heap.size + 1 + 1 + 1 + 1, 0, none⟩)], .int .i64 (x.1 : Int), .int .u64 (F x.1 : Int), undef, undef, undef, undef, undef, undef, undef, undef, undef, undef, undef, undef, undef], defers := [] }) ?assign ?body ?done ?stop
  case assign =>
    intro l x W K hK
    unfold encW
    gi_wp2
    exact hK
  case body =>
    rintro l pre x W ⟨⟨h3, h6, h8⟩, hbl⟩ _
    obtain ⟨hok1, hok2⟩ := HOK.out pre
    have hx4 := x.2
    have c3 := h3.cell x.1 hx4
    have f3 := h3.free x.1
    have c8 := h8.cell 0 (by decide)
    have f8 := h8.free 0
    have hnew := miSt_snoc F A pre x
    have A1 := fun W => sub64_run ((miSt F A pre).1 x.1) (F x.1) (miSt F A pre).2 hok2 W
    have HI3 : Hid (∀ W2 : World, Row W2 w.heap.size 24 .u64 4 (miSt F A pre).1 → Row (W2.setCell ⟨w.heap.size, x.1, none⟩ (.int .u64 ((((miSt F A pre).1 x.1 + 18446744073709551616 - F x.1 - (miSt F A pre).2) % 18446744073709551616 : Nat) : Int))) w.heap.size 24 .u64 4 (miSt F A (pre ++ [x])).1) := by
      intro W2 h
      rw [hnew]
      exact h.set x.1 _
    have HI8 : Hid (∀ W2 : World, Row W2 (w.heap.size + 1 + 1 + 1) 22 .u64 1 (fun _ => (miSt F A pre).2) → Row (W2.setCell ⟨w.heap.size + 1 + 1 + 1, 0, none⟩ (.int .u64 ((if (miSt F A pre).1 x.1 < F x.1 + (miSt F A pre).2 then 1 else 0 : Nat) : Int))) (w.heap.size + 1 + 1 + 1) 22 .u64 1 (fun _ => (miSt F A (pre ++ [x])).2)) := by
      intro W2 h
      rw [hnew]
      exact (h.set 0 _).ext (fun j hj => by unfold upd; rw [if_pos (by omega)]; rfl)
    have H3 := Lib.hid h3
    have H6 := Lib.hid h6
    have H8 := Lib.hid h8
    have HB := Lib.hid hbl
    clear h3 h6 h8 hbl hok1 hok2 hnew hI0 hbox HOK HF
    obtain ⟨d, hd⟩ : ∃ d : Nat, d = ((miSt F A pre).1 x.1 + 18446744073709551616 - F x.1 - (miSt F A pre).2) % 18446744073709551616 := ⟨_, rfl⟩
    obtain ⟨v2, hv2⟩ : ∃ v2 : Nat, v2 = if (miSt F A pre).1 x.1 < F x.1 + (miSt F A pre).2 then 1 else 0 := ⟨_, rfl⟩
    rw [← hd] at HI3 A1
    rw [← hv2] at HI8 A1
    clear hd hv2
    generalize (miSt F A pre).1 x.1 = ax at *
    generalize (miSt F A pre).2 = v at *
    generalize F x.1 = y at *
    gi_wp2
    refine wpIn_region_any (by kernel_rfl) ?_
    change wpAnyIn _ _ _ _ _ _ _ _ _ (World.drew _)
    refine anyIn_unround l rfl (noDefer_spec (by kernel_rfl)) _ _ _ _ ?_
    refine anyIn_of_G (T := fun i => i < 6 || (7 ≤ i && i ≤ 10)) (S := fun i w2 => (i = 3 → w2.cell? ⟨w.heap.size, x.1, none⟩ = some (.int .u64 (ax : Int))) ∧ (i = 5 → w2.cell? ⟨w.heap.size + 1 + 1 + 1, 0, none⟩ = some (.int .u64 (v : Int)))) _ _ _ _ ?_
    refine AnyG.take 0 (some 14) (.move (.tmp 7)) (.int .i64 (x.1 : Int)) rfl rfl (fun _ e => by cases e) (by kernel_rfl) (by kernel_rfl) (by kernel_rfl) (by kernel_rfl) rfl (fun _ _ _ h => h) (fun o ho w2 hw => exec_move (.tmp 7) ho _ rfl w2) ⟨fun e => (by cases e), fun e => (by cases e)⟩ ?_
    simp only [Act.put, sT, sS, sZ]
    refine AnyG.take 1 (some 15) (.move (.tmp 7)) (.int .i64 (x.1 : Int)) rfl rfl (fun _ e => by cases e) (by kernel_rfl) (by kernel_rfl) (by kernel_rfl) (by kernel_rfl) rfl (fun _ _ _ h => h) (fun o ho w2 hw => exec_move (.tmp 7) ho _ rfl w2) ⟨fun e => (by cases e), fun e => (by cases e)⟩ ?_
    simp only [Act.put, sT, sS, sZ]
    refine AnyG.take 2 (some 16) (.indexAddr 24 (.tmp 2) (.tmp 15)) (.pointer (some ⟨w.heap.size, x.1, none⟩)) rfl rfl (fun _ e => by cases e) (by kernel_rfl) (by kernel_rfl) (by kernel_rfl) (by kernel_rfl) rfl (fun _ _ _ h => h) (fun o ho w2 hw => exec_indexAddr24 (.tmp 2) (.tmp 15) ho (w.heap.size) x.1 rfl rfl hx4 w2) ⟨fun e => (by cases e), fun e => (by cases e)⟩ ?_
    simp only [Act.put, sT, sS, sZ]
    refine AnyG.take 3 (some 17) (.load 22 (.tmp 16)) (.int .u64 (ax : Int)) rfl rfl (fun _ e => by cases e) (by kernel_rfl) (by kernel_rfl) (by kernel_rfl) (by kernel_rfl) rfl (fun _ _ _ h => h) (fun o ho w2 hw => exec_load_one w2 22 (.tmp 16) ho ⟨w.heap.size, x.1, none⟩ rfl _ (hw.1 rfl) _ Tryd.underlying22 rfl) ⟨fun _ => c3, fun e => (by cases e)⟩ ?_
    simp only [Act.put, sT, sS, sZ]
    refine AnyG.take 4 (some 18) (.move (.tmp 8)) (.int .u64 (y : Int)) rfl rfl (fun _ e => by cases e) (by kernel_rfl) (by kernel_rfl) (by kernel_rfl) (by kernel_rfl) rfl (fun _ _ _ h => h) (fun o ho w2 hw => exec_move (.tmp 8) ho _ rfl w2) ⟨fun e => (by cases e), fun e => (by cases e)⟩ ?_
    simp only [Act.put, sT, sS, sZ]
    refine AnyG.take 5 (some 19) (.load 22 (.tmp 6)) (.int .u64 (v : Int)) rfl rfl (fun _ e => by cases e) (by kernel_rfl) (by kernel_rfl) (by kernel_rfl) (by kernel_rfl) rfl (fun _ _ _ h => h) (fun o ho w2 hw => exec_load_one w2 22 (.tmp 6) ho ⟨w.heap.size + 1 + 1 + 1, 0, none⟩ rfl _ (hw.2 rfl) _ Tryd.underlying22 rfl) ⟨fun e => (by cases e), fun _ => c8⟩ ?_
    simp only [Act.put, sT, sS, sZ]
    refine AnyG.ready (rs := [6]) (by kernel_rfl) (by simp) (ReadyG.outer (some 20) 69 #[.tmp 17, .tmp 18, .tmp 19] #[22, 22, 22] rfl rfl (fun _ => trivial) #[.int .u64 (ax : Int), .int .u64 (y : Int), .int .u64 (v : Int)] (by simp [Act.eval]) _ (A1 _) rfl ?hk6 ?_ ReadyG.nil)
    case hk6 =>
      intro z _ _ _
      exact ⟨fun _ => c3, fun _ => c8⟩
    simp only [Act.put, sT, sS, sZ]
    refine AnyG.take 7 (some 13) (.move (.tmp 20)) (.tuple #[.int .u64 (d : Int), .int .u64 (v2 : Int)]) rfl rfl (fun _ e => by cases e) (by kernel_rfl) (by kernel_rfl) (by kernel_rfl) (by kernel_rfl) rfl (fun _ _ _ h => h) (fun o ho w2 hw => exec_move (.tmp 20) ho _ rfl w2) ⟨fun e => (by cases e), fun e => (by cases e)⟩ ?_
    simp only [Act.put, sT, sS, sZ]
    refine AnyG.take 8 (some 21) (.extract (.tmp 13) 0) (.int .u64 (d : Int)) rfl rfl (fun _ e => by cases e) (by kernel_rfl) (by kernel_rfl) (by kernel_rfl) (by kernel_rfl) rfl (fun _ _ _ h => h) (fun o ho w2 hw => exec_extract (.tmp 13) 0 ho _ _ rfl rfl w2) ⟨fun e => (by cases e), fun e => (by cases e)⟩ ?_
    simp only [Act.put, sT, sS, sZ]
    refine AnyG.take 9 (some 22) (.extract (.tmp 13) 1) (.int .u64 (v2 : Int)) rfl rfl (fun _ e => by cases e) (by kernel_rfl) (by kernel_rfl) (by kernel_rfl) (by kernel_rfl) rfl (fun _ _ _ h => h) (fun o ho w2 hw => exec_extract (.tmp 13) 1 ho _ _ rfl rfl w2) ⟨fun e => (by cases e), fun e => (by cases e)⟩ ?_
    simp only [Act.put, sT, sS, sZ]
    refine AnyG.take 10 (some 23) (.indexAddr 24 (.tmp 2) (.tmp 14)) (.pointer (some ⟨w.heap.size, x.1, none⟩)) rfl rfl (fun _ e => by cases e) (by kernel_rfl) (by kernel_rfl) (by kernel_rfl) (by kernel_rfl) rfl (fun _ _ _ h => h) (fun o ho w2 hw => exec_indexAddr24 (.tmp 2) (.tmp 14) ho (w.heap.size) x.1 rfl rfl hx4 w2) ⟨fun e => (by cases e), fun e => (by cases e)⟩ ?_
    simp only [Act.put, sT, sS, sZ]
    have hne1 : (w.heap.size) ≠ w.heap.size + 1 + 1 + 1 := by omega
    have c8' : (W.drew.setCell ⟨w.heap.size, x.1, none⟩ (.int .u64 (d : Int))).cell? ⟨w.heap.size + 1 + 1 + 1, 0, none⟩ = some (.int .u64 (v : Int)) := (World.cell?_setCell_other (a := ⟨w.heap.size, x.1, none⟩) (h := by intro e; injection e with e1 _ _; exact hne1 e1) (w := W.drew) (v := _)).trans c8
    have f8' : (W.drew.setCell ⟨w.heap.size, x.1, none⟩ (.int .u64 (d : Int))).frozen? ⟨w.heap.size + 1 + 1 + 1, 0, none⟩ = false := by rw [World.frozen?_setCell]; exact f8
    refine AnyG.ready (rs := [11]) (by kernel_rfl) (by simp) (ReadyG.skip (w2 := W.drew.setCell ⟨w.heap.size, x.1, none⟩ (.int .u64 (d : Int))) (.store 22 (.tmp 23) (.tmp 21)) rfl rfl (fun _ e => by cases e) (fun o ho => exec_store_one _ 22 (.tmp 23) (.tmp 21) ho ⟨w.heap.size, x.1, none⟩ rfl _ rfl rfl rfl _ c3 f3 (by kernel_rfl)) rfl ?hk11 ?_ ReadyG.nil)
    case hk11 => intro z _ _ hw; exact ⟨fun e => (by subst e; exact no_wait hw (by kernel_rfl)), fun e => (by subst e; exact no_wait hw (by kernel_rfl))⟩
    refine AnyG.ready (rs := [12]) (by kernel_rfl) (by simp) (ReadyG.skip (w2 := (W.drew.setCell ⟨w.heap.size, x.1, none⟩ (.int .u64 (d : Int))).setCell ⟨w.heap.size + 1 + 1 + 1, 0, none⟩ (.int .u64 (v2 : Int))) (.store 22 (.tmp 6) (.tmp 22)) rfl rfl (fun _ e => by cases e) (fun o ho => exec_store_one _ 22 (.tmp 6) (.tmp 22) ho ⟨w.heap.size + 1 + 1 + 1, 0, none⟩ rfl _ rfl rfl rfl _ c8' f8' (by kernel_rfl)) rfl ?hk12 ?_ ReadyG.nil)
    case hk12 => intro z _ _ hw; exact ⟨fun e => (by subst e; exact no_wait hw (by kernel_rfl)), fun e => (by subst e; exact no_wait hw (by kernel_rfl))⟩
    refine AnyG.done (by kernel_rfl) ?_ _
    exact ⟨((KeepsOthers.drew W).trans (KeepsOthers.setCell _ _ _)).trans (KeepsOthers.setCell _ _ _), trivial, ⟨(HI3.out W.drew H3.out).other _ _ (by show w.heap.size ≠ w.heap.size + 1 + 1 + 1; omega),
      (Row.other (w := W.drew) H6.out ⟨w.heap.size, x.1, none⟩ _ (by show w.heap.size + 1 + 1 ≠ w.heap.size; omega)).other _ _ (by show w.heap.size + 1 + 1 ≠ w.heap.size + 1 + 1 + 1; omega),
      HI8.out _ (Row.other (w := W.drew) H8.out ⟨w.heap.size, x.1, none⟩ _ (by show w.heap.size + 1 + 1 + 1 ≠ w.heap.size; omega))⟩,
      (Below.setCell (w := W.drew) HB.out.drew (p := ⟨w.heap.size, x.1, none⟩) (Nat.le_refl _) _).setCell (p := ⟨w.heap.size + 1 + 1 + 1, 0, none⟩) (by show w.heap.size ≤ w.heap.size + 1 + 1 + 1; omega) _⟩
  case done =>
    rintro D xs W hD rfl ⟨⟨h3, h6, h8⟩, hbl⟩ hK
    have c8 := h8.cell 0 (by decide)
    obtain ⟨S, hS⟩ : ∃ S, Hid (S = miSt F A (List.finRange 4)) := ⟨_, Lib.hid rfl⟩
    rw [← hS.out] at h3 h8 c8
    obtain ⟨cs, hcs⟩ : ∃ cs, Hid (cs = rowOf .u64 4 S.1) := ⟨_, Lib.hid rfl⟩
    have HL : ∀ W2 : World, W2.heap[w.heap.size]? = W.heap[w.heap.size]? → (loadVar 24 ⟨w.heap.size, 0, none⟩).run Tryd.prog W2 = .ok (.agg cs.toArray) W2 := by
      intro W2 he
      rw [hcs.out]
      exact load24 (he.trans h3)
    gi_wp2
    refine wpIn_nrm ?_
    refine wpIn_region_any (by kernel_rfl) ?_
    change wpAnyIn _ _ _ _ _ _ _ _ _ (World.drew _)
    refine anyIn_of_G (T := fun i => i == 0 || i == 1) (S := fun i w2 => (i = 0 → (loadVar 24 ⟨w.heap.size, 0, none⟩).run Tryd.prog w2 = .ok (.agg cs.toArray) w2) ∧ (i = 1 → w2.cell? ⟨w.heap.size + 1 + 1 + 1, 0, none⟩ = some (.int .u64 (S.2 : Int)))) _ _ _ _ ?_
    refine AnyG.take 0 (some 24) (.load 24 (.tmp 2)) (.agg cs.toArray) rfl rfl (fun _ e => by cases e) (by kernel_rfl) (by kernel_rfl) (by kernel_rfl) (by kernel_rfl) rfl (fun _ _ _ h => h) (fun o ho w2 hw => exec_load_of _ 24 (.tmp 2) ho ⟨w.heap.size, 0, none⟩ rfl _ (hw.1 rfl)) ⟨fun _ => HL W.drew rfl, fun e => (by cases e)⟩ ?_
    simp only [Act.put, sT, sS, sZ]
    refine AnyG.take 1 (some 25) (.load 22 (.tmp 6)) (.int .u64 (S.2 : Int)) rfl rfl (fun _ e => by cases e) (by kernel_rfl) (by kernel_rfl) (by kernel_rfl) (by kernel_rfl) rfl (fun _ _ _ h => h) (fun o ho w2 hw => exec_load_one w2 22 (.tmp 6) ho ⟨w.heap.size + 1 + 1 + 1, 0, none⟩ rfl _ (hw.2 rfl) _ Tryd.underlying22 rfl) ⟨fun e => (by cases e), fun _ => c8⟩ ?_
    simp only [Act.put, sT, sS, sZ]
    have hother : ∀ k, k ≠ w.heap.size + 1 + 1 → (W.drew.setRow (w.heap.size + 1 + 1) cs.toArray).heap[k]? = W.heap[k]? := fun k hk => setRow_other _ _ _ _ (by omega)
    refine AnyG.ready (rs := [2]) (by kernel_rfl) (by simp) (ReadyG.skip (w2 := W.drew.setRow (w.heap.size + 1 + 1) cs.toArray) (.store 24 (.tmp 4) (.tmp 24)) rfl rfl (fun _ e => by cases e) (fun o ho => exec_store24 W.drew (.tmp 4) (.tmp 24) ho (w.heap.size + 1 + 1) rfl cs.toArray (by rw [hcs.out]; exact ⟨_, rfl⟩) rfl _ 24 h6 (rowOf_size _ _ _)) rfl ?hk ?_ ReadyG.nil)
    case hk =>
      intro x _ _ _
      refine ⟨fun _ => HL _ (hother _ (by omega)), fun _ => ?_⟩
      exact (World.cell?_of_block (w := W) (a := ⟨w.heap.size + 1 + 1 + 1, 0, none⟩) (hother _ (by show w.heap.size + 1 + 1 + 1 ≠ w.heap.size + 1 + 1; omega))).trans c8
    refine AnyG.ready (rs := [3]) (by kernel_rfl) (by simp) (ReadyG.op (some 5) (.assign (.tmp 25)) rfl rfl (fun _ e => by cases e) (.int .u64 (S.2 : Int)) (fun o ho => exec_assign (.tmp 25) ho _ rfl _) rfl ?hk2 ?_ ReadyG.nil)
    case hk2 =>
      intro x _ _ _
      refine ⟨fun _ => HL _ (hother _ (by omega)), fun _ => ?_⟩
      exact (World.cell?_of_block (w := W) (a := ⟨w.heap.size + 1 + 1 + 1, 0, none⟩) (hother _ (by show w.heap.size + 1 + 1 + 1 ≠ w.heap.size + 1 + 1; omega))).trans c8
    simp only [Act.put, sT, sS, sZ]
    refine AnyG.done (by kernel_rfl) ?_ _
    refine nrm_intro ?_
    have hrow6 : (W.drew.setRow (w.heap.size + 1 + 1) cs.toArray).heap[w.heap.size + 1 + 1]? = some (.cells cs.toArray 24 (0, 0)) := setRow_heap _ _ _ _ _ _ h6
    have hK2 : (W.drew.setRow (w.heap.size + 1 + 1) cs.toArray).heap[D]? = some (.deferred (some [])) := (hother D (by omega)).trans hK
    have HB : Hid (Below w.heap.size w (W.drew.setRow (w.heap.size + 1 + 1) cs.toArray)) := Lib.hid (hbl.trans ⟨rfl, rfl, rfl, by simp, fun k hk => hother k (by omega)⟩)
    generalize W.drew.setRow (w.heap.size + 1 + 1) cs.toArray = W2 at *
    gi_wp2
    refine ⟨by simp, .inl ⟨_, _, rfl, run_takeDeferred hK2, ?_⟩⟩
    have hrow7 : (W2.putObj D (.deferred none)).heap[w.heap.size + 1 + 1]? = some (.cells cs.toArray 24 (0, 0)) := (World.putObj_heap_other (by omega)).trans hrow6
    refine ⟨_, results_two rfl _ _ _ ⟨w.heap.size + 1 + 1, 0, none⟩ rfl _ (loadA (by rw [hcs.out]; exact ⟨_, rfl⟩) hrow7), ?_, HB.out.trans (belowK_b (w := w) (Nat.le_refl _) W2 D _ _ (by omega) hK2 rfl rfl)⟩
    rw [← hS.out, hcs.out]
    rfl
  case stop =>
    rintro D c pre W _ _ h _
    exact h.elim
end Go.Proofs.YtgbliacncahooaaDoor
/- product of package field: a number times another one. No condition but that the numbers have 256 bits. -/
namespace Go.Proofs.YtgbliacncahooaaDoor
open Go.RowKit Go.Shelf
set_option linter.unusedVariables false
attribute [local go_sem] Oper.semAt_some

def PrI (w : World) (a : Nat) (f : Nat → Nat) (pre : List (Fin 4)) (W : World) : Prop :=
  (Row W w.heap.size 24 .u64 4 (dig a) ∧ Row W (w.heap.size + 1 + 1) 24 .u64 4 (prSt a f pre).1 ∧ Row W (w.heap.size + 1 + 1 + 1) 24 .u64 4 (dig (prSt a f pre).2)) ∧ Below w.heap.size w W
theorem prI_own (w : World) (a : Nat) (f : Nat → Nat) (B : Nat) (hB : w.heap.size + 4 ≤ B) : OwnFrom B (PrI w a f) := by
  rintro s W W' row ⟨⟨h1, h3, h4⟩, h5⟩ hg hr
  exact ⟨⟨row_own h1 (by omega) hg hr, row_own h3 (by omega) hg hr, row_own h4 (by omega) hg hr⟩, below_own h5 (by omega) h5.size hg hr⟩
theorem keeps_of_below {W W2 : World} (h : Below W.heap.size W W2) : KeepsOthers W W2 :=
  ⟨h.size, fun k o hk _ => (h.block k (Array.getElem?_eq_some_iff.1 hk).1).trans hk⟩
theorem keeps_setRow {W : World} {g : Nat} {cs cur : Array Value} {t : TypeId} {fr : Nat × Nat} (hg : W.heap[g]? = some (.cells cur t fr)) : KeepsOthers W (W.setRow g cs) :=
  KeepsOthers.of_grownBy (row := some g) ⟨rfl, rfl, rfl, by simp, fun k _ hk => setRow_other _ _ _ _ (fun e => hk (by rw [e]))⟩ (fun j o e ho => by cases e; rw [hg] at ho; cases ho; rfl)
theorem dig_zero (j : Nat) : dig 0 j = 0 := by unfold dig; split <;> rfl
theorem num_zero : (rowOf .u64 4 fun _ => 0).toArray = num 0 := by unfold num; rw [rowOf_ext (fun j _ => (dig_zero j).symm)]
theorem exec_new24 {ρ : Operand → Value} {o : Oper} (w : World) (x y : Operand) (ho : o.op = .store 24 x y) (c : Array Value) (t : TypeId) (hx : ρ x = .pointer (some ⟨w.heap.size, 0, none⟩)) (A : Array Value) (hA : IsNum A) (hy : ρ y = .agg A) (h4 : c.size = 4) :
    (execOp ρ o).run Tryd.prog (w.alloc (.cells c t)) = .ok .skip (w.alloc (.cells A t)) := by
  have h := exec_store24 (w.alloc (.cells c t)) x y ho w.heap.size hx A hA hy c t (heap_alloc_new _ _) h4
  rw [setRow_alloc _ _ _ _ _ _ rfl] at h
  exact h
theorem results_cells2 {fn : Func} {a b : Tmp} {t u : TypeId} (h : fn.results = #[.cell a t, .cell b u]) (tmps : Array Value) (P : Program) (w : World) (ad bd : Addr) (ha : tmps.getD a undef = .pointer (some ad)) (hb : tmps.getD b undef = .pointer (some bd)) (v x : Value)
    (hl : (loadVar t ad).run P w = .ok v w) (hl2 : (loadVar u bd).run P w = .ok x w) : (results fn tmps).run P w = .ok (.tuple #[v, x]) w := by
  have ha2 : tmps[a]?.getD undef = .pointer (some ad) := by rw [← Array.getD_eq_getD_getElem?]; exact ha
  have hb2 : tmps[b]?.getD undef = .pointer (some bd) := by rw [← Array.getD_eq_getD_getElem?]; exact hb
  unfold results
  rw [h]
  simp [Array.mapM_eq_mapM_toList, ha2, hb2, asAddr, hl, hl2]
/-- The words that one round leaves. -/
theorem prod_words (T : Nat) (hT : T / 115792089237316195423570985008687907853269984665640564039457584007913129639936 < 18446744073709551616) :
    T % 18446744073709551616 = dig (T % 115792089237316195423570985008687907853269984665640564039457584007913129639936) 0 ∧ num (T / 18446744073709551616) = #[.int .u64 (dig (T % 115792089237316195423570985008687907853269984665640564039457584007913129639936) 1), .int .u64 (dig (T % 115792089237316195423570985008687907853269984665640564039457584007913129639936) 2), .int .u64 (dig (T % 115792089237316195423570985008687907853269984665640564039457584007913129639936) 3), .int .u64 ((T / 115792089237316195423570985008687907853269984665640564039457584007913129639936 : Nat) : Int)] := by
  refine ⟨by rw [dig_0]; omega, ?_⟩
  have e0 : dig (T / 18446744073709551616) 0 = dig (T % 115792089237316195423570985008687907853269984665640564039457584007913129639936) 1 := by rw [dig_0, dig_1]; omega
  have e1 : dig (T / 18446744073709551616) 1 = dig (T % 115792089237316195423570985008687907853269984665640564039457584007913129639936) 2 := by rw [dig_1, dig_2]; omega
  have e2 : dig (T / 18446744073709551616) 2 = dig (T % 115792089237316195423570985008687907853269984665640564039457584007913129639936) 3 := by rw [dig_2, dig_3]; omega
  have e3 : dig (T / 18446744073709551616) 3 = T / 115792089237316195423570985008687907853269984665640564039457584007913129639936 := by rw [dig_3]; omega
  rw [← e0, ← e1, ← e2, ← e3]
  rfl
set_option maxRecDepth 100000 in
set_option maxHeartbeats 1000000 in
theorem product_any (a b : Nat) (ha : a < 115792089237316195423570985008687907853269984665640564039457584007913129639936) (hb : b < 115792089237316195423570985008687907853269984665640564039457584007913129639936) (w : World) :
    Calls Tryd.prog 62 #[.agg (num a), .agg (num b)] w fun e w' => e = .returned (.tuple #[.agg (num (a * b % 115792089237316195423570985008687907853269984665640564039457584007913129639936)), .agg (num (a * b / 115792089237316195423570985008687907853269984665640564039457584007913129639936))]) ∧ Below w.heap.size w w' := by
  obtain ⟨hall1, hall2⟩ := prSt_all a b ha hb
  rw [← hall1, ← hall2]
  have HOK := Lib.hid (prSt_ok a (dig b) ha (dig_lt b))
  have HF := Lib.hid (dig_lt b)
  have HA := Lib.hid ha
  clear hall1 hall2 ha hb
  rw [show num b = (rowOf .u64 4 (dig b)).toArray from rfl]
  generalize dig b = F at *
  refine (callsIn_wide (n := 6)).1 ?_
  refine callsIn_of_wp_marks Tryd.func62 rfl trivial ?_ rfl
  simp only [Tryd.ntmps62, List.size_toArray, List.length_cons, List.length_nil, Nat.reduceAdd, Nat.reduceSub, Array.replicate_succ, Array.replicate_zero, List.push_toArray, List.append_toArray, List.nil_append, List.cons_append]
  obtain ⟨ra, hra⟩ : ∃ ra, Hid (ra = num a) := ⟨_, Lib.hid rfl⟩
  obtain ⟨rb, hrb⟩ : ∃ rb, Hid (rb = (rowOf .u64 4 F).toArray) := ⟨_, Lib.hid rfl⟩
  rw [← hra.out, ← hrb.out]
  gi_wp2_with (first | (refine wpListIn_run rfl rfl rfl _ (exec_alloc_agg _ 24 rfl _ (zero24 _)) ?_) | (refine wpListIn_run rfl rfl rfl _ (exec_load_of _ 24 (.tmp 3) rfl ⟨w.heap.size + 1, 0, none⟩ rfl (.agg rb) ?ld) ?_))
  case ld =>
    rw [hrb.out]
    exact load24 (by unfold Row; rw [← hrb.out]; simp only [heapA, Array.getElem?_push, Array.size_push]; (repeat (first | rw [if_pos (by first | trivial | omega)] | rw [if_neg (by omega)])))
  gi_wp2_with (refine ⟨trivial, ?_⟩; gi_at_call 66; refine (words_in _ _ _).mono ?_; rintro e w' ⟨rfl, rfl⟩)
  have hrows : ∀ W0, W0 = ((((w.alloc (.cells ra 24)).alloc (.cells rb 24)).alloc (.cells (rowOf .u64 4 fun _ => 0).toArray 24)).alloc (.cells (rowOf .u64 4 fun _ => 0).toArray 24)).alloc (.cells rb 24) →
      PrI w a F [] W0 ∧ Row W0 (w.heap.size + 1 + 1 + 1 + 1) 24 .u64 4 F ∧ W0.heap.size = w.heap.size + 5 := by
    rintro W0 rfl
    refine ⟨⟨⟨?_, ?_, ?_⟩, ?_⟩, ?_, by simp⟩
    · unfold Row; rw [hra.out]; simp only [heapA, Array.getElem?_push, Array.size_push]; (repeat (first | rw [if_pos (by first | trivial | omega)] | rw [if_neg (by omega)])); rfl
    · unfold Row; simp only [heapA, Array.getElem?_push, Array.size_push]; (repeat (first | rw [if_pos (by first | trivial | omega)] | rw [if_neg (by omega)])); rfl
    · have e : rowOf .u64 4 (dig (prSt a F []).2) = rowOf .u64 4 (fun _ => 0) := rowOf_ext (fun j hj => dig_zero j)
      unfold Row; rw [e]; simp only [heapA, Array.getElem?_push, Array.size_push]; (repeat (first | rw [if_pos (by first | trivial | omega)] | rw [if_neg (by omega)]))
    · repeat (refine bel_alloc ?_ (by simp <;> omega) _)
      exact Below.refl _ _
    · unfold Row; rw [hrb.out]; simp only [heapA, Array.getElem?_push, Array.size_push]; (repeat (first | rw [if_pos (by first | trivial | omega)] | rw [if_neg (by omega)]))
  have hrows2 := hrows _ rfl
  clear hrows
  generalize ((((w.alloc (.cells ra 24)).alloc (.cells rb 24)).alloc (.cells (rowOf .u64 4 fun _ => 0).toArray 24)).alloc (.cells (rowOf .u64 4 fun _ => 0).toArray 24)).alloc (.cells rb 24) = W0 at *
  obtain ⟨hI0, hbox, hsz0⟩ := hrows2
  refine wpIn_rangeFunc_ownF rfl (by omega) (gf := 75) (lb := #[.pointer (some ⟨w.heap.size + 1 + 1 + 1 + 1, 0, none⟩)]) rfl trivial (enters_of Tryd.func75 (by kernel_rfl) rfl) (words_stops 5 (w.heap.size + 1 + 1 + 1 + 1) F W0 hbox (by omega))
    (fun _ _ => trivial) (fun _ _ _ _ _ _ _ _ => trivial) (Below.refl _ _) (fun _ => rfl)
    (PrI w a F) (fun _ _ _ => False) (prI_own w a F _ (by omega)) (fun _ _ _ _ _ hs _ _ => hs) hI0
    (fun x => { tmps := #[.agg ra, .agg rb, .pointer (some ⟨w.heap.size, 0, none⟩), .pointer (some ⟨w.heap.size + 1, 0, none⟩), .pointer (some ⟨w.heap.size + 1 + 1, 0, none⟩), .pointer (some ⟨w.heap.size + 1 + 1 + 1, 0, none⟩), .int .i64 (x.1 : Int), .int .u64 (F x.1 : Int), undef, undef, .agg rb, .func (.func 75) #[] #[.pointer (some ⟨w.heap.size + 1 + 1 + 1 + 1, 0, none⟩)], .int .i64 (x.1 : Int), .int .u64 (F x.1 : Int), undef, undef, undef, undef, undef, undef, undef, undef, undef, undef, undef, undef, undef, undef, undef, undef, undef, undef, undef, undef, undef], defers := [] }) ?assign ?body ?done ?stop
  case assign =>
    intro l x W K hK
    unfold encW
    gi_wp2
    exact hK
  case body =>
    rintro l pre x W ⟨⟨h2, h4, h5⟩, hbl⟩ _
    obtain ⟨hok1, hok2⟩ := HOK.out pre
    have hx4 := x.2
    have hy := HF.out x.1
    have hnew := prSt_snoc a F pre x
    have hT := mul_lt4 HA.out hy
    have hTT : ((prSt a F pre).2 + a * F x.1) / 115792089237316195423570985008687907853269984665640564039457584007913129639936 < 18446744073709551616 := by generalize a * F x.1 = z at *; omega
    obtain ⟨pw1, pw2⟩ := prod_words ((prSt a F pre).2 + a * F x.1) hTT
    have HP := Lib.hid (plus_any (prSt a F pre).2 a (F x.1) hok2 HA.out hy)
    have HL5 : Hid ((loadVar 24 ⟨w.heap.size + 1 + 1 + 1, 0, none⟩).run Tryd.prog W = .ok (.agg (num (prSt a F pre).2)) W) := Lib.hid (load24 h5)
    have HL2 : Hid ((loadVar 24 ⟨w.heap.size, 0, none⟩).run Tryd.prog W = .ok (.agg ra) W) := by rw [hra.out]; exact Lib.hid (load24 h2)
    rw [← hra.out] at HP
    have hszW := hbl.size
    have hl5 := h5.lt
    have hl4 := h4.lt
    have hl2 := h2.lt
    generalize hTe : (prSt a F pre).2 + a * F x.1 = T at *
    have HN1 : Hid ((prSt a F (pre ++ [x])).1 = upd (prSt a F pre).1 x.1 (dig (T % 115792089237316195423570985008687907853269984665640564039457584007913129639936) 0)) := by unfold Hid; rw [hnew, ← pw1, ← hTe]; rfl
    have HN2 : Hid ((prSt a F (pre ++ [x])).2 = T / 18446744073709551616) := by unfold Hid; rw [hnew, ← hTe]; rfl
    clear hTe hnew hT hTT pw1 hok1 hok2 hI0 hbox HOK HF
    obtain ⟨v, hv⟩ : ∃ v : Nat, v = T / 115792089237316195423570985008687907853269984665640564039457584007913129639936 := ⟨_, rfl⟩
    rw [← hv] at pw2 HP
    have hnumS : num (T % 115792089237316195423570985008687907853269984665640564039457584007913129639936) = #[.int .u64 (dig (T % 115792089237316195423570985008687907853269984665640564039457584007913129639936) 0), .int .u64 (dig (T % 115792089237316195423570985008687907853269984665640564039457584007913129639936) 1), .int .u64 (dig (T % 115792089237316195423570985008687907853269984665640564039457584007913129639936) 2), .int .u64 (dig (T % 115792089237316195423570985008687907853269984665640564039457584007913129639936) 3)] := rfl
    have HIS : Hid (IsNum #[.int .u64 (dig (T % 115792089237316195423570985008687907853269984665640564039457584007913129639936) 0), .int .u64 (dig (T % 115792089237316195423570985008687907853269984665640564039457584007913129639936) 1), .int .u64 (dig (T % 115792089237316195423570985008687907853269984665640564039457584007913129639936) 2), .int .u64 (dig (T % 115792089237316195423570985008687907853269984665640564039457584007913129639936) 3)]) := Lib.hid (isNum (T % 115792089237316195423570985008687907853269984665640564039457584007913129639936))
    rw [hnumS] at HP
    clear hnumS
    generalize dig (T % 115792089237316195423570985008687907853269984665640564039457584007913129639936) 0 = s0 at *
    generalize dig (T % 115792089237316195423570985008687907853269984665640564039457584007913129639936) 1 = s1 at *
    generalize dig (T % 115792089237316195423570985008687907853269984665640564039457584007913129639936) 2 = s2 at *
    generalize dig (T % 115792089237316195423570985008687907853269984665640564039457584007913129639936) 3 = s3 at *
    have HH := Lib.hid pw2
    have H2 := Lib.hid h2
    have H4 := Lib.hid h4
    have H5 := Lib.hid h5
    have HB := Lib.hid hbl
    clear pw2 h2 h4 h5 hbl hv
    obtain ⟨rh, hrh⟩ : ∃ rh, Hid (rh = num (prSt a F pre).2) := ⟨_, Lib.hid rfl⟩
    rw [← hrh.out] at HP HL5
    have HIH : Hid (IsNum #[.int .u64 (s1 : Int), .int .u64 (s2 : Int), .int .u64 (s3 : Int), .int .u64 (v : Int)]) := by rw [← HH.out]; exact Lib.hid (isNum _)
    generalize F x.1 = y at *
    gi_wp2_with (first | (refine wpListIn_run rfl rfl rfl _ (exec_load_of _ 24 (.tmp 5) rfl ⟨w.heap.size + 1 + 1 + 1, 0, none⟩ rfl _ HL5.out) ?_) | (refine wpListIn_run rfl rfl rfl _ (exec_load_of _ 24 (.tmp 2) rfl ⟨w.heap.size, 0, none⟩ rfl _ HL2.out) ?_))
    refine ⟨trivial, ?_⟩
    refine (CallsIn.inRound l (callsIn_wide.2 (HP.out _))).mono ?_
    rintro e w1 ⟨rfl, hb1⟩
    have R2 := Lib.hid (H2.out.below hb1)
    have R4 := Lib.hid (H4.out.below hb1)
    have R5 := Lib.hid (H5.out.below hb1)
    have HK1 := Lib.hid (keeps_of_below hb1)
    have HB1 := Lib.hid (HB.out.trans (hb1.mono hszW))
    have c4 : w1.cell? ⟨w.heap.size + 1 + 1, x.1, none⟩ = some _ := R4.out.cell x.1 hx4
    have f4 : w1.frozen? ⟨w.heap.size + 1 + 1, x.1, none⟩ = false := R4.out.free x.1
    have z1 : w.heap.size + 1 + 1 < w1.heap.size := R4.out.lt
    have z2 : w.heap.size + 1 + 1 + 1 < w1.heap.size := R5.out.lt
    have z3 : w.heap.size < w1.heap.size := R2.out.lt
    have y1 : ¬ w.heap.size + 1 + 1 = w1.heap.size := by omega
    have y2 : ¬ w1.heap.size = w.heap.size + 1 + 1 := by omega
    have y3 : ¬ w.heap.size + 1 + 1 + 1 = w1.heap.size := by omega
    have y4 : ¬ w1.heap.size = w.heap.size + 1 + 1 + 1 := by omega
    have HG5 : Hid (((w1.setCell ⟨w.heap.size + 1 + 1, x.1, none⟩ (.int .u64 (s0 : Int))).alloc (.cells #[.int .u64 (s0 : Int), .int .u64 (s1 : Int), .int .u64 (s2 : Int), .int .u64 (s3 : Int)] 24)).heap[w.heap.size + 1 + 1 + 1]? = some (.cells (num (prSt a F pre).2) 24 (0, 0))) := Lib.hid (Row.alloc (Row.other R5.out _ _ (by show w.heap.size + 1 + 1 + 1 ≠ w.heap.size + 1 + 1; omega)) _)
    have HS5 : Hid ((num (prSt a F pre).2).size = 4) := Lib.hid (rowOf_size _ _ _)
    clear HP HL5 HL2 H2 H4 H5 HB hb1 hszW hl5 hl4 hl2
    gi_wp2_with (first | (refine wpListIn_run rfl rfl rfl _ (exec_alloc_agg _ 24 rfl _ (zero24 _)) ?_) | (refine wpListIn_run0 rfl rfl rfl (exec_new24 _ (.tmp 8) (.tmp 19) rfl _ _ rfl _ HIS.out rfl (rowOf_size _ _ _)) ?_) | (refine wpListIn_run0 rfl rfl rfl (exec_store24 _ (.tmp 5) (.tmp 32) rfl (w.heap.size + 1 + 1 + 1) rfl _ HIH.out rfl _ 24 HG5.out HS5.out) ?_))
    have hA : Row ((w1.setCell ⟨w.heap.size + 1 + 1, x.1, none⟩ (.int .u64 (s0 : Int))).alloc (.cells #[.int .u64 (s0 : Int), .int .u64 (s1 : Int), .int .u64 (s2 : Int), .int .u64 (s3 : Int)] 24)) w.heap.size 24 .u64 4 (dig a) := Row.alloc (Row.other R2.out _ _ (by show w.heap.size ≠ w.heap.size + 1 + 1; omega)) _
    have hB4 : Row ((w1.setCell ⟨w.heap.size + 1 + 1, x.1, none⟩ (.int .u64 (s0 : Int))).alloc (.cells #[.int .u64 (s0 : Int), .int .u64 (s1 : Int), .int .u64 (s2 : Int), .int .u64 (s3 : Int)] 24)) (w.heap.size + 1 + 1) 24 .u64 4 (prSt a F (pre ++ [x])).1 := by rw [HN1.out]; exact Row.alloc (Row.set R4.out x.1 s0) _
    have hC : Row ((w1.setCell ⟨w.heap.size + 1 + 1, x.1, none⟩ (.int .u64 (s0 : Int))).alloc (.cells #[.int .u64 (s0 : Int), .int .u64 (s1 : Int), .int .u64 (s2 : Int), .int .u64 (s3 : Int)] 24)) (w.heap.size + 1 + 1 + 1) 24 .u64 4 (dig (prSt a F pre).2) := Row.alloc (Row.other R5.out _ _ (by show w.heap.size + 1 + 1 + 1 ≠ w.heap.size + 1 + 1; omega)) _
    have hKp : KeepsOthers W ((w1.setCell ⟨w.heap.size + 1 + 1, x.1, none⟩ (.int .u64 (s0 : Int))).alloc (.cells #[.int .u64 (s0 : Int), .int .u64 (s1 : Int), .int .u64 (s2 : Int), .int .u64 (s3 : Int)] 24)) := (HK1.out.trans (KeepsOthers.setCell _ _ _)).trans (KeepsOthers.alloc _ _)
    have hBl : Below w.heap.size w ((w1.setCell ⟨w.heap.size + 1 + 1, x.1, none⟩ (.int .u64 (s0 : Int))).alloc (.cells #[.int .u64 (s0 : Int), .int .u64 (s1 : Int), .int .u64 (s2 : Int), .int .u64 (s3 : Int)] 24)) := (HB1.out.setCell (p := ⟨w.heap.size + 1 + 1, x.1, none⟩) (by show w.heap.size ≤ w.heap.size + 1 + 1; omega) _).alloc (by simp [World.setCell]; omega) _
    generalize (w1.setCell ⟨w.heap.size + 1 + 1, x.1, none⟩ (.int .u64 (s0 : Int))).alloc (.cells #[.int .u64 (s0 : Int), .int .u64 (s1 : Int), .int .u64 (s2 : Int), .int .u64 (s3 : Int)] 24) = W5 at *
    refine ⟨hKp.trans (keeps_setRow hC), trivial, ⟨(setRow_other _ _ _ _ (by omega)).trans hA, (setRow_other _ _ _ _ (by omega)).trans hB4, ?_⟩, hBl.trans ⟨rfl, rfl, rfl, by simp, fun j hj => setRow_other _ _ _ _ (by omega)⟩⟩
    rw [HN2.out]
    unfold Row
    rw [show (rowOf .u64 4 (dig (T / 18446744073709551616))).toArray = num (T / 18446744073709551616) from rfl, HH.out]
    exact setRow_heap _ _ _ _ _ _ hC
  case done =>
    rintro D xs W hD rfl ⟨⟨h2, h4, h5⟩, hbl⟩ hK
    obtain ⟨S, hS⟩ : ∃ S, Hid (S = prSt a F (List.finRange 4)) := ⟨_, Lib.hid rfl⟩
    rw [← hS.out] at h4 h5
    obtain ⟨A4, hA4⟩ : ∃ A4, Hid (A4 = (rowOf .u64 4 S.1).toArray) := ⟨_, Lib.hid rfl⟩
    obtain ⟨A5, hA5⟩ : ∃ A5, Hid (A5 = num S.2) := ⟨_, Lib.hid rfl⟩
    have I4 : Hid (IsNum A4) := by unfold Hid; rw [hA4.out]; exact ⟨_, rfl⟩
    have I5 : Hid (IsNum A5) := by unfold Hid; rw [hA5.out]; exact isNum _
    have r4 : W.drew.heap[w.heap.size + 1 + 1]? = some (.cells A4 24 (0, 0)) := by rw [hA4.out]; exact h4
    have r5 : W.drew.heap[w.heap.size + 1 + 1 + 1]? = some (.cells A5 24 (0, 0)) := by rw [hA5.out]; exact h5
    have s4 : A4.size = 4 := by rw [hA4.out]; exact rowOf_size _ _ _
    have s5 : A5.size = 4 := by rw [hA5.out]; exact rowOf_size _ _ _
    gi_wp2
    refine wpIn_nrm ?_
    refine wpIn_region_any (by kernel_rfl) ?_
    change wpAnyIn _ _ _ _ _ _ _ _ _ (World.drew _)
    refine anyIn_of_G (T := fun i => i == 0 || i == 1) (S := fun i w2 => (i = 0 → (loadVar 24 ⟨w.heap.size + 1 + 1, 0, none⟩).run Tryd.prog w2 = .ok (.agg A4) w2) ∧ (i = 1 → (loadVar 24 ⟨w.heap.size + 1 + 1 + 1, 0, none⟩).run Tryd.prog w2 = .ok (.agg A5) w2)) _ _ _ _ ?_
    refine AnyG.take 0 (some 33) (.load 24 (.tmp 4)) (.agg A4) rfl rfl (fun _ e => by cases e) (by kernel_rfl) (by kernel_rfl) (by kernel_rfl) (by kernel_rfl) rfl (fun _ _ _ h => h) (fun o ho w2 hw => exec_load_of _ 24 (.tmp 4) ho ⟨w.heap.size + 1 + 1, 0, none⟩ rfl _ (hw.1 rfl)) ⟨fun _ => loadA I4.out r4, fun e => (by cases e)⟩ ?_
    simp only [Act.put, sT, sS, sZ]
    refine AnyG.take 1 (some 34) (.load 24 (.tmp 5)) (.agg A5) rfl rfl (fun _ e => by cases e) (by kernel_rfl) (by kernel_rfl) (by kernel_rfl) (by kernel_rfl) rfl (fun _ _ _ h => h) (fun o ho w2 hw => exec_load_of _ 24 (.tmp 5) ho ⟨w.heap.size + 1 + 1 + 1, 0, none⟩ rfl _ (hw.2 rfl)) ⟨fun e => (by cases e), fun _ => loadA I5.out r5⟩ ?_
    simp only [Act.put, sT, sS, sZ]
    have q4 : (W.drew.setRow (w.heap.size + 1 + 1) A4).heap[w.heap.size + 1 + 1]? = some (.cells A4 24 (0, 0)) := setRow_heap _ _ _ _ _ _ r4
    have q5 : (W.drew.setRow (w.heap.size + 1 + 1) A4).heap[w.heap.size + 1 + 1 + 1]? = some (.cells A5 24 (0, 0)) := (setRow_other _ _ _ _ (by omega)).trans r5
    have p4 : ((W.drew.setRow (w.heap.size + 1 + 1) A4).setRow (w.heap.size + 1 + 1 + 1) A5).heap[w.heap.size + 1 + 1]? = some (.cells A4 24 (0, 0)) := (setRow_other _ _ _ _ (by omega)).trans q4
    have p5 : ((W.drew.setRow (w.heap.size + 1 + 1) A4).setRow (w.heap.size + 1 + 1 + 1) A5).heap[w.heap.size + 1 + 1 + 1]? = some (.cells A5 24 (0, 0)) := setRow_heap _ _ _ _ _ _ q5
    refine AnyG.ready (rs := [2]) (by kernel_rfl) (by simp) (ReadyG.skip (w2 := W.drew.setRow (w.heap.size + 1 + 1) A4) (.store 24 (.tmp 4) (.tmp 33)) rfl rfl (fun _ e => by cases e) (fun o ho => exec_store24 W.drew (.tmp 4) (.tmp 33) ho (w.heap.size + 1 + 1) rfl A4 I4.out rfl _ 24 r4 s4) rfl ?hk ?_ ReadyG.nil)
    case hk =>
      intro x _ _ _
      exact ⟨fun _ => loadA I4.out q4, fun _ => loadA I5.out q5⟩
    refine AnyG.ready (rs := [3]) (by kernel_rfl) (by simp) (ReadyG.skip (w2 := (W.drew.setRow (w.heap.size + 1 + 1) A4).setRow (w.heap.size + 1 + 1 + 1) A5) (.store 24 (.tmp 5) (.tmp 34)) rfl rfl (fun _ e => by cases e) (fun o ho => exec_store24 _ (.tmp 5) (.tmp 34) ho (w.heap.size + 1 + 1 + 1) rfl A5 I5.out rfl _ 24 q5 s5) rfl ?hk2 ?_ ReadyG.nil)
    case hk2 =>
      intro x _ _ _
      exact ⟨fun _ => loadA I4.out p4, fun _ => loadA I5.out p5⟩
    refine AnyG.done (by kernel_rfl) ?_ _
    refine nrm_intro ?_
    have hK2 : ((W.drew.setRow (w.heap.size + 1 + 1) A4).setRow (w.heap.size + 1 + 1 + 1) A5).heap[D]? = some (.deferred (some [])) := (setRow_other _ _ _ _ (by omega)).trans ((setRow_other _ _ _ _ (by omega)).trans hK)
    have HB : Hid (Below w.heap.size w ((W.drew.setRow (w.heap.size + 1 + 1) A4).setRow (w.heap.size + 1 + 1 + 1) A5)) := Lib.hid (hbl.trans ⟨rfl, rfl, rfl, by simp, fun k hk => (setRow_other _ _ _ _ (by omega)).trans (setRow_other _ _ _ _ (by omega))⟩)
    clear q4 q5
    generalize (W.drew.setRow (w.heap.size + 1 + 1) A4).setRow (w.heap.size + 1 + 1 + 1) A5 = W2 at *
    gi_wp2
    refine ⟨by simp, .inl ⟨_, _, rfl, run_takeDeferred hK2, ?_⟩⟩
    have t4 : (W2.putObj D (.deferred none)).heap[w.heap.size + 1 + 1]? = some (.cells A4 24 (0, 0)) := (World.putObj_heap_other (by omega)).trans p4
    have t5 : (W2.putObj D (.deferred none)).heap[w.heap.size + 1 + 1 + 1]? = some (.cells A5 24 (0, 0)) := (World.putObj_heap_other (by omega)).trans p5
    refine ⟨_, results_cells2 rfl _ _ _ ⟨w.heap.size + 1 + 1, 0, none⟩ ⟨w.heap.size + 1 + 1 + 1, 0, none⟩ rfl rfl _ _ (loadA I4.out t4) (loadA I5.out t5), ?_, HB.out.trans (belowK_b (w := w) (Nat.le_refl _) W2 D _ _ (by omega) hK2 rfl rfl)⟩
    rw [← hS.out, hA4.out, hA5.out]
  case stop =>
    rintro D c pre W _ _ h _
    exact h.elim
end Go.Proofs.YtgbliacncahooaaDoor
/- cut of package field, and what every function of it over numbers wants. No condition but that the number has 256 bits. -/
namespace Go.Proofs.YtgbliacncahooaaDoor
open Go.RowKit Go.Shelf
set_option linter.unusedVariables false
theorem andNot_top (x : Nat) (hx : x < 18446744073709551616) : bits .andNot .u64 (x : Int) 9223372036854775808 = ((x % 9223372036854775808 : Nat) : Int) := by
  have h1 : (BitVec.ofInt 64 (x : Int)).toNat = x := by
    rw [BitVec.ofInt_natCast, BitVec.toNat_ofNat]; exact Nat.mod_eq_of_lt (by omega)
  show IntKind.u64.wrap ((BitVec.ofInt 64 (x : Int) &&& ~~~ BitVec.ofInt 64 9223372036854775808).toNat : Int) = _
  have h2 : (~~~ BitVec.ofInt 64 9223372036854775808).toNat = 2 ^ 63 - 1 := by decide
  rw [BitVec.toNat_and, h1, h2, Nat.and_two_pow_sub_one_eq_mod, wrap_id (by have := Nat.mod_lt x (show 0 < 2 ^ 63 by decide); omega)]
theorem num_lit (N : Nat) : num N = #[.int .u64 (dig N 0 : Int), .int .u64 (dig N 1 : Int), .int .u64 (dig N 2 : Int), .int .u64 (dig N 3 : Int)] := rfl
theorem cut_words (N : Nat) (hN : N < 115792089237316195423570985008687907853269984665640564039457584007913129639936) : num (N % 57896044618658097711785492504343953926634992332820282019728792003956564819968) = #[.int .u64 (dig N 0 : Int), .int .u64 (dig N 1 : Int), .int .u64 (dig N 2 : Int), .int .u64 ((dig N 3 % 9223372036854775808 : Nat) : Int)] := by
  have e0 : dig (N % 57896044618658097711785492504343953926634992332820282019728792003956564819968) 0 = dig N 0 := by rw [dig_0, dig_0]; omega
  have e1 : dig (N % 57896044618658097711785492504343953926634992332820282019728792003956564819968) 1 = dig N 1 := by rw [dig_1, dig_1]; omega
  have e2 : dig (N % 57896044618658097711785492504343953926634992332820282019728792003956564819968) 2 = dig N 2 := by rw [dig_2, dig_2]; omega
  have e3 : dig (N % 57896044618658097711785492504343953926634992332820282019728792003956564819968) 3 = dig N 3 % 9223372036854775808 := by rw [dig_3, dig_3]; omega
  rw [num_lit, e0, e1, e2, e3]
set_option maxRecDepth 100000 in
set_option maxHeartbeats 1000000 in
theorem cut_any (N : Nat) (hN : N < 115792089237316195423570985008687907853269984665640564039457584007913129639936) (w : World) :
    Calls Tryd.prog 61 #[.agg (num N)] w fun e w' => e = .returned (.agg (num (N % 57896044618658097711785492504343953926634992332820282019728792003956564819968))) ∧ Below w.heap.size w w' := by
  rw [cut_words N hN]
  have hb := andNot_top (dig N 3) (dig_lt N 3)
  rw [num_lit]
  generalize dig N 3 % 9223372036854775808 = m3 at *
  generalize dig N 0 = n0 at *
  generalize dig N 1 = n1 at *
  generalize dig N 2 = n2 at *
  generalize dig N 3 = n3 at *
  have hz : ∀ w : World, (zeroValue 24).run Tryd.prog w = .ok (.agg #[.int .u64 0, .int .u64 0, .int .u64 0, .int .u64 0]) w := fun w => by kernel_rfl
  clear hN
  go_enter Tryd.func61, Tryd.ntmps61
  go_wp2
  exact bodyPost_ret (v := .agg #[.int .u64 n0, .int .u64 n1, .int .u64 n2, .int .u64 m3]) (by simp [results, Tryd.results61, go_sem]) rfl ⟨rfl, by
    repeat (refine bel_alloc ?_ (by simp <;> omega) _)
    exact Below.refl _ _⟩
theorem bcell {W w1 : World} (hb : Below W.heap.size W w1) : (∀ b o, b < W.heap.size → w1.cell? ⟨b, o, none⟩ = W.cell? ⟨b, o, none⟩) ∧ (∀ b o, b < W.heap.size → w1.frozen? ⟨b, o, none⟩ = W.frozen? ⟨b, o, none⟩) :=
  ⟨fun b o h => hb.cell (p := ⟨b, o, none⟩) h, fun b o h => hb.frozen (p := ⟨b, o, none⟩) h⟩
end Go.Proofs.YtgbliacncahooaaDoor
/- Which numbers lie where: what a walk over blocks of four words knows; and operations under guards in a region that draws its order. No condition. -/
namespace Go.Proofs.YtgbliacncahooaaDoor
open Go.RowKit Go.Shelf
set_option linter.unusedVariables false
set_option linter.unusedSimpArgs false
section
variable {P : Program} {ops : Array Oper} {Q : Exit → Act → World → Prop} {md : Region.Mode} {S : World → Prop} {f n : Nat} {listed : Array Bool} {a : Act} {w w2 : World} {rs : List Nat}
/-- As AnyF.take, where nothing is last, for an operation whose guard is met. -/
theorem AnyF.takeG (hfn : ops[f]? = none) (i : Nat) (d : Option Tmp) (opr : Op) (gd : Option (Nat × Bool)) (v : Value) (ho : (ops[i]?).map (fun o => (o.dst, o.op, o.guard)) = some (d, opr, gd)) (hs : Region.noSelect ops = true) (hf : Region.free md ops listed i = true) (hr : (Region.ready md ops listed).contains i = true)
    (hQ : ∀ c a w, Q (.panic c) (a.put d v) w → Q (.panic c) a w) (hif : (i == f) = false) (hw : ∀ o, ops[i]? = some o → Region.wanted o (yielded ops a.tmps) = true) (hy : ∀ (o : Oper), o.op = opr → ∀ w, S w → (execOp a.eval o).run P w = .ok (.value v) w) (hS : S w)
    (h : AnyF P md ops Q S f n (listed.setIfInBounds i true) (a.put d v) w) : AnyF P md ops Q S f (n + 1) listed a w := by
  cases hq : ops[i]? with
  | none => simp [hq] at ho
  | some o =>
    have hw2 := hw o hq
    simp [hq] at ho
    obtain ⟨rfl, rfl, hg⟩ := ho
    exact AnyF.first hq (Region.noSelect_spec hs) hQ (by simpa using hif) (fun o2 ho2 => by rw [hfn] at ho2; cases ho2) n listed a w (Region.free_spec hq hf) (by simpa using hr) (Or.inl ⟨hw2, hy o rfl⟩) hS h
theorem ReadyF.consG {i : Nat} {o : Oper} (ho : ops[i]? = some o) (hw : Region.wanted o (yielded ops a.tmps) = true)
    (h : ∀ K : Act → World → Prop, (∀ a' w', (i ≠ f → S w' ∧ AnyF P md ops Q S f n (listed.setIfInBounds i true) a' w') ∧ (i = f → wpAny P md ops Q n (listed.setIfInBounds i true) a' w') → K a' w') → Oper.wp P o a w K Q) (hs : ReadyF P md ops Q S f n listed a w rs) : ReadyF P md ops Q S f n listed a w (i :: rs) := fun j hj => by
  rcases List.mem_cons.1 hj with rfl | hj
  · refine wpOp_step ho (fun K hK => ?_)
    rw [if_pos hw]
    exact h K hK
  · exact hs j hj
theorem ReadyF.callG {i : Nat} (d : Option Tmp) (g : FuncId) (args : Array Operand) (tys : Array TypeId) (gd : Option (Nat × Bool)) (ho : (ops[i]?).map (fun o => (o.dst, o.op, o.guard)) = some (d, .call { callee := .value (.func g), args := args, argTypes := tys }, gd)) (hw : ∀ o, ops[i]? = some o → Region.wanted o (yielded ops a.tmps) = true)
    (avs : Array Value) (has : args.map a.eval = avs) (eg : ∀ args w, (callFunc g args).run P w = .ok (.enter g args) w) (R : Ending → World → Prop) (hc : Calls P g avs w R)
    (hK : ∀ v w', R (.returned v) w' → S w' ∧ AnyF P md ops Q S f n (listed.setIfInBounds i true) (a.put d v) w') (hnp : ∀ c w', ¬ R (.panicked c) w') (hno : ∀ w', ¬ R .outgrown w')
    (hs : ReadyF P md ops Q S f n listed a w rs) (hif : i ≠ f := by decide) : ReadyF P md ops Q S f n listed a w (i :: rs) := by
  cases hq : ops[i]? with
  | none => simp [hq] at ho
  | some o =>
    have hw2 := hw o hq
    simp [hq] at ho
    obtain ⟨rfl, hop, hg⟩ := ho
    refine ReadyF.consG hq hw2 (fun K hK2 => ?_) hs
    have hev : a.eval (.func g) = .func (.func g) #[] #[] := rfl
    have hres : (resolve a.eval { callee := .value (.func g), args := args, argTypes := tys } o.type).run P w = .ok { target := .fn (.func g) #[], args := avs } w := by
      simp [resolve, hev, has, Deferred.ofValue]
    have hx : (execOp a.eval o).run P w = .ok (.enter g avs) w := by
      unfold execOp
      simp only [hop, Sem.run_bind, hres, Result.andThen_ok, invoke]
      simp [eg]
    unfold Oper.wp
    rw [hx]
    refine hc.mono ?_
    intro e w' hr
    cases e with
    | returned v => exact hK2 _ _ ⟨fun _ => hK v w' hr, fun e => absurd e hif⟩
    | panicked c => exact (hnp c w' hr).elim
    | outgrown => exact (hno w' hr).elim
theorem ReadyF.opG {i : Nat} (d : Option Tmp) (opr : Op) (gd : Option (Nat × Bool)) (ho : (ops[i]?).map (fun o => (o.dst, o.op, o.guard)) = some (d, opr, gd)) (hw : ∀ o, ops[i]? = some o → Region.wanted o (yielded ops a.tmps) = true) (v : Value)
    (hrun : ∀ o : Oper, o.op = opr → (execOp a.eval o).run P w = .ok (.value v) w2) (hS : S w2) (h : AnyF P md ops Q S f n (listed.setIfInBounds i true) (a.put d v) w2)
    (hs : ReadyF P md ops Q S f n listed a w rs) (hif : i ≠ f := by decide) : ReadyF P md ops Q S f n listed a w (i :: rs) := by
  cases hq : ops[i]? with
  | none => simp [hq] at ho
  | some o =>
    have hw2 := hw o hq
    simp [hq] at ho
    obtain ⟨rfl, rfl, hg⟩ := ho
    exact ReadyF.consG hq hw2 (fun K hK => by unfold Oper.wp; rw [hrun o rfl]; exact hK _ _ ⟨fun _ => ⟨hS, h⟩, fun e => absurd e hif⟩) hs
end

/-- Since w0 nothing that lay has turned; these blocks hold these rows. -/
def Kn (w0 : World) (l : List (Nat × Array Value)) (w : World) : Prop := Below w0.heap.size w0 w ∧ ∀ p ∈ l, w.heap[p.1]? = some (.cells p.2 24 (0, 0))
theorem Kn.get {w0 w : World} {l : List (Nat × Array Value)} (h : Kn w0 l w) (g : Nat) (A : Array Value) (hm : (g, A) ∈ l) : w.heap[g]? = some (.cells A 24 (0, 0)) := h.2 (g, A) hm
theorem Kn.lt {w0 w : World} {l : List (Nat × Array Value)} (h : Kn w0 l w) (g : Nat) (A : Array Value) (hm : (g, A) ∈ l) : g < w.heap.size := (Array.getElem?_eq_some_iff.1 (h.get g A hm)).1
theorem Kn.below {w0 w w2 : World} {l : List (Nat × Array Value)} (h : Kn w0 l w) (hb : Below w.heap.size w w2) : Kn w0 l w2 :=
  ⟨h.1.trans (hb.mono h.1.size), fun p hp => (hb.block p.1 (Array.getElem?_eq_some_iff.1 (h.2 p hp)).1).trans (h.2 p hp)⟩
theorem Kn.drew {w0 w : World} {l : List (Nat × Array Value)} (h : Kn w0 l w) : Kn w0 l w.drew := ⟨h.1.drew, h.2⟩
theorem Kn.alloc {w0 w : World} {l : List (Nat × Array Value)} (h : Kn w0 l w) (o : Obj) : Kn w0 l (w.alloc o) := h.below ((Below.refl _ w).alloc (Nat.le_refl _) o)
theorem Kn.new {w0 w : World} {l : List (Nat × Array Value)} (h : Kn w0 l w) (A : Array Value) : Kn w0 ((w.heap.size, A) :: l) (w.alloc (.cells A 24)) :=
  ⟨(h.alloc _).1, fun p hp => by
    rcases List.mem_cons.1 hp with rfl | hp
    · exact heap_alloc_new w _
    · exact (h.alloc _).2 p hp⟩
theorem Kn.nil (w : World) : Kn w [] w := ⟨Below.refl _ _, fun p hp => by cases hp⟩
theorem Kn.sub {w0 w : World} {l m : List (Nat × Array Value)} (h : Kn w0 l w) (hs : ∀ p ∈ m, p ∈ l) : Kn w0 m w := ⟨h.1, fun p hp => h.2 p (hs p hp)⟩
theorem Kn.add {w0 w : World} {l : List (Nat × Array Value)} (h : Kn w0 l w) (g : Nat) (A : Array Value) (hg : w.heap[g]? = some (.cells A 24 (0, 0))) : Kn w0 ((g, A) :: l) w :=
  ⟨h.1, fun p hp => by
    rcases List.mem_cons.1 hp with rfl | hp
    · exact hg
    · exact h.2 p hp⟩
/-- A store into one of them. -/
theorem Kn.set {w0 w : World} {l m : List (Nat × Array Value)} (h : Kn w0 l w) (g : Nat) (A B : Array Value) (hg : w.heap[g]? = some (.cells B 24 (0, 0))) (hw : w0.heap.size ≤ g) (hm : ∀ p ∈ m, p = (g, A) ∨ (p ∈ l ∧ p.1 ≠ g)) : Kn w0 m (w.setRow g A) :=
  ⟨h.1.trans ⟨rfl, rfl, rfl, by simp, fun k hk => setRow_other _ _ _ _ (by omega)⟩, fun p hp => by
    rcases hm p hp with rfl | ⟨h1, h2⟩
    · exact setRow_heap _ _ _ _ _ _ hg
    · exact (setRow_other _ _ _ _ h2).trans (h.2 p h1)⟩
theorem Kn.load {w0 w : World} {l : List (Nat × Array Value)} (h : Kn w0 l w) (g : Nat) (A : Array Value) (hm : (g, A) ∈ l) (hA : IsNum A) : (loadVar 24 ⟨g, 0, none⟩).run Tryd.prog w = .ok (.agg A) w := loadA hA (h.get g A hm)
theorem Kn.cell {w0 w : World} {l : List (Nat × Array Value)} (h : Kn w0 l w) (g : Nat) (A : Array Value) (hm : (g, A) ∈ l) (j : Nat) : w.cell? ⟨g, j, none⟩ = A[j]? := cell_of_row w g j A 24 (0, 0) (h.get g A hm)
theorem IsNum.size {A : Array Value} (h : IsNum A) : A.size = 4 := by obtain ⟨f, rfl⟩ := h; exact rowOf_size _ _ _
theorem num_get (N j : Nat) (hj : j < 4) : (num N)[j]? = some (.int .u64 (dig N j : Int)) := by
  unfold num
  rw [List.getElem?_toArray, rowOf_get _ _ _ _ hj]
theorem exec_store_kn {ρ : Operand → Value} {o : Oper} {w0 : World} (w : World) {l : List (Nat × Array Value)} (h : Kn w0 l w) (x y : Operand) (ho : o.op = .store 24 x y) (g : Nat) (hx : ρ x = .pointer (some ⟨g, 0, none⟩)) (A : Array Value) (hA : IsNum A) (hy : ρ y = .agg A)
    (B : Array Value) (hB : IsNum B) (hm : (g, B) ∈ l) : (execOp ρ o).run Tryd.prog w = .ok .skip (w.setRow g A) :=
  exec_store24 w x y ho g hx A hA hy B 24 (h.get g B hm) hB.size
theorem zero_run (w : World) : (zeroValue 24).run Tryd.prog w = .ok (.agg (num 0)) w := by rw [← num_zero]; exact zero24 w
theorem build_lit (n : Nat) (w : World) : (Instr.build 24 #[(0, .int .u64 (n : Int))]).run Tryd.prog w = .ok (.agg #[.int .u64 (n : Int), .int .u64 0, .int .u64 0, .int .u64 0]) w := by kernel_rfl
theorem build_run (n : Nat) (hn : n < 18446744073709551616) (w : World) : (Instr.build 24 #[(0, .int .u64 (n : Int))]).run Tryd.prog w = .ok (.agg (num n)) w := by
  have h : num n = #[.int .u64 (n : Int), .int .u64 0, .int .u64 0, .int .u64 0] := by
    rw [num_lit, dig_0, dig_1, dig_2, dig_3, Nat.mod_eq_of_lt hn, Nat.div_eq_of_lt hn, Nat.div_eq_of_lt (by omega), Nat.div_eq_of_lt (by omega)]
    rfl
  rw [h]
  exact build_lit n w
theorem build0_run (w : World) : (Instr.build 24 #[]).run Tryd.prog w = .ok (.agg (num 0)) w := by kernel_rfl
theorem exec_pickt {P : Program} {ρ : Operand → Value} {o : Oper} (x y z : Operand) (ho : o.op = .pick x y z) (hx : ρ x = .bool true) (v : Value) (hy : ρ y = v) (w : World) : (execOp ρ o).run P w = .ok (.value v) w := by
  subst hy
  unfold execOp
  rw [ho]
  simp only [hx]
  go_simp
theorem exec_pickf {P : Program} {ρ : Operand → Value} {o : Oper} (x y z : Operand) (ho : o.op = .pick x y z) (hx : ρ x = .bool false) (v : Value) (hz : ρ z = v) (w : World) : (execOp ρ o).run P w = .ok (.value v) w := by
  subst hz
  unfold execOp
  rw [ho]
  simp only [hx]
  go_simp
theorem wp_cut {P : Program} {c : Code} {Q : Exit → Act → World → Prop} {a : Act} {w : World} (K : Act → World → Prop) (h : c.wp P (Nrm K) a w) (h2 : ∀ a w, K a w → Q .normal a w) : c.wp P Q a w :=
  wp_nrm ((wpIn_wide (n := 0)).1 (wpIn_mono ((wpIn_wide (n := 0)).2 h) (fun e a w h => by cases e <;> first | exact h2 _ _ h | exact h.elim)))
theorem num_inj {a b : Nat} (ha : a < 115792089237316195423570985008687907853269984665640564039457584007913129639936) (hb : b < 115792089237316195423570985008687907853269984665640564039457584007913129639936) (h0 : dig a 0 = dig b 0) (h1 : dig a 1 = dig b 1) (h2 : dig a 2 = dig b 2) (h3 : dig a 3 = dig b 3) : a = b := by
  rw [← val_dig a ha, ← val_dig b hb]
  unfold valN
  rw [h0, h1, h2, h3]
theorem eq24 (a0 a1 a2 a3 b0 b1 b2 b3 : Nat) (w : World) : (Op.equalIn 10000 24 (.agg #[.int .u64 (a0 : Int), .int .u64 (a1 : Int), .int .u64 (a2 : Int), .int .u64 (a3 : Int)]) (.agg #[.int .u64 (b0 : Int), .int .u64 (b1 : Int), .int .u64 (b2 : Int), .int .u64 (b3 : Int)])).run Tryd.prog w =
    .ok (decide (a0 = b0) && (decide (a1 = b1) && (decide (a2 = b2) && decide (a3 = b3)))) w := by
  have u3 := Tryd.underlying22
  have a3' := Tryd.isAgg22
  have z3 := Tryd.sizeOf22
  rw [show (10000 : Nat) = 9999 + 1 from rfl, Op.equalIn]
  simp only [Sem.run_bind, run_underlying Tryd.underlying24, Result.andThen_ok]
  simp only [Std.Legacy.Range.forIn_eq_forIn_range', Std.Legacy.Range.size, Nat.sub_zero, Nat.add_sub_cancel, Nat.div_one, List.range'_succ, List.range'_zero, List.forIn_cons, List.forIn_nil]
  go_simp
  by_cases h0 : a0 = b0 <;> by_cases h1 : a1 = b1 <;> by_cases h2 : a2 = b2 <;> by_cases h3 : a3 = b3 <;> simp [h0, h1, h2, h3] <;> omega
theorem exec_eql {ρ : Operand → Value} {o : Oper} (x y : Operand) (ho : o.op = .binOp .eql 24 x y 24) (a b : Nat) (ha : a < 115792089237316195423570985008687907853269984665640564039457584007913129639936) (hb : b < 115792089237316195423570985008687907853269984665640564039457584007913129639936) (hx : ρ x = .agg (num a)) (hy : ρ y = .agg (num b)) (v : Bool) (hv : v = decide (a = b)) (w : World) :
    (execOp ρ o).run Tryd.prog w = .ok (.value (.bool v)) w := by
  subst hv
  unfold execOp
  rw [ho]
  simp only [hx, hy]
  rw [num_lit, num_lit]
  have h := eq24 (dig a 0) (dig a 1) (dig a 2) (dig a 3) (dig b 0) (dig b 1) (dig b 2) (dig b 3) w
  have hd : (decide (dig a 0 = dig b 0) && (decide (dig a 1 = dig b 1) && (decide (dig a 2 = dig b 2) && decide (dig a 3 = dig b 3)))) = decide (a = b) := by
    by_cases e : a = b
    · subst e; simp
    · rw [decide_eq_false e]
      apply Bool.eq_false_iff.2
      intro hc
      simp at hc
      exact e (num_inj ha hb hc.1 hc.2.1 hc.2.2.1 hc.2.2.2)
  rw [hd] at h
  go_simp
section
variable {P : Program} {ops : Array Oper} {Q : Exit → Act → World → Prop} {md : Region.Mode} {S : World → Prop} {f n : Nat} {listed : Array Bool} {a : Act} {w w2 : World} {rs : List Nat}
/-- As AnyF.takeG, what is plain left to be found. -/
theorem tkG (i : Nat) (d : Option Tmp) (opr : Op) (gd : Option (Nat × Bool)) (v : Value) (hy : ∀ (o : Oper), o.op = opr → ∀ w, S w → (execOp a.eval o).run P w = .ok (.value v) w) (hS : S w) (h : AnyF P md ops Q S f n (listed.setIfInBounds i true) (a.put d v) w)
    (hfn : ops[f]? = none := by rfl) (ho : (ops[i]?).map (fun o => (o.dst, o.op, o.guard)) = some (d, opr, gd) := by rfl) (hs : Region.noSelect ops = true := by kernel_rfl) (hf : Region.free md ops listed i = true := by kernel_rfl) (hr : (Region.ready md ops listed).contains i = true := by kernel_rfl)
    (hQ : ∀ c a w, Q (.panic c) (a.put d v) w → Q (.panic c) a w := by exact fun _ _ _ h => h) (hif : (i == f) = false := by rfl) (hw : ∀ o, ops[i]? = some o → Region.wanted o (yielded ops a.tmps) = true := by exact fun o h => by obtain rfl := Option.some.inj h; rfl) : AnyF P md ops Q S f (n + 1) listed a w :=
  AnyF.takeG hfn i d opr gd v ho hs hf hr hQ hif hw hy hS h
theorem rclG {i : Nat} (d : Option Tmp) (g : FuncId) (args : Array Operand) (tys : Array TypeId) (gd : Option (Nat × Bool)) (avs : Array Value) (eg : ∀ args w, (callFunc g args).run P w = .ok (.enter g args) w) (R : Ending → World → Prop) (hc : Calls P g avs w R)
    (hK : ∀ v w', R (.returned v) w' → S w' ∧ AnyF P md ops Q S f n (listed.setIfInBounds i true) (a.put d v) w') (hs : ReadyF P md ops Q S f n listed a w rs)
    (ho : (ops[i]?).map (fun o => (o.dst, o.op, o.guard)) = some (d, .call { callee := .value (.func g), args := args, argTypes := tys }, gd) := by rfl) (hw : ∀ o, ops[i]? = some o → Region.wanted o (yielded ops a.tmps) = true := by exact fun o h => by obtain rfl := Option.some.inj h; rfl) (has : args.map a.eval = avs := by simp [Act.eval])
    (hnp : ∀ c w', ¬ R (.panicked c) w' := by exact fun c w' h => by cases h.1) (hno : ∀ w', ¬ R .outgrown w' := by exact fun w' h => by cases h.1) (hif : i ≠ f := by decide) : ReadyF P md ops Q S f n listed a w (i :: rs) :=
  ReadyF.callG d g args tys gd ho hw avs has eg R hc hK hnp hno hs hif
end
end Go.Proofs.YtgbliacncahooaaDoor
/- Norm of package field: a number modulo the prime. No condition but that the number has 256 bits. -/
namespace Go.Proofs.YtgbliacncahooaaDoor
open Go.RowKit Go.Shelf
set_option linter.unusedVariables false
attribute [local go_sem] Oper.semAt_some
theorem enters61 : ∀ args w, (callFunc 61 args).run Tryd.prog w = .ok (.enter 61 args) w := enters_of Tryd.func61 (by kernel_rfl) rfl
theorem enters60 : ∀ args w, (callFunc 60 args).run Tryd.prog w = .ok (.enter 60 args) w := enters_of Tryd.func60 (by kernel_rfl) rfl
theorem top_shr (N : Nat) (hN : N < 115792089237316195423570985008687907853269984665640564039457584007913129639936) : ((dig N 3 : Nat) : Int) / 9223372036854775808 = ((N / 57896044618658097711785492504343953926634992332820282019728792003956564819968 : Nat) : Int) := by
  rw [dig_3]; omega
set_option maxRecDepth 100000 in
set_option maxHeartbeats 1000000 in
theorem norm_any (N : Nat) (hN : N < 115792089237316195423570985008687907853269984665640564039457584007913129639936) (w : World) :
    Calls Tryd.prog 39 #[.agg (num N)] w fun e w' => e = .returned (.agg (num (N % pp))) ∧ Below w.heap.size w w' := by
  have hpp : pp = 57896044618658097711785492504343953926634992332820282019728792003956564819949 := rfl
  have hsh := top_shr N hN
  have hA3 := num_get N 3 (by decide)
  obtain ⟨q, hq⟩ : ∃ q, q = N / 57896044618658097711785492504343953926634992332820282019728792003956564819968 := ⟨_, rfl⟩
  have hq1 : q ≤ 1 := by omega
  rw [← hq] at hsh
  have HC1 := Lib.hid (cut_any N hN)
  have HP1 := Lib.hid (plus_any (N % 57896044618658097711785492504343953926634992332820282019728792003956564819968) 19 q (by omega) (by decide) (by omega))
  obtain ⟨D, hD⟩ : ∃ D, D = N % 57896044618658097711785492504343953926634992332820282019728792003956564819968 + 19 * q := ⟨_, rfl⟩
  have hDl : D < 115792089237316195423570985008687907853269984665640564039457584007913129639936 := by omega
  rw [← hD, Nat.mod_eq_of_lt hDl, Nat.div_eq_of_lt hDl] at HP1
  have HP2 := Lib.hid (plus_any D 19 1 hDl (by decide) (by decide))
  obtain ⟨U, hU⟩ : ∃ U, U = D + 19 * 1 := ⟨_, rfl⟩
  have hUl : U < 115792089237316195423570985008687907853269984665640564039457584007913129639936 := by omega
  rw [← hU, Nat.mod_eq_of_lt hUl, Nat.div_eq_of_lt hUl] at HP2
  have HC2 := Lib.hid (cut_any U hUl)
  have hsh2 := top_shr U hUl
  have hU3 := num_get U 3 (by decide)
  have hres : (U / 57896044618658097711785492504343953926634992332820282019728792003956564819968 = 1 ∧ U % 57896044618658097711785492504343953926634992332820282019728792003956564819968 = N % pp) ∨ (U / 57896044618658097711785492504343953926634992332820282019728792003956564819968 = 0 ∧ D = N % pp) := by
    rw [hpp]
    by_cases hc : 57896044618658097711785492504343953926634992332820282019728792003956564819968 ≤ U
    · refine .inl ⟨by omega, ?_⟩
      rcases (show q = 0 ∨ q = 1 by omega) with h | h <;> subst h <;> omega
    · refine .inr ⟨by omega, ?_⟩
      rcases (show q = 0 ∨ q = 1 by omega) with h | h <;> subst h <;> omega
  have IA := isNum N
  have IC := isNum (N % 57896044618658097711785492504343953926634992332820282019728792003956564819968)
  have ID := isNum D
  have IU := isNum U
  have IZ := isNum 0
  have IR := isNum (N % pp)
  have I19 := isNum 19
  have hdl := dig_lt N 3
  have hUd := dig_lt U 3
  have hb19 := build_run 19 (by decide)
  have HRES : Hid ((U / 57896044618658097711785492504343953926634992332820282019728792003956564819968 = 1 ∧ num (U % 57896044618658097711785492504343953926634992332820282019728792003956564819968) = num (N % pp)) ∨ (U / 57896044618658097711785492504343953926634992332820282019728792003956564819968 = 0 ∧ num D = num (N % pp))) := by
    rcases hres with ⟨h1, h2⟩ | ⟨h1, h2⟩
    · exact Lib.hid (.inl ⟨h1, by rw [h2]⟩)
    · exact Lib.hid (.inr ⟨h1, by rw [h2]⟩)
  clear hres hD hU hDl hUl hq hN hpp
  generalize dig N 3 = d3 at *
  generalize dig U 3 = u3 at *
  generalize num (U % 57896044618658097711785492504343953926634992332820282019728792003956564819968) = E at *
  generalize U / 57896044618658097711785492504343953926634992332820282019728792003956564819968 = qu at *
  generalize num (N % 57896044618658097711785492504343953926634992332820282019728792003956564819968) = C at *
  generalize num (N % pp) = R at *
  generalize num N = A at *
  generalize num D = D' at *
  generalize num U = U' at *
  generalize num 19 = T at *
  have HZ := zero_run
  have hz4 : ∀ W : World, Kn W [(W.heap.size, A), (W.heap.size + 1, num 0)] ((W.alloc (.cells A 24)).alloc (.cells (num 0) 24)) := by
    intro W
    have h := ((Kn.nil W).new A).new (num 0)
    rw [World.size_alloc] at h
    exact h.sub (fun p hp => by simp at hp ⊢; rcases hp with h | h <;> simp [h])
  generalize num 0 = Z at *
  go_enter Tryd.func39, Tryd.ntmps39
  go_wp2_with (refine wpList_run rfl _ (exec_alloc_agg _ 24 rfl _ (HZ _)) ?_)
  simp only [World.size_alloc]
  have HS := hz4 w
  clear hz4
  generalize (w.alloc (.cells A 24)).alloc (.cells Z 24) = W0 at *
  refine wp_region_any (by kernel_rfl) ?_
  change wpAny _ _ _ _ _ _ _ (World.drew _)
  have HS0 := HS.drew
  refine any_of_F (S := Kn w [(w.heap.size, A), (w.heap.size + 1, Z)]) (f := 10) _ _ _ _ ?_
  refine tkL 0 (some 6) (.load 24 (.tmp 1)) (.agg A) (fun o ho w2 hw => exec_load_of _ 24 (.tmp 1) ho ⟨w.heap.size, 0, none⟩ rfl _ (hw.load (w.heap.size) A (by simp) IA)) HS0 ?_
  simp only [Act.put, sT, sS, sZ]
  refine tkL 2 (some 8) (.build 24 #[(0, .const (.int .u64 19))]) (.agg T) (fun o ho w2 hw => exec_build1 w2 24 0 (.const (.int .u64 19)) ho _ rfl _ (hb19 w2)) HS0 ?_
  simp only [Act.put, sT, sS, sZ]
  refine tkL 3 (some 9) (.indexAddr 24 (.tmp 1) (.const (.int .i64 3))) (.pointer (some ⟨w.heap.size, 3, none⟩)) (fun o ho w2 hw => exec_indexAddr24 (.tmp 1) (.const (.int .i64 3)) ho (w.heap.size) 3 rfl rfl (by decide) w2) HS0 ?_
  simp only [Act.put, sT, sS, sZ]
  refine tkL 4 (some 10) (.load 22 (.tmp 9)) (.int .u64 (d3 : Int)) (fun o ho w2 hw => exec_load_one w2 22 (.tmp 9) ho ⟨w.heap.size, 3, none⟩ rfl _ ((hw.cell (w.heap.size) A (by simp) 3).trans hA3) _ Tryd.underlying22 rfl) HS0 ?_
  simp only [Act.put, sT, sS, sZ]
  refine tkL 5 (some 11) (.binOp .shr 22 (.tmp 10) (.const (.int .u64 63)) 57) (.int .u64 (q : Int)) (fun o ho w2 hw => by unfold execOp; rw [ho]; go_simp) HS0 ?_
  simp only [Act.put, sT, sS, sZ]
  refine rdy [1] (rcl (some 7) 61 #[.tmp 6] #[24] #[.agg A] enters61 _ (HC1.out _) ?_ ReadyF.nil)
  rintro v w1 ⟨he, hb⟩
  cases he
  have HS1 := HS0.below hb
  clear hb
  refine ⟨HS1, ?_⟩
  simp only [Act.put, sT, sS, sZ]
  refine rdy [6] (rcl (some 12) 60 #[.tmp 7, .tmp 8, .tmp 11] #[24, 24, 22] #[.agg C, .agg T, .int .u64 (q : Int)] enters60 _ (HP1.out _) ?_ ReadyF.nil)
  rintro v w2 ⟨he, hb⟩
  cases he
  have HS2 := HS1.below hb
  clear hb
  refine ⟨HS2, ?_⟩
  simp only [Act.put, sT, sS, sZ]
  refine tkL 7 (some 5) (.move (.tmp 12)) ((.tuple #[.agg D', .int .u64 ((0 : Nat) : Int)])) (fun o ho w2 hw => exec_move (.tmp 12) ho _ rfl w2) HS2 ?_
  simp only [Act.put, sT, sS, sZ]
  refine tkL 8 (some 13) (.extract (.tmp 5) 0) (.agg D') (fun o ho w2 hw => exec_extract (.tmp 5) 0 ho _ _ rfl rfl w2) HS2 ?_
  simp only [Act.put, sT, sS, sZ]
  refine tk0 9 (some 14) (.extract (.tmp 5) 1) (.int .u64 ((0 : Nat) : Int)) (fun o ho w2 => exec_extract (.tmp 5) 1 ho _ _ rfl rfl w2) HS2 ?_
  simp only [Act.put, sT, sS, sZ]
  refine rdy [10] (ReadyF.last (.store 24 (.tmp 1) (.tmp 13)) rfl (fun o ho => exec_store_kn w2 HS2 (.tmp 1) (.tmp 13) ho (w.heap.size) rfl D' ID rfl A IA (by simp)) ?_ ReadyF.nil)
  refine any_doneF (by kernel_rfl) ?_ _
  have HS3 : Kn w [(w.heap.size, D'), (w.heap.size + 1, Z)] (w2.setRow (w.heap.size) D') := HS2.set (w.heap.size) D' A (HS2.get (w.heap.size) A (by simp)) (Nat.le_refl _) (fun p hp => by simp at hp; rcases hp with rfl | rfl <;> simp)
  clear HS HS0 HS1 HS2
  generalize w2.setRow (w.heap.size) D' = w3 at *
  have hld : Hid (∀ W, Kn w [(w.heap.size, D'), (w.heap.size + 1, Z)] W → (loadVar 24 ⟨w.heap.size, 0, none⟩).run Tryd.prog W = .ok (.agg D') W) := fun W h => h.load (w.heap.size) D' (by simp) ID
  go_wp2_with (first | (refine wpList_run rfl _ (exec_load_of _ 24 (.tmp 1) rfl ⟨w.heap.size, 0, none⟩ rfl _ (hld.out _ HS3)) ?_) | (refine wpList_run rfl _ (exec_build1 _ 24 0 (.const (.int .u64 19)) rfl _ rfl _ (hb19 _)) ?_))
  refine (HP2.out _).mono ?_
  rintro e w4 ⟨rfl, hb⟩
  have HS4 := HS3.below hb
  clear hb HS3
  have IZ2 := IZ.size
  have HN4 := HS4.alloc (.cells U' 24)
  have HLU : (loadVar 24 ⟨w4.heap.size, 0, none⟩).run Tryd.prog (w4.alloc (.cells U' 24)) = .ok (.agg U') (w4.alloc (.cells U' 24)) := loadA IU (heap_alloc_new w4 _)
  have HLUH := Lib.hid HLU
  clear HLU
  rcases HRES.out with ⟨rfl, hE⟩ | ⟨rfl, hE⟩
  · have hsh3 : (u3 : Int) / 9223372036854775808 = 1 := by simpa using hsh2
    have hEH := Lib.hid hE
    clear hsh2 hE HRES
    go_wp2_with (first | (refine wpList_run rfl _ (exec_alloc_agg _ 24 rfl _ (HZ _)) ?_) | (refine wpList_run0 rfl (exec_new24 _ (.tmp 3) (.tmp 19) rfl _ _ rfl _ IU rfl IZ2) ?_) | (refine wpList_run rfl _ (exec_load_of _ 24 (.tmp 3) rfl ⟨w4.heap.size, 0, none⟩ rfl _ HLUH.out) ?_))
    refine (HC2.out _).mono ?_
    rintro e w5 ⟨rfl, hb⟩
    have HS5 : Kn w [(w.heap.size, D'), (w.heap.size + 1, Z)] w5 := HN4.below hb
    clear hb HN4 HLUH HS4
    go_wp2_with (refine wpList_run0 rfl (exec_store_kn _ HS5 (.tmp 2) (.tmp 26) rfl (w.heap.size + 1) rfl E (by rw [hEH.out]; exact IR) rfl Z IZ (by simp)) ?_)
    have HS6 : Kn w [(w.heap.size + 1, E)] (w5.setRow (w.heap.size + 1) E) := HS5.set (w.heap.size + 1) E Z (HS5.get (w.heap.size + 1) Z (by simp)) (by omega) (fun p hp => by simp at hp; subst hp; simp)
    refine bodyPost_ret (results_cell rfl _ _ _ ⟨w.heap.size + 1, 0, none⟩ rfl _ (HS6.load (w.heap.size + 1) E (by simp) (by rw [hEH.out]; exact IR))) rfl ⟨by rw [hEH.out], HS6.1⟩
  · have hsh3 : (u3 : Int) / 9223372036854775808 = 0 := by simpa using hsh2
    have hEH := Lib.hid hE
    clear hsh2 hE HRES
    go_wp2_with (first | (refine wpList_run rfl _ (exec_alloc_agg _ 24 rfl _ (HZ _)) ?_) | (refine wpList_run0 rfl (exec_new24 _ (.tmp 3) (.tmp 19) rfl _ _ rfl _ IU rfl IZ2) ?_) | (refine wpList_run rfl _ (exec_load_of _ 24 (.tmp 1) rfl ⟨w.heap.size, 0, none⟩ rfl _ (hld.out _ HN4)) ?_) |
      (refine wpList_run0 rfl (exec_store_kn _ HN4 (.tmp 2) (.tmp 27) rfl (w.heap.size + 1) rfl D' ID rfl Z IZ (by simp)) ?_))
    have HS6 : Kn w [(w.heap.size + 1, D')] ((w4.alloc (.cells U' 24)).setRow (w.heap.size + 1) D') := HN4.set (w.heap.size + 1) D' Z (HN4.get (w.heap.size + 1) Z (by simp)) (by omega) (fun p hp => by simp at hp; subst hp; simp)
    refine bodyPost_ret (results_cell rfl _ _ _ ⟨w.heap.size + 1, 0, none⟩ rfl _ (HS6.load (w.heap.size + 1) D' (by simp) ID)) rfl ⟨by rw [hEH.out], HS6.1⟩
end Go.Proofs.YtgbliacncahooaaDoor
/- folded of package field: what stands above 256 bits comes back, modulo the prime. No condition but that the numbers have 256 and 64 bits. -/
namespace Go.Proofs.YtgbliacncahooaaDoor
open Go.RowKit Go.Shelf
set_option linter.unusedVariables false
/-- The number that a block holds. -/
def valO (o : Option Obj) : Nat := match o with
  | some (.cells A _ _) => valN (fun j => (intOf (A.getD j undef)).toNat)
  | _ => 0
theorem valO_num (n : Nat) (hn : n < 115792089237316195423570985008687907853269984665640564039457584007913129639936) (t : TypeId) (fr : Nat × Nat) : valO (some (.cells (num n) t fr)) = n := by
  have h : valO (some (.cells (num n) t fr)) = valN (dig n) := by
    unfold valO valN
    rfl
  rw [h, val_dig n hn]
set_option maxRecDepth 100000 in
set_option maxHeartbeats 1000000 in
theorem folded_any (N v : Nat) (hN : N < 115792089237316195423570985008687907853269984665640564039457584007913129639936) (hv : v < 18446744073709551616) (w : World) :
    Calls Tryd.prog 63 #[.agg (num N), .int .u64 v] w fun e w' => e = .returned (.agg (num ((N + v * 115792089237316195423570985008687907853269984665640564039457584007913129639936) % pp))) ∧ Below w.heap.size w w' := by
  have hpp : pp = 57896044618658097711785492504343953926634992332820282019728792003956564819949 := rfl
  have IN := isNum N
  have IZ := isNum 0
  have HZ := zero_run
  have HZS := Lib.hid (isNum 0).size
  have hb38 := build_run 38 (by decide)
  have HV := Lib.hid hv
  have HNN := Lib.hid hN
  obtain ⟨T, hT⟩ : ∃ T, Hid (T = (N + v * 115792089237316195423570985008687907853269984665640564039457584007913129639936) % pp) := ⟨_, Lib.hid rfl⟩
  rw [← hT.out]
  have hz4 : ∀ W : World, Kn W [(W.heap.size, num N), (W.heap.size + 1, num 0)] ((W.alloc (.cells (num N) 24)).alloc (.cells (num 0) 24)) := by
    intro W
    have h := ((Kn.nil W).new (num N)).new (num 0)
    rw [World.size_alloc] at h
    exact h.sub (fun p hp => by simp at hp ⊢; rcases hp with h | h <;> simp [h])
  have HS := hz4 w
  clear hz4 hv hN
  generalize num 0 = Z at *
  obtain ⟨A, hA⟩ : ∃ A, Hid (A = num N) := ⟨_, Lib.hid rfl⟩
  rw [← hA.out] at HS IN ⊢
  go_enter Tryd.func63, Tryd.ntmps63
  go_wp2_with (refine wpList_run rfl _ (exec_alloc_agg _ 24 rfl _ (HZ _)) ?_)
  simp only [Act.put, List.setIfInBounds_toArray, List.set_cons_succ, List.set_cons_zero, World.size_alloc]
  generalize (w.alloc (.cells A 24)).alloc (.cells Z 24) = W0 at *
  have HS' := Lib.hid HS
  clear HS
  go_loopw [1] (fun u wr => ∃ n x : Nat, u = .int .u64 x ∧ n < 115792089237316195423570985008687907853269984665640564039457584007913129639936 ∧ x < 18446744073709551616 ∧ (n + x * 115792089237316195423570985008687907853269984665640564039457584007913129639936) % pp = T ∧ Kn w [(w.heap.size, num n), (w.heap.size + 1, Z)] wr)
    (fun u wr => valO (wr.heap[w.heap.size]?) + (intOf u).toNat * 115792089237316195423570985008687907853269984665640564039457584007913129639936)
  case atStart => exact ⟨N, v, rfl, HNN.out, HV.out, hT.out.symm, by rw [← hA.out]; exact HS'.out⟩
  case round =>
    clear HS' HNN HV hT hA
    obtain ⟨n, x, rfl, hn, hx, hTT, HK⟩ := hrel
    have HTT := Lib.hid hTT
    have HG := Lib.hid (HK.get (w.heap.size) (num n) (by simp))
    by_cases h0 : x = 0
    · subst h0
      have HM := Lib.hid (norm_any n hn)
      rw [show n % pp = T by rw [← hTT, Nat.zero_mul, Nat.add_zero]] at HM
      have IT := isNum T
      have In := isNum n
      clear hTT hn hx
      generalize num n = An at *
      obtain ⟨AT, hAT⟩ : ∃ AT, Hid (AT = num T) := ⟨_, Lib.hid rfl⟩
      rw [← hAT.out] at HM IT
      go_wp2_with (refine wpList_run rfl _ (exec_load_of _ 24 (.tmp 2) rfl ⟨w.heap.size, 0, none⟩ rfl _ (HK.load (w.heap.size) An (by simp) In)) ?_)
      refine (HM.out _).mono ?_
      rintro e w5 ⟨rfl, hb⟩
      have HS5 := HK.below hb
      clear hb HK
      go_wp2_with (refine wpList_run0 rfl (exec_store_kn _ HS5 (.tmp 4) (.tmp 15) rfl (w.heap.size + 1) rfl AT IT rfl Z IZ (by simp)) ?_)
      have HS6 : Kn w [(w.heap.size + 1, AT)] (w5.setRow (w.heap.size + 1) AT) := HS5.set (w.heap.size + 1) AT Z (HS5.get (w.heap.size + 1) Z (by simp)) (by omega) (fun p hp => by simp at hp; subst hp; simp)
      exact bodyPost_ret (results_cell rfl _ _ _ ⟨w.heap.size + 1, 0, none⟩ rfl _ (HS6.load (w.heap.size + 1) AT (by simp) IT)) rfl ⟨by rw [hAT.out], HS6.1⟩
    · have hpos : (0 : Int) < x := by omega
      have HP := Lib.hid (plus_any n 38 x hn (by decide) hx)
      obtain ⟨S, hS⟩ : ∃ S, S = n + 38 * x := ⟨_, rfl⟩
      have hSl : S < 115792089237316195423570985008687907853269984665640564039457584007913129639936 * 18446744073709551616 := by omega
      have hn2 : S % 115792089237316195423570985008687907853269984665640564039457584007913129639936 < 115792089237316195423570985008687907853269984665640564039457584007913129639936 := Nat.mod_lt _ (by decide)
      have hx2 : S / 115792089237316195423570985008687907853269984665640564039457584007913129639936 < 18446744073709551616 := by omega
      have HT2 : Hid ((S % 115792089237316195423570985008687907853269984665640564039457584007913129639936 + S / 115792089237316195423570985008687907853269984665640564039457584007913129639936 * 115792089237316195423570985008687907853269984665640564039457584007913129639936) % pp = T) := by
        unfold Hid
        rw [Nat.mod_add_div', ← hTT, hS, show n + x * 115792089237316195423570985008687907853269984665640564039457584007913129639936 = n + 38 * x + pp * (2 * x) by rw [hpp]; omega, Nat.add_mul_mod_self_left]
      have HME : Hid (S % 115792089237316195423570985008687907853269984665640564039457584007913129639936 + S / 115792089237316195423570985008687907853269984665640564039457584007913129639936 * 115792089237316195423570985008687907853269984665640564039457584007913129639936 < n + x * 115792089237316195423570985008687907853269984665640564039457584007913129639936) := by
        unfold Hid
        rw [Nat.mod_add_div']
        omega
      rw [← hS] at HP
      have In := isNum n
      have In2 := isNum (S % 115792089237316195423570985008687907853269984665640564039457584007913129639936)
      have HN2 := Lib.hid hn2
      have HX2 := Lib.hid hx2
      have HNl := Lib.hid hn
      clear hTT hS hSl hn2 hx2 hn hx hpp
      generalize S % 115792089237316195423570985008687907853269984665640564039457584007913129639936 = n2 at *
      generalize S / 115792089237316195423570985008687907853269984665640564039457584007913129639936 = x2 at *
      go_wp2_with (first | (refine wpList_run rfl _ (exec_load_of _ 24 (.tmp 2) rfl ⟨w.heap.size, 0, none⟩ rfl _ (HK.load (w.heap.size) (num n) (by simp) In)) ?_) | (refine wpList_run rfl _ (exec_build1 _ 24 0 (.const (.int .u64 38)) rfl _ rfl _ (hb38 _)) ?_))
      refine (HP.out _).mono ?_
      rintro e w5 ⟨rfl, hb⟩
      have HS5 := HK.below hb
      clear hb HK
      go_wp2_with (refine wpList_run0 rfl (exec_store_kn _ HS5 (.tmp 2) (.tmp 12) rfl (w.heap.size) rfl (num n2) In2 rfl (num n) In (by simp)) ?_)
      have HS6 : Kn w [(w.heap.size, num n2), (w.heap.size + 1, Z)] (w5.setRow (w.heap.size) (num n2)) := HS5.set (w.heap.size) (num n2) (num n) (HS5.get (w.heap.size) (num n) (by simp)) (by omega) (fun p hp => by simp at hp; rcases hp with rfl | rfl <;> simp)
      clear HS5
      generalize w5.setRow (w.heap.size) (num n2) = w6 at *
      go_roundw
      case rel => exact ⟨n2, x2, rfl, HN2.out, HX2.out, HT2.out, HS6⟩
      case measure =>
        rw [HS6.get (w.heap.size) (num n2) (by simp), HG.out, valO_num n2 HN2.out, valO_num n HNl.out]
        exact HME.out
end Go.Proofs.YtgbliacncahooaaDoor
