/- Whole of the document: a number of eight words of 32 bits. No condition but that the words have 32 bits. -/
import Derived.Test.YtkkgeljcgebegaaDoorHalves
namespace Go.Proofs.YtkkgeljcgebegaaDoor
open Go.RowKit Go.Shelf
set_option linter.unusedVariables false
set_option linter.unusedSimpArgs false
def wTo (f : Nat → Nat) (i j : Nat) : Nat := if j < i then f (2 * j) + f (2 * j + 1) * 4294967296 else 0
theorem wTo_step (f : Nat → Nat) (i v : Nat) (hv : v = f (2 * i) + f (2 * i + 1) * 4294967296) : ∀ j, j < 4 → upd (wTo f i) i v j = wTo f (i + 1) j := by
  intro j _
  unfold upd wTo
  by_cases e : j = i
  · subst e; rw [if_pos rfl, if_pos (by omega), hv]
  · rw [if_neg e]
    by_cases h : j < i
    · rw [if_pos h, if_pos (by omega)]
    · rw [if_neg h, if_neg (by omega)]
theorem or_half (x y : Nat) (hx : x < 4294967296) (hy : y < 4294967296) : bits .or .u64 (x : Int) ((y * 4294967296 : Nat) : Int) = ((x + y * 4294967296 : Nat) : Int) := by
  have hb := bits_or_u64_nat x (y * 4294967296) (by omega) (by omega)
  have ho2 : x ||| y * 4294967296 = x + y * 4294967296 := by rw [Nat.or_comm]; have h := or_join 32 y x hx; rw [show (2 : Nat) ^ 32 = 4294967296 from rfl] at h; rw [h]; omega
  rw [ho2] at hb
  exact hb
set_option maxRecDepth 100000 in
set_option maxHeartbeats 1000000 in
theorem whole_any (f : Nat → Nat) (hf : ∀ j, j < 8 → f j < 4294967296) (w : World) :
    Calls Tryd.prog 44 #[.agg (rowOf .u64 8 f).toArray] w fun e w' => e = .returned (.agg (num (v32 8 f))) ∧ Below w.heap.size w w' := by
  have HF := Lib.hid hf
  have h0 := ((Row.new w 59 .u64 8 f).alloc (.cells (rowOf .u64 4 (fun _ => 0)).toArray 24)).alloc (.cells (rowOf .u64 4 (fun _ => 0)).toArray 24)
  have h1 := (Row.new (w.alloc (.cells (rowOf .u64 8 f).toArray 59)) 24 .u64 4 (fun _ => 0)).alloc (.cells (rowOf .u64 4 (fun _ => 0)).toArray 24)
  have h2 := Row.new ((w.alloc (.cells (rowOf .u64 8 f).toArray 59)).alloc (.cells (rowOf .u64 4 (fun _ => 0)).toArray 24)) 24 .u64 4 (fun _ => 0)
  have hb : Below w.heap.size w (((w.alloc (.cells (rowOf .u64 8 f).toArray 59)).alloc (.cells (rowOf .u64 4 (fun _ => 0)).toArray 24)).alloc (.cells (rowOf .u64 4 (fun _ => 0)).toArray 24)) := (((Below.refl _ w).alloc (Nat.le_refl _) _).alloc (by simp) _).alloc (by simp <;> omega) _
  simp only [World.size_alloc] at h1 h2
  have HZ := zero24
  obtain ⟨A, hA⟩ : ∃ A, Hid (A = (rowOf .u64 8 f).toArray) := ⟨_, Lib.hid rfl⟩
  obtain ⟨Z, hZ⟩ : ∃ Z, Hid (Z = (rowOf .u64 4 (fun _ => 0)).toArray) := ⟨_, Lib.hid rfl⟩
  obtain ⟨T, hT⟩ : ∃ T, Hid (T = num (v32 8 f)) := ⟨_, Lib.hid rfl⟩
  rw [← hA.out, ← hZ.out] at h0 h1 h2 hb
  rw [← hA.out, ← hT.out]
  rw [← hZ.out] at HZ
  have H0 := Lib.hid h0
  have H1 := Lib.hid h1
  have H2 := Lib.hid h2
  have HB := Lib.hid hb
  clear h0 h1 h2 hb hf
  go_enter Tryd.func44, Tryd.ntmps44
  go_wp2_with ((refine wpList_run rfl _ (exec_alloc_agg _ 24 rfl _ (HZ _)) ?_); try simp only [World.size_alloc])
  try simp only [Act.put, List.setIfInBounds_toArray, List.set_cons_succ, List.set_cons_zero]
  generalize ((w.alloc (.cells A 59)).alloc (.cells Z 24)).alloc (.cells Z 24) = W0 at *
  go_loopw [4] (fun i wr => ∃ q : Nat, q ≤ 4 ∧ i = .int .i64 q ∧ Row wr (w.heap.size) 59 .u64 8 f ∧ Row wr (w.heap.size + 1) 24 .u64 4 (fun _ => 0) ∧ Row wr (w.heap.size + 1 + 1) 24 .u64 4 (wTo f q) ∧ Below w.heap.size w wr) (fun i _ => 4 - (intOf i).toNat)
  case atStart => exact ⟨0, by omega, rfl, H0.out, H1.out, H2.out.ext (fun j _ => by unfold wTo; rw [if_neg (by omega)]), HB.out⟩
  case round =>
    clear H0 H1 H2 HB
    obtain ⟨q, hq, rfl, h0, h1, h2, hb⟩ := hrel
    have H0 := Lib.hid h0
    have H1 := Lib.hid h1
    have H2 := Lib.hid h2
    have HB := Lib.hid hb
    clear h0 h1 h2 hb
    by_cases hlt : q < 4
    · have hltI : (q : Int) < 4 := by omega
      obtain ⟨S, hS⟩ : ∃ S, Hid (S = 2 * q) := ⟨_, Lib.hid rfl⟩
      obtain ⟨U, hU⟩ : ∃ U, Hid (U = 2 * q + 1) := ⟨_, Lib.hid rfl⟩
      have hS1 : (2 : Int) * (q : Int) = (S : Int) := by rw [hS.out]; omega
      have hU1 : (S : Int) + 1 = (U : Int) := by rw [hS.out, hU.out]; omega
      have hSl : S < 8 := by rw [hS.out]; omega
      have hUl : U < 8 := by rw [hU.out]; omega
      have c0 := H0.out.cell S hSl
      have c1 := H0.out.cell U hUl
      have c2 := H2.out.cell q hlt
      have f2 := H2.out.free q
      have hor := or_half (f S) (f U) (HF.out S hSl) (HF.out U hUl)
      obtain ⟨Y, hY⟩ : ∃ Y, Hid (Y = f U * 4294967296) := ⟨_, Lib.hid rfl⟩
      have hw : IntKind.u64.wrap ((f U : Int) * 4294967296) = (Y : Int) := by
        have h := HF.out U hUl
        have e : (f U : Int) * 4294967296 = (Y : Int) := by rw [hY.out]; omega
        rw [e]; exact wrap_id (by rw [hY.out]; omega)
      rw [← hY.out] at hor
      obtain ⟨r, hr⟩ : ∃ r, Hid (r = f S + Y) := ⟨_, Lib.hid rfl⟩
      rw [← hr.out] at hor
      have HN : Hid (Row (wr.setCell ⟨w.heap.size + 1 + 1, q, none⟩ (.int .u64 (r : Int))).drew (w.heap.size + 1 + 1) 24 .u64 4 (wTo f (q + 1))) := Lib.hid ((Row.set (w := wr) H2.out q r).ext (wTo_step f q r (by rw [hr.out, hY.out, hS.out, hU.out])))
      have H0n : Hid (Row (wr.setCell ⟨w.heap.size + 1 + 1, q, none⟩ (.int .u64 (r : Int))).drew (w.heap.size) 59 .u64 8 f) := Lib.hid (Row.other (w := wr) H0.out ⟨w.heap.size + 1 + 1, q, none⟩ (.int .u64 (r : Int)) (by show w.heap.size ≠ w.heap.size + 1 + 1; omega))
      have H1n : Hid (Row (wr.setCell ⟨w.heap.size + 1 + 1, q, none⟩ (.int .u64 (r : Int))).drew (w.heap.size + 1) 24 .u64 4 (fun _ => 0)) := Lib.hid (Row.other (w := wr) H1.out ⟨w.heap.size + 1 + 1, q, none⟩ (.int .u64 (r : Int)) (by show w.heap.size + 1 ≠ w.heap.size + 1 + 1; omega))
      have HBn : Hid (Below w.heap.size w (wr.setCell ⟨w.heap.size + 1 + 1, q, none⟩ (.int .u64 (r : Int))).drew) := Lib.hid (HB.out.setCell (p := ⟨w.heap.size + 1 + 1, q, none⟩) (by show w.heap.size ≤ w.heap.size + 1 + 1; omega) (.int .u64 (r : Int))).drew
      have hSI : (S : Int) < 8 := by omega
      have hUI : (U : Int) < 8 := by omega
      generalize wTo f q q = old at *
      generalize f S = x at *
      generalize f U = y at *
      clear H0 H1 H2 HB hA hZ hT HF hSl hUl
      go_wp2
      go_region
      go_wp2
      go_roundw
      case rel => exact ⟨q + 1, by omega, by first | rfl | simp | go_num, H0n.out, H1n.out, HN.out, HBn.out⟩
      case measure => simp [intOf]; omega
    · obtain rfl : q = 4 := by omega
      have hr : wr.heap[w.heap.size + 1 + 1]? = some (.cells T 24 (0, 0)) := by rw [hT.out]; exact H2.out.ext (fun j hj => by unfold wTo; rw [if_pos hj, whole_val f HF.out j hj])
      have IT : IsNum T := ⟨_, hT.out⟩
      have hl := loadA IT hr
      have h1 : wr.heap[w.heap.size + 1]? = some (.cells Z 24 (0, 0)) := by rw [hZ.out]; exact H1.out
      have hz8 : Z.size = 4 := by rw [hZ.out]; exact rowOf_size _ _ _
      clear H0 H1 H2 hA hZ hT hr
      rw [show ((4 : Nat) : Int) = (4 : Int) from rfl]
      go_wp2_with (first | (refine wpList_run rfl _ (exec_load_of _ 24 (.tmp 3) rfl ⟨w.heap.size + 1 + 1, 0, none⟩ rfl (.agg T) hl) ?_) | (refine wpList_run0 rfl (exec_store24 _ (.tmp 2) (.tmp 22) rfl (w.heap.size + 1) rfl T IT rfl Z 24 h1 hz8) ?_))
      exact bodyPost_ret (results_cell rfl _ _ _ ⟨w.heap.size + 1, 0, none⟩ rfl _ (loadA IT (setRow_heap _ _ _ _ _ _ h1))) rfl ⟨rfl, HB.out.trans ⟨rfl, rfl, rfl, by simp, fun k hk => setRow_other _ _ _ _ (by omega)⟩⟩
end Go.Proofs.YtkkgeljcgebegaaDoor
