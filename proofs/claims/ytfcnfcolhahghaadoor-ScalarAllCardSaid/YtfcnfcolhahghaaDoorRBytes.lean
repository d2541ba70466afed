/- bytes, Bytes, From of the document: the bytes of a number, and the number that bytes say. No condition but that the number has 256 bits, that the text may lie in memory. -/
import Derived.Test.YtfcnfcolhahghaaDoorRNum
import Derived.Test.YtfcnfcolhahghaaDoorLit
namespace Go.Proofs.YtfcnfcolhahghaaDoor
open Go.RowKit Go.Shelf
set_option linter.unusedVariables false
set_option linter.unusedSimpArgs false
set_option maxRecDepth 100000 in
set_option maxHeartbeats 1000000 in
theorem rbytes0_any (a : Nat) (w : World) :
    Calls Tryd.prog 28 #[.agg (num a)] w fun e w' => e = .returned (.string ⟨(bytesN a).toArray⟩) ∧ Below w.heap.size w w' := by
  obtain ⟨lt, hlt⟩ : ∃ lt, lt = leTo a := ⟨_, rfl⟩
  have hl0 : lt 0 = [] := by rw [hlt]; rfl
  have hl4 : (⟨(lt 4).toArray⟩ : ByteArray) = ⟨(bytesN a).toArray⟩ := by rw [hlt]; rfl
  have hll : ∀ i, i ≤ 4 → (lt i).length = 8 * i := fun i h => by rw [hlt]; exact leTo_length _ i h
  have hls : ∀ i, i < 4 → lt i ++ le8 (dig a i) = lt (i + 1) := fun i h => by rw [hlt]; exact leTo_step _ i h
  obtain ⟨SB, hSB⟩ : ∃ SB : ByteArray, Hid (SB = ⟨(bytesN a).toArray⟩) := ⟨_, Lib.hid rfl⟩
  rw [← hSB.out] at hl4
  obtain ⟨A, hA⟩ : ∃ A, Hid (A = num a) := ⟨_, Lib.hid rfl⟩
  have hdig : ∀ i, i < 4 → A[i]? = some (.int .u64 (dig a i : Int)) := fun i h => by rw [hA.out, num_get a i h]
  rw [← hA.out, ← hSB.out]
  clear hlt hA hSB
  have HS : Hid (Kn w [(w.heap.size, A)] (w.alloc (.cells A 24))) := Lib.hid ((Kn.nil w).new A)
  go_enter Tryd.func28, Tryd.ntmps28
  go_wp2
  generalize w.alloc (.cells A 24) = W0 at *
  go_loopw [3, 4] (fun x y wr => ∃ i : Nat, i ≤ 4 ∧ x = .string ⟨(lt i).toArray⟩ ∧ y = .int .i64 i ∧ Kn w [(w.heap.size, A)] wr) (fun _ y _ => 4 - (intOf y).toNat)
  case atStart => exact ⟨0, by omega, by rw [hl0], rfl, HS.out⟩
  case round =>
    clear HS
    obtain ⟨i, hi, rfl, rfl, hK⟩ := hrel
    have HK := Lib.hid hK
    clear hK
    by_cases hlt : i < 4
    · have hltI : (i : Int) < 4 := by omega
      have hc0 := (HK.out.cell (w.heap.size) A (by simp) i).trans (hdig i hlt)
      have H5 := Lib.hid (Little_any (dig a i))
      have hs5 := hls i hlt
      have hl5 := hll i hi
      have hcs : ((⟨(lt i).toArray⟩ : ByteArray) ++ ⟨(le8 (dig a i)).toArray⟩) = ⟨(lt (i + 1)).toArray⟩ := by rw [cat_list, hs5]
      have hsz1 : (⟨(lt i).toArray⟩ : ByteArray).size ≤ 1000000 := by show (lt i).length ≤ _; omega
      have hsz2 : (⟨(le8 (dig a i)).toArray⟩ : ByteArray).size ≤ 1000000 := by show (le8 (dig a i)).length ≤ _; rw [le8_length]; omega
      generalize (⟨(lt i).toArray⟩ : ByteArray) = S at *
      generalize (⟨(le8 (dig a i)).toArray⟩ : ByteArray) = T at *
      generalize hS1 : (⟨(lt (i + 1)).toArray⟩ : ByteArray) = S1 at *
      generalize dig a i = x at *
      clear hs5 hl5
      go_wp2_with (first | (refine wpList_run rfl _ (exec_indexAddr24 (.tmp 1) (.tmp 10) rfl (w.heap.size) i rfl rfl hlt _) ?_) | (refine wpList_run rfl _ (exec_load_one _ 22 (.tmp 11) rfl ⟨w.heap.size, i, none⟩ rfl _ hc0 _ Tryd.underlying22 rfl) ?_))
      refine (H5.out _).mono ?_
      rintro e w5 ⟨rfl, hb⟩
      have HK2 := Lib.hid (HK.out.below hb)
      clear hb HK H5
      clear hc0
      go_wp2_with (refine wpList_run rfl _ (exec_catv (.tmp 9) (.tmp 13) rfl S T S1 hsz1 hsz2 hcs rfl rfl _) ?_)
      go_roundw
      case rel => exact ⟨i + 1, by omega, by rw [hS1], by first | rfl | simp | go_num, HK2.out⟩
      case measure => simp [intOf]; omega
    · obtain rfl : i = 4 := by omega
      rw [hl4]
      rw [show ((4 : Nat) : Int) = (4 : Int) from rfl]
      clear hl4 hl0 hll hls hdig hlt hi
      go_wp2
      go_ret
      exact ⟨rfl, HK.out.1⟩
end Go.Proofs.YtfcnfcolhahghaaDoor
