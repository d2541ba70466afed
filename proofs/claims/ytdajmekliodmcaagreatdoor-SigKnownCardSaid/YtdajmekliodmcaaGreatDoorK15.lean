/- Several texts, one behind the other; each says by itself what it proves, and on what conditions. -/
import Derived.Test.YtdajmekliodmcaaGreatDoorK14
import Derived.Deep.DeepCutAuto
import Derived.Deep.CutBlock
import Derived.StillTailTactics
namespace Go.Proofs.YtdajmekliodmcaaGreatDoor.W4
set_option linter.unusedSimpArgs false
open Go.Proofs.YtdajmekliodmcaaGreatDoor.P8
open Go.RowKit
set_option linter.unusedVariables false
theorem chunk_bytes (S : ByteArray) (j : Nat) : (S.extract (128 * j) (128 * j + 128)).data.toList = chunk S.data.toList j := by
  unfold chunk
  rw [ByteArray.data_extract, Array.toList_extract, List.extract_eq_take_drop, Nat.add_sub_cancel_left]
theorem enters_block : ∀ args w, (callFunc 155 args).run Tryz.prog w = .ok (.enter 155 args) w := enters_of Tryz.func155 (by kernel_rfl) rfl
def BS (B gk : Nat) (s : St) (w0 w : World) : Prop := w.heap[B]? = some (.cells (cells s).toArray 121 (0, 0)) ∧ w.heap[B + 1]? = some (.cells (cells s0).toArray 121 (0, 0)) ∧ Below B w0 w ∧ (∀ j, j < 80 → w.cell? ⟨gk, j, none⟩ = some (.int .u64 (kN j))) ∧ gk < B
theorem BS.below {B gk : Nat} {s : St} {w0 a b : World} (h : BS B gk s w0 a) (hb : Below a.heap.size a b) : BS B gk s w0 b := by
  have h1 := lt_of_block h.1
  have h2 := lt_of_block h.2.1
  exact ⟨by rw [hb.block B h1]; exact h.1, by rw [hb.block (B + 1) h2]; exact h.2.1, h.2.2.1.trans (hb.mono (Nat.le_of_lt h1)), fun j hj => (hb.cell (p := ⟨gk, j, none⟩) (Nat.lt_trans h.2.2.2.2 h1)).trans (h.2.2.2.1 j hj), h.2.2.2.2⟩
theorem BS.drew {B gk : Nat} {s : St} {w0 a : World} (h : BS B gk s w0 a) : BS B gk s w0 a.drew := ⟨h.1, h.2.1, h.2.2.1.drew, h.2.2.2.1, h.2.2.2.2⟩
theorem BS.seg {B gk : Nat} {s : St} {w0 a : World} (h : BS B gk s w0 a) : ∀ j v, (cells s)[j]? = some v → a.cell? ⟨B, 0 + j, none⟩ = some v := by
  intro j v hv
  rw [cell_of_row _ _ _ _ _ _ h.1, Nat.zero_add, List.getElem?_toArray, hv]
theorem BS.put {B gk : Nat} {s t : St} {w0 a : World} (h : BS B gk s w0 a) : BS B gk t w0 (a.setRow B (cells t).toArray) := by
  refine ⟨setRow_heap _ _ _ _ _ _ h.1, ?_, h.2.2.1.trans ⟨rfl, rfl, rfl, by simp, fun k hk => setRow_other _ _ _ _ (by omega)⟩, fun j hj => ?_, h.2.2.2.2⟩
  · rw [setRow_other _ _ _ _ (by omega)]; exact h.2.1
  · have e : (a.setRow B (cells t).toArray).heap[gk]? = a.heap[gk]? := setRow_other _ _ _ _ (by have := h.2.2.2.2; omega)
    rw [World.cell?_of_block (a := ⟨gk, j, none⟩) e]
    exact h.2.2.2.1 j hj
set_option maxRecDepth 100000 in
set_option maxHeartbeats 4000000 in
theorem behind_any (s : St) (hs : s.ok) (S : ByteArray) (NB : Nat) (hS : S.size = 128 * NB) (hNB : NB ≤ 1000) (gk ck : Nat) (hck : 80 ≤ ck) (w : World) (hgk : gk < w.heap.size) (hk : Hid (∀ j, j < 80 → w.cell? ⟨gk, j, none⟩ = some (.int .u64 (kN j)))) :
    Calls Tryz.prog 114 #[.agg (cells s).toArray, .string S, .slice (some ⟨gk, 0, none⟩) 80 ck] w fun e w' => e = .returned (.agg (cells (mids s S.data.toList NB)).toArray) ∧ Below w.heap.size w w' := by
  have HS := Lib.hid hs
  have hSs : S.size ≤ 128000 := by omega
  have HSZ := Lib.hid hS
  clear hs hS
  obtain ⟨B, hB⟩ : ∃ B, Hid (B = w.heap.size) := ⟨_, Lib.hid rfl⟩
  go_enter Tryz.func114, Tryz.ntmps114
  go_wp2_with (refine wpList_run rfl _ (exec_alloc_agg _ 121 rfl _ (zero32 _)) ?_)
  have hstart : BS B gk s w ((w.alloc (.cells (cells s).toArray 121)).alloc (.cells (cells s0).toArray 121)) := by
    unfold BS
    rw [hB.out]
    exact ⟨heap_alloc2_old w _ _, heap_alloc2_new w _ _, ((Below.refl _ w).alloc (Nat.le_refl _) _).alloc (by simp) _, fun j hj => by
      have hb : Below w.heap.size w ((w.alloc (.cells (cells s).toArray 121)).alloc (.cells (cells s0).toArray 121)) := ((Below.refl _ w).alloc (Nat.le_refl _) _).alloc (by simp) _
      exact (hb.cell (p := ⟨gk, j, none⟩) hgk).trans (hk.out j hj), hgk⟩
  have HST := Lib.hid hstart
  clear hstart
  rw [← hB.out]
  go_loopw [7] (fun v wr => ∃ a j : Nat, j ≤ NB ∧ v = .int .i64 a ∧ Hid (a = 128 * j) ∧ BS B gk (mids s S.data.toList j) w wr) (fun v _ => S.size - (intOf v).toNat)
  case atStart => exact ⟨0, 0, Nat.zero_le _, rfl, Lib.hid rfl, HST.out⟩
  case round =>
    clear HST
    obtain ⟨a, j, hj, rfl, ha, hbs⟩ := hrel
    have HBS := Lib.hid hbs
    clear hbs
    obtain ⟨sj, hsj⟩ : ∃ sj, Hid (sj = mids s S.data.toList j) := ⟨_, Lib.hid rfl⟩
    rw [← hsj.out] at HBS
    have hsok : Hid sj.ok := by unfold Hid; rw [hsj.out]; exact mids_ok HS.out _ _
    by_cases hlt : j < NB
    · have haS : a + 128 ≤ S.size := by rw [ha.out, HSZ.out]; omega
      have haI : (a : Int) + 128 ≤ (S.size : Int) := by omega
      have hbz : (S.extract a (a + 128)).size = 128 := by rw [extract_size _ _ _ haS]; omega
      have hcd : Hid (comp sj (S.extract a (a + 128)).data.toList = mids s S.data.toList (j + 1)) := by
        unfold Hid
        rw [ha.out, chunk_bytes, hsj.out]
        rfl
      obtain ⟨X, hX⟩ : ∃ X, Hid (X = S.extract a (a + 128)) := ⟨_, Lib.hid rfl⟩
      rw [← hX.out] at hbz hcd
      have HC : Hid (∀ W, BS B gk sj w W → Calls Tryz.prog 155 #[.agg (cells sj).toArray, .string X, .slice (some ⟨gk, 0, none⟩) 80 ck] W fun e w' => e = .returned (.agg (cells (comp sj X.data.toList)).toArray) ∧ Below W.heap.size W w') := fun W hW =>
        block_any sj hsok.out X hbz gk ck hck W (Nat.lt_trans hW.2.2.2.2 (lt_of_block hW.1)) (Lib.hid hW.2.2.2.1)
      rw [hcd.out] at HC
      obtain ⟨sn, hsn⟩ : ∃ sn, Hid (sn = mids s S.data.toList (j + 1)) := ⟨_, Lib.hid rfl⟩
      rw [← hsn.out] at HC
      have HD := Lib.hid HBS.out.drew
      have hcz : ∀ t : St, (Tryz.prog.info? 121).map (·.size) = some (cells t).length := cells_size
      clear hcd hbz
      go_upto_region 4 with (fail)
      refine wp_region_any (by kernel_rfl) ?_
      change wpAny _ _ _ _ _ _ _ (World.drew _)
      refine any_of_F (S := fun x => BS B gk sj w x) (f := 8) _ _ _ _ ?_
      refine AnyF.take 1 (some 16) (.move (.tmp 1)) (.string S) rfl (by kernel_rfl) (by kernel_rfl) (by kernel_rfl) (fun _ _ _ h => h) rfl (by kernel_rfl) (fun o ho w hw => exec_move (.tmp 1) ho _ rfl w) HD.out ?_
      simp only [Act.put, sT, sS, sZ]
      refine AnyF.take 2 (some 17) (.move (.tmp 7)) (.int .i64 a) rfl (by kernel_rfl) (by kernel_rfl) (by kernel_rfl) (fun _ _ _ h => h) rfl (by kernel_rfl) (fun o ho w hw => exec_move (.tmp 7) ho _ rfl w) HD.out ?_
      simp only [Act.put, sT, sS, sZ]
      refine AnyF.take 3 (some 18) (.move (.tmp 7)) (.int .i64 a) rfl (by kernel_rfl) (by kernel_rfl) (by kernel_rfl) (fun _ _ _ h => h) rfl (by kernel_rfl) (fun o ho w hw => exec_move (.tmp 7) ho _ rfl w) HD.out ?_
      simp only [Act.put, sT, sS, sZ]
      refine AnyF.take 4 (some 19) (.binOp .add 3 (.tmp 18) (.const (.int .i64 128)) 3) (.int .i64 ((a + 128 : Nat) : Int)) rfl (by kernel_rfl) (by kernel_rfl) (by kernel_rfl) (fun _ _ _ h => h) rfl (by kernel_rfl) (fun o ho w hw => exec_add_n (.tmp 18) 128 (by omega) ho rfl a (by omega) rfl w) HD.out ?_
      simp only [Act.put, sT, sS, sZ]
      refine AnyF.take 6 (some 21) (.move (.tmp 2)) (.slice (some ⟨gk, 0, none⟩) 80 ck) rfl (by kernel_rfl) (by kernel_rfl) (by kernel_rfl) (fun _ _ _ h => h) rfl (by kernel_rfl) (fun o ho w hw => exec_move (.tmp 2) ho _ rfl w) HD.out ?_
      simp only [Act.put, sT, sS, sZ]
      refine AnyF.take 5 (some 20) (.slice 9 (.tmp 16) (some (.tmp 17)) (some (.tmp 19)) none) (.string (S.extract a (a + 128))) rfl (by kernel_rfl) (by kernel_rfl) (by kernel_rfl) (fun _ _ _ h => h) rfl (by kernel_rfl) (fun o ho w hw => exec_slice_str (.tmp 16) (.tmp 17) (.tmp 19) ho S a (a + 128) (by omega) haS rfl rfl rfl w) HD.out ?_
      simp only [Act.put, sT, sS, sZ]
      rw [← hX.out]
      refine AnyF.take 0 (some 15) (.load 121 (.tmp 3)) (.agg (cells sj).toArray) rfl (by kernel_rfl) (by kernel_rfl) (by kernel_rfl) (fun _ _ _ h => h) rfl (by kernel_rfl) (fun o ho w hw => exec_load_seg _ 121 (.tmp 3) ho B 0 rfl (cells sj) _ hw.seg Tryz.underlying121 rfl (cells_size _)) HD.out ?_
      simp only [Act.put, sT, sS, sZ]
      refine AnyF.ready (rs := [7]) (by kernel_rfl) (by simp) (ReadyF.call (some 22) 155 #[.tmp 15, .tmp 20, .tmp 21] #[121, 9, 92] rfl #[.agg (cells sj).toArray, .string X, .slice (some ⟨gk, 0, none⟩) 80 ck] (by simp [Act.eval]) enters_block _ (HC.out _ HD.out) ?_ (fun c w' h => by cases h.1) (fun w' h => by cases h.1) ReadyF.nil)
      rintro v w2 ⟨he, hb⟩
      cases he
      have HS2 := Lib.hid (HD.out.below hb)
      refine ⟨HS2.out, ?_⟩
      clear hb
      simp only [Act.put, sT, sS, sZ]
      refine AnyF.ready (rs := [8]) (by kernel_rfl) (by simp) (ReadyF.last (.store 121 (.tmp 3) (.tmp 22)) rfl (fun o ho => exec_store_seg w2 121 (.tmp 3) (.tmp 22) ho B 0 rfl (cells sn) rfl (cells sj).toArray 121 HS2.out.1 (by show 0 + 8 ≤ 8; omega) (cells_one _) (cells_size _)) ?_ ReadyF.nil)
      refine any_doneF (by kernel_rfl) ?_ _
      rw [splice_all _ _ (by rfl)]
      have HS3 := Lib.hid (HS2.out.put (t := sn))
      clear HS2 HD HBS HC
      have HFA : Hid (a + 128 = 128 * (j + 1)) := by unfold Hid; rw [ha.out]; omega
      rw [hsn.out] at HS3
      rw [hsn.out]
      go_wp2
      go_roundw
      case rel => exact ⟨a + 128, j + 1, by omega, by go_num, HFA, HS3.out⟩
      case measure => simp [intOf]; omega
    · obtain rfl : j = NB := by omega
      have haS : S.size < a + 128 := by rw [ha.out, HSZ.out]; omega
      have haI : ¬ (a : Int) + 128 ≤ (S.size : Int) := by omega
      have ha2 : a ≤ 128000 := by rw [ha.out]; omega
      have hseg := Lib.hid HBS.out.seg
      have hrow := Lib.hid HBS.out.2.1
      obtain ⟨cf, hcf⟩ : ∃ cf, Hid (cf = cells sj) := ⟨_, Lib.hid rfl⟩
      rw [← hcf.out] at hseg
      have hsz : Hid ((Tryz.prog.info? 121).map (·.size) = some cf.length) := by unfold Hid; rw [hcf.out]; exact cells_size _
      have hone : Hid (∀ v ∈ cf, v.oneCell' = true) := by unfold Hid; rw [hcf.out]; exact cells_one _
      have hfit : Hid (0 + cf.length ≤ (cells s0).toArray.size) := by unfold Hid; rw [hcf.out]; show 0 + 8 ≤ 8; omega
      have hsz8 : Hid ((cells s0).toArray.size = cf.length) := by unfold Hid; rw [hcf.out]; rfl
      go_wp2_with (first | (refine wpList_load_seg rfl 121 (.tmp 3) rfl B 0 rfl cf _ hseg.out Tryz.underlying121 rfl hsz.out ?_) | (refine wpList_store_seg rfl 121 (.tmp 6) (.tmp 23) rfl (B + 1) 0 rfl cf rfl _ 121 hrow.out hfit.out hone.out hsz.out ?_))
      have hsp : splice (cells s0).toArray 0 cf = cf.toArray := splice_all _ _ hsz8.out
      rw [hsp]
      have hld : (loadVar 121 ⟨B + 1, 0, none⟩).run Tryz.prog (wr.setRow (B + 1) cf.toArray) = .ok (.agg cf.toArray) (wr.setRow (B + 1) cf.toArray) := by
        refine run_loadVar_seg _ 121 (B + 1) 0 cf _ (fun j v hv => ?_) Tryz.underlying121 rfl hsz.out
        rw [cell_of_row _ (B + 1) (0 + j) cf.toArray 121 (0, 0) (setRow_heap _ _ _ _ _ _ hrow.out), Nat.zero_add, List.getElem?_toArray, hv]
      have hbel : Below w.heap.size w (wr.setRow (B + 1) cf.toArray) := by
        have h := HBS.out.2.2.1
        rw [hB.out] at h
        exact h.trans ⟨rfl, rfl, rfl, by simp, fun k hk => setRow_other _ _ _ _ (by rw [hB.out]; omega)⟩
      generalize wr.setRow (B + 1) cf.toArray = W2 at *
      exact bodyPost_ret (v := .agg cf.toArray) (results_cell rfl _ _ _ ⟨B + 1, 0, none⟩ rfl _ hld) rfl ⟨by rw [hcf.out, hsj.out], hbel⟩
theorem be8_get (N k : Nat) (hk : k < 8) : (be8 N).take (k + 1) = (be8 N).take k ++ [UInt8.ofNat (N / 2 ^ (8 * (7 - k)))] := by
  rcases (show k = 0 ∨ k = 1 ∨ k = 2 ∨ k = 3 ∨ k = 4 ∨ k = 5 ∨ k = 6 ∨ k = 7 by omega) with rfl | rfl | rfl | rfl | rfl | rfl | rfl | rfl
  all_goals simp [be8]
set_option maxRecDepth 100000 in
set_option maxHeartbeats 1000000 in
theorem put_any (B : Nat) (p : Option Addr) (n c : Nat) (l : List UInt8) (x : Nat) (hn : n ≤ 1000) (W : World) (hB : B ≤ W.heap.size) (hown : W.ownsRow B 5 1 (.slice p n c) n (bytesV l)) :
    Calls Tryz.prog 156 #[.slice p n c, .int .u64 x] W fun e w' => ∃ p' c', e = .returned (.slice p' (n + 8) c') ∧ w'.ownsRow B 5 1 (.slice p' (n + 8) c') (n + 8) (bytesV (l ++ be8 x)) ∧ Below B W w' := by
  have HO := Lib.hid hown
  clear hown
  go_enter Tryz.func156, Tryz.ntmps156
  go_wp2
  go_loopw [0, 5] (fun v i wr => ∃ q : Nat, ∃ p c, q ≤ 8 ∧ i = .int .i64 (56 - 8 * (q : Int)) ∧ v = .slice p (n + q) c ∧ wr.ownsRow B 5 1 (.slice p (n + q) c) (n + q) (bytesV (l ++ (be8 x).take q)) ∧ Below B W wr ∧ B ≤ wr.heap.size) (fun _ i _ => (8 + intOf i).toNat)
  case atStart => exact ⟨0, p, c, by omega, rfl, rfl, by rw [List.take_zero, List.append_nil]; exact HO.out, Below.refl _ _, hB⟩
  case round =>
    clear HO
    obtain ⟨q, p, c, hq, rfl, rfl, hown, hb, hbr⟩ := hrel
    by_cases hlt : q < 8
    · obtain ⟨S, hS⟩ : ∃ S, Hid (S = 8 * (7 - q)) := ⟨_, Lib.hid rfl⟩
      have hSI : (56 - 8 * (q : Int)) = (S : Int) := by rw [hS.out]; omega
      have hS64 : S < 64 := by rw [hS.out]; omega
      obtain ⟨b, hb0⟩ : ∃ b, Hid (b = x / 2 ^ S % 256) := ⟨_, Lib.hid rfl⟩
      have hwr : IntKind.u8.wrap ((x : Int) / 2 ^ S) = (b : Int) := by rw [shr_cast, wrap8, hb0.out]
      obtain ⟨v', W3, happ, hown', hb', hz'⟩ := bytes_app hown hb hbr [UInt8.ofNat (x / 2 ^ S)] 1 rfl #[.int .u8 (b : Int)] (by rw [byteV, hb0.out]) (by omega)
      rw [List.append_assoc, hS.out, ← be8_get x q hlt] at hown'
      obtain ⟨p', c', rfl⟩ := own_form hown'
      have HAPP := Lib.hid happ
      have HO := Lib.hid hown'
      have HF := Lib.hid hb'
      have hbb : B ≤ W3.heap.size := Nat.le_trans hbr hz'
      have HSI := Lib.hid hSI
      rw [hSI]
      clear happ hown' hb' hown hb hz' hSI
      go_wp2_with (at_builtin; refine wpList_run rfl _ (HAPP.out _ _ (.tmp 10) (.tmp 15) rfl rfl rfl) ?_)
      go_roundw
      case rel => exact ⟨q + 1, p', c', by omega, congrArg (Value.int IntKind.i64) (by have := HSI.out; omega), rfl, HO.out, HF.out, hbb⟩
      case measure => have := HSI.out; simp [intOf]; omega
    · obtain rfl : q = 8 := by omega
      rw [show (56 - 8 * ((8 : Nat) : Int)) = (-8 : Int) from rfl]
      have HO2 : Hid (wr.ownsRow B 5 1 (.slice p (n + 8) c) (n + 8) (bytesV (l ++ be8 x))) := by
        unfold Hid
        have h := hown
        rw [show (be8 x).take 8 = be8 x from rfl] at h
        exact h
      have HB := Lib.hid hb
      clear hown hb
      go_wp2
      go_ret
      exact ⟨p, c, rfl, HO2.out, HB.out⟩
def zs (k : Nat) : List UInt8 := 128 :: List.replicate k 0
theorem zs_succ (k : Nat) : zs (k + 1) = zs k ++ [0] := by unfold zs; rw [List.replicate_succ', List.cons_append]
def lenOf : Value → Nat
  | .slice _ n _ => n
  | _ => 0
set_option maxRecDepth 100000 in
set_option maxHeartbeats 1000000 in
theorem tail_any (n : Nat) (hn : n ≤ 1000000) (w : World) :
    Calls Tryz.prog 115 #[.int .u64 n] w fun e w' => e = .returned (.string ⟨(tailN n).toArray⟩) ∧ Below w.heap.size w w' := by
  obtain ⟨tl, htl⟩ : ∃ tl, Hid (tl = tailN n) := ⟨_, Lib.hid rfl⟩
  rw [← htl.out]
  obtain ⟨F, hF⟩ : ∃ F, Hid (F = fill n) := ⟨_, Lib.hid rfl⟩
  have hF128 : F < 128 := by rw [hF.out]; exact fill_lt n
  go_enter Tryz.func115, Tryz.ntmps115
  go_wp2
  go_loopw [3] (fun v wr => ∃ k g cap : Nat, k ≤ F ∧ v = .slice (some ⟨g, 0, none⟩) (k + 1) cap ∧ wr.ownsRow w.heap.size 5 1 v (k + 1) (bytesV (zs k)) ∧ Below w.heap.size w wr) (fun v _ => F + 1 - lenOf v)
  case atStart =>
    refine ⟨0, _, _, by omega, rfl, ⟨rfl, Or.inr ⟨_, _, _, rfl, Nat.le_refl _, heap_alloc_new w _, by omega, by unfold maxLen; omega, rfl, rfl⟩⟩, (Below.refl _ w).alloc (Nat.le_refl _) _⟩
  case round =>
    obtain ⟨k, g, cap, hk, rfl, hown, hb⟩ := hrel
    by_cases hlt : k < F
    · have hne := fill_not n k (by rw [← hF.out]; exact hlt)
      have h1 : ((n : Int) + (k + 1)) % 128 ≠ 112 := by omega
      have h2 : (((n : Int) + (k + 1)) % 128 != 112) = true := by rw [bne_iff_ne]; exact h1
      obtain ⟨v', W3, happ, hown', hb', hz'⟩ := bytes_app hown hb hb.size [0] 1 rfl _ rfl (by omega)
      rw [← zs_succ] at hown'
      have HAPP := Lib.hid happ
      have HO := Lib.hid hown'
      have HF := Lib.hid hb'
      clear happ hown' hb' hown hb hz' hne h1
      go_wp2_with (at_builtin; refine wpList_run rfl _ (HAPP.out _ _ (.tmp 12) (.tmp 13) rfl rfl rfl) ?_)
      rcases HO.out.2 with ⟨_, h0⟩ | ⟨g2, cap2, cur2, rfl, _⟩
      · omega
      · go_roundw
        case rel => exact ⟨k + 1, g2, cap2, by omega, rfl, HO.out, HF.out⟩
        case measure => simp [lenOf]; omega
    · obtain rfl : k = F := by omega
      have hne := fill_end n
      rw [← hF.out] at hne
      have h2 : (((n : Int) + (k + 1)) % 128 != 112) = false := by rw [bne_eq_false_iff_eq]; omega
      have hd : (n : Int) / 2305843009213693952 = 0 := by omega
      have hd2 : (n : Int) / 2 ^ 61 = 0 := hd
      obtain ⟨N8, hN8⟩ : ∃ N8, Hid (N8 = 8 * n) := ⟨_, Lib.hid rfl⟩
      have hm : IntKind.u64.wrap ((n : Int) * 2 ^ 3) = (N8 : Int) := by
        rw [shl_cast, hN8.out]
        omega
      have hm2 : IntKind.u64.wrap ((n : Int) * 8) = (N8 : Int) := hm
      have hm3 : (n : Int) * 8 = (N8 : Int) := by rw [hN8.out]; omega
      have hbB := hb.size
      have HP1 := Lib.hid (put_any w.heap.size (some ⟨g, 0, none⟩) (k + 1) cap (zs k) 0 (by omega) wr hbB hown)
      have HB := Lib.hid hb
      clear hown hb hne
      go_wp2_with fail
      refine HP1.out.mono ?_
      rintro e w1 ⟨p1, c1, rfl, ho1, hb1⟩
      have HB1 := Lib.hid (HB.out.trans hb1)
      have HP2 := Lib.hid (put_any w.heap.size p1 (k + 1 + 8) c1 (zs k ++ be8 0) N8 (by omega) w1 HB1.out.size ho1)
      clear ho1 hb1 HP1
      go_wp2_with fail
      refine HP2.out.mono ?_
      rintro e w2 ⟨p2, c2, rfl, ho2, hb2⟩
      have HB2 := Lib.hid (HB1.out.trans hb2)
      have htl2 : zs k ++ be8 0 ++ be8 N8 = tl := by
        rw [htl.out, hF.out, hN8.out, List.append_assoc]
        rfl
      rw [htl2] at ho2
      obtain ⟨g2, cap2, he, hcv⟩ := bytes_str ho2 (by omega)
      injection he with he1 _ he3
      subst he1
      subst he3
      clear ho2 hb2 htl2 HP2
      go_wp2
      go_ret
      exact ⟨rfl, HB2.out⟩
theorem index32r (f : Nat → Nat) (i : Nat) (hi : i < 8) (w : World) : (Instr.index 121 (.agg (rowOf .u64 8 f).toArray) (.int .i64 i)).run Tryz.prog w = .ok (.int .u64 (f i)) w := by
  rcases (show i = 0 ∨ i = 1 ∨ i = 2 ∨ i = 3 ∨ i = 4 ∨ i = 5 ∨ i = 6 ∨ i = 7 by omega) with rfl | rfl | rfl | rfl | rfl | rfl | rfl | rfl <;> kernel_rfl
set_option maxRecDepth 100000 in
set_option maxHeartbeats 1000000 in
theorem told_any (f : Nat → Nat) (w : World) :
    Calls Tryz.prog 116 #[.agg (rowOf .u64 8 f).toArray] w fun e w' => e = .returned (.string ⟨(tellTo f 8).toArray⟩) ∧ Below w.heap.size w w' := by
  obtain ⟨cf, hcf⟩ : ∃ cf, Hid (cf = rowOf .u64 8 f) := ⟨_, Lib.hid rfl⟩
  have hmk : ∀ w, (Instr.makeSlice 33 (.int .i64 0) (.int .i64 64)).run Tryz.prog w = .ok (.slice (some ⟨w.heap.size, 0, none⟩) 0 64) (w.alloc (.cells (Array.replicate 64 (.int .u8 0)) 5)) := fun _ => by kernel_rfl
  obtain ⟨A64, hA⟩ : ∃ A64, Hid (A64 = Array.replicate 64 (Value.int .u8 0)) := ⟨_, Lib.hid rfl⟩
  rw [← hA.out] at hmk
  rw [← hcf.out]
  obtain ⟨tl, htl⟩ : ∃ tl, Hid (tl = tellTo f 8) := ⟨_, Lib.hid rfl⟩
  rw [← htl.out]
  have hc : Hid (∀ j v, cf[j]? = some v → ((w.alloc (.cells cf.toArray 121)).alloc (.cells A64 5)).cell? ⟨w.heap.size, 0 + j, none⟩ = some v) := by
    intro j v hv
    rw [cell_of_row _ _ _ _ _ _ (heap_alloc2_old w _ _), Nat.zero_add, List.getElem?_toArray, hv]
  have hsz : Hid ((Tryz.prog.info? 121).map (·.size) = some cf.length) := by unfold Hid; rw [hcf.out, rowOf_length]; kernel_rfl
  have hix : Hid (∀ (i : Nat) (hi : i < 8) (w : World), (Instr.index 121 (.agg cf.toArray) (.int .i64 i)).run Tryz.prog w = .ok (.int .u64 (f i)) w) := by unfold Hid; rw [hcf.out]; exact index32r f
  have hown0 : Hid (((w.alloc (.cells cf.toArray 121)).alloc (.cells A64 5)).ownsRow w.heap.size 5 1 (.slice (some ⟨w.heap.size + 1, 0, none⟩) 0 64) 0 (bytesV (tellTo f 0))) := by
    unfold Hid World.ownsRow
    exact ⟨rfl, Or.inr ⟨w.heap.size + 1, 64, A64, rfl, by omega, heap_alloc2_new w _ _, by omega, by unfold maxLen; omega, by rw [hA.out]; simp, rfl⟩⟩
  go_enter Tryz.func116, Tryz.ntmps116
  go_wp2_with (refine wpList_load_seg rfl 121 (.tmp 1) rfl w.heap.size 0 rfl cf _ hc.out Tryz.underlying121 rfl hsz.out ?_)
  go_loopw [3, 5, 8] (fun v _ i wr => ∃ k : Nat, ∃ p c, k ≤ 8 ∧ i = .int .i64 k ∧ v = .slice p (8 * k) c ∧ wr.ownsRow w.heap.size 5 1 (.slice p (8 * k) c) (8 * k) (bytesV (tellTo f k)) ∧ Below w.heap.size w wr) (fun _ _ i _ => 8 - (intOf i).toNat)
  case atStart => exact ⟨0, _, _, by omega, rfl, rfl, hown0.out, ((Below.refl _ w).alloc (Nat.le_refl _) _).alloc (by simp) _⟩
  case round =>
    obtain ⟨k, p, c, hk, rfl, rfl, hown, hb⟩ := hrel
    by_cases hlt : k < 8
    · have hix2 := hix.out k hlt
      have HP := Lib.hid (put_any w.heap.size p (8 * k) c (tellTo f k) (f k) (by omega) wr hb.size hown)
      rw [← tellTo_succ] at HP
      generalize f k = x at *
      have HB := Lib.hid hb
      clear hmk hown hb
      go_wp2_with fail
      refine HP.out.mono ?_
      rintro e w2 ⟨p2, c2, rfl, ho2, hb2⟩
      have HO2 := Lib.hid ho2
      have HB2 := Lib.hid (HB.out.trans hb2)
      clear ho2 hb2 HP HB
      go_wp2
      go_roundw
      case rel => exact ⟨k + 1, p2, c2, by omega, by go_num, rfl, HO2.out, HB2.out⟩
      case measure => simp [intOf]; omega
    · obtain rfl : k = 8 := by omega
      obtain ⟨g, cap, he, hcv⟩ := bytes_str hown (by omega)
      injection he with he1 _ he3
      subst he1
      subst he3
      have HB := Lib.hid hb
      rw [show 8 * 8 = 64 from rfl] at hcv ⊢
      rw [show ((8 : Nat) : Int) = (8 : Int) from rfl]
      rw [← htl.out] at hcv
      clear hown hb hix hown0 hc hmk
      go_wp2
      go_ret
      exact ⟨rfl, HB.out⟩
noncomputable def shaB1 : Code := ((Tryz.f41.body.map fun c => (loopsOf c).getD 0 .skip)).getD .skip
noncomputable def shaB2 : Code := ((Tryz.f41.body.map fun c => (loopsOf c).getD 1 .skip)).getD .skip
noncomputable def shaB8 : Code := ((Tryz.f41.body.map fun c => (loopsOf c).getD 3 .skip)).getD .skip
theorem data_append (a b : ByteArray) : (a ++ b).data.toList = a.data.toList ++ b.data.toList := by simp
end Go.Proofs.YtdajmekliodmcaaGreatDoor.W4
