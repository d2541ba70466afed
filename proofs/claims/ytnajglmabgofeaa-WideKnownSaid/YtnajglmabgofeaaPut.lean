/- put, tail and told of package wide: the bytes of numbers, what fills a text up, what is told. No condition but that the numbers have 64 bits, and the bytes are at most a thousand. -/
import Derived.Test.YtnajglmabgofeaaBehind
import Derived.Test.YtnajglmabgofeaaBytes
namespace Go.Proofs.Ytnajglmabgofeaa
open Go.RowKit
set_option linter.unusedVariables false
theorem be8_get (N k : Nat) (hk : k < 8) : (be8 N).take (k + 1) = (be8 N).take k ++ [UInt8.ofNat (N / 2 ^ (8 * (7 - k)))] := by
  rcases (show k = 0 ∨ k = 1 ∨ k = 2 ∨ k = 3 ∨ k = 4 ∨ k = 5 ∨ k = 6 ∨ k = 7 by omega) with rfl | rfl | rfl | rfl | rfl | rfl | rfl | rfl
  all_goals simp [be8]
theorem wrap8 (n : Nat) : IntKind.u8.wrap (n : Int) = ((n % 256 : Nat) : Int) := by
  have h : IntKind.u8.wrap (n : Int) = (n : Int) % 256 := by simp [IntKind.wrap, IntKind.bits, IntKind.signed]
  rw [h]; omega
theorem byteV (y : Nat) : bytesV [UInt8.ofNat y] = [Value.int .u8 ((y % 256 : Nat) : Int)] := by
  show [Value.int .u8 (((UInt8.ofNat y).toNat : Nat) : Int)] = _
  rw [UInt8.toNat_ofNat']
set_option maxRecDepth 100000 in
set_option maxHeartbeats 1000000 in
theorem put_any (B : Nat) (p : Option Addr) (n c : Nat) (l : List UInt8) (x : Nat) (hn : n ≤ 1000) (W : World) (hB : B ≤ W.heap.size) (hown : W.ownsRow B 5 1 (.slice p n c) n (bytesV l)) :
    Calls Try.prog 27 #[.slice p n c, .int .u64 x] W fun e w' => ∃ p' c', e = .returned (.slice p' (n + 8) c') ∧ w'.ownsRow B 5 1 (.slice p' (n + 8) c') (n + 8) (bytesV (l ++ be8 x)) ∧ Below B W w' := by
  have HO := Lib.hid hown
  clear hown
  go_enter Try.func27, Try.ntmps27
  go_wp2
  go_loopw [0, 5] (fun v i wr => ∃ q : Nat, ∃ p c, q ≤ 8 ∧ i = .int .i64 (56 - 8 * (q : Int)) ∧ v = .slice p (n + q) c ∧ wr.ownsRow B 5 1 (.slice p (n + q) c) (n + q) (bytesV (l ++ (be8 x).take q)) ∧ Below B W wr ∧ B ≤ wr.heap.size) (fun _ i _ => (8 + intOf i).toNat)
  case atStart => exact ⟨0, p, c, by omega, rfl, rfl, by rw [List.take_zero, List.append_nil]; exact HO.out, Below.refl _ _, hB⟩
  case round =>
    clear HO
    obtain ⟨q, p, c, hq, rfl, rfl, hown, hb, hbr⟩ := hrel
    by_cases hlt : q < 8
    · obtain ⟨S, hS⟩ : ∃ S, Hid (S = 8 * (7 - q)) := ⟨_, Lib.hid rfl⟩
      have hSI : (56 - 8 * (q : Int)) = (S : Int) := by rw [hS.out]; omega
      have hS64 : S < 64 := by rw [hS.out]; omega
      obtain ⟨b, hb0⟩ : ∃ b, Hid (b = x / 2 ^ S % 256) := ⟨_, Lib.hid rfl⟩
      have hwr : IntKind.u8.wrap ((x : Int) / 2 ^ S) = (b : Int) := by rw [shr_cast, wrap8, hb0.out]
      obtain ⟨v', W3, happ, hown', hb', hz'⟩ := bytes_app hown hb hbr [UInt8.ofNat (x / 2 ^ S)] 1 rfl #[.int .u8 (b : Int)] (by rw [byteV, hb0.out]) (by omega)
      rw [List.append_assoc, hS.out, ← be8_get x q hlt] at hown'
      obtain ⟨p', c', rfl⟩ := own_form hown'
      have HAPP := Lib.hid happ
      have HO := Lib.hid hown'
      have HF := Lib.hid hb'
      have hbb : B ≤ W3.heap.size := Nat.le_trans hbr hz'
      have HSI := Lib.hid hSI
      rw [hSI]
      clear happ hown' hb' hown hb hz' hSI
      go_wp2_with (at_builtin; refine wpList_run rfl _ (HAPP.out _ _ (.tmp 10) (.tmp 15) rfl rfl rfl) ?_)
      go_roundw
      case rel => exact ⟨q + 1, p', c', by omega, congrArg (Value.int IntKind.i64) (by have := HSI.out; omega), rfl, HO.out, HF.out, hbb⟩
      case measure => have := HSI.out; simp [intOf]; omega
    · obtain rfl : q = 8 := by omega
      rw [show (56 - 8 * ((8 : Nat) : Int)) = (-8 : Int) from rfl]
      have HO2 : Hid (wr.ownsRow B 5 1 (.slice p (n + 8) c) (n + 8) (bytesV (l ++ be8 x))) := by
        unfold Hid
        have h := hown
        rw [show (be8 x).take 8 = be8 x from rfl] at h
        exact h
      have HB := Lib.hid hb
      clear hown hb
      go_wp2
      go_ret
      exact ⟨p, c, rfl, HO2.out, HB.out⟩
def zs (k : Nat) : List UInt8 := 128 :: List.replicate k 0
theorem zs_succ (k : Nat) : zs (k + 1) = zs k ++ [0] := by unfold zs; rw [List.replicate_succ', List.cons_append]
def lenOf : Value → Nat
  | .slice _ n _ => n
  | _ => 0
set_option maxRecDepth 100000 in
set_option maxHeartbeats 1000000 in
theorem tail_any (n : Nat) (hn : n ≤ 1000000) (w : World) :
    Calls Try.prog 15 #[.int .u64 n] w fun e w' => e = .returned (.string ⟨(tailN n).toArray⟩) ∧ Below w.heap.size w w' := by
  obtain ⟨tl, htl⟩ : ∃ tl, Hid (tl = tailN n) := ⟨_, Lib.hid rfl⟩
  rw [← htl.out]
  obtain ⟨F, hF⟩ : ∃ F, Hid (F = fill n) := ⟨_, Lib.hid rfl⟩
  have hF128 : F < 128 := by rw [hF.out]; exact fill_lt n
  go_enter Try.func15, Try.ntmps15
  go_wp2
  go_loopw [3] (fun v wr => ∃ k g cap : Nat, k ≤ F ∧ v = .slice (some ⟨g, 0, none⟩) (k + 1) cap ∧ wr.ownsRow w.heap.size 5 1 v (k + 1) (bytesV (zs k)) ∧ Below w.heap.size w wr) (fun v _ => F + 1 - lenOf v)
  case atStart =>
    refine ⟨0, _, _, by omega, rfl, ⟨rfl, Or.inr ⟨_, _, _, rfl, Nat.le_refl _, heap_alloc_new w _, by omega, by unfold maxLen; omega, rfl, rfl⟩⟩, (Below.refl _ w).alloc (Nat.le_refl _) _⟩
  case round =>
    obtain ⟨k, g, cap, hk, rfl, hown, hb⟩ := hrel
    by_cases hlt : k < F
    · have hne := fill_not n k (by rw [← hF.out]; exact hlt)
      have h1 : ((n : Int) + (k + 1)) % 128 ≠ 112 := by omega
      have h2 : (((n : Int) + (k + 1)) % 128 != 112) = true := by rw [bne_iff_ne]; exact h1
      obtain ⟨v', W3, happ, hown', hb', hz'⟩ := bytes_app hown hb hb.size [0] 1 rfl _ rfl (by omega)
      rw [← zs_succ] at hown'
      have HAPP := Lib.hid happ
      have HO := Lib.hid hown'
      have HF := Lib.hid hb'
      clear happ hown' hb' hown hb hz' hne h1
      go_wp2_with (at_builtin; refine wpList_run rfl _ (HAPP.out _ _ (.tmp 12) (.tmp 13) rfl rfl rfl) ?_)
      rcases HO.out.2 with ⟨_, h0⟩ | ⟨g2, cap2, cur2, rfl, _⟩
      · omega
      · go_roundw
        case rel => exact ⟨k + 1, g2, cap2, by omega, rfl, HO.out, HF.out⟩
        case measure => simp [lenOf]; omega
    · obtain rfl : k = F := by omega
      have hne := fill_end n
      rw [← hF.out] at hne
      have h2 : (((n : Int) + (k + 1)) % 128 != 112) = false := by rw [bne_eq_false_iff_eq]; omega
      have hd : (n : Int) / 2305843009213693952 = 0 := by omega
      have hd2 : (n : Int) / 2 ^ 61 = 0 := hd
      obtain ⟨N8, hN8⟩ : ∃ N8, Hid (N8 = 8 * n) := ⟨_, Lib.hid rfl⟩
      have hm : IntKind.u64.wrap ((n : Int) * 2 ^ 3) = (N8 : Int) := by
        rw [shl_cast, hN8.out]
        omega
      have hm2 : IntKind.u64.wrap ((n : Int) * 8) = (N8 : Int) := hm
      have hm3 : (n : Int) * 8 = (N8 : Int) := by rw [hN8.out]; omega
      have hbB := hb.size
      have HP1 := Lib.hid (put_any w.heap.size (some ⟨g, 0, none⟩) (k + 1) cap (zs k) 0 (by omega) wr hbB hown)
      have HB := Lib.hid hb
      clear hown hb hne
      go_wp2_with fail
      refine HP1.out.mono ?_
      rintro e w1 ⟨p1, c1, rfl, ho1, hb1⟩
      have HB1 := Lib.hid (HB.out.trans hb1)
      have HP2 := Lib.hid (put_any w.heap.size p1 (k + 1 + 8) c1 (zs k ++ be8 0) N8 (by omega) w1 HB1.out.size ho1)
      clear ho1 hb1 HP1
      go_wp2_with fail
      refine HP2.out.mono ?_
      rintro e w2 ⟨p2, c2, rfl, ho2, hb2⟩
      have HB2 := Lib.hid (HB1.out.trans hb2)
      have htl2 : zs k ++ be8 0 ++ be8 N8 = tl := by
        rw [htl.out, hF.out, hN8.out, List.append_assoc]
        rfl
      rw [htl2] at ho2
      obtain ⟨g2, cap2, he, hcv⟩ := bytes_str ho2 (by omega)
      injection he with he1 _ he3
      subst he1
      subst he3
      clear ho2 hb2 htl2 HP2
      go_wp2
      go_ret
      exact ⟨rfl, HB2.out⟩
theorem index32r (f : Nat → Nat) (i : Nat) (hi : i < 8) (w : World) : (Instr.index 32 (.agg (rowOf .u64 8 f).toArray) (.int .i64 i)).run Try.prog w = .ok (.int .u64 (f i)) w := by
  rcases (show i = 0 ∨ i = 1 ∨ i = 2 ∨ i = 3 ∨ i = 4 ∨ i = 5 ∨ i = 6 ∨ i = 7 by omega) with rfl | rfl | rfl | rfl | rfl | rfl | rfl | rfl <;> kernel_rfl
set_option maxRecDepth 100000 in
set_option maxHeartbeats 1000000 in
theorem told_any (f : Nat → Nat) (w : World) :
    Calls Try.prog 16 #[.agg (rowOf .u64 8 f).toArray] w fun e w' => e = .returned (.string ⟨(tellTo f 8).toArray⟩) ∧ Below w.heap.size w w' := by
  obtain ⟨cf, hcf⟩ : ∃ cf, Hid (cf = rowOf .u64 8 f) := ⟨_, Lib.hid rfl⟩
  have hmk : ∀ w, (Instr.makeSlice 29 (.int .i64 0) (.int .i64 64)).run Try.prog w = .ok (.slice (some ⟨w.heap.size, 0, none⟩) 0 64) (w.alloc (.cells (Array.replicate 64 (.int .u8 0)) 5)) := fun _ => by kernel_rfl
  obtain ⟨A64, hA⟩ : ∃ A64, Hid (A64 = Array.replicate 64 (Value.int .u8 0)) := ⟨_, Lib.hid rfl⟩
  rw [← hA.out] at hmk
  rw [← hcf.out]
  obtain ⟨tl, htl⟩ : ∃ tl, Hid (tl = tellTo f 8) := ⟨_, Lib.hid rfl⟩
  rw [← htl.out]
  have hc : Hid (∀ j v, cf[j]? = some v → ((w.alloc (.cells cf.toArray 32)).alloc (.cells A64 5)).cell? ⟨w.heap.size, 0 + j, none⟩ = some v) := by
    intro j v hv
    rw [cell_of_row _ _ _ _ _ _ (heap_alloc2_old w _ _), Nat.zero_add, List.getElem?_toArray, hv]
  have hsz : Hid ((Try.prog.info? 32).map (·.size) = some cf.length) := by unfold Hid; rw [hcf.out, rowOf_length]; kernel_rfl
  have hix : Hid (∀ (i : Nat) (hi : i < 8) (w : World), (Instr.index 32 (.agg cf.toArray) (.int .i64 i)).run Try.prog w = .ok (.int .u64 (f i)) w) := by unfold Hid; rw [hcf.out]; exact index32r f
  have hown0 : Hid (((w.alloc (.cells cf.toArray 32)).alloc (.cells A64 5)).ownsRow w.heap.size 5 1 (.slice (some ⟨w.heap.size + 1, 0, none⟩) 0 64) 0 (bytesV (tellTo f 0))) := by
    unfold Hid World.ownsRow
    exact ⟨rfl, Or.inr ⟨w.heap.size + 1, 64, A64, rfl, by omega, heap_alloc2_new w _ _, by omega, by unfold maxLen; omega, by rw [hA.out]; simp, rfl⟩⟩
  go_enter Try.func16, Try.ntmps16
  go_wp2_with (refine wpList_load_seg rfl 32 (.tmp 1) rfl w.heap.size 0 rfl cf _ hc.out Try.underlying32 rfl hsz.out ?_)
  go_loopw [3, 5, 8] (fun v _ i wr => ∃ k : Nat, ∃ p c, k ≤ 8 ∧ i = .int .i64 k ∧ v = .slice p (8 * k) c ∧ wr.ownsRow w.heap.size 5 1 (.slice p (8 * k) c) (8 * k) (bytesV (tellTo f k)) ∧ Below w.heap.size w wr) (fun _ _ i _ => 8 - (intOf i).toNat)
  case atStart => exact ⟨0, _, _, by omega, rfl, rfl, hown0.out, ((Below.refl _ w).alloc (Nat.le_refl _) _).alloc (by simp) _⟩
  case round =>
    obtain ⟨k, p, c, hk, rfl, rfl, hown, hb⟩ := hrel
    by_cases hlt : k < 8
    · have hix2 := hix.out k hlt
      have HP := Lib.hid (put_any w.heap.size p (8 * k) c (tellTo f k) (f k) (by omega) wr hb.size hown)
      rw [← tellTo_succ] at HP
      generalize f k = x at *
      have HB := Lib.hid hb
      clear hmk hown hb
      go_wp2_with fail
      refine HP.out.mono ?_
      rintro e w2 ⟨p2, c2, rfl, ho2, hb2⟩
      have HO2 := Lib.hid ho2
      have HB2 := Lib.hid (HB.out.trans hb2)
      clear ho2 hb2 HP HB
      go_wp2
      go_roundw
      case rel => exact ⟨k + 1, p2, c2, by omega, by go_num, rfl, HO2.out, HB2.out⟩
      case measure => simp [intOf]; omega
    · obtain rfl : k = 8 := by omega
      obtain ⟨g, cap, he, hcv⟩ := bytes_str hown (by omega)
      injection he with he1 _ he3
      subst he1
      subst he3
      have HB := Lib.hid hb
      rw [show 8 * 8 = 64 from rfl] at hcv ⊢
      rw [show ((8 : Nat) : Int) = (8 : Int) from rfl]
      rw [← htl.out] at hcv
      clear hown hb hix hown0 hc hmk
      go_wp2
      go_ret
      exact ⟨rfl, HB.out⟩
end Go.Proofs.Ytnajglmabgofeaa
