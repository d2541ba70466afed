/- bitsOf of package scalar: the iterator over a text's bits, the highest first, and what it hands its rounds, whatever they do. No condition but that the text has no more than 64 bytes. -/
import Derived.Test.YtfcnfcolhahghaaDoorRaw
namespace Go.Proofs.YtfcnfcolhahghaaDoor
open Go.RowKit Go.Shelf
set_option linter.unusedVariables false
set_option linter.unusedSimpArgs false
attribute [local go_sem] Oper.semAt_some
/-- A bit of bytes. -/
def bitL (l : List UInt8) (k : Nat) : Bool := decide (0 < (l.getD (k / 8) 0).toNat / 2 ^ (k % 8) % 2)
/-- The first m bits, the highest first. -/
def bitsTo (l : List UInt8) (m : Nat) : List Bool := (List.range m).map fun j => bitL l (8 * l.length - 1 - j)
theorem bitsTo_length (l : List UInt8) (m : Nat) : (bitsTo l m).length = m := by simp [bitsTo]
theorem bitsTo_succ (l : List UInt8) (m : Nat) : bitsTo l (m + 1) = bitsTo l m ++ [bitL l (8 * l.length - 1 - m)] := by simp [bitsTo, List.range_succ]
/-- The number that bits say. -/
def hv (l : List Bool) : Nat := l.foldl (fun n b => 2 * n + b.toNat) 0
theorem hv_snoc (l : List Bool) (b : Bool) : hv (l ++ [b]) = 2 * hv l + b.toNat := by simp [hv]
theorem bitL_nat (l : List UInt8) (k : Nat) : (bitL l k).toNat = leVal l / 2 ^ k % 2 := by
  rw [← le_bit]
  unfold bitL
  rcases Nat.mod_two_eq_zero_or_one ((l.getD (k / 8) 0).toNat / 2 ^ (k % 8)) with h | h <;> rw [h] <;> rfl
theorem hv_bits (l : List UInt8) : ∀ m, m ≤ 8 * l.length → hv (bitsTo l m) = leVal l / 2 ^ (8 * l.length - m)
  | 0, _ => by
    have h := leVal_lt l
    rw [show (256 : Nat) = 2 ^ 8 from rfl, ← Nat.pow_mul] at h
    rw [Nat.sub_zero, Nat.div_eq_of_lt h]
    rfl
  | m + 1, hm => by
    rw [bitsTo_succ, hv_snoc, hv_bits l m (by omega), bitL_nat]
    have h := bit_up (leVal l) (8 * l.length - 1 - m)
    rw [show 8 * l.length - 1 - m + 1 = 8 * l.length - m by omega] at h
    rw [h, show 8 * l.length - 1 - m = 8 * l.length - (m + 1) by omega]
theorem hv_all (l : List UInt8) : hv (bitsTo l (8 * l.length)) = leVal l := by rw [hv_bits l _ (Nat.le_refl _), Nat.sub_self, Nat.pow_zero, Nat.div_one]
theorem exec_shr5 {ρ : Operand → Value} {o : Oper} (x z : Operand) (ho : o.op = .binOp .shr 5 x z 3) (y s : Nat) (hs : s < 8) (hx : ρ x = .int .u8 (y : Int)) (hz : ρ z = .int .i64 (s : Int)) (r : Nat) (hr : r = y / 2 ^ s) (w : World) :
    (execOp ρ o).run Tryd.prog w = .ok (.value (.int .u8 (r : Int))) w := by
  have hsh := shr_cast y s
  rw [← hr] at hsh
  have hsi : (s : Int) < 8 := by omega
  clear hr
  unfold execOp
  rw [ho]
  simp only [hx, hz]
  go_simp
theorem exec_and5 {ρ : Operand → Value} {o : Oper} (x : Operand) (ho : o.op = .binOp .and 5 x (.const (.int .u8 1)) 5) (hc : ρ (.const (.int .u8 1)) = .int .u8 1) (y r : Nat) (hy : y < 256) (hx : ρ x = .int .u8 (y : Int)) (hr : r = y % 2) (w : World) :
    (execOp ρ o).run Tryd.prog w = .ok (.value (.int .u8 (r : Int))) w := by
  have hb : bits .and .u8 (y : Int) 1 = (r : Int) := by
    have h : ∀ y : Fin 256, bits .and .u8 (y.1 : Int) 1 = ((y.1 % 2 : Nat) : Int) := by decide +kernel
    rw [hr]
    exact h ⟨y, hy⟩
  clear hr
  unfold execOp
  rw [ho]
  simp only [hx, hc]
  go_simp
theorem exec_gtr5 {ρ : Operand → Value} {o : Oper} (x : Operand) (ho : o.op = .binOp .gtr 5 x (.const (.int .u8 0)) 5) (hc : ρ (.const (.int .u8 0)) = .int .u8 0) (y : Nat) (b : Bool) (hx : ρ x = .int .u8 (y : Int)) (hb : b = decide (0 < y)) (w : World) :
    (execOp ρ o).run Tryd.prog w = .ok (.value (.bool b)) w := by
  have hd := hb.symm
  clear hb
  unfold execOp
  rw [ho]
  simp only [hx, hc]
  go_simp
theorem bitsOf_in (n : Nat) (s : ByteArray) (w : World) :
    CallsIn Fence.wide n Tryd.prog 30 #[.string s] w fun e w' => e = .returned (.func (.func 35) #[] #[.pointer (some ⟨w.heap.size, 0, none⟩)]) ∧ w.alloc (.cells #[.string s] 9) = w' := by
  refine callsIn_of_wp Tryd.func30 rfl trivial ?_ rfl
  simp only [Tryd.ntmps30, List.size_toArray, List.length_cons, List.length_nil, Nat.reduceAdd, Nat.reduceSub, Array.replicate_succ, Array.replicate_zero, List.push_toArray, List.append_toArray, List.nil_append, List.cons_append]
  gi_wp2
  go_ret
  exact ⟨rfl, rfl⟩
def encB (b : Bool) : Array Value := #[.bool b]
def KpB (Bp : Nat) (A B : World) : Prop := B.heap[Bp]? = A.heap[Bp]?
set_option maxHeartbeats 1000000 in
theorem bits1_in (m l Bp : Nat) (s : ByteArray) (hs : s.size ≤ 64) (J Jx : List Bool → World → Prop)
    (hY : ∀ pre x W, J pre W → pre.length < 8 * s.size → YieldAt Fence.wide (m - 1) Tryd.prog l (encB x) W fun e W' =>
      (e = .returned (.bool true) ∧ J (pre ++ [x]) W' ∧ KpB Bp W W') ∨ (e = .returned (.bool false) ∧ Jx (pre ++ [x]) W'))
    (W : World) (hbox : Boxed W Bp 9 (.string s)) (h0 : J [] W) (hm : 1 ≤ m) :
    CallsIn Fence.wide m Tryd.prog 35 #[.func (.yield l) #[] #[], .pointer (some ⟨Bp, 0, none⟩)] W fun e W' => (∃ v, e = .returned v) ∧ ((∃ xs, xs = bitsTo s.data.toList (8 * s.size) ∧ J xs W') ∨ (∃ pre, True ∧ Jx pre W')) := by
  have hsl : s.data.toList.length = s.size := rfl
  refine callsIn_of_wp Tryd.func35 rfl trivial ?_ rfl
  simp only [Tryd.ntmps35, List.size_toArray, List.length_cons, List.length_nil, Nat.reduceAdd, Nat.reduceSub, Array.replicate_succ, Array.replicate_zero, List.push_toArray, List.append_toArray, List.nil_append, List.cons_append]
  have cb := hbox.cell
  have hBX := Lib.hid hbox
  have hsI : (s.size : Int) ≤ 64 := by omega
  clear hbox
  gi_wp2
  clear cb
  gi_loopw [3] (fun i wr => ∃ k : Nat, k ≤ 8 * s.size ∧ i = .int .i64 ((8 * s.size : Nat) - 1 - (k : Int)) ∧ J (bitsTo s.data.toList k) wr ∧ Boxed wr Bp 9 (.string s))
    (fun i _ => (1 + intOf i).toNat)
  case atStart => exact ⟨0, Nat.zero_le _, congrArg (Value.int IntKind.i64) (by omega), h0, hBX.out⟩
  case round =>
    clear hBX
    obtain ⟨k, hk, rfl, hJs, hbx⟩ := hrel
    by_cases hlt : k < 8 * s.size
    · obtain ⟨u, hu⟩ : ∃ u, u = 8 * s.size - 1 - k := ⟨_, rfl⟩
      rw [show ((8 * s.size : Nat) - 1 - (k : Int)) = (u : Int) by omega]
      obtain ⟨j, hj0⟩ : ∃ j, j = u / 8 := ⟨_, rfl⟩
      obtain ⟨q, hq0⟩ : ∃ q, q = u % 8 := ⟨_, rfl⟩
      have hjs : j < s.size := by omega
      have hq8 : q < 8 := by omega
      have hu1 : u < 1000 := by omega
      obtain ⟨c, hc0⟩ : ∃ c, c = s[j].toNat := ⟨_, rfl⟩
      have hc256 : c < 256 := by rw [hc0]; exact UInt8.toNat_lt _
      obtain ⟨y, hy0⟩ : ∃ y, y = c / 2 ^ q := ⟨_, rfl⟩
      have hy256 : y < 256 := by rw [hy0]; exact Nat.lt_of_le_of_lt (Nat.div_le_self _ _) hc256
      obtain ⟨r, hr0⟩ : ∃ r, r = y % 2 := ⟨_, rfl⟩
      obtain ⟨b, hb0⟩ : ∃ b, b = decide (0 < r) := ⟨_, rfl⟩
      have hbl : b = bitL s.data.toList u := by
        have hg : s.data.toList.getD (u / 8) 0 = s[j] := by
          rw [← hj0, List.getD_eq_getElem?_getD, List.getElem?_eq_getElem (by omega)]
          rfl
        unfold bitL
        rw [hb0, hr0, hy0, hc0, hg, hq0]
      have hnx : bitsTo s.data.toList (k + 1) = bitsTo s.data.toList k ++ [b] := by rw [bitsTo_succ, hsl, hbl, ← hu]
      obtain ⟨fn, tmps, assign, body, hy, hR⟩ := hY (bitsTo s.data.toList k) b wr hJs (by rw [bitsTo_length]; exact hlt)
      have hR2 := Lib.hid hR
      have cb := hbx.cell
      have HBX := Lib.hid hbx
      have hyy : (Instr.yield l #[.bool b]).run Tryd.prog wr = .ok (.round l fn tmps assign body) wr := hy
      have HNX := Lib.hid hnx
      have hj := Lib.hid hj0
      have hq := Lib.hid hq0
      have hc := Lib.hid hc0
      have hyv := Lib.hid hy0
      have hr := Lib.hid hr0
      have hbv := Lib.hid hb0
      have HU := Lib.hid hu
      have HHY := Lib.hid hY
      clear hY hJs hR hy hbx hnx hj0 hq0 hc0 hy0 hr0 hb0 hbl hu
      gi_wp2_with (first | (refine wpListIn_run rfl rfl rfl _ (exec_quo8 (.tmp 14) rfl rfl u j hu1 rfl hj.out _) ?_) | (refine wpListIn_run rfl rfl rfl _ (exec_rem8 (.tmp 17) rfl rfl u q hu1 rfl hq.out _) ?_) | (refine wpListIn_run rfl rfl rfl _ (exec_index_str (.tmp 13) (.tmp 15) rfl s j hjs rfl rfl c hc.out _) ?_) | (refine wpListIn_run rfl rfl rfl _ (exec_shr5 (.tmp 16) (.tmp 18) rfl c q hq8 rfl rfl y hyv.out _) ?_) | (refine wpListIn_run rfl rfl rfl _ (exec_and5 (.tmp 19) rfl rfl y r hy256 rfl hr.out _) ?_) | (refine wpListIn_run rfl rfl rfl _ (exec_gtr5 (.tmp 20) rfl rfl r b rfl hbv.out _) ?_))
      refine hR2.out.mono ?_
      rintro e W3 (⟨rfl, hJ3, hk3⟩ | ⟨rfl, hJx3⟩)
      · have hbx3 : Boxed W3 Bp 9 (.string s) := Eq.trans hk3 HBX.out
        clear hk3 cb
        gi_wp2
        go_roundw
        case rel => exact ⟨k + 1, by omega, congrArg (Value.int IntKind.i64) (by have := HU.out; omega), by rw [HNX.out]; exact hJ3, hbx3⟩
        case measure => have := HU.out; simp [intOf]; omega
      · clear cb
        gi_wp2
        refine bodyPost_ret (results_none rfl _ _ _) rfl ?_
        exact ⟨⟨_, rfl⟩, Or.inr ⟨_, trivial, hJx3⟩⟩
    · obtain rfl : k = 8 * s.size := by omega
      have HJ := Lib.hid hJs
      clear hJs hY h0 hbx
      rw [show ((8 * s.size : Nat) - 1 - ((8 * s.size : Nat) : Int)) = (-1 : Int) by omega]
      gi_wp2
      go_end0
      exact ⟨⟨_, rfl⟩, .inl ⟨_, rfl, HJ.out⟩⟩
theorem bits_stops (m Bp : Nat) (s : ByteArray) (hs : s.size ≤ 64) (w : World) (hbox : Boxed w Bp 9 (.string s)) (hm : 1 ≤ m) :
    SeqStopsK Fence.wide m Tryd.prog 35 #[.pointer (some ⟨Bp, 0, none⟩)] encB (KpB Bp) (fun xs => xs = bitsTo s.data.toList (8 * s.size)) (fun _ => True) (8 * s.size) w := by
  intro l J Jx W hW hJ hJx hY h0
  exact bits1_in m l Bp s hs J Jx hY W ((hW.block Bp hbox.lt).trans hbox) h0 hm
end Go.Proofs.YtfcnfcolhahghaaDoor
