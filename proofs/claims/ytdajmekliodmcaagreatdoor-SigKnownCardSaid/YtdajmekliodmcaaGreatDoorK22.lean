/- Several texts, one behind the other; each says by itself what it proves, and on what conditions. -/
import Derived.Test.YtdajmekliodmcaaGreatDoorK21
import Derived.Deep.DeepCutAuto
import Derived.Deep.CutBlock
import Derived.RangeFuncBox
import Derived.ProofKit
import Derived.LaidMore
import Derived.LaidHandle
import Derived.LaidLaws
import Derived.OpenShut
import Derived.ChangeArms
import Derived.Lay
import Derived.Stop.Joined
namespace Go.Proofs.YtdajmekliodmcaaGreatDoor.S7
set_option linter.unusedSimpArgs false
open Go.Proofs.YtdajmekliodmcaaGreatDoor.P8
open Go.RowKit
set_option linter.unusedVariables false
open Go.RowKit Go.Shelf
attribute [local go_sem] Oper.semAt_some
end Go.Proofs.YtdajmekliodmcaaGreatDoor.S7
namespace Go.Proofs.YtdajmekliodmcaaGreatDoor.S7
open Go.Proofs.YtdajmekliodmcaaGreatDoor.P8
open Go.RowKit Go.Shelf
set_option linter.unusedVariables false
set_option linter.unusedSimpArgs false
def LL : Nat := 7237005577332262213973186563042994240857116359379907606001950938285454250989
theorem LL_pos : 0 < LL := by decide
theorem LL_lt {x : Nat} (h : x < LL) : x < 115792089237316195423570985008687907853269984665640564039457584007913129639936 := Nat.lt_trans h (by decide)
theorem bit_up (V i : Nat) : 2 * (V / 2 ^ (i + 1)) + V / 2 ^ i % 2 = V / 2 ^ i := by
  rw [Nat.pow_succ, ← Nat.div_div_eq_div_mul]
  omega
theorem le_get : ∀ (l : List UInt8) (j : Nat), (l.getD j 0).toNat = leVal l / 256 ^ j % 256
  | [], j => by simp [leVal]
  | c :: l, 0 => by
    have hc := c.toNat_lt
    show c.toNat = (c.toNat + 256 * leVal l) / 1 % 256
    omega
  | c :: l, j + 1 => by
    have hc := c.toNat_lt
    have h := le_get l j
    show (l.getD j 0).toNat = (c.toNat + 256 * leVal l) / (256 ^ j * 256) % 256
    rw [h, Nat.mul_comm (256 ^ j) 256, ← Nat.div_div_eq_div_mul, show (c.toNat + 256 * leVal l) / 256 = leVal l by omega]
theorem le_bit (l : List UInt8) (k : Nat) : (l.getD (k / 8) 0).toNat / 2 ^ (k % 8) % 2 = leVal l / 2 ^ k % 2 := by
  rw [le_get]
  have h : (2 : Nat) ^ k = 256 ^ (k / 8) * 2 ^ (k % 8) := by
    rw [show (256 : Nat) = 2 ^ 8 from rfl, ← Nat.pow_mul, ← Nat.pow_add]
    congr 1
    omega
  rw [h, ← Nat.div_div_eq_div_mul]
  generalize leVal l / 256 ^ (k / 8) = y
  have h8 : k % 8 < 8 := Nat.mod_lt _ (by decide)
  rcases (show k % 8 = 0 ∨ k % 8 = 1 ∨ k % 8 = 2 ∨ k % 8 = 3 ∨ k % 8 = 4 ∨ k % 8 = 5 ∨ k % 8 = 6 ∨ k % 8 = 7 by omega) with h | h | h | h | h | h | h | h <;> rw [h] <;> simp only [Nat.reducePow] <;> omega
def reduceL (l : List UInt8) : Nat := leVal (l.take 64) % LL
def muladdL (a b c : Nat) : Nat := (a * b + c) % LL
theorem Kn.setw {w0 w : World} {l m : List (Nat × Array Value)} (h : Kn w0 l w) (g : Nat) (f : Nat → Nat) (j v : Nat) (hg : Row w g 36 .u64 4 f) (hw : w0.heap.size ≤ g) (hm : ∀ p ∈ m, p = (g, (rowOf .u64 4 (upd f j v)).toArray) ∨ (p ∈ l ∧ p.1 ≠ g)) : Kn w0 m (w.setCell ⟨g, j, none⟩ (.int .u64 (v : Int))) :=
  ⟨h.1.setCell (p := ⟨g, j, none⟩) hw _, fun p hp => by
    rcases hm p hp with rfl | ⟨h1, h2⟩
    · exact hg.set j v
    · exact (heap_setCell_other _ _ _ _ h2).trans (h.2 p h1)⟩
theorem exec_build0g {ρ : Operand → Value} {o : Oper} {t : TypeId} (ho : o.op = .build t #[]) (v : Value) {w : World} (hrun : (Instr.build t #[]).run Tryz.prog w = .ok v w) (w2 : World) (hw : w2 = w := by rfl) : (execOp ρ o).run Tryz.prog w2 = .ok (.value v) w2 := by
  subst hw
  unfold execOp
  simp [ho, hrun]
def fRaw (a k j : Nat) : Nat := if j < k then dig a (j / 8) / 2 ^ (j % 8 * 8) % 256 else 0
theorem fRaw_step (a k v : Nat) (hv : v = dig a (k / 8) / 2 ^ (k % 8 * 8) % 256) : ∀ j, j < 32 → upd (fRaw a k) k v j = fRaw a (k + 1) j := by
  intro j _
  unfold upd fRaw
  by_cases e : j = k
  · subst e; rw [if_pos rfl, if_pos (by omega), hv]
  · rw [if_neg e]
    by_cases h : j < k
    · rw [if_pos h, if_pos (by omega)]
    · rw [if_neg h, if_neg (by omega)]
theorem fRaw_all (a : Nat) : rowOf .u8 32 (fRaw a 32) = bytesV (bytesN a) := by
  have h : rowOf .u8 32 (fRaw a 32) = (List.range 32).map fun j => Value.int .u8 ((dig a (j / 8) / 2 ^ (j % 8 * 8) % 256 : Nat) : Int) := by
    unfold rowOf
    apply List.map_congr_left
    intro j hj
    unfold fRaw
    rw [if_pos (List.mem_range.1 hj)]
  rw [h]
  unfold bytesV bytesN leW le8
  rw [fin4]
  simp only [List.flatMap_cons, List.flatMap_nil, List.append_nil, List.map_append, List.map_map, UInt8.toNat_ofNat', Function.comp_def]
  generalize dig a = f
  rfl
theorem make32 (W : World) : (Instr.makeSlice 33 (.int .i64 32) (.int .i64 32)).run Tryz.prog W = .ok (.slice (some ⟨W.heap.size, 0, none⟩) 32 32) (W.alloc (.cells (rowOf .u8 32 (fun _ => 0)).toArray 5)) := by kernel_rfl
set_option maxRecDepth 100000 in
set_option maxHeartbeats 1000000 in
theorem raw_any (a : Nat) (w : World) :
    Calls Tryz.prog 73 #[.agg (num a)] w fun e w' => e = .returned (.string ⟨(bytesN a).toArray⟩) ∧ Below w.heap.size w w' := by
  obtain ⟨tl, htl⟩ : ∃ tl : ByteArray, Hid (tl = ⟨(bytesN a).toArray⟩) := ⟨_, Lib.hid rfl⟩
  rw [← htl.out]
  obtain ⟨A, hA⟩ : ∃ A, Hid (A = num a) := ⟨_, Lib.hid rfl⟩
  rw [← hA.out]
  have hr00 : Row ((w.alloc (.cells A 36)).alloc (.cells (rowOf .u8 32 (fun _ => 0)).toArray 5)) (w.heap.size + 1) 5 .u8 32 (fRaw a 0) := by
    have h := Row.ext (f' := fRaw a 0) (Row.new (w.alloc (.cells A 36)) 5 .u8 32 (fun _ => 0)) (fun j _ => rfl)
    rw [World.size_alloc] at h
    exact h
  have hr0 := Lib.hid hr00
  have hn0 : Hid (Row ((w.alloc (.cells A 36)).alloc (.cells (rowOf .u8 32 (fun _ => 0)).toArray 5)) w.heap.size 36 .u64 4 (dig a)) := by
    rw [hA.out]
    exact Lib.hid ((Row.new w 36 .u64 4 (dig a)).alloc _)
  have hb0 : Hid (Below w.heap.size w ((w.alloc (.cells A 36)).alloc (.cells (rowOf .u8 32 (fun _ => 0)).toArray 5))) := Lib.hid (((Below.refl _ w).alloc (Nat.le_refl _) _).alloc (by simp) _)
  clear hr00
  obtain ⟨z, hz⟩ : ∃ z, Hid (z = (rowOf .u8 32 (fun _ => 0)).toArray) := ⟨_, Lib.hid rfl⟩
  rw [← hz.out] at hr0 hn0 hb0
  have hmk2 : ∀ W : World, (Instr.makeSlice 33 (.int .i64 32) (.int .i64 32)).run Tryz.prog W = .ok (.slice (some ⟨W.heap.size, 0, none⟩) 32 32) (W.alloc (.cells z 5)) := by rw [hz.out]; exact make32
  go_enter Tryz.func73, Tryz.ntmps73
  go_wp2
  generalize (w.alloc (.cells A 36)).alloc (.cells z 5) = W0 at *
  go_loopw [8] (fun i wr => ∃ k : Nat, k ≤ 32 ∧ i = .int .i64 k ∧ Row wr w.heap.size 36 .u64 4 (dig a) ∧ Row wr (w.heap.size + 1) 5 .u8 32 (fRaw a k) ∧ Below w.heap.size w wr) (fun i _ => 32 - (intOf i).toNat)
  case atStart => exact ⟨0, by omega, rfl, hn0.out, hr0.out, hb0.out⟩
  case round =>
    clear hr0 hn0 hb0
    obtain ⟨k, hk, rfl, hrow0, hrow, hb⟩ := hrel
    have HA := Lib.hid hrow0
    have HR := Lib.hid hrow
    have HB := Lib.hid hb
    clear hrow0 hrow hb
    by_cases hlt : k < 32
    · obtain ⟨j, hj0⟩ : ∃ j, j = k / 8 := ⟨_, rfl⟩
      obtain ⟨q, hq0⟩ : ∃ q, q = k % 8 := ⟨_, rfl⟩
      obtain ⟨sh, hsh0⟩ : ∃ sh, sh = 8 * q := ⟨_, rfl⟩
      have hj4 : j < 4 := by omega
      have hq8 : q < 8 := by omega
      have hs64 : sh < 64 := by omega
      obtain ⟨y, hy0⟩ : ∃ y, y = dig a j / 2 ^ sh := ⟨_, rfl⟩
      obtain ⟨b, hb0⟩ : ∃ b, b = y % 256 := ⟨_, rfl⟩
      have hbv : b = dig a (k / 8) / 2 ^ (k % 8 * 8) % 256 := by rw [hb0, hy0, hsh0, hj0, hq0, Nat.mul_comm 8]
      have cj : wr.cell? ⟨w.heap.size, j, none⟩ = some (.int .u64 (dig a j : Int)) := HA.out.cell j hj4
      have ck : wr.cell? ⟨w.heap.size + 1, k, none⟩ = some (.int .u8 (fRaw a k k)) := HR.out.cell k hlt
      have fk : wr.frozen? ⟨w.heap.size + 1, k, none⟩ = false := HR.out.free k
      have HN1 : Hid (Row (wr.setCell ⟨w.heap.size + 1, k, none⟩ (.int .u8 b)) w.heap.size 36 .u64 4 (dig a)) := Lib.hid (HA.out.other _ _ (by show w.heap.size ≠ w.heap.size + 1; omega))
      have HN : Hid (Row (wr.setCell ⟨w.heap.size + 1, k, none⟩ (.int .u8 b)) (w.heap.size + 1) 5 .u8 32 (fRaw a (k + 1))) := Lib.hid (Row.ext (Row.set (w := wr) HR.out k b) (fRaw_step a k b hbv))
      have HN2 : Hid (Below w.heap.size w (wr.setCell ⟨w.heap.size + 1, k, none⟩ (.int .u8 b))) := Lib.hid (HB.out.setCell (p := ⟨w.heap.size + 1, k, none⟩) (by show w.heap.size ≤ w.heap.size + 1; omega) _)
      generalize fRaw a k k = old at *
      generalize dig a j = d at *
      have hj := Lib.hid hj0
      have hq := Lib.hid hq0
      have hsh := Lib.hid hsh0
      have hy := Lib.hid hy0
      have hb := Lib.hid hb0
      clear hj0 hq0 hsh0 hy0 hb0 hbv HA HR
      have hltI : (k : Int) < 32 := by omega
      go_wp2_with (first | (refine wpList_run rfl _ (exec_quo8 (.tmp 13) rfl rfl k j (by omega) rfl hj.out _) ?_) | (refine wpList_run rfl _ (exec_indexAddr24 (.tmp 1) (.tmp 14) rfl (w.heap.size) j rfl rfl hj4 _) ?_) | (refine wpList_run rfl _ (exec_rem8 (.tmp 17) rfl rfl k q (by omega) rfl hq.out _) ?_) | (refine wpList_run rfl _ (exec_mul8 (.tmp 18) rfl rfl q sh hq8 rfl hsh.out _) ?_) | (refine wpList_run rfl _ (exec_shr (.tmp 16) (.tmp 19) rfl d sh hs64 rfl rfl y hy.out _) ?_) | (refine wpList_run rfl _ (exec_conv8 (.tmp 20) rfl y b rfl hb.out _) ?_))
      go_roundw
      case rel => exact ⟨k + 1, by omega, by first | rfl | simp | go_num, HN1.out, HN.out, HN2.out⟩
      case measure => simp [intOf]; omega
    · obtain rfl : k = 32 := by omega
      have hown : wr.ownsRow (w.heap.size + 1) 5 1 (.slice (some ⟨w.heap.size + 1, 0, none⟩) 32 32) 32 (bytesV (bytesN a)) := by
        rw [← fRaw_all]
        exact ⟨by rw [rowOf_length], Or.inr ⟨w.heap.size + 1, 32, _, rfl, Nat.le_refl _, HR.out, Nat.le_refl _, by unfold maxLen; omega, by rw [rowOf_size], by rw [Nat.mul_one]; exact List.take_of_length_le (by rw [rowOf_length]; exact Nat.le_refl _)⟩⟩
      obtain ⟨g, cap, he, hcv⟩ := bytes_str hown (by omega)
      injection he with he1 _ he2
      injection he1 with he1
      injection he1 with he1
      subst he1
      subst he2
      rw [← htl.out] at hcv
      clear hown HR hmk2
      rw [show ((32 : Nat) : Int) = (32 : Int) from rfl]
      go_wp2
      go_ret
      exact ⟨rfl, HB.out⟩
attribute [local go_sem] Oper.semAt_some
def bitL (l : List UInt8) (k : Nat) : Bool := decide (0 < (l.getD (k / 8) 0).toNat / 2 ^ (k % 8) % 2)
def bitsTo (l : List UInt8) (m : Nat) : List Bool := (List.range m).map fun j => bitL l (8 * l.length - 1 - j)
theorem bitsTo_length (l : List UInt8) (m : Nat) : (bitsTo l m).length = m := by simp [bitsTo]
theorem bitsTo_succ (l : List UInt8) (m : Nat) : bitsTo l (m + 1) = bitsTo l m ++ [bitL l (8 * l.length - 1 - m)] := by simp [bitsTo, List.range_succ]
def hv (l : List Bool) : Nat := l.foldl (fun n b => 2 * n + b.toNat) 0
theorem hv_snoc (l : List Bool) (b : Bool) : hv (l ++ [b]) = 2 * hv l + b.toNat := by simp [hv]
theorem bitL_nat (l : List UInt8) (k : Nat) : (bitL l k).toNat = leVal l / 2 ^ k % 2 := by
  rw [← le_bit]
  unfold bitL
  rcases Nat.mod_two_eq_zero_or_one ((l.getD (k / 8) 0).toNat / 2 ^ (k % 8)) with h | h <;> rw [h] <;> rfl
theorem hv_bits (l : List UInt8) : ∀ m, m ≤ 8 * l.length → hv (bitsTo l m) = leVal l / 2 ^ (8 * l.length - m)
  | 0, _ => by
    have h := leVal_lt l
    rw [show (256 : Nat) = 2 ^ 8 from rfl, ← Nat.pow_mul] at h
    rw [Nat.sub_zero, Nat.div_eq_of_lt h]
    rfl
  | m + 1, hm => by
    rw [bitsTo_succ, hv_snoc, hv_bits l m (by omega), bitL_nat]
    have h := bit_up (leVal l) (8 * l.length - 1 - m)
    rw [show 8 * l.length - 1 - m + 1 = 8 * l.length - m by omega] at h
    rw [h, show 8 * l.length - 1 - m = 8 * l.length - (m + 1) by omega]
theorem hv_all (l : List UInt8) : hv (bitsTo l (8 * l.length)) = leVal l := by rw [hv_bits l _ (Nat.le_refl _), Nat.sub_self, Nat.pow_zero, Nat.div_one]
theorem exec_shr5 {ρ : Operand → Value} {o : Oper} (x z : Operand) (ho : o.op = .binOp .shr 5 x z 3) (y s : Nat) (hs : s < 8) (hx : ρ x = .int .u8 (y : Int)) (hz : ρ z = .int .i64 (s : Int)) (r : Nat) (hr : r = y / 2 ^ s) (w : World) :
    (execOp ρ o).run Tryz.prog w = .ok (.value (.int .u8 (r : Int))) w := by
  have hsh := shr_cast y s
  rw [← hr] at hsh
  have hsi : (s : Int) < 8 := by omega
  clear hr
  unfold execOp
  rw [ho]
  simp only [hx, hz]
  go_simp
theorem exec_and5 {ρ : Operand → Value} {o : Oper} (x : Operand) (ho : o.op = .binOp .and 5 x (.const (.int .u8 1)) 5) (hc : ρ (.const (.int .u8 1)) = .int .u8 1) (y r : Nat) (hy : y < 256) (hx : ρ x = .int .u8 (y : Int)) (hr : r = y % 2) (w : World) :
    (execOp ρ o).run Tryz.prog w = .ok (.value (.int .u8 (r : Int))) w := by
  have hb : bits .and .u8 (y : Int) 1 = (r : Int) := by
    have h : ∀ y : Fin 256, bits .and .u8 (y.1 : Int) 1 = ((y.1 % 2 : Nat) : Int) := by decide +kernel
    rw [hr]
    exact h ⟨y, hy⟩
  clear hr
  unfold execOp
  rw [ho]
  simp only [hx, hc]
  go_simp
theorem exec_gtr5 {ρ : Operand → Value} {o : Oper} (x : Operand) (ho : o.op = .binOp .gtr 5 x (.const (.int .u8 0)) 5) (hc : ρ (.const (.int .u8 0)) = .int .u8 0) (y : Nat) (b : Bool) (hx : ρ x = .int .u8 (y : Int)) (hb : b = decide (0 < y)) (w : World) :
    (execOp ρ o).run Tryz.prog w = .ok (.value (.bool b)) w := by
  have hd := hb.symm
  clear hb
  unfold execOp
  rw [ho]
  simp only [hx, hc]
  go_simp
theorem bitsOf_in (n : Nat) (s : ByteArray) (w : World) :
    CallsIn Fence.wide n Tryz.prog 126 #[.string s] w fun e w' => e = .returned (.func (.func 163) #[] #[.pointer (some ⟨w.heap.size, 0, none⟩)]) ∧ w.alloc (.cells #[.string s] 9) = w' := by
  refine callsIn_of_wp Tryz.func126 rfl trivial ?_ rfl
  simp only [Tryz.ntmps126, List.size_toArray, List.length_cons, List.length_nil, Nat.reduceAdd, Nat.reduceSub, Array.replicate_succ, Array.replicate_zero, List.push_toArray, List.append_toArray, List.nil_append, List.cons_append]
  gi_wp2
  go_ret
  exact ⟨rfl, rfl⟩
set_option maxHeartbeats 1000000 in
theorem bits1_in (m l Bp : Nat) (s : ByteArray) (hs : s.size ≤ 64) (J Jx : List Bool → World → Prop)
    (hY : ∀ pre x W, J pre W → pre.length < 8 * s.size → YieldAt Fence.wide (m - 1) Tryz.prog l (encB x) W fun e W' =>
      (e = .returned (.bool true) ∧ J (pre ++ [x]) W' ∧ KpB Bp W W') ∨ (e = .returned (.bool false) ∧ Jx (pre ++ [x]) W'))
    (W : World) (hbox : Boxed W Bp 9 (.string s)) (h0 : J [] W) (hm : 1 ≤ m) :
    CallsIn Fence.wide m Tryz.prog 163 #[.func (.yield l) #[] #[], .pointer (some ⟨Bp, 0, none⟩)] W fun e W' => (∃ v, e = .returned v) ∧ ((∃ xs, xs = bitsTo s.data.toList (8 * s.size) ∧ J xs W') ∨ (∃ pre, True ∧ Jx pre W')) := by
  have hsl : s.data.toList.length = s.size := rfl
  refine callsIn_of_wp Tryz.func163 rfl trivial ?_ rfl
  simp only [Tryz.ntmps163, List.size_toArray, List.length_cons, List.length_nil, Nat.reduceAdd, Nat.reduceSub, Array.replicate_succ, Array.replicate_zero, List.push_toArray, List.append_toArray, List.nil_append, List.cons_append]
  have cb := hbox.cell
  have hBX := Lib.hid hbox
  have hsI : (s.size : Int) ≤ 64 := by omega
  clear hbox
  gi_wp2
  clear cb
  gi_loopw [3] (fun i wr => ∃ k : Nat, k ≤ 8 * s.size ∧ i = .int .i64 ((8 * s.size : Nat) - 1 - (k : Int)) ∧ J (bitsTo s.data.toList k) wr ∧ Boxed wr Bp 9 (.string s))
    (fun i _ => (1 + intOf i).toNat)
  case atStart => exact ⟨0, Nat.zero_le _, congrArg (Value.int IntKind.i64) (by omega), h0, hBX.out⟩
  case round =>
    clear hBX
    obtain ⟨k, hk, rfl, hJs, hbx⟩ := hrel
    by_cases hlt : k < 8 * s.size
    · obtain ⟨u, hu⟩ : ∃ u, u = 8 * s.size - 1 - k := ⟨_, rfl⟩
      rw [show ((8 * s.size : Nat) - 1 - (k : Int)) = (u : Int) by omega]
      obtain ⟨j, hj0⟩ : ∃ j, j = u / 8 := ⟨_, rfl⟩
      obtain ⟨q, hq0⟩ : ∃ q, q = u % 8 := ⟨_, rfl⟩
      have hjs : j < s.size := by omega
      have hq8 : q < 8 := by omega
      have hu1 : u < 1000 := by omega
      obtain ⟨c, hc0⟩ : ∃ c, c = s[j].toNat := ⟨_, rfl⟩
      have hc256 : c < 256 := by rw [hc0]; exact UInt8.toNat_lt _
      obtain ⟨y, hy0⟩ : ∃ y, y = c / 2 ^ q := ⟨_, rfl⟩
      have hy256 : y < 256 := by rw [hy0]; exact Nat.lt_of_le_of_lt (Nat.div_le_self _ _) hc256
      obtain ⟨r, hr0⟩ : ∃ r, r = y % 2 := ⟨_, rfl⟩
      obtain ⟨b, hb0⟩ : ∃ b, b = decide (0 < r) := ⟨_, rfl⟩
      have hbl : b = bitL s.data.toList u := by
        have hg : s.data.toList.getD (u / 8) 0 = s[j] := by
          rw [← hj0, List.getD_eq_getElem?_getD, List.getElem?_eq_getElem (by omega)]
          rfl
        unfold bitL
        rw [hb0, hr0, hy0, hc0, hg, hq0]
      have hnx : bitsTo s.data.toList (k + 1) = bitsTo s.data.toList k ++ [b] := by rw [bitsTo_succ, hsl, hbl, ← hu]
      obtain ⟨fn, tmps, assign, body, hy, hR⟩ := hY (bitsTo s.data.toList k) b wr hJs (by rw [bitsTo_length]; exact hlt)
      have hR2 := Lib.hid hR
      have cb := hbx.cell
      have HBX := Lib.hid hbx
      have hyy : (Instr.yield l #[.bool b]).run Tryz.prog wr = .ok (.round l fn tmps assign body) wr := hy
      have HNX := Lib.hid hnx
      have hj := Lib.hid hj0
      have hq := Lib.hid hq0
      have hc := Lib.hid hc0
      have hyv := Lib.hid hy0
      have hr := Lib.hid hr0
      have hbv := Lib.hid hb0
      have HU := Lib.hid hu
      have HHY := Lib.hid hY
      clear hY hJs hR hy hbx hnx hj0 hq0 hc0 hy0 hr0 hb0 hbl hu
      gi_wp2_with (first | (refine wpListIn_run rfl rfl rfl _ (exec_quo8 (.tmp 14) rfl rfl u j hu1 rfl hj.out _) ?_) | (refine wpListIn_run rfl rfl rfl _ (exec_rem8 (.tmp 17) rfl rfl u q hu1 rfl hq.out _) ?_) | (refine wpListIn_run rfl rfl rfl _ (exec_index_str (.tmp 13) (.tmp 15) rfl s j hjs rfl rfl c hc.out _) ?_) | (refine wpListIn_run rfl rfl rfl _ (exec_shr5 (.tmp 16) (.tmp 18) rfl c q hq8 rfl rfl y hyv.out _) ?_) | (refine wpListIn_run rfl rfl rfl _ (exec_and5 (.tmp 19) rfl rfl y r hy256 rfl hr.out _) ?_) | (refine wpListIn_run rfl rfl rfl _ (exec_gtr5 (.tmp 20) rfl rfl r b rfl hbv.out _) ?_))
      refine hR2.out.mono ?_
      rintro e W3 (⟨rfl, hJ3, hk3⟩ | ⟨rfl, hJx3⟩)
      · have hbx3 : Boxed W3 Bp 9 (.string s) := Eq.trans hk3 HBX.out
        clear hk3 cb
        gi_wp2
        go_roundw
        case rel => exact ⟨k + 1, by omega, congrArg (Value.int IntKind.i64) (by have := HU.out; omega), by rw [HNX.out]; exact hJ3, hbx3⟩
        case measure => have := HU.out; simp [intOf]; omega
      · clear cb
        gi_wp2
        refine bodyPost_ret (results_none rfl _ _ _) rfl ?_
        exact ⟨⟨_, rfl⟩, Or.inr ⟨_, trivial, hJx3⟩⟩
    · obtain rfl : k = 8 * s.size := by omega
      have HJ := Lib.hid hJs
      clear hJs hY h0 hbx
      rw [show ((8 * s.size : Nat) - 1 - ((8 * s.size : Nat) : Int)) = (-1 : Int) by omega]
      gi_wp2
      go_end0
      exact ⟨⟨_, rfl⟩, .inl ⟨_, rfl, HJ.out⟩⟩
theorem bits_stops (m Bp : Nat) (s : ByteArray) (hs : s.size ≤ 64) (w : World) (hbox : Boxed w Bp 9 (.string s)) (hm : 1 ≤ m) :
    SeqStopsK Fence.wide m Tryz.prog 163 #[.pointer (some ⟨Bp, 0, none⟩)] encB (KpB Bp) (fun xs => xs = bitsTo s.data.toList (8 * s.size)) (fun _ => True) (8 * s.size) w := by
  intro l J Jx W hW hJ hJx hY h0
  exact bits1_in m l Bp s hs J Jx hY W ((hW.block Bp hbox.lt).trans hbox) h0 hm
end Go.Proofs.YtdajmekliodmcaaGreatDoor.S7
namespace Go.Proofs.YtdajmekliodmcaaGreatDoor.S7
set_option linter.unusedSimpArgs false
open Go.Proofs.YtdajmekliodmcaaGreatDoor.P8
open Go.ChangeShapes Go.WideShapes Go.RowKit
set_option linter.unusedVariables false
def Glob (w : World) : Prop := ∃ t, w.heap[1]? = some (.cells (num LL) t (0, 0))
theorem Glob.below {w w' : World} (h : Glob w) (hb : Below w.heap.size w w') : Glob w' := by
  obtain ⟨t, h⟩ := h
  exact ⟨t, by rw [hb.block 1 (Array.getElem?_eq_some_iff.1 h).1]; exact h⟩
theorem Glob.kn {w0 w : World} {l : List (Nat × Array Value)} (h : Glob w0) (hk : Kn w0 l w) : Glob w := h.below hk.1
theorem Glob.load {w : World} (h : Glob w) : (loadVar 36 ⟨1, 0, none⟩).run Tryz.prog w = .ok (.agg (num LL)) w := by
  obtain ⟨t, h⟩ := h
  exact run_loadVar_seg w 36 1 0 (rowOf .u64 4 (dig LL)) _ (Row.seg (t := t) h) Tryz.underlying36 rfl (size24 (dig LL))
open Go.RowKit
def cA (a b : Nat → Nat) : Nat → Nat
  | 0 => 0
  | k + 1 => (a k + b k + cA a b k) / 18446744073709551616
def tA (a b : Nat → Nat) (k : Nat) : Nat := (a k + b k + cA a b k) % 18446744073709551616
theorem cA_le (a b : Nat → Nat) (ha : ∀ j, a j < 18446744073709551616) (hb : ∀ j, b j < 18446744073709551616) : ∀ k, cA a b k ≤ 1
  | 0 => by unfold cA; omega
  | k + 1 => by
    have h1 := ha k
    have h2 := hb k
    have h3 := cA_le a b ha hb k
    unfold cA
    omega
theorem cA_4 (x y : Nat) (hx : x < 115792089237316195423570985008687907853269984665640564039457584007913129639936) (hy : y < 115792089237316195423570985008687907853269984665640564039457584007913129639936) : (∀ j, j < 4 → tA (dig x) (dig y) j = dig ((x + y) % 115792089237316195423570985008687907853269984665640564039457584007913129639936) j) ∧ cA (dig x) (dig y) 4 = (x + y) / 115792089237316195423570985008687907853269984665640564039457584007913129639936 := by
  have vx := val_dig x hx
  have vy := val_dig y hy
  have c1 : cA (dig x) (dig y) 1 = (dig x 0 + dig y 0 + 0) / 18446744073709551616 := rfl
  have c2 : cA (dig x) (dig y) 2 = (dig x 1 + dig y 1 + cA (dig x) (dig y) 1) / 18446744073709551616 := rfl
  have c3 : cA (dig x) (dig y) 3 = (dig x 2 + dig y 2 + cA (dig x) (dig y) 2) / 18446744073709551616 := rfl
  have c4 : cA (dig x) (dig y) 4 = (dig x 3 + dig y 3 + cA (dig x) (dig y) 3) / 18446744073709551616 := rfl
  have t0 : tA (dig x) (dig y) 0 = (dig x 0 + dig y 0 + 0) % 18446744073709551616 := rfl
  have t1 : tA (dig x) (dig y) 1 = (dig x 1 + dig y 1 + cA (dig x) (dig y) 1) % 18446744073709551616 := rfl
  have t2 : tA (dig x) (dig y) 2 = (dig x 2 + dig y 2 + cA (dig x) (dig y) 2) % 18446744073709551616 := rfl
  have t3 : tA (dig x) (dig y) 3 = (dig x 3 + dig y 3 + cA (dig x) (dig y) 3) % 18446744073709551616 := rfl
  unfold valN at vx vy
  refine ⟨fun j hj => ?_, ?_⟩
  · rcases (show j = 0 ∨ j = 1 ∨ j = 2 ∨ j = 3 by omega) with rfl | rfl | rfl | rfl
    · rw [dig_0 ((x + y) % _)]; omega
    · rw [dig_1 ((x + y) % _)]; omega
    · rw [dig_2 ((x + y) % _)]; omega
    · rw [dig_3 ((x + y) % _)]; omega
  · omega
open Go.RowKit Go.Shelf
theorem Kn.ext {w0 w : World} {l m : List (Nat × Array Value)} (h : Kn w0 l w) (g : Nat) (f f' : Nat → Nat) (hf : ∀ j, j < 4 → f j = f' j) (hm : ∀ p ∈ m, p ∈ l ∨ (p = (g, (rowOf .u64 4 f').toArray) ∧ (g, (rowOf .u64 4 f).toArray) ∈ l)) : Kn w0 m w :=
  ⟨h.1, fun p hp => by
    rcases hm p hp with h1 | ⟨rfl, h2⟩
    · exact h.2 p h1
    · rw [show (rowOf .u64 4 f').toArray = (rowOf .u64 4 f).toArray by rw [rowOf_ext hf]]
      exact h.2 _ h2⟩
theorem Kn.nat {w0 w : World} {l : List (Nat × Array Value)} (h : Kn w0 l w) (g n : Nat) (hm : (g, num n) ∈ l) (j : Nat) (hj : j < 4) : w.cell? ⟨g, j, none⟩ = some (.int .u64 (dig n j : Int)) := by rw [h.cell g _ hm j, num_get n j hj]
theorem Kn.row {w0 w : World} {l : List (Nat × Array Value)} (h : Kn w0 l w) (g : Nat) (f : Nat → Nat) (hm : (g, (rowOf .u64 4 f).toArray) ∈ l) : Row w g 36 .u64 4 f := h.2 _ hm
end Go.Proofs.YtdajmekliodmcaaGreatDoor.S7
