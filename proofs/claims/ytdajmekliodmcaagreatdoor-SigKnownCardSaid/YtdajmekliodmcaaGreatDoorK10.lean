/- Several texts, one behind the other; each says by itself what it proves, and on what conditions. -/
import Derived.Test.YtdajmekliodmcaaGreatDoorK09
import Derived.RangeFuncBox
namespace Go.Proofs.YtdajmekliodmcaaGreatDoor.P8
open Go.RowKit Go.Shelf
set_option linter.unusedVariables false
set_option linter.unusedSimpArgs false
attribute [local go_sem] Oper.semAt_some
def le8 (x : Nat) : List UInt8 := (List.range 8).map fun j => UInt8.ofNat (x / 2 ^ (8 * j))
theorem le8_length (x : Nat) : (le8 x).length = 8 := by simp [le8]
theorem le8_take (x q : Nat) (hq : q < 8) : (le8 x).take (q + 1) = (le8 x).take q ++ [UInt8.ofNat (x / 2 ^ (8 * q))] := by
  rw [List.take_succ_eq_append_getElem (by rw [le8_length]; exact hq)]
  simp [le8]
def leW (f : Nat → Nat) (pre : List (Fin 4)) : List UInt8 := pre.flatMap fun x => le8 (f x.1)
theorem leW_snoc (f : Nat → Nat) (pre : List (Fin 4)) (x : Fin 4) : leW f (pre ++ [x]) = leW f pre ++ le8 (f x.1) := by simp [leW]
theorem leW_length (f : Nat → Nat) : ∀ pre, (leW f pre).length = 8 * pre.length
  | [] => rfl
  | x :: pre => by
    have := leW_length f pre
    simp only [leW, List.flatMap_cons, List.length_append, le8_length, List.length_cons] at *
    omega
def bytesN (N : Nat) : List UInt8 := leW (dig N) (List.finRange 4)
theorem bytesN_length (N : Nat) : (bytesN N).length = 32 := by unfold bytesN; rw [leW_length, List.length_finRange]
theorem wrap8 (n : Nat) : IntKind.u8.wrap (n : Int) = ((n % 256 : Nat) : Int) := by
  have h : IntKind.u8.wrap (n : Int) = (n : Int) % 256 := by simp [IntKind.wrap, IntKind.bits, IntKind.signed]
  rw [h]; omega
theorem shr_cast (x m : Nat) : ((x : Int) / 2 ^ m) = ((x / 2 ^ m : Nat) : Int) := by rw [Int.natCast_ediv, Int.natCast_pow]; rfl
theorem byteV (y : Nat) : bytesV [UInt8.ofNat y] = [Value.int .u8 ((y % 256 : Nat) : Int)] := by
  show [Value.int .u8 (((UInt8.ofNat y).toNat : Nat) : Int)] = _
  rw [UInt8.toNat_ofNat']
theorem byte_app {wr : World} {B : Nat} {v : Value} {n : Nat} {l : List UInt8} (hown : wr.ownsRow B 5 1 v n (bytesV l)) (hB : B ≤ wr.heap.size) (b : Nat) (hb : b < 256) (hlt : n + 1 ≤ 1000000) :
    ∃ v' W3, (∀ (ρ : Operand → Value) (o : Oper) (s x : Operand), o.op = Op.call { callee := Callee.builtin Builtin.append, args := #[s, x], argTypes := #[33, 33] } → ρ s = v → ρ x = .slice (some ⟨wr.heap.size, 0, none⟩) 1 1 → (execOp ρ o).run Tryz.prog (wr.alloc (.cells #[.int .u8 (b : Int)] 5)) = .ok (.value v') W3) ∧
      W3.ownsRow B 5 1 v' (n + 1) (bytesV (l ++ [UInt8.ofNat b])) ∧ (wr.alloc (.cells #[.int .u8 (b : Int)] 5)).grownBy W3 v.ownBlock := by
  obtain ⟨i5, hi5, hz5, hs5, hb5⟩ := info_parts info5
  have hbv : bytesV [UInt8.ofNat b] = [Value.int .u8 (b : Int)] := by rw [byteV, Nat.mod_eq_of_lt hb]
  obtain ⟨v', W3, happ, hown', hgrow, hat⟩ := exec_append_own (P := Tryz.prog) (wr.alloc (.cells #[.int .u8 (b : Int)] 5)) B 33 5 i5 _ 1 1 Tryz.underlying33 hi5 hz5 hs5 hb5 rfl (by decide) _ n _ (hown.alloc _) ⟨wr.heap.size, 0, none⟩ 1 1 [Value.int .u8 (b : Int)] rfl (by
      intro j u hu
      rw [addr_add, cell_of_row _ wr.heap.size (0 + j) #[.int .u8 (b : Int)] 5 (0, 0) (heap_alloc_new wr _), Nat.zero_add, show (#[Value.int .u8 (b : Int)] : Array Value) = [Value.int .u8 (b : Int)].toArray from rfl, List.getElem?_toArray]
      exact hu) (by intro u hu; simp at hu; subst hu; rfl) (by unfold maxLen; omega) (by omega) (by simp; omega)
  exact ⟨v', W3, happ, by rw [bytesV_append, hbv]; exact hown', hgrow⟩
theorem boxed_own2 {B g : Nat} {t : TypeId} {v : Value} {W W' : World} {row : Option Nat} (h : Boxed W g t v) (hg : W.grownBy W' row) (hr : ∀ r, row = some r → B ≤ r ∧ ∃ o : Obj, W.heap[r]? = some o ∧ o.isCells = false) : Boxed W' g t v :=
  h.kept hg (fun e => by obtain ⟨_, o, ho, hc⟩ := hr g e.symm; rw [show W.heap[g]? = _ from h] at ho; cases ho; cases hc)
theorem owns_own2 {B n0 : Nat} {e : TypeId} {n : Nat} {xs : List Value} {v : Value} {W W' : World} {row : Option Nat} (h : W.ownsRow n0 e 1 v n xs) (hg : W.grownBy W' row) (hr : ∀ r, row = some r → B ≤ r ∧ ∃ o : Obj, W.heap[r]? = some o ∧ o.isCells = false) : W'.ownsRow n0 e 1 v n xs := by
  refine h.kept hg ?_
  rcases h.2 with ⟨rfl, _⟩ | ⟨g, cap, cur, rfl, _, hgb, _⟩
  · exact .inl rfl
  · refine .inr fun e' => ?_
    obtain ⟨_, o, ho, hc⟩ := hr g (by simpa [Value.ownBlock] using e'.symm)
    rw [hgb] at ho; cases ho; cases hc
def ByI (w : World) (g : Nat) (f : Nat → Nat) (pre : List (Fin 4)) (W : World) : Prop :=
  (∃ v, Boxed W g 33 v ∧ W.ownsRow w.heap.size 5 1 v (8 * pre.length) (bytesV (leW f pre))) ∧ Below w.heap.size w W
theorem byI_own (w : World) (g : Nat) (f : Nat → Nat) (B : Nat) (hB : w.heap.size ≤ B) : OwnFrom B (ByI w g f) := by
  rintro s W W' row ⟨⟨v, h1, h2⟩, h5⟩ hg hr
  exact ⟨⟨v, boxed_own2 h1 hg hr, owns_own2 h2 hg hr⟩, below_own h5 (by omega) h5.size hg hr⟩
theorem exec_shr {ρ : Operand → Value} {o : Oper} (x z : Operand) (ho : o.op = .binOp .shr 34 x z 3) (y s : Nat) (hs : s < 64) (hx : ρ x = .int .u64 (y : Int)) (hz : ρ z = .int .i64 (s : Int)) (r : Nat) (hr : r = y / 2 ^ s) (w : World) :
    (execOp ρ o).run Tryz.prog w = .ok (.value (.int .u64 (r : Int))) w := by
  have hsh := shr_cast y s
  rw [← hr] at hsh
  have hsi : (s : Int) < 64 := by omega
  clear hr
  unfold execOp
  rw [ho]
  simp only [hx, hz]
  go_simp
theorem exec_conv8 {ρ : Operand → Value} {o : Oper} (x : Operand) (ho : o.op = .convert 34 5 x) (y b : Nat) (hx : ρ x = .int .u64 (y : Int)) (hb : b = y % 256) (w : World) :
    (execOp ρ o).run Tryz.prog w = .ok (.value (.int .u8 (b : Int))) w := by
  have h := wrap8 y
  rw [← hb] at h
  clear hb
  unfold execOp
  rw [ho]
  simp only [hx]
  go_simp
theorem exec_slice1 {ρ : Operand → Value} {o : Oper} (x : Operand) (ho : o.op = .buildSlice 33 1 #[(0, x)]) (b : Nat) (hx : ρ x = .int .u8 (b : Int)) (w : World) :
    (execOp ρ o).run Tryz.prog w = .ok (.value (.slice (some ⟨w.heap.size, 0, none⟩) 1 1)) (w.alloc (.cells #[.int .u8 (b : Int)] 5)) := by
  unfold execOp
  rw [ho]
  simp only [hx]
  go_simp
section
variable {F : Fence} {n : Nat} {P : Program} {ops : Array Oper} {Q : Exit → Act → World → Prop} {md : Region.Mode} {S : Nat → World → Prop} {T : Nat → Bool} {k : Nat} {listed : Array Bool} {a : Act} {w w2 : World} {i : Nat} {rs : List Nat}
theorem ReadyG.opB (d : Option Tmp) (c : Call) (ho : (ops[i]?).map (fun o => (o.dst, o.op, o.guard)) = some (d, .call c, none)) (hro : F.round = none) (hab : ∀ (o : Oper), o.op = .call c → o.about P w a.eval = none) (v : Value)
    (hrun : ∀ o : Oper, o.op = .call c → (execOp a.eval o).run P w = .ok (.value v) w2) (hTi : T i = false) (hk : ∀ x, x < ops.size → T x = true → waitsT md ops ops.size i x = false → S x w2) (h : AnyG F n P md ops Q T S k (listed.setIfInBounds i true) (a.put d v) w2)
    (hs : ReadyG F n P md ops Q T S k listed a w rs) : ReadyG F n P md ops Q T S k listed a w (i :: rs) := by
  cases hq : ops[i]? with
  | none => simp [hq] at ho
  | some o =>
    simp [hq] at ho
    obtain ⟨rfl, hop, hg⟩ := ho
    refine ReadyG.cons hq hg (fun K hK => ⟨fun f hf => (by rw [hab o hop] at hf; cases hf), ?_⟩) hs
    rw [hro, Oper.semAt_none, hrun o hop]
    exact hK _ _ ⟨⟨fun e => (by rw [hTi] at e; cases e), fun _ => hk⟩, h⟩
end
theorem make32 (w : World) : (Instr.makeSlice 33 (.int .i64 0) (.int .i64 32)).run Tryz.prog w = .ok (.slice (some ⟨w.heap.size, 0, none⟩) 0 32) (w.alloc (.cells (Array.replicate 32 (.int .u8 0)) 5)) := by kernel_rfl
set_option maxRecDepth 100000 in
set_option maxHeartbeats 1000000 in
theorem bytes_any (N : Nat) (hN : N < 115792089237316195423570985008687907853269984665640564039457584007913129639936) (w : World) :
    Calls Tryz.prog 63 #[.agg (num N)] w fun e w' => e = .returned (.string ⟨(bytesN (N % pp)).toArray⟩) ∧ Below w.heap.size w w' := by
  have HNO := Lib.hid (norm_any N hN)
  have IA := isNum N
  have IR := isNum (N % pp)
  have HF := Lib.hid (dig_lt (N % pp))
  have HR : Hid (num (N % pp) = (rowOf .u64 4 (dig (N % pp))).toArray) := Lib.hid rfl
  unfold bytesN
  generalize dig (N % pp) = F at *
  generalize num N = A at *
  generalize num (N % pp) = R at *
  clear hN
  refine (callsIn_wide (n := 6)).1 ?_
  refine callsIn_of_wp_marks Tryz.func63 rfl trivial ?_ rfl
  simp only [Tryz.ntmps63, List.size_toArray, List.length_cons, List.length_nil, Nat.reduceAdd, Nat.reduceSub, Array.replicate_succ, Array.replicate_zero, List.push_toArray, List.append_toArray, List.nil_append, List.cons_append]
  have hmk := make32
  have hal : ∀ w0 : World, (zeroValue 33).run Tryz.prog w0 = .ok (.slice none 0 0) w0 := fun w0 => by kernel_rfl
  gi_wp2_with (refine wpListIn_run rfl rfl rfl _ (exec_load_of _ 36 (.tmp 1) rfl ⟨w.heap.size, 0, none⟩ rfl (.agg A) ?ld) ?_)
  case ld =>
    refine loadA IA ?_
    simp only [heapA, Array.getElem?_push, Array.size_push]
    (repeat (first | rw [if_pos (by first | trivial | omega)] | rw [if_neg (by omega)]))
  have hI0 : ∀ W0, W0 = ((w.alloc (.cells A 36)).alloc (.cells (Array.replicate 32 (.int .u8 0)) 5)).alloc (.cells #[.slice (some ⟨w.heap.size + 1, 0, none⟩) 0 32] 33) → ByI w (w.heap.size + 1 + 1) F [] W0 := by
    rintro W0 rfl
    refine ⟨⟨.slice (some ⟨w.heap.size + 1, 0, none⟩) 0 32, ?_, ?_⟩, ?_⟩
    · have h := Boxed.new ((w.alloc (.cells A 36)).alloc (.cells (Array.replicate 32 (.int .u8 0)) 5)) 33 (.slice (some ⟨w.heap.size + 1, 0, none⟩) 0 32)
      simp only [World.size_alloc] at h
      exact h
    · have h := World.ownsRow_made (base := w.heap.size) (e := 5) (size := 1) (w.alloc (.cells A 36)) (Array.replicate 32 (.int .u8 0)) 32 (by simp) (by decide) (by simp)
      rw [World.size_alloc] at h
      exact h.alloc _
    · repeat (refine bel_alloc ?_ (by simp <;> omega) _)
      exact Below.refl _ _
  have hI1 := hI0 _ rfl
  clear hI0
  generalize ((w.alloc (.cells A 36)).alloc (.cells (Array.replicate 32 (.int .u8 0)) 5)).alloc (.cells #[.slice (some ⟨w.heap.size + 1, 0, none⟩) 0 32] 33) = Wa at *
  refine ⟨trivial, ?_⟩
  refine (callsIn_wide.2 (HNO.out _)).mono ?_
  rintro e w1 ⟨rfl, hb1⟩
  have hI2 : ByI w (w.heap.size + 1 + 1) F [] w1 := by
    obtain ⟨⟨v, h1, h2⟩, h3⟩ := hI1
    have hg : Wa.grownBy w1 none := ⟨hb1.os, hb1.tape, hb1.output, hb1.size, fun j hj _ => hb1.block j hj⟩
    exact ⟨⟨v, h1.kept hg (fun e => by cases e), h2.kept hg (by by_cases h : v.ownBlock = none; exact .inl h; exact .inr h)⟩, h3.trans (hb1.mono h3.size)⟩
  clear hI1 hb1
  gi_wp2_with (refine ⟨trivial, ?_⟩; gi_at_call 117; refine (words_in _ _ _).mono ?_; rintro e w' ⟨rfl, rfl⟩)
  have hI3 : ByI w (w.heap.size + 1 + 1) F [] (w1.alloc (.cells R 36)) := by
    obtain ⟨⟨v, h1, h2⟩, h3⟩ := hI2
    exact ⟨⟨v, h1.alloc _, h2.alloc _⟩, h3.alloc h3.size _⟩
  have hbox : Row (w1.alloc (.cells R 36)) w1.heap.size 36 .u64 4 F := by
    unfold Row; rw [HR.out]; exact heap_alloc_new w1 _
  have hszb := hI2.2.size
  have hsz1 : w.heap.size ≤ (w1.alloc (.cells R 36)).heap.size := by simp; omega
  clear hI2 hszb
  generalize hgB : w1.heap.size = gB at *
  generalize w1.alloc (.cells R 36) = W0 at *
  refine wpIn_rangeFunc_ownF rfl (by omega) (gf := 157) (lb := #[.pointer (some ⟨gB, 0, none⟩)]) rfl trivial (enters_of Tryz.func157 (by kernel_rfl) rfl) (words_stops 5 gB F W0 hbox (by omega))
    (fun _ _ => trivial) (fun _ _ _ _ _ _ _ _ => trivial) (Below.refl _ _) (fun _ => rfl)
    (ByI w (w.heap.size + 1 + 1) F) (fun _ _ _ => False) (byI_own w (w.heap.size + 1 + 1) F _ hsz1) (fun _ _ _ _ _ hs _ _ => hs) hI3
    (fun x => { tmps := #[.agg A, .pointer (some ⟨w.heap.size, 0, none⟩), .string { data := #[] }, .pointer (some ⟨w.heap.size + 1 + 1, 0, none⟩), undef, .int .u64 (F x.1 : Int), undef, .slice (some ⟨w.heap.size + 1, 0, none⟩) 0 32, .agg A, .agg R, .func (.func 157) #[] #[.pointer (some ⟨gB, 0, none⟩)], .int .i64 (x.1 : Int), .int .u64 (F x.1 : Int), undef, undef, undef, undef, undef, undef, undef, undef, undef, undef, undef, undef, undef], defers := [] }) ?assign ?body ?done ?stop
  case assign =>
    intro l x W K hK
    unfold encW
    gi_wp2
    exact hK
  case body =>
    rintro l pre x W ⟨⟨v0, hbx, hrw⟩, hbl⟩ hlen
    have hy := HF.out x.1
    have HNX : Hid (leW F (pre ++ [x]) = leW F pre ++ le8 (F x.1)) := Lib.hid (leW_snoc F pre x)
    have HL2 : Hid ((pre ++ [x]).length = pre.length + 1) := Lib.hid (by simp)
    generalize F x.1 = y at *
    generalize leW F pre = bs at *
    generalize pre.length = np at *
    have HX := Lib.hid hbx
    have HR0 := Lib.hid hrw
    have HB0 := Lib.hid hbl
    clear hbx hrw hbl hI3 hbox HNO HF
    gi_wp2
    gi_loopw [6] (fun i wr => ∃ q v, q ≤ 8 ∧ i = .int .i64 ((8 * q : Nat) : Int) ∧ Boxed wr (w.heap.size + 1 + 1) 33 v ∧ wr.ownsRow w.heap.size 5 1 v (8 * np + q) (bytesV (bs ++ (le8 y).take q)) ∧ KeepsOthers W wr ∧ Below w.heap.size w wr)
      (fun i _ => 64 - (intOf i).toNat)
    case atStart => exact ⟨0, v0, by omega, rfl, HX.out, by rw [List.take_zero, List.append_nil]; exact HR0.out, KeepsOthers.refl _, HB0.out⟩
    case round =>
      clear HX HR0 HB0
      obtain ⟨q, v, hq, rfl, hbx, hrw, hkp, hbl⟩ := hrel
      by_cases hlt : q < 8
      · obtain ⟨s, hs⟩ : ∃ s, s = 8 * q := ⟨_, rfl⟩
        have hs64 : s < 64 := by omega
        obtain ⟨b, hb0⟩ : ∃ b, b = y / 2 ^ s % 256 := ⟨_, rfl⟩
        have hb1 : b < 256 := by rw [hb0]; exact Nat.mod_lt _ (by decide)
        obtain ⟨v', W3, happ, hown', hgrow⟩ := byte_app (wr := wr.drew) hrw hbl.size b hb1 (by omega)
        obtain ⟨p', c', rfl⟩ := ownsRow_succ hown'
        obtain ⟨a1, a2, a3, a4, a5⟩ := Boxed.appended (W := wr.drew) hbx (by decide) hrw hbl.size (show w.heap.size ≤ w.heap.size + 1 + 1 by omega) hown' hgrow
        have hwr : IntKind.u8.wrap ((y / 2 ^ s : Nat) : Int) = (b : Int) := by rw [wrap8, hb0]
        have hsh : (y : Int) / 2 ^ s = ((y / 2 ^ s : Nat) : Int) := shr_cast y s
        have hls : (s : Int) < 64 := by omega
        have cb := hbx.cell
        have HTK : Hid (bs ++ (le8 y).take q ++ [UInt8.ofNat b] = bs ++ (le8 y).take (q + 1)) := by
          unfold Hid
          rw [le8_take y q hlt, List.append_assoc, ← hs, hb0]
          congr 2
          congr 1
          apply UInt8.toNat_inj.1
          simp
        rw [HTK.out] at a3
        have HAP := Lib.hid happ
        have A1 := Lib.hid a1
        have A2 := Lib.hid a2
        have A3 := Lib.hid a3
        have A4 := Lib.hid a4
        have A5 := Lib.hid a5
        have HKP := Lib.hid hkp
        have HBL := Lib.hid hbl
        have HQ : Hid (s = 8 * q) := Lib.hid hs
        rw [← hs]
        have HIN : Hid ((s : Int) + 8 = ((8 * (q + 1) : Nat) : Int)) := by unfold Hid; omega
        have hb0 := Lib.hid hb0
        clear happ a1 a2 a3 a4 a5 hkp hown' hgrow hs hrw hbl hlen hwr hsh
        gi_wp2
        refine wpIn_region_any (by kernel_rfl) ?_
        change wpAnyIn _ _ _ _ _ _ _ _ _ (World.drew _)
        refine anyIn_unround l rfl (noDefer_spec (by kernel_rfl)) _ _ _ _ ?_
        refine anyIn_of_G (T := fun i => i < 5) (S := fun i w2 => i = 0 → w2.cell? ⟨w.heap.size + 1 + 1, 0, none⟩ = some v) _ _ _ _ ?_
        refine AnyG.take 0 (some 17) (.load 33 (.tmp 3)) (v) rfl rfl (fun _ e => by cases e) (by kernel_rfl) (by kernel_rfl) (by kernel_rfl) (by kernel_rfl) rfl (fun _ _ _ h => h) (fun o ho w2 hw => exec_load_one w2 33 (.tmp 3) ho ⟨w.heap.size + 1 + 1, 0, none⟩ rfl _ (hw rfl) _ Tryz.underlying33 rfl) (fun _ => cb) ?_
        simp only [Act.put, sT, sS, sZ]
        refine AnyG.take 1 (some 18) (.move (.tmp 5)) (.int .u64 (y : Int)) rfl rfl (fun _ e => by cases e) (by kernel_rfl) (by kernel_rfl) (by kernel_rfl) (by kernel_rfl) rfl (fun _ _ _ h => h) (fun o ho w2 hw => exec_move (.tmp 5) ho _ rfl w2) (fun e => (by cases e)) ?_
        simp only [Act.put, sT, sS, sZ]
        refine AnyG.take 2 (some 19) (.move (.tmp 6)) (.int .i64 (s : Int)) rfl rfl (fun _ e => by cases e) (by kernel_rfl) (by kernel_rfl) (by kernel_rfl) (by kernel_rfl) rfl (fun _ _ _ h => h) (fun o ho w2 hw => exec_move (.tmp 6) ho _ rfl w2) (fun e => (by cases e)) ?_
        simp only [Act.put, sT, sS, sZ]
        refine AnyG.take 3 (some 20) (.binOp .shr 34 (.tmp 18) (.tmp 19) 3) (.int .u64 ((y / 2 ^ s : Nat) : Int)) rfl rfl (fun _ e => by cases e) (by kernel_rfl) (by kernel_rfl) (by kernel_rfl) (by kernel_rfl) rfl (fun _ _ _ h => h) (fun o ho w2 hw => exec_shr (.tmp 18) (.tmp 19) ho y s hs64 rfl rfl _ rfl w2) (fun e => (by cases e)) ?_
        simp only [Act.put, sT, sS, sZ]
        refine AnyG.take 4 (some 21) (.convert 34 5 (.tmp 20)) (.int .u8 (b : Int)) rfl rfl (fun _ e => by cases e) (by kernel_rfl) (by kernel_rfl) (by kernel_rfl) (by kernel_rfl) rfl (fun _ _ _ h => h) (fun o ho w2 hw => exec_conv8 (.tmp 20) ho (y / 2 ^ s) b rfl hb0.out w2) (fun e => (by cases e)) ?_
        simp only [Act.put, sT, sS, sZ]
        refine AnyG.ready (rs := [5]) (by kernel_rfl) (by simp) (ReadyG.op (w2 := wr.drew.alloc (.cells #[.int .u8 (b : Int)] 5)) (some 22) (.buildSlice 33 1 #[(0, .tmp 21)]) rfl rfl (fun _ e => by cases e) (.slice (some ⟨wr.drew.heap.size, 0, none⟩) 1 1) (fun o ho => exec_slice1 (.tmp 21) ho b rfl _) rfl ?hk5 ?_ ReadyG.nil)
        case hk5 =>
          intro z _ _ _ _
          exact (Boxed.alloc (W := wr.drew) hbx _).cell
        simp only [Act.put, sT, sS, sZ]
        refine AnyG.ready (rs := [6]) (by kernel_rfl) (by simp) (ReadyG.opB (some 23) { callee := .builtin .append, args := #[.tmp 17, .tmp 22], argTypes := #[33, 33] } rfl rfl (fun o ho => by unfold Oper.about; rw [ho]; rfl) (.slice (some ⟨p', 0, none⟩) (8 * np + q + 1) c') (fun o ho => HAP.out _ _ (.tmp 17) (.tmp 22) ho rfl rfl) rfl ?hk6 ?_ ReadyG.nil)
        case hk6 => intro z _ _ _ _; exact A1.out.cell
        simp only [Act.put, sT, sS, sZ]
        refine AnyG.ready (rs := [7]) (by kernel_rfl) (by simp) (ReadyG.skip (w2 := W3.setCell ⟨w.heap.size + 1 + 1, 0, none⟩ (.slice (some ⟨p', 0, none⟩) (8 * np + q + 1) c')) (.store 33 (.tmp 3) (.tmp 23)) rfl rfl (fun _ e => by cases e) (fun o ho => exec_store_one _ 33 (.tmp 3) (.tmp 23) ho ⟨w.heap.size + 1 + 1, 0, none⟩ rfl _ rfl rfl rfl _ A1.out.cell A1.out.frozen (by kernel_rfl)) rfl ?hk7 ?_ ReadyG.nil)
        case hk7 => exact tight_any (f := 8) (by kernel_rfl) (by decide)
        refine AnyG.done (by kernel_rfl) ?_ _
        have h8i : (s : Int) ≤ 56 := by have := HQ.out; omega
        generalize W3.setCell ⟨w.heap.size + 1 + 1, 0, none⟩ (.slice (some ⟨p', 0, none⟩) (8 * np + q + 1) c') = W9 at *
        gi_wp2
        go_roundw
        case rel => exact ⟨q + 1, .slice (some ⟨p', 0, none⟩) (8 * np + q + 1) c', by omega, congrArg (Value.int IntKind.i64) HIN.out, A2.out, A3.out, HKP.out.trans ((KeepsOthers.drew wr).trans A4.out), HBL.out.trans (Below.trans (Below.drew (Below.refl _ _)) A5.out)⟩
        case measure => have := HQ.out; simp [intOf]; omega
      · obtain rfl : q = 8 := by omega
        rw [show (le8 y).take 8 = le8 y by rw [List.take_of_length_le]; rw [le8_length]; exact Nat.le_refl _] at hrw
        have HF1 : Hid (ByI w (w.heap.size + 1 + 1) F (pre ++ [x]) wr) := by
          refine Lib.hid ⟨⟨v, hbx, ?_⟩, hbl⟩
          rw [HNX.out, HL2.out]
          exact hrw
        have HKP := Lib.hid hkp
        clear hrw hbx hkp hbl hlen
        rw [show ((8 * 8 : Nat) : Int) = (64 : Int) from rfl]
        gi_wp2
        exact ⟨HKP.out, trivial, HF1.out⟩
  case done =>
    rintro D xs W hD rfl ⟨⟨v, hbx, hrw⟩, hbl⟩ hK
    have hrw2 : W.ownsRow w.heap.size 5 1 v 32 (bytesV (leW F (List.finRange 4))) := by have h := hrw; rw [List.length_finRange] at h; exact h
    clear hrw
    obtain ⟨g, cap, rfl, hcv⟩ := bytes_str hrw2 (by decide)
    have cb := hbx.cell
    obtain ⟨S, hS⟩ : ∃ S : ByteArray, Hid (S = ⟨(leW F (List.finRange 4)).toArray⟩) := ⟨_, Lib.hid rfl⟩
    rw [← hS.out] at hcv
    have HB := Lib.hid hbl
    have HK := Lib.hid hK
    clear hbx hrw2 hbl hK hI3 hbox HNO HF
    gi_wp2
    refine ⟨by simp, .inl ⟨_, _, rfl, run_takeDeferred HK.out, ?_⟩⟩
    exact ⟨_, results_tmp rfl _ _ _, by rw [← hS.out]; rfl, HB.out.trans (belowK_b (w := w) (Nat.le_refl _) W D _ _ (by omega) HK.out rfl rfl)⟩
  case stop =>
    rintro D c pre W _ _ h _
    exact h.elim
end Go.Proofs.YtdajmekliodmcaaGreatDoor.P8
namespace Go.Proofs.YtdajmekliodmcaaGreatDoor.P8
set_option linter.unusedSimpArgs false
set_option linter.unusedVariables false
def leVal : List UInt8 → Nat
  | [] => 0
  | b :: r => b.toNat + 256 * leVal r
theorem leVal_lt : ∀ l : List UInt8, leVal l < 256 ^ l.length
  | [] => by simp [leVal]
  | b :: r => by
    have h := leVal_lt r
    have hb := b.toNat_lt
    simp only [leVal, List.length_cons, Nat.pow_succ]
    omega
theorem leVal_append : ∀ l m : List UInt8, leVal (l ++ m) = leVal l + 256 ^ l.length * leVal m
  | [], m => by simp [leVal]
  | b :: r, m => by
    have h := leVal_append r m
    simp only [List.cons_append, leVal, List.length_cons, Nat.pow_succ, h]
    rw [Nat.mul_add, Nat.add_assoc, ← Nat.mul_assoc, Nat.mul_comm 256 (256 ^ r.length)]
theorem leVal_snoc (l : List UInt8) (b : UInt8) : leVal (l ++ [b]) = leVal l + b.toNat * 256 ^ l.length := by
  rw [leVal_append]
  simp [leVal, Nat.mul_comm]
def wordAt (l : List UInt8) (j : Nat) : Nat := leVal ((l.drop (8 * j)).take 8)
theorem wordAt_lt (l : List UInt8) (j : Nat) : wordAt l j < 18446744073709551616 := by
  have h := leVal_lt ((l.drop (8 * j)).take 8)
  have h2 : ((l.drop (8 * j)).take 8).length ≤ 8 := by simp; omega
  have h3 : (256 : Nat) ^ ((l.drop (8 * j)).take 8).length ≤ 256 ^ 8 := Nat.pow_le_pow_right (by decide) h2
  unfold wordAt
  omega
theorem wordAt_nil (j : Nat) : wordAt [] j = 0 := by simp [wordAt, leVal]
theorem wordAt_snoc (l : List UInt8) (b : UInt8) (j : Nat) : wordAt (l ++ [b]) j = if j = l.length / 8 then wordAt l j + b.toNat * 2 ^ (8 * (l.length % 8)) else wordAt l j := by
  unfold wordAt
  have hp : ∀ m, (256 : Nat) ^ m = 2 ^ (8 * m) := fun m => by rw [Nat.pow_mul]
  by_cases h : j = l.length / 8
  · rw [if_pos h]
    have h1 : (l ++ [b]).drop (8 * j) = l.drop (8 * j) ++ [b] := by rw [List.drop_append_of_le_length (by omega)]
    have h2 : (l.drop (8 * j)).length = l.length % 8 := by simp; omega
    rw [h1, List.take_of_length_le (by simp; omega), List.take_of_length_le (by omega), leVal_snoc, h2, hp]
  · rw [if_neg h]
    by_cases h3 : 8 * j ≤ l.length
    · have h1 : (l ++ [b]).drop (8 * j) = l.drop (8 * j) ++ [b] := by rw [List.drop_append_of_le_length h3]
      rw [h1, List.take_append_of_le_length (by simp; omega)]
    · rw [List.drop_eq_nil_of_le (by simp; omega), List.drop_eq_nil_of_le (by omega)]
theorem wordAt_part (l : List UInt8) (i : Nat) (hi : i = l.length) : wordAt l (i / 8) < 2 ^ (8 * (i % 8)) := by
  subst hi
  have h := leVal_lt ((l.drop (8 * (l.length / 8))).take 8)
  have h2 : ((l.drop (8 * (l.length / 8))).take 8).length = l.length % 8 := by simp; omega
  rw [h2] at h
  have hp : (256 : Nat) ^ (l.length % 8) = 2 ^ (8 * (l.length % 8)) := by rw [Nat.pow_mul]
  rw [hp] at h
  exact h
theorem val_words (l : List UInt8) (h : l.length = 32) : valN (wordAt l) = leVal l := by
  have e : l = (l.drop 0).take 8 ++ ((l.drop 8).take 8 ++ ((l.drop 16).take 8 ++ (l.drop 24).take 8)) := by
    have h3 : (l.drop 24).take 8 = l.drop 24 := List.take_of_length_le (by simp; omega)
    rw [h3, List.drop_zero]
    have h2 : (l.drop 16).take 8 ++ l.drop 24 = l.drop 16 := by
      have := List.take_append_drop 8 (l.drop 16)
      rwa [List.drop_drop] at this
    have h1 : (l.drop 8).take 8 ++ l.drop 16 = l.drop 8 := by
      have := List.take_append_drop 8 (l.drop 8)
      rwa [List.drop_drop] at this
    rw [h2, h1, List.take_append_drop]
  have hl : ∀ k, k ≤ 24 → ((l.drop k).take 8).length = 8 := fun k hk => by simp; omega
  have hv : leVal l = leVal ((l.drop 0).take 8) + 256 ^ 8 * (leVal ((l.drop 8).take 8) + 256 ^ 8 * (leVal ((l.drop 16).take 8) + 256 ^ 8 * leVal ((l.drop 24).take 8))) := by
    have := congrArg leVal e
    rw [leVal_append, leVal_append, leVal_append, hl 0 (by decide), hl 8 (by decide), hl 16 (by decide)] at this
    exact this
  rw [hv]
  unfold valN wordAt
  simp only [Nat.mul_zero, Nat.mul_one, Nat.reduceMul]
  omega
theorem leVal_le8 (x : Nat) (hx : x < 18446744073709551616) : leVal (le8 x) = x := by
  have h : ∀ n, leVal ((List.range n).map fun j => UInt8.ofNat (x / 2 ^ (8 * j))) = x % 2 ^ (8 * n) := by
    intro n
    induction n with
    | zero => simp [leVal, Nat.mod_one]
    | succ n ih =>
      rw [List.range_succ, List.map_append, List.map_singleton, leVal_snoc, ih]
      simp only [List.length_map, List.length_range, UInt8.toNat_ofNat']
      have hp : (256 : Nat) ^ n = 2 ^ (8 * n) := by rw [Nat.pow_mul]
      rw [hp, show 8 * (n + 1) = 8 * n + 8 by omega, Nat.pow_add, Nat.mod_mul, Nat.mul_comm (2 ^ (8 * n))]
  unfold le8
  rw [h 8, Nat.mod_eq_of_lt (by simpa using hx)]
theorem leVal_bytesN (N : Nat) (hN : N < 115792089237316195423570985008687907853269984665640564039457584007913129639936) : leVal (bytesN N) = N := by
  have e : bytesN N = le8 (dig N 0) ++ (le8 (dig N 1) ++ (le8 (dig N 2) ++ le8 (dig N 3))) := by
    unfold bytesN leW
    rw [fin4]
    simp
    rfl
  rw [e, leVal_append, leVal_append, leVal_append, leVal_le8 _ (dig_lt _ _), leVal_le8 _ (dig_lt _ _), leVal_le8 _ (dig_lt _ _), leVal_le8 _ (dig_lt _ _), le8_length, le8_length, le8_length]
  have h := val_dig N hN
  unfold valN at h
  omega
def fromF (l : List UInt8) : Nat × Bool := if l.length = 32 ∧ leVal l < pp then (leVal l, true) else (0, false)
end Go.Proofs.YtdajmekliodmcaaGreatDoor.P8
