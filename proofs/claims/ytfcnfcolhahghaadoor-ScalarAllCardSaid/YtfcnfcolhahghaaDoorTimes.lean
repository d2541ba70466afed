/- times of package scalar: the number of a text, times a number below the order, modulo the order. No condition but that the text has no more than 64 bytes, that the number is below the order, and that the order stands in memory. -/
import Derived.Test.YtfcnfcolhahghaaDoorBitsOf
import Derived.Test.YtfcnfcolhahghaaDoorSum
namespace Go.Proofs.YtfcnfcolhahghaaDoor
open Go.RowKit Go.Shelf
set_option linter.unusedVariables false
set_option linter.unusedSimpArgs false
attribute [local go_sem] Oper.semAt_some
theorem enters24 : ∀ args w, (callFunc 24 args).run Tryd.prog w = .ok (.enter 24 args) w := enters_of Tryd.func24 (by kernel_rfl) rfl
theorem enters30 : ∀ args w, (callFunc 30 args).run Tryd.prog w = .ok (.enter 30 args) w := enters_of Tryd.func30 (by kernel_rfl) rfl
theorem kn_own {B : Nat} {w W W' : World} {l : List (Nat × Array Value)} {row : Option Nat} (h : Kn w l W) (hw : w.heap.size ≤ B) (hl : ∀ p ∈ l, p.1 < B) (hg : W.grownBy W' row) (hr : ∀ r, row = some r → B ≤ r ∧ ∃ o : Obj, W.heap[r]? = some o ∧ o.isCells = false) : Kn w l W' :=
  ⟨below_own h.1 hw h.1.size hg hr, fun p hp => (hg.block p.1 (Array.getElem?_eq_some_iff.1 (h.2 p hp)).1 (fun e => by have := (hr p.1 e.symm).1; have := hl p hp; omega)).trans (h.2 p hp)⟩
/-- Between two rounds: the number of the bits that have come, times b, modulo the order. -/
def TI (w : World) (b : Nat) (pre : List Bool) (W : World) : Prop := Kn w [(w.heap.size, num b), (w.heap.size + 1, num 0), (w.heap.size + 1 + 1, num (hv pre * b % LL))] W ∧ w.heap.size + 4 ≤ W.heap.size
theorem tI_own (w : World) (b B : Nat) (hB : w.heap.size + 3 ≤ B) : OwnFrom B (TI w b) := by
  rintro s W W' row ⟨h, h2⟩ hg hr
  exact ⟨kn_own h (by omega) (fun p hp => by simp at hp; rcases hp with rfl | rfl | rfl <;> simp <;> omega) hg hr, Nat.le_trans h2 hg.size⟩
theorem hv_step (n b : Nat) : (n * b % LL + n * b % LL) % LL = (2 * n + false.toNat) * b % LL := by
  rw [← Nat.add_mod]
  congr 1
  show n * b + n * b = (2 * n + 0) * b
  rw [Nat.add_zero, Nat.mul_assoc]
  omega
theorem hv_step1 (n b : Nat) (hb : b < LL) : ((n * b % LL + n * b % LL) % LL + b) % LL = (2 * n + true.toNat) * b % LL := by
  rw [hv_step]
  show ((2 * n + 0) * b % LL + b) % LL = (2 * n + 1) * b % LL
  rw [Nat.add_zero, Nat.mod_add_mod, Nat.add_mul (2 * n) 1 b, Nat.one_mul]
set_option maxRecDepth 100000 in
set_option maxHeartbeats 1000000 in
theorem times_any (s : ByteArray) (b : Nat) (hs : s.size ≤ 64) (hb : b < LL) (w : World) (hG0 : Glob w) :
    Calls Tryd.prog 22 #[.string s, .agg (num b)] w fun e w' => e = .returned (.agg (num (leVal s.data.toList * b % LL))) ∧ Below w.heap.size w w' := by
  have HV : Hid (hv (bitsTo s.data.toList (8 * s.size)) = leVal s.data.toList) := Lib.hid (hv_all s.data.toList)
  have HG := Lib.hid hG0
  have HBL := Lib.hid hb
  have HZ := zero_run
  clear hG0
  obtain ⟨B, hB⟩ : ∃ B, Hid (B = num b) := ⟨_, Lib.hid rfl⟩
  obtain ⟨Z, hZ⟩ : ∃ Z, Hid (Z = num 0) := ⟨_, Lib.hid rfl⟩
  have IB : IsNum B := by rw [hB.out]; exact isNum _
  have IZ : IsNum Z := by rw [hZ.out]; exact isNum _
  have IZ2 := IZ.size
  have HZ2 : ∀ w, (zeroValue 24).run Tryd.prog w = .ok (.agg Z) w := by rw [hZ.out]; exact HZ
  obtain ⟨R, hR⟩ : ∃ R, Hid (R = num (leVal s.data.toList * b % LL)) := ⟨_, Lib.hid rfl⟩
  rw [← hB.out, ← hR.out]
  have hI00 : TI w b [] ((((w.alloc (.cells B 24)).alloc (.cells Z 24)).alloc (.cells Z 24)).alloc (.cells #[.string s] 9)) := by
    have h := ((((Kn.nil w).new B).new Z).new Z).alloc (.cells #[.string s] 9)
    simp only [World.size_alloc] at h
    refine ⟨?_, by simp⟩
    rw [show hv [] * b % LL = 0 by show 0 * b % LL = 0; rw [Nat.zero_mul]; rfl, ← hB.out, ← hZ.out]
    exact h.sub (fun p hp => by simp at hp ⊢; rcases hp with h | h | h <;> simp [h])
  have hI0 := Lib.hid hI00
  have hbx0 : Boxed ((((w.alloc (.cells B 24)).alloc (.cells Z 24)).alloc (.cells Z 24)).alloc (.cells #[.string s] 9)) (w.heap.size + 1 + 1 + 1) 9 (.string s) := by
    have h := Boxed.new (((w.alloc (.cells B 24)).alloc (.cells Z 24)).alloc (.cells Z 24)) 9 (.string s)
    simp only [World.size_alloc] at h
    exact h
  have hbx := Lib.hid hbx0
  have hsz : ((((w.alloc (.cells B 24)).alloc (.cells Z 24)).alloc (.cells Z 24)).alloc (.cells #[.string s] 9)).heap.size = w.heap.size + 4 := by simp
  clear hI00 hbx0 HZ
  refine (callsIn_wide (n := 6)).1 ?_
  refine callsIn_of_wp_marks Tryd.func22 rfl trivial ?_ rfl
  simp only [Tryd.ntmps22, List.size_toArray, List.length_cons, List.length_nil, Nat.reduceAdd, Nat.reduceSub, Array.replicate_succ, Array.replicate_zero, List.push_toArray, List.append_toArray, List.nil_append, List.cons_append]
  gi_wp2_with (first | ((refine wpListIn_run rfl rfl rfl _ (exec_alloc_agg _ 24 rfl _ (HZ2 _)) ?_); try simp only [World.size_alloc]) | (refine ⟨trivial, ?_⟩; gi_at_call 30; refine (bitsOf_in _ _ _).mono ?_; rintro e w' ⟨rfl, rfl⟩))
  try simp only [World.size_alloc]
  generalize (((w.alloc (.cells B 24)).alloc (.cells Z 24)).alloc (.cells Z 24)).alloc (.cells #[.string s] 9) = W0 at *
  refine wpIn_rangeFunc_ownF rfl (by omega) (gf := 35) (lb := #[.pointer (some ⟨w.heap.size + 1 + 1 + 1, 0, none⟩)]) rfl trivial (enters_of Tryd.func35 (by kernel_rfl) rfl) (bits_stops 5 (w.heap.size + 1 + 1 + 1) s hs W0 hbx.out (by omega))
    (fun h1 h2 => Eq.trans h2 h1) (fun W l o o' hl ho hoc _ => World.putObj_heap_other (by omega)) (Below.refl _ _) (fun _ => rfl)
    (TI w b) (fun _ _ _ => False) (tI_own w b _ (by omega)) (fun _ _ _ _ _ hs _ _ => hs) hI0.out
    (fun x => { tmps := #[.string s, .agg B, undef, .pointer (some ⟨w.heap.size, 0, none⟩), .pointer (some ⟨w.heap.size + 1, 0, none⟩), .pointer (some ⟨w.heap.size + 1 + 1, 0, none⟩), .bool x, .string s, .func (.func 35) #[] #[.pointer (some ⟨w.heap.size + 1 + 1 + 1, 0, none⟩)], .bool x, undef, undef, undef, undef, undef, undef, undef, undef], defers := [] }) ?assign ?body ?done ?stop
  case assign =>
    intro l x W K hK
    unfold encB
    gi_wp2
    exact hK
  case body =>
    rintro l pre x W ⟨hK, hWs⟩ _
    obtain ⟨n, hn⟩ : ∃ n, n = hv pre := ⟨_, rfl⟩
    have hnx : hv (pre ++ [x]) = 2 * n + x.toNat := by rw [hv_snoc, hn]
    rw [← hn] at hK
    have hlt : ∀ y, y % LL < LL := fun y => Nat.mod_lt _ LL_pos
    have H1 := Lib.hid (sum_any (n * b % LL) (n * b % LL) (hlt _) (hlt _) W (HG.out.kn hK))
    rw [hv_step] at H1
    obtain ⟨N0, hN0⟩ : ∃ N0, Hid (N0 = num (n * b % LL)) := ⟨_, Lib.hid rfl⟩
    obtain ⟨N1, hN1⟩ : ∃ N1, Hid (N1 = num ((2 * n + false.toNat) * b % LL)) := ⟨_, Lib.hid rfl⟩
    have IN0 : IsNum N0 := by rw [hN0.out]; exact isNum _
    have IN1 : IsNum N1 := by rw [hN1.out]; exact isNum _
    rw [← hN0.out, ← hN1.out] at H1
    rw [← hN0.out, ← hB.out, ← hZ.out] at hK
    have HK := Lib.hid hK
    have HNX := Lib.hid hnx
    clear hK hnx hI0 hbx
    have hl1 := HK.out.load (w.heap.size + 1 + 1) N0 (by simp) IN0
    gi_wp2_with (refine wpListIn_run rfl rfl rfl _ (exec_load_of _ 24 (.tmp 5) rfl ⟨w.heap.size + 1 + 1, 0, none⟩ rfl (.agg N0) hl1) ?_)
    refine ⟨trivial, ?_⟩
    refine (CallsIn.inRound l (callsIn_wide.2 H1.out)).mono ?_
    rintro e W1 ⟨rfl, hb1⟩
    clear hl1
    have HK1 := Lib.hid (HK.out.below hb1)
    have HKE := Lib.hid (keeps_of_below hb1)
    have HB3 : Hid (W1.heap[w.heap.size + 1 + 1 + 1]? = W.heap[w.heap.size + 1 + 1 + 1]?) := Lib.hid (hb1.block _ (by omega))
    have hW1s : w.heap.size + 4 ≤ W1.heap.size := Nat.le_trans hWs hb1.size
    have hg1 := HK1.out.get (w.heap.size + 1 + 1) N0 (by simp)
    clear hb1 H1
    have HK2 : Hid (Kn w [(w.heap.size, B), (w.heap.size + 1, Z), (w.heap.size + 1 + 1, N1)] (W1.setRow (w.heap.size + 1 + 1) N1)) := Lib.hid (HK1.out.set (w.heap.size + 1 + 1) N1 N0 hg1 (by omega) (fun p hp => by simp at hp; rcases hp with rfl | rfl | rfl <;> first | exact .inl rfl | exact .inr ⟨by simp, by simp <;> omega⟩))
    have HKE2 : Hid (KeepsOthers W (W1.setRow (w.heap.size + 1 + 1) N1)) := Lib.hid (HKE.out.trans (keeps_setRow hg1))
    have HB32 : Hid ((W1.setRow (w.heap.size + 1 + 1) N1).heap[w.heap.size + 1 + 1 + 1]? = W.heap[w.heap.size + 1 + 1 + 1]?) := Lib.hid ((setRow_other _ _ _ _ (by omega)).trans HB3.out)
    have hW2s : w.heap.size + 4 ≤ (W1.setRow (w.heap.size + 1 + 1) N1).heap.size := by simp; omega
    cases x with
    | false =>
      gi_wp2_with (refine wpListIn_run0 rfl rfl rfl (exec_store24 _ (.tmp 5) (.tmp 12) rfl (w.heap.size + 1 + 1) rfl N1 IN1 rfl N0 24 hg1 IN0.size) ?_)
      refine ⟨HKE2.out, HB32.out, ?_, hW2s⟩
      rw [HNX.out, ← hN1.out, ← hB.out, ← hZ.out]
      exact HK2.out
    | true =>
      have hG2 := HG.out.kn HK2.out
      have hl2 := HK2.out.load (w.heap.size + 1 + 1) N1 (by simp) IN1
      have hl3 := HK2.out.load (w.heap.size) B (by simp) IB
      have H2 := Lib.hid (sum_any ((2 * n + false.toNat) * b % LL) b (hlt _) hb (W1.setRow (w.heap.size + 1 + 1) N1) hG2)
      rw [show ((2 * n + false.toNat) * b % LL + b) % LL = (2 * n + true.toNat) * b % LL by rw [← hv_step, hv_step1 n b hb]] at H2
      obtain ⟨N2, hN2⟩ : ∃ N2, Hid (N2 = num ((2 * n + true.toNat) * b % LL)) := ⟨_, Lib.hid rfl⟩
      have IN2 : IsNum N2 := by rw [hN2.out]; exact isNum _
      rw [← hN1.out, ← hN2.out, ← hB.out] at H2
      gi_wp2_with (first | (refine wpListIn_run0 rfl rfl rfl (exec_store24 _ (.tmp 5) (.tmp 12) rfl (w.heap.size + 1 + 1) rfl N1 IN1 rfl N0 24 hg1 IN0.size) ?_) | (refine wpListIn_run rfl rfl rfl _ (exec_load_of _ 24 (.tmp 5) rfl ⟨w.heap.size + 1 + 1, 0, none⟩ rfl (.agg N1) hl2) ?_) | (refine wpListIn_run rfl rfl rfl _ (exec_load_of _ 24 (.tmp 3) rfl ⟨w.heap.size, 0, none⟩ rfl (.agg B) hl3) ?_))
      refine ⟨trivial, ?_⟩
      refine (CallsIn.inRound l (callsIn_wide.2 H2.out)).mono ?_
      rintro e W3 ⟨rfl, hb3⟩
      have HK3 := Lib.hid (HK2.out.below hb3)
      have HKE3 := Lib.hid (HKE2.out.trans (keeps_of_below hb3))
      have HB33 : Hid (W3.heap[w.heap.size + 1 + 1 + 1]? = W.heap[w.heap.size + 1 + 1 + 1]?) := Lib.hid ((hb3.block _ (by omega)).trans HB32.out)
      have hW3s : w.heap.size + 4 ≤ W3.heap.size := Nat.le_trans hW2s hb3.size
      have hg3 := HK3.out.get (w.heap.size + 1 + 1) N1 (by simp)
      clear hb3 H2 hl2 hl3 hG2 hg1
      have HK4 : Hid (Kn w [(w.heap.size, B), (w.heap.size + 1, Z), (w.heap.size + 1 + 1, N2)] (W3.setRow (w.heap.size + 1 + 1) N2)) := Lib.hid (HK3.out.set (w.heap.size + 1 + 1) N2 N1 hg3 (by omega) (fun p hp => by simp at hp; rcases hp with rfl | rfl | rfl <;> first | exact .inl rfl | exact .inr ⟨by simp, by simp <;> omega⟩))
      have HKE4 : Hid (KeepsOthers W (W3.setRow (w.heap.size + 1 + 1) N2)) := Lib.hid (HKE3.out.trans (keeps_setRow hg3))
      have HB34 : Hid ((W3.setRow (w.heap.size + 1 + 1) N2).heap[w.heap.size + 1 + 1 + 1]? = W.heap[w.heap.size + 1 + 1 + 1]?) := Lib.hid ((setRow_other _ _ _ _ (by omega)).trans HB33.out)
      have hW4s : w.heap.size + 4 ≤ (W3.setRow (w.heap.size + 1 + 1) N2).heap.size := by simp; omega
      gi_wp2_with (refine wpListIn_run0 rfl rfl rfl (exec_store24 _ (.tmp 5) (.tmp 16) rfl (w.heap.size + 1 + 1) rfl N2 IN2 rfl N1 24 hg3 IN1.size) ?_)
      refine ⟨HKE4.out, HB34.out, ?_, hW4s⟩
      rw [HNX.out, ← hN2.out, ← hB.out, ← hZ.out]
      exact HK4.out
  case done =>
    rintro D xs W hD rfl ⟨hK, hWs⟩ hDf
    rw [HV.out] at hK
    have IR : IsNum R := by rw [hR.out]; exact isNum _
    rw [← hR.out, ← hB.out, ← hZ.out] at hK
    have HK := Lib.hid hK
    have HDf := Lib.hid hDf
    clear hK hDf hI0 hbx
    have hl7 := HK.out.load (w.heap.size + 1 + 1) R (by simp) IR
    have hg7 := HK.out.get (w.heap.size + 1) Z (by simp)
    gi_wp2_with (first | (refine wpListIn_run rfl rfl rfl _ (exec_load_of _ 24 (.tmp 5) rfl ⟨w.heap.size + 1 + 1, 0, none⟩ rfl (.agg R) hl7) ?_) | (refine wpListIn_run0 rfl rfl rfl (exec_store24 _ (.tmp 4) (.tmp 17) rfl (w.heap.size + 1) rfl R IR rfl Z 24 hg7 IZ2) ?_))
    have HKS : Kn w [(w.heap.size + 1, R)] (W.setRow (w.heap.size + 1) R) := HK.out.set (w.heap.size + 1) R Z hg7 (by omega) (fun p hp => by simp at hp; subst hp; simp)
    have hK2 : (W.setRow (w.heap.size + 1) R).heap[D]? = some (.deferred (some [])) := (setRow_other _ _ _ _ (by omega)).trans HDf.out
    generalize W.setRow (w.heap.size + 1) R = W2 at *
    refine ⟨by simp, .inl ⟨_, _, rfl, run_takeDeferred hK2, ?_⟩⟩
    have hrow7 : (W2.putObj D (.deferred none)).heap[w.heap.size + 1]? = some (.cells R 24 (0, 0)) := (World.putObj_heap_other (by omega)).trans (HKS.get (w.heap.size + 1) R (by simp))
    exact ⟨_, results_cell rfl _ _ _ ⟨w.heap.size + 1, 0, none⟩ rfl _ (loadA IR hrow7), rfl, HKS.1.trans (belowK_b (w := w) (Nat.le_refl _) W2 D _ _ (by omega) hK2 rfl rfl)⟩
  case stop =>
    rintro D c pre W _ _ h _
    exact h.elim
end Go.Proofs.YtfcnfcolhahghaaDoor
