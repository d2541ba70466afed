/- The law WideKnown walked: it returns true at any number, and no memory that was there is changed. -/
import Derived.Test.YtnajglmabgofeaaShaF
import Derived.Test.YtnajglmabgofeaaKnown
namespace Go.Proofs.Ytnajglmabgofeaa
open Go.RowKit
set_option linter.unusedVariables false
set_option linter.unusedSimpArgs false
section
variable {P : Program} {ops : Array Oper} {Q : Exit → Act → World → Prop} {md : Region.Mode} {S : World → Prop} {f n : Nat} {listed : Array Bool} {a : Act} {w w2 : World} {rs : List Nat}
/-- As AnyF.take, where nothing is last, for an operation whose guard is met. -/
theorem AnyF.takeG (hfn : ops[f]? = none) (i : Nat) (d : Option Tmp) (opr : Op) (gd : Option (Nat × Bool)) (v : Value) (ho : (ops[i]?).map (fun o => (o.dst, o.op, o.guard)) = some (d, opr, gd)) (hs : Region.noSelect ops = true) (hf : Region.free md ops listed i = true) (hr : (Region.ready md ops listed).contains i = true)
    (hQ : ∀ c a w, Q (.panic c) (a.put d v) w → Q (.panic c) a w) (hif : (i == f) = false) (hw : ∀ o, ops[i]? = some o → Region.wanted o (yielded ops a.tmps) = true) (hy : ∀ (o : Oper), o.op = opr → ∀ w, S w → (execOp a.eval o).run P w = .ok (.value v) w) (hS : S w)
    (h : AnyF P md ops Q S f n (listed.setIfInBounds i true) (a.put d v) w) : AnyF P md ops Q S f (n + 1) listed a w := by
  cases hq : ops[i]? with
  | none => simp [hq] at ho
  | some o =>
    have hw2 := hw o hq
    simp [hq] at ho
    obtain ⟨rfl, rfl, hg⟩ := ho
    exact AnyF.first hq (Region.noSelect_spec hs) hQ (by simpa using hif) (fun o2 ho2 => by rw [hfn] at ho2; cases ho2) n listed a w (Region.free_spec hq hf) (by simpa using hr) (Or.inl ⟨hw2, hy o rfl⟩) hS h
theorem ReadyF.consG {i : Nat} {o : Oper} (ho : ops[i]? = some o) (hw : Region.wanted o (yielded ops a.tmps) = true)
    (h : ∀ K : Act → World → Prop, (∀ a' w', (i ≠ f → S w' ∧ AnyF P md ops Q S f n (listed.setIfInBounds i true) a' w') ∧ (i = f → wpAny P md ops Q n (listed.setIfInBounds i true) a' w') → K a' w') → Oper.wp P o a w K Q) (hs : ReadyF P md ops Q S f n listed a w rs) : ReadyF P md ops Q S f n listed a w (i :: rs) := fun j hj => by
  rcases List.mem_cons.1 hj with rfl | hj
  · refine wpOp_step ho (fun K hK => ?_)
    rw [if_pos hw]
    exact h K hK
  · exact hs j hj
theorem ReadyF.callG {i : Nat} (d : Option Tmp) (g : FuncId) (args : Array Operand) (tys : Array TypeId) (gd : Option (Nat × Bool)) (ho : (ops[i]?).map (fun o => (o.dst, o.op, o.guard)) = some (d, .call { callee := .value (.func g), args := args, argTypes := tys }, gd)) (hw : ∀ o, ops[i]? = some o → Region.wanted o (yielded ops a.tmps) = true)
    (avs : Array Value) (has : args.map a.eval = avs) (eg : ∀ args w, (callFunc g args).run P w = .ok (.enter g args) w) (R : Ending → World → Prop) (hc : Calls P g avs w R)
    (hK : ∀ v w', R (.returned v) w' → S w' ∧ AnyF P md ops Q S f n (listed.setIfInBounds i true) (a.put d v) w') (hnp : ∀ c w', ¬ R (.panicked c) w') (hno : ∀ w', ¬ R .outgrown w')
    (hs : ReadyF P md ops Q S f n listed a w rs) (hif : i ≠ f := by decide) : ReadyF P md ops Q S f n listed a w (i :: rs) := by
  cases hq : ops[i]? with
  | none => simp [hq] at ho
  | some o =>
    have hw2 := hw o hq
    simp [hq] at ho
    obtain ⟨rfl, hop, hg⟩ := ho
    refine ReadyF.consG hq hw2 (fun K hK2 => ?_) hs
    have hev : a.eval (.func g) = .func (.func g) #[] #[] := rfl
    have hres : (resolve a.eval { callee := .value (.func g), args := args, argTypes := tys } o.type).run P w = .ok { target := .fn (.func g) #[], args := avs } w := by
      simp [resolve, hev, has, Deferred.ofValue]
    have hx : (execOp a.eval o).run P w = .ok (.enter g avs) w := by
      unfold execOp
      simp only [hop, Sem.run_bind, hres, Result.andThen_ok, invoke]
      simp [eg]
    unfold Oper.wp
    rw [hx]
    refine hc.mono ?_
    intro e w' hr
    cases e with
    | returned v => exact hK2 _ _ ⟨fun _ => hK v w' hr, fun e => absurd e hif⟩
    | panicked c => exact (hnp c w' hr).elim
    | outgrown => exact (hno w' hr).elim
theorem ReadyF.opG {i : Nat} (d : Option Tmp) (opr : Op) (gd : Option (Nat × Bool)) (ho : (ops[i]?).map (fun o => (o.dst, o.op, o.guard)) = some (d, opr, gd)) (hw : ∀ o, ops[i]? = some o → Region.wanted o (yielded ops a.tmps) = true) (v : Value)
    (hrun : ∀ o : Oper, o.op = opr → (execOp a.eval o).run P w = .ok (.value v) w2) (hS : S w2) (h : AnyF P md ops Q S f n (listed.setIfInBounds i true) (a.put d v) w2)
    (hs : ReadyF P md ops Q S f n listed a w rs) (hif : i ≠ f := by decide) : ReadyF P md ops Q S f n listed a w (i :: rs) := by
  cases hq : ops[i]? with
  | none => simp [hq] at ho
  | some o =>
    have hw2 := hw o hq
    simp [hq] at ho
    obtain ⟨rfl, rfl, hg⟩ := ho
    exact ReadyF.consG hq hw2 (fun K hK => by unfold Oper.wp; rw [hrun o rfl]; exact hK _ _ ⟨fun _ => ⟨hS, h⟩, fun e => absurd e hif⟩) hs
end
def abc : List UInt8 := [97, 98, 99]
def abcHex : ByteArray := { data := (List.append [100, 100, 97, 102, 51, 53, 97, 49, 57, 51, 54, 49, 55, 97, 98, 97, 99, 99, 52, 49, 55, 51, 52, 57, 97, 101, 50, 48, 52, 49, 51, 49, 49, 50, 101, 54, 102, 97, 52, 101, 56, 57, 97, 57, 55, 101, 97, 50, 48, 97, 57, 101, 101, 101, 101, 54, 52, 98, 53, 53, 100, 51, 57, 97] [50, 49, 57, 50, 57, 57, 50, 97, 50, 55, 52, 102, 99, 49, 97, 56, 51, 54, 98, 97, 51, 99, 50, 51, 97, 51, 102, 101, 101, 98, 98, 100, 52, 53, 52, 100, 52, 52, 50, 51, 54, 52, 51, 99, 101, 56, 48, 101, 50, 97, 57, 97, 99, 57, 52, 102, 97, 53, 52, 99, 97, 52, 57, 102]).toArray }
theorem abc_hex : (⟨(hex (sha abc)).toArray⟩ : ByteArray) = abcHex := by decide +kernel
def KS (g j x : Nat) (w0 w : World) : Prop := Below w0.heap.size w0 w ∧ g < w.heap.size ∧ w.cell? ⟨g, 0, none⟩ = some (.int .u64 4794697086780616226) ∧ w.cell? ⟨g, 79, none⟩ = some (.int .u64 7801388544844847127) ∧ w.cell? ⟨g, j, none⟩ = some (.int .u64 x)
theorem KS.below {g j x : Nat} {w0 a b : World} (h : KS g j x w0 a) (hb : Below a.heap.size a b) : KS g j x w0 b :=
  ⟨below_step h.1 hb, Nat.lt_of_lt_of_le h.2.1 hb.size, (hb.cell (p := ⟨g, 0, none⟩) h.2.1).trans h.2.2.1, (hb.cell (p := ⟨g, 79, none⟩) h.2.1).trans h.2.2.2.1, (hb.cell (p := ⟨g, j, none⟩) h.2.1).trans h.2.2.2.2⟩
theorem enters6 : ∀ args w, (callFunc 6 args).run Try.prog w = .ok (.enter 6 args) w := enters_of Try.func6 (by kernel_rfl) rfl
theorem enters7 : ∀ args w, (callFunc 7 args).run Try.prog w = .ok (.enter 7 args) w := enters_of Try.func7 (by kernel_rfl) rfl
theorem enters10 : ∀ args w, (callFunc 10 args).run Try.prog w = .ok (.enter 10 args) w := enters_of Try.func10 (by kernel_rfl) rfl
theorem enters11 : ∀ args w, (callFunc 11 args).run Try.prog w = .ok (.enter 11 args) w := enters_of Try.func11 (by kernel_rfl) rfl
set_option maxRecDepth 100000 in
set_option maxHeartbeats 4000000 in
theorem known_law (n : Nat) (hn : n < 256) (w : World) : Calls Try.prog 4 #[.int .u8 n] w fun e w' => e = .returned (.bool true) ∧ Below w.heap.size w w' := by
  go_enter Try.func4, Try.ntmps4
  go_wp2_with fail
  refine (consts_any w).mono ?_
  rintro e w1 ⟨p, c, rfl, hown, hb1⟩
  obtain ⟨g, rfl⟩ := own_some hown (by omega)
  have hcc := own_le hown
  obtain ⟨j, hj0⟩ : ∃ j, Hid (j = n % 80) := ⟨_, Lib.hid rfl⟩
  have hjm : (n : Int) % 80 = (j : Int) := by rw [hj0.out]; omega
  have hj4 : j < 80 := by rw [hj0.out]; omega
  have hjI : (j : Int) < 80 := by omega
  have hj1 : Int.tmod (n : Int) 80 = (j : Int) := by rw [Int.tmod_eq_emod_of_nonneg (by omega)]; exact hjm
  have hj2 : IntKind.u8.wrap (j : Int) = (j : Int) := by simp [IntKind.wrap, IntKind.bits, IntKind.signed]; omega
  have hj3 : (0 : Int) ≤ (j : Int) := by omega
  have hj5 : ¬ (80 : Int) ≤ (j : Int) := by omega
  have hcell : ∀ q, q < 80 → w1.cell? ⟨g, q, none⟩ = some (.int .u64 (kN q)) := fun q hq => by
    rw [hown.cellAt q (by omega)]
    unfold numsV
    rw [List.getElem?_map, kL_at q hq]; rfl
  have HKD : Hid (KS g j (kN j) w w1.drew) := ⟨hb1.drew, (hown.lt g rfl).2, hcell 0 (by omega), hcell 79 (by omega), hcell j hj4⟩
  have HRC : Hid (∀ W : World, Calls Try.prog 11 #[] W fun e w' => ∃ g2 c2, e = .returned (.slice (some ⟨g2, 0, none⟩) 80 c2) ∧ 80 ≤ c2 ∧ w'.cell? ⟨g2, j, none⟩ = some (.int .u64 (kN j)) ∧ Below W.heap.size W w') := fun W =>
    (rconsts_any W).mono fun e w' ⟨p2, c2, he, ho, hb⟩ => by
      obtain ⟨g2, rfl⟩ := own_some ho (by omega)
      refine ⟨g2, c2, he, own_le ho, ?_, hb⟩
      rw [ho.cellAt j (by omega)]
      unfold numsV
      rw [List.getElem?_map, kL_at j hj4]; rfl
  have HSUM := Lib.hid (fun w => sum_any ⟨abc.toArray⟩ (by decide) w)
  have HHEX := Lib.hid (fun w => hex_sha abc w)
  rw [abc_hex] at HHEX
  rw [show (⟨abc.toArray⟩ : ByteArray).data.toList = abc from rfl] at HSUM
  obtain ⟨u, hu⟩ : ∃ u : ByteArray, Hid (u = ⟨(sha abc).toArray⟩) := ⟨_, Lib.hid rfl⟩
  rw [← hu.out] at HSUM HHEX
  generalize kN j = x at *
  clear hcell hown hb1 hu
  go_upto_region 4 with (fail)
  rw [show ({ data := (List.append [100, 100, 97, 102, 51, 53, 97, 49, 57, 51, 54, 49, 55, 97, 98, 97, 99, 99, 52, 49, 55, 51, 52, 57, 97, 101, 50, 48, 52, 49, 51, 49, 49, 50, 101, 54, 102, 97, 52, 101, 56, 57, 97, 57, 55, 101, 97, 50, 48, 97, 57, 101, 101, 101, 101, 54, 52, 98, 53, 53, 100, 51, 57, 97] [50, 49, 57, 50, 57, 57, 50, 97, 50, 55, 52, 102, 99, 49, 97, 56, 51, 54, 98, 97, 51, 99, 50, 51, 97, 51, 102, 101, 101, 98, 98, 100, 52, 53, 52, 100, 52, 52, 50, 51, 54, 52, 51, 99, 101, 56, 48, 101, 50, 97, 57, 97, 99, 57, 52, 102, 97, 53, 52, 99, 97, 52, 57, 102]).toArray } : ByteArray) = abcHex from rfl]
  obtain ⟨C, hC⟩ : ∃ C, C = abcHex := ⟨_, rfl⟩
  rw [← hC] at HHEX ⊢
  clear hC
  rw [show ({ data := #[97, 98, 99] } : ByteArray) = ⟨abc.toArray⟩ from rfl]
  obtain ⟨A, hA⟩ : ∃ A : ByteArray, A = ⟨abc.toArray⟩ := ⟨_, rfl⟩
  rw [← hA] at HSUM ⊢
  clear hA
  refine wp_region_any (by kernel_rfl) ?_
  change wpAny _ _ _ _ _ _ _ (World.drew _)
  refine any_of_F (S := fun w' => KS g j x w w' ∧ w'.cell? ⟨g, 0, none⟩ = some (.int .u64 4794697086780616226) ∧ w'.cell? ⟨g, 79, none⟩ = some (.int .u64 7801388544844847127) ∧ w'.cell? ⟨g, j, none⟩ = some (.int .u64 x)) (f := 99) _ _ _ _ ?_
  refine AnyF.ready (rs := [0]) (by kernel_rfl) (by simp) (ReadyF.call (some 8) 7 #[.const (.string A)] #[9] rfl #[.string A] (by simp [Act.eval]) enters7 _ (HSUM.out _) ?_ (fun c w' h => by cases h.1) (fun w' h => by cases h.1) ReadyF.nil)
  rintro v w2 ⟨he, hb⟩
  cases he
  have HS1 := Lib.hid (HKD.out.below hb)
  refine ⟨⟨HS1.out, HS1.out.2.2⟩, ?_⟩
  clear hb
  simp only [Act.put, List.setIfInBounds_toArray, List.set_cons_succ, List.set_cons_zero]
  refine AnyF.ready (rs := [1]) (by kernel_rfl) (by simp) (ReadyF.call (some 9) 10 #[.tmp 8] #[9] rfl #[.string u] (by simp [Act.eval]) enters10 _ (HHEX.out _) ?_ (fun c w' h => by cases h.1) (fun w' h => by cases h.1) ReadyF.nil)
  rintro v w3 ⟨he, hb⟩
  cases he
  have HS2 := Lib.hid (HS1.out.below hb)
  have HSX := Lib.hid (And.intro HS2.out HS2.out.2.2)
  refine ⟨HSX.out, ?_⟩
  clear hb
  simp only [Act.put, List.setIfInBounds_toArray, List.set_cons_succ, List.set_cons_zero]
  refine AnyF.takeG (by rfl) 2 (some 10) (.binOp .eql 9 (.tmp 9) (.const (.string C)) 9) (none) (.bool true) rfl (by kernel_rfl) (by kernel_rfl) (by kernel_rfl) (fun _ _ _ h => h) rfl (fun o h => by obtain rfl := Option.some.inj h; rfl) (fun o ho w hw => by obtain ⟨-, q0, q79, qj⟩ := hw; unfold execOp; rw [ho]; go_simp) HSX.out ?_
  simp only [Act.put, List.setIfInBounds_toArray, List.set_cons_succ, List.set_cons_zero]
  refine AnyF.takeG (by rfl) 3 (some 11) (.move (.tmp 10)) (none) (.bool true) rfl (by kernel_rfl) (by kernel_rfl) (by kernel_rfl) (fun _ _ _ h => h) rfl (fun o h => by obtain rfl := Option.some.inj h; rfl) (fun o ho w hw => by obtain ⟨-, q0, q79, qj⟩ := hw; unfold execOp; rw [ho]; go_simp) HSX.out ?_
  simp only [Act.put, List.setIfInBounds_toArray, List.set_cons_succ, List.set_cons_zero]
  refine AnyF.takeG (by rfl) 4 (some 12) (.move (.tmp 3)) (some (3, true)) (.slice (some ⟨g, 0, none⟩) 80 c) rfl (by kernel_rfl) (by kernel_rfl) (by kernel_rfl) (fun _ _ _ h => h) rfl (fun o h => by obtain rfl := Option.some.inj h; rfl) (fun o ho w hw => by obtain ⟨-, q0, q79, qj⟩ := hw; unfold execOp; rw [ho]; go_simp) HSX.out ?_
  simp only [Act.put, List.setIfInBounds_toArray, List.set_cons_succ, List.set_cons_zero]
  refine AnyF.takeG (by rfl) 5 (some 13) (.indexAddr 25 (.tmp 12) (.const (.int .i64 0))) (some (3, true)) (.pointer (some ⟨g, 0, none⟩)) rfl (by kernel_rfl) (by kernel_rfl) (by kernel_rfl) (fun _ _ _ h => h) rfl (fun o h => by obtain rfl := Option.some.inj h; rfl) (fun o ho w hw => by obtain ⟨-, q0, q79, qj⟩ := hw; unfold execOp; rw [ho]; go_simp) HSX.out ?_
  simp only [Act.put, List.setIfInBounds_toArray, List.set_cons_succ, List.set_cons_zero]
  refine AnyF.takeG (by rfl) 6 (some 14) (.load 27 (.tmp 13)) (some (3, true)) (.int .u64 4794697086780616226) rfl (by kernel_rfl) (by kernel_rfl) (by kernel_rfl) (fun _ _ _ h => h) rfl (fun o h => by obtain rfl := Option.some.inj h; rfl) (fun o ho w hw => by obtain ⟨-, q0, q79, qj⟩ := hw; unfold execOp; rw [ho]; go_simp) HSX.out ?_
  simp only [Act.put, List.setIfInBounds_toArray, List.set_cons_succ, List.set_cons_zero]
  refine AnyF.takeG (by rfl) 7 (some 15) (.binOp .eql 27 (.tmp 14) (.const (.int .u64 4794697086780616226)) 27) (some (3, true)) (.bool true) rfl (by kernel_rfl) (by kernel_rfl) (by kernel_rfl) (fun _ _ _ h => h) rfl (fun o h => by obtain rfl := Option.some.inj h; rfl) (fun o ho w hw => by obtain ⟨-, q0, q79, qj⟩ := hw; unfold execOp; rw [ho]; go_simp) HSX.out ?_
  simp only [Act.put, List.setIfInBounds_toArray, List.set_cons_succ, List.set_cons_zero]
  refine AnyF.takeG (by rfl) 8 (some 16) (.pick (.tmp 11) (.tmp 15) (.const (.bool false))) (none) (.bool true) rfl (by kernel_rfl) (by kernel_rfl) (by kernel_rfl) (fun _ _ _ h => h) rfl (fun o h => by obtain rfl := Option.some.inj h; rfl) (fun o ho w hw => by obtain ⟨-, q0, q79, qj⟩ := hw; unfold execOp; rw [ho]; go_simp) HSX.out ?_
  simp only [Act.put, List.setIfInBounds_toArray, List.set_cons_succ, List.set_cons_zero]
  refine AnyF.takeG (by rfl) 9 (some 17) (.move (.tmp 16)) (none) (.bool true) rfl (by kernel_rfl) (by kernel_rfl) (by kernel_rfl) (fun _ _ _ h => h) rfl (fun o h => by obtain rfl := Option.some.inj h; rfl) (fun o ho w hw => by obtain ⟨-, q0, q79, qj⟩ := hw; unfold execOp; rw [ho]; go_simp) HSX.out ?_
  simp only [Act.put, List.setIfInBounds_toArray, List.set_cons_succ, List.set_cons_zero]
  refine AnyF.takeG (by rfl) 10 (some 18) (.move (.tmp 3)) (some (9, true)) (.slice (some ⟨g, 0, none⟩) 80 c) rfl (by kernel_rfl) (by kernel_rfl) (by kernel_rfl) (fun _ _ _ h => h) rfl (fun o h => by obtain rfl := Option.some.inj h; rfl) (fun o ho w hw => by obtain ⟨-, q0, q79, qj⟩ := hw; unfold execOp; rw [ho]; go_simp) HSX.out ?_
  simp only [Act.put, List.setIfInBounds_toArray, List.set_cons_succ, List.set_cons_zero]
  refine AnyF.takeG (by rfl) 11 (some 19) (.indexAddr 25 (.tmp 18) (.const (.int .i64 79))) (some (9, true)) (.pointer (some ⟨g, 79, none⟩)) rfl (by kernel_rfl) (by kernel_rfl) (by kernel_rfl) (fun _ _ _ h => h) rfl (fun o h => by obtain rfl := Option.some.inj h; rfl) (fun o ho w hw => by obtain ⟨-, q0, q79, qj⟩ := hw; unfold execOp; rw [ho]; go_simp) HSX.out ?_
  simp only [Act.put, List.setIfInBounds_toArray, List.set_cons_succ, List.set_cons_zero]
  refine AnyF.takeG (by rfl) 12 (some 20) (.load 27 (.tmp 19)) (some (9, true)) (.int .u64 7801388544844847127) rfl (by kernel_rfl) (by kernel_rfl) (by kernel_rfl) (fun _ _ _ h => h) rfl (fun o h => by obtain rfl := Option.some.inj h; rfl) (fun o ho w hw => by obtain ⟨-, q0, q79, qj⟩ := hw; unfold execOp; rw [ho]; go_simp) HSX.out ?_
  simp only [Act.put, List.setIfInBounds_toArray, List.set_cons_succ, List.set_cons_zero]
  refine AnyF.takeG (by rfl) 13 (some 21) (.binOp .eql 27 (.tmp 20) (.const (.int .u64 7801388544844847127)) 27) (some (9, true)) (.bool true) rfl (by kernel_rfl) (by kernel_rfl) (by kernel_rfl) (fun _ _ _ h => h) rfl (fun o h => by obtain rfl := Option.some.inj h; rfl) (fun o ho w hw => by obtain ⟨-, q0, q79, qj⟩ := hw; unfold execOp; rw [ho]; go_simp) HSX.out ?_
  simp only [Act.put, List.setIfInBounds_toArray, List.set_cons_succ, List.set_cons_zero]
  refine AnyF.takeG (by rfl) 14 (some 22) (.pick (.tmp 17) (.tmp 21) (.const (.bool false))) (none) (.bool true) rfl (by kernel_rfl) (by kernel_rfl) (by kernel_rfl) (fun _ _ _ h => h) rfl (fun o h => by obtain rfl := Option.some.inj h; rfl) (fun o ho w hw => by obtain ⟨-, q0, q79, qj⟩ := hw; unfold execOp; rw [ho]; go_simp) HSX.out ?_
  simp only [Act.put, List.setIfInBounds_toArray, List.set_cons_succ, List.set_cons_zero]
  refine AnyF.takeG (by rfl) 15 (some 23) (.move (.tmp 22)) (none) (.bool true) rfl (by kernel_rfl) (by kernel_rfl) (by kernel_rfl) (fun _ _ _ h => h) rfl (fun o h => by obtain rfl := Option.some.inj h; rfl) (fun o ho w hw => by obtain ⟨-, q0, q79, qj⟩ := hw; unfold execOp; rw [ho]; go_simp) HSX.out ?_
  simp only [Act.put, List.setIfInBounds_toArray, List.set_cons_succ, List.set_cons_zero]
  refine AnyF.takeG (by rfl) 16 (some 24) (.move (.tmp 3)) (some (15, true)) (.slice (some ⟨g, 0, none⟩) 80 c) rfl (by kernel_rfl) (by kernel_rfl) (by kernel_rfl) (fun _ _ _ h => h) rfl (fun o h => by obtain rfl := Option.some.inj h; rfl) (fun o ho w hw => by obtain ⟨-, q0, q79, qj⟩ := hw; unfold execOp; rw [ho]; go_simp) HSX.out ?_
  simp only [Act.put, List.setIfInBounds_toArray, List.set_cons_succ, List.set_cons_zero]
  refine AnyF.takeG (by rfl) 17 (some 25) (.move (.tmp 0)) (some (15, true)) (.int .u8 n) rfl (by kernel_rfl) (by kernel_rfl) (by kernel_rfl) (fun _ _ _ h => h) rfl (fun o h => by obtain rfl := Option.some.inj h; rfl) (fun o ho w hw => by obtain ⟨-, q0, q79, qj⟩ := hw; unfold execOp; rw [ho]; go_simp) HSX.out ?_
  simp only [Act.put, List.setIfInBounds_toArray, List.set_cons_succ, List.set_cons_zero]
  refine AnyF.takeG (by rfl) 18 (some 26) (.binOp .rem 5 (.tmp 25) (.const (.int .u8 80)) 5) (some (15, true)) (.int .u8 j) rfl (by kernel_rfl) (by kernel_rfl) (by kernel_rfl) (fun _ _ _ h => h) rfl (fun o h => by obtain rfl := Option.some.inj h; rfl) (fun o ho w hw => by obtain ⟨-, q0, q79, qj⟩ := hw; unfold execOp; rw [ho]; go_simp) HSX.out ?_
  simp only [Act.put, List.setIfInBounds_toArray, List.set_cons_succ, List.set_cons_zero]
  refine AnyF.takeG (by rfl) 19 (some 27) (.indexAddr 25 (.tmp 24) (.tmp 26)) (some (15, true)) (.pointer (some ⟨g, j, none⟩)) rfl (by kernel_rfl) (by kernel_rfl) (by kernel_rfl) (fun _ _ _ h => h) rfl (fun o h => by obtain rfl := Option.some.inj h; rfl) (fun o ho w hw => by obtain ⟨-, q0, q79, qj⟩ := hw; unfold execOp; rw [ho]; go_simp) HSX.out ?_
  simp only [Act.put, List.setIfInBounds_toArray, List.set_cons_succ, List.set_cons_zero]
  refine AnyF.takeG (by rfl) 20 (some 28) (.load 27 (.tmp 27)) (some (15, true)) (.int .u64 x) rfl (by kernel_rfl) (by kernel_rfl) (by kernel_rfl) (fun _ _ _ h => h) rfl (fun o h => by obtain rfl := Option.some.inj h; rfl) (fun o ho w hw => by obtain ⟨-, q0, q79, qj⟩ := hw; unfold execOp; rw [ho]; go_simp) HSX.out ?_
  simp only [Act.put, List.setIfInBounds_toArray, List.set_cons_succ, List.set_cons_zero]
  refine AnyF.takeG (by rfl) 22 (some 30) (.move (.tmp 0)) (some (15, true)) (.int .u8 n) rfl (by kernel_rfl) (by kernel_rfl) (by kernel_rfl) (fun _ _ _ h => h) rfl (fun o h => by obtain rfl := Option.some.inj h; rfl) (fun o ho w hw => by obtain ⟨-, q0, q79, qj⟩ := hw; unfold execOp; rw [ho]; go_simp) HSX.out ?_
  simp only [Act.put, List.setIfInBounds_toArray, List.set_cons_succ, List.set_cons_zero]
  refine AnyF.takeG (by rfl) 23 (some 31) (.binOp .rem 5 (.tmp 30) (.const (.int .u8 80)) 5) (some (15, true)) (.int .u8 j) rfl (by kernel_rfl) (by kernel_rfl) (by kernel_rfl) (fun _ _ _ h => h) rfl (fun o h => by obtain rfl := Option.some.inj h; rfl) (fun o ho w hw => by obtain ⟨-, q0, q79, qj⟩ := hw; unfold execOp; rw [ho]; go_simp) HSX.out ?_
  simp only [Act.put, List.setIfInBounds_toArray, List.set_cons_succ, List.set_cons_zero]
  refine AnyF.ready (rs := [21]) (by kernel_rfl) (by simp) (ReadyF.callG (some 29) 11 #[] #[] (some (15, true)) rfl (fun o h => by obtain rfl := Option.some.inj h; rfl) #[] (by simp [Act.eval]) enters11 _ (HRC.out _) ?_ (fun c w' h => by obtain ⟨_, _, h1, _⟩ := h; cases h1) (fun w' h => by obtain ⟨_, _, h1, _⟩ := h; cases h1) ReadyF.nil)
  rintro v w4 ⟨g2, c2, he, hc2, hcell2, hb⟩
  cases he
  have HS3 := Lib.hid (HS2.out.below hb)
  have HSY := Lib.hid (And.intro HS3.out HS3.out.2.2)
  refine ⟨HSY.out, ?_⟩
  clear hb
  simp only [Act.put, List.setIfInBounds_toArray, List.set_cons_succ, List.set_cons_zero]
  refine AnyF.takeG (by rfl) 24 (some 32) (.indexAddr 25 (.tmp 29) (.tmp 31)) (some (15, true)) (.pointer (some ⟨g2, j, none⟩)) rfl (by kernel_rfl) (by kernel_rfl) (by kernel_rfl) (fun _ _ _ h => h) rfl (fun o h => by obtain rfl := Option.some.inj h; rfl) (fun o ho w hw => by obtain ⟨-, q0, q79, qj⟩ := hw; unfold execOp; rw [ho]; go_simp) HSY.out ?_
  simp only [Act.put, List.setIfInBounds_toArray, List.set_cons_succ, List.set_cons_zero]
  refine AnyF.ready (rs := [25]) (by kernel_rfl) (by simp) (ReadyF.opG (some 33) (.load 27 (.tmp 32)) (some (15, true)) rfl (fun o h => by obtain rfl := Option.some.inj h; rfl) (.int .u64 x) (fun o ho => exec_load_one w4 27 (.tmp 32) ho ⟨g2, j, none⟩ rfl (.int .u64 x) hcell2 _ Try.underlying27 rfl) HSY.out ?_ ReadyF.nil)
  simp only [Act.put, List.setIfInBounds_toArray, List.set_cons_succ, List.set_cons_zero]
  refine AnyF.takeG (by rfl) 26 (some 34) (.binOp .eql 27 (.tmp 28) (.tmp 33) 27) (some (15, true)) (.bool true) rfl (by kernel_rfl) (by kernel_rfl) (by kernel_rfl) (fun _ _ _ h => h) rfl (fun o h => by obtain rfl := Option.some.inj h; rfl) (fun o ho w hw => by obtain ⟨-, q0, q79, qj⟩ := hw; unfold execOp; rw [ho]; go_simp) HSY.out ?_
  simp only [Act.put, List.setIfInBounds_toArray, List.set_cons_succ, List.set_cons_zero]
  refine AnyF.takeG (by rfl) 27 (some 35) (.pick (.tmp 23) (.tmp 34) (.const (.bool false))) (none) (.bool true) rfl (by kernel_rfl) (by kernel_rfl) (by kernel_rfl) (fun _ _ _ h => h) rfl (fun o h => by obtain rfl := Option.some.inj h; rfl) (fun o ho w hw => by obtain ⟨-, q0, q79, qj⟩ := hw; unfold execOp; rw [ho]; go_simp) HSY.out ?_
  simp only [Act.put, List.setIfInBounds_toArray, List.set_cons_succ, List.set_cons_zero]
  refine AnyF.takeG (by rfl) 28 (some 36) (.move (.tmp 35)) (none) (.bool true) rfl (by kernel_rfl) (by kernel_rfl) (by kernel_rfl) (fun _ _ _ h => h) rfl (fun o h => by obtain rfl := Option.some.inj h; rfl) (fun o ho w hw => by obtain ⟨-, q0, q79, qj⟩ := hw; unfold execOp; rw [ho]; go_simp) HSY.out ?_
  simp only [Act.put, List.setIfInBounds_toArray, List.set_cons_succ, List.set_cons_zero]
  refine AnyF.ready (rs := [29]) (by kernel_rfl) (by simp) (ReadyF.callG (some 37) 6 #[] #[] (some (28, true)) rfl (fun o h => by obtain rfl := Option.some.inj h; rfl) #[] (by simp [Act.eval]) enters6 _ (awake_ok _) ?_ (fun c w' h => by cases h.1) (fun w' h => by cases h.1) ReadyF.nil)
  rintro v w5 ⟨he, hb⟩
  cases he
  have HS4 := Lib.hid (HS3.out.below hb)
  have HSZ := Lib.hid (And.intro HS4.out HS4.out.2.2)
  refine ⟨HSZ.out, ?_⟩
  clear hb
  simp only [Act.put, List.setIfInBounds_toArray, List.set_cons_succ, List.set_cons_zero]
  refine AnyF.takeG (by rfl) 30 (some 38) (.pick (.tmp 36) (.tmp 37) (.const (.bool false))) (none) (.bool true) rfl (by kernel_rfl) (by kernel_rfl) (by kernel_rfl) (fun _ _ _ h => h) rfl (fun o h => by obtain rfl := Option.some.inj h; rfl) (fun o ho w hw => by obtain ⟨-, q0, q79, qj⟩ := hw; unfold execOp; rw [ho]; go_simp) HSZ.out ?_
  simp only [Act.put, List.setIfInBounds_toArray, List.set_cons_succ, List.set_cons_zero]
  refine AnyF.takeG (by rfl) 31 (some 2) (.assign (.tmp 38)) (none) (.bool true) rfl (by kernel_rfl) (by kernel_rfl) (by kernel_rfl) (fun _ _ _ h => h) rfl (fun o h => by obtain rfl := Option.some.inj h; rfl) (fun o ho w hw => by obtain ⟨-, q0, q79, qj⟩ := hw; unfold execOp; rw [ho]; go_simp) HSZ.out ?_
  simp only [Act.put, List.setIfInBounds_toArray, List.set_cons_succ, List.set_cons_zero]
  refine AnyF.done (by kernel_rfl) ?_ _
  go_wp2
  go_ret
  exact ⟨rfl, HS4.out.1⟩
end Go.Proofs.Ytnajglmabgofeaa
