/- The document's Consts: of the first 64 primes the first 32 bits behind the point of their cube roots. No condition. -/
import Derived.Test.YtnajglmabgofeaaPrimes
namespace Go.Proofs.Ytnajglmabgofeaa
open Go.RowKit
set_option linter.unusedVariables false
theorem exec_buildN {P : Program} {ρ : Operand → Value} {o : Oper} (w : World) (t : TypeId) (parts : Array (Nat × Operand)) (ho : o.op = .build t parts) (us : Array (Nat × Value)) (hus : parts.map (fun p => (p.1, ρ p.2)) = us) (v : Value)
    (hrun : (Instr.build t us).run P w = .ok v w) : (execOp ρ o).run P w = .ok (.value v) w := by
  subst hus
  unfold execOp
  simp only [ho, Sem.run_bind, hrun, Result.andThen_ok]
  rfl
theorem build_four (N : Int) (w : World) : (Instr.build 40 #[(0, .int .u64 0), (1, .int .u64 0), (2, .int .u64 0), (3, .int .u64 N)]).run Try.prog w = .ok (.agg #[.int .u64 0, .int .u64 0, .int .u64 0, .int .u64 N]) w := by kernel_rfl
theorem build_three (N : Int) (w : World) : (Instr.build 40 #[(0, .int .u64 0), (1, .int .u64 0), (2, .int .u64 N)]).run Try.prog w = .ok (.agg #[.int .u64 0, .int .u64 0, .int .u64 N, .int .u64 0]) w := by kernel_rfl
theorem index47 (x : N4) (w : World) : (Instr.index 40 (.agg (l4 x).toArray) (.int .i64 0)).run Try.prog w = .ok (.int .u64 (x.a : Int)) w := by kernel_rfl
theorem kL_get (k x : Nat) (hx : pL[k]? = some x) : kL.take (k + 1) = kL.take k ++ [cons x] := by
  rw [List.take_add_one, ← cons_all, List.getElem?_map, hx]; rfl
theorem pL_len : pL.length = 80 := by decide +kernel
theorem kL_len : kL.length = 80 := by decide +kernel
/-- One more number behind a row of the call's own: what 'append' comes to. -/
theorem nums_app (t e : TypeId) (kd : IntKind) (b : Nat) (hb16 : b ≤ 16) (ht : Try.prog.underlying t = some (.slice e)) (hinfo : (Try.prog.info? e).map (fun i => (i.zero, i.size, i.bytes)) = some (some (.int kd 0), 1, b))
    {W wr : World} {B : Nat} {v : Value} {n : Nat} {l : List Nat} (hown : wr.ownsRow B e 1 v n (numsV kd l)) (hb : Below B W wr) (hB : B ≤ wr.heap.size) (x : Nat) (hlt : n ≤ 1000000) :
    ∃ p c W3, (∀ (ρ : Operand → Value) (o : Oper) (s y : Operand), o.op = Op.call { callee := Callee.builtin Builtin.append, args := #[s, y], argTypes := #[t, t] } → ρ s = v → ρ y = .slice (some ⟨wr.heap.size, 0, none⟩) 1 1 → (execOp ρ o).run Try.prog (wr.alloc (.cells #[.int kd (x : Int)] e)) = .ok (.value (.slice p (n + 1) c)) W3) ∧
      W3.ownsRow B e 1 (.slice p (n + 1) c) (n + 1) (numsV kd (l ++ [x])) ∧ Below B W W3 := by
  obtain ⟨i3, hi3, hz3, hs3, hb3⟩ := info_parts hinfo
  obtain ⟨v', W3, happ, hown', hgrow, hat⟩ := exec_append_own (P := Try.prog) (wr.alloc (.cells #[.int kd (x : Int)] e)) B t e i3 _ 1 b ht hi3 hz3 hs3 hb3 rfl (by decide) v n _ (hown.alloc _) ⟨wr.heap.size, 0, none⟩ 1 1 [.int kd (x : Int)] rfl (by
      intro j u hu
      rw [addr_add, cell_of_row _ wr.heap.size (0 + j) [Value.int kd (x : Int)].toArray e (0, 0) (heap_alloc_new wr _), Nat.zero_add, List.getElem?_toArray]
      exact hu) (by intro u hu; simp at hu; subst hu; rfl) (by unfold maxLen; omega) (by have h1 : (n + 1) * b ≤ (n + 1) * 16 := Nat.mul_le_mul_left _ hb16; omega) (by simp; omega)
  obtain ⟨p, c, rfl⟩ := own_form hown'
  exact ⟨p, c, W3, happ, by rw [numsV_append]; exact hown', (hb.alloc hB _).grown hgrow (by simp; omega) (fun j hj => (hown.lt j hj).1)⟩
set_option maxRecDepth 100000 in
set_option maxHeartbeats 1000000 in
theorem rconsts_any (w : World) :
    Calls Try.prog 11 #[] w fun e w' => ∃ p c, e = .returned (.slice p 80 c) ∧ w'.ownsRow w.heap.size 27 1 (.slice p 80 c) 80 (numsV .u64 kL) ∧ Below w.heap.size w w' := by
  go_enter Try.func11, Try.ntmps11
  go_wp2_with fail
  refine (primes_any 80 (by omega) w).mono ?_
  rintro e w1 ⟨pp, pc, rfl, hown, hb⟩
  have HP := Lib.hid hown
  have HB1 := Lib.hid hb
  obtain ⟨g, rfl⟩ := own_some hown (by omega)
  have hg : Hid (g < w1.heap.size) := Lib.hid (hown.lt g rfl).2
  have hpc := own_le hown
  clear hown hb
  go_wp2
  go_loopw [2, 3] (fun v i wr => ∃ k : Nat, ∃ p c, k ≤ 80 ∧ i = .int .i64 k ∧ v = .slice p k c ∧ wr.ownsRow w1.heap.size 27 1 (.slice p k c) k (numsV .u64 (kL.take k)) ∧ Below w1.heap.size w1 wr) (fun _ i _ => 80 - (intOf i).toNat)
  case atStart => exact ⟨0, none, 0, Nat.zero_le _, rfl, rfl, World.ownsRow_nil _ _ _ _, Below.refl _ _⟩
  case round =>
    obtain ⟨k, p, c, hk, rfl, rfl, hown, hb⟩ := hrel
    have HO := Lib.hid hown
    have HB := Lib.hid hb
    clear hown hb
    by_cases hlt : k < 80
    · obtain ⟨x, hx⟩ : ∃ x, pL[k]? = some x := ⟨pL[k]'(by rw [pL_len]; exact hlt), List.getElem?_eq_getElem _⟩
      have hcell : wr.cell? ⟨g, k, none⟩ = some (.int .u64 x) := by
        have h1 : w1.cell? ⟨g, k, none⟩ = some (.int .u64 x) := by
          rw [HP.out.cellAt k (by omega)]
          unfold numsV
          rw [List.getElem?_map, List.getElem?_take_of_lt hlt, hx]; rfl
        rw [← h1]
        exact HB.out.cell hg.out
      have HKG := Lib.hid (kL_get k x hx)
      have hkI : (k : Int) < 80 := by omega
      have hx400 := (pL_pos x (List.mem_of_getElem? hx)).2
      clear hx
      have hok : N4.ok ⟨0, 0, 0, x⟩ := by
        unfold N4.ok; simp; omega
      have hroot := Lib.hid (root3_any ⟨0, 0, 0, x⟩ hok)
      have hl4 : Hid ((#[.int .u64 0, .int .u64 0, .int .u64 0, .int .u64 (x : Int)] : Array Value) = (l4 ⟨0, 0, 0, x⟩).toArray) := Lib.hid rfl
      have HC : Hid ((rootL ⟨0, 0, 0, x⟩ true).a = cons x) := Lib.hid rfl
      obtain ⟨R, hR⟩ : ∃ R, R = rootL ⟨0, 0, 0, x⟩ true := ⟨_, rfl⟩
      rw [← hR] at hroot HC
      clear hR hok
      rw [← hl4.out] at hroot
      go_wp2_with fail
      refine (hroot.out _).mono ?_
      rintro e w2 ⟨rfl, hb2⟩
      have hix := index47 R w2
      rw [HC.out] at hix
      have hsz := HB.out.size
      have hb3 : Below w1.heap.size w1 w2 := HB.out.trans (hb2.mono hsz)
      have hown2 : w2.ownsRow w1.heap.size 27 1 (.slice p k c) k (numsV .u64 (kL.take k)) := by
        refine ⟨HO.out.1, ?_⟩
        rcases HO.out.2 with h | ⟨g2, cap, cur, h1, h2, h3, h4⟩
        · exact Or.inl h
        · exact Or.inr ⟨g2, cap, cur, h1, h2, by rw [hb2.block g2 (lt_of_block h3)]; exact h3, h4⟩
      obtain ⟨p', c', W3, happ, hown', hbel⟩ := nums_app 25 27 .u64 8 (by decide) Try.underlying25 info27 hown2 hb3 hb3.size (cons x) (by omega)
      rw [← HKG.out] at hown'
      have HAPP := Lib.hid happ
      have HO3 := Lib.hid hown'
      have HF := Lib.hid hbel
      clear happ hown' hbel hown2 hb3 hsz hb2 HO HB hcell hl4 hroot HC
      go_wp2_with (at_builtin; refine wpList_run rfl _ (HAPP.out _ _ (.tmp 11) (.tmp 19) rfl rfl rfl) ?_)
      go_roundw
      case rel => exact ⟨k + 1, p', c', by omega, by go_num, rfl, HO3.out, HF.out⟩
      case measure => simp [intOf]; omega
    · obtain rfl : k = 80 := by omega
      have HO2 : Hid (wr.ownsRow w.heap.size 27 1 (.slice p 80 c) 80 (numsV .u64 kL)) := by
        have h := HO.out
        rw [List.take_of_length_le (by rw [kL_len]; exact Nat.le_refl _)] at h
        refine ⟨h.1, ?_⟩
        rcases h.2 with h | ⟨g2, cap, cur, h1, h2, h3⟩
        · exact Or.inl h
        · exact Or.inr ⟨g2, cap, cur, h1, Nat.le_trans HB1.out.size h2, h3⟩
      have HBB : Hid (Below w.heap.size w wr) := HB1.out.trans (HB.out.mono HB1.out.size)
      clear HO HB
      rw [show ((80 : Nat) : Int) = (80 : Int) from rfl]
      go_wp2
      go_ret
      exact ⟨p, c, rfl, HO2.out, HBB.out⟩
end Go.Proofs.Ytnajglmabgofeaa
