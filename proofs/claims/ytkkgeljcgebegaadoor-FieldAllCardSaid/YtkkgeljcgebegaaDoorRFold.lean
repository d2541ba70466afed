/- fold and Mul of the document: a product modulo the prime. No condition but that the numbers have 256 bits. -/
import Derived.Test.YtkkgeljcgebegaaDoorRMul
namespace Go.Proofs.YtkkgeljcgebegaaDoor
open Go.RowKit Go.Shelf
set_option linter.unusedVariables false
set_option linter.unusedSimpArgs false
theorem enters44 : ∀ args w, (callFunc 44 args).run Tryd.prog w = .ok (.enter 44 args) w := enters_of Tryd.func44 (by kernel_rfl) rfl
/-- What a block of eight words is worth. -/
def val8O (o : Option Obj) : Nat := match o with
  | some (.cells A _ _) => v32 8 (fun j => (intOf (A.getD j undef)).toNat)
  | _ => 0
theorem val8O_row (f : Nat → Nat) (t : TypeId) (fr : Nat × Nat) : val8O (some (.cells (rowOf .u64 8 f).toArray t fr)) = v32 8 f := by
  show v32 8 (fun j => (intOf ((rowOf .u64 8 f).toArray.getD j undef)).toNat) = v32 8 f
  refine v32_ext 8 (fun j hj => ?_)
  have h : (rowOf .u64 8 f).toArray.getD j undef = .int .u64 (f j) := by
    rw [Array.getD_eq_getD_getElem?, List.getElem?_toArray, rowOf_get _ _ _ _ hj]
    rfl
  rw [h]
  rfl
theorem exec_gtr0 {ρ : Operand → Value} {o : Oper} (x : Operand) (ho : o.op = .binOp .gtr 22 x (.const (.int .u64 0)) 22) (hc : ρ (.const (.int .u64 0)) = .int .u64 0) (d : Nat) (b : Bool) (hb : b = decide (0 < d)) (hx : ρ x = .int .u64 (d : Int)) (w : World) :
    (execOp ρ o).run Tryd.prog w = .ok (.value (.bool b)) w := by
  have h2 : decide ((0 : Int) < (d : Int)) = b := by rw [hb]; by_cases h : 0 < d <;> simp [h] <;> omega
  have h3 : decide (0 < d) = b := hb.symm
  clear hb
  unfold execOp
  rw [ho]
  simp only [hx, hc]
  go_simp
set_option maxRecDepth 100000 in
set_option maxHeartbeats 1000000 in
theorem fold_any (l : Nat → Nat) (hl : ∀ j, j < 16 → l j < 4294967296) (w : World) :
    Calls Tryd.prog 37 #[.agg (rowOf .u64 16 l).toArray] w fun e w' => (∃ n : Nat, n < 115792089237316195423570985008687907853269984665640564039457584007913129639936 ∧ n % pp = v32 16 l % pp ∧ e = .returned (.agg (num n))) ∧ Below w.heap.size w w' := by
  have HL := Lib.hid hl
  have HZ := zero_run
  have HZE := zero59
  clear hl
  obtain ⟨L, hL⟩ : ∃ L, Hid (L = (rowOf .u64 16 l).toArray) := ⟨_, Lib.hid rfl⟩
  obtain ⟨Z, hZ⟩ : ∃ Z, Hid (Z = num 0) := ⟨_, Lib.hid rfl⟩
  obtain ⟨Z8, hZ8⟩ : ∃ Z8, Hid (Z8 = (rowOf .u64 8 (fun _ => 0)).toArray) := ⟨_, Lib.hid rfl⟩
  have SZ : Z.size = 4 := by rw [hZ.out]; exact (isNum 0).size
  rw [← hL.out]
  rw [← hZ.out] at HZ
  rw [← hZ8.out] at HZE
  have hz4 : ∀ W : World, Kt W [(W.heap.size, L, 50), (W.heap.size + 1, Z, 24), (W.heap.size + 1 + 1, Z8, 59)] (((W.alloc (.cells L 50)).alloc (.cells Z 24)).alloc (.cells Z8 59)) := by
    intro W
    have h := (((Kt.nil W).new L 50).new Z 24).new Z8 59
    simp only [World.size_alloc] at h
    exact h.sub (fun p hp => by simp at hp ⊢; rcases hp with h | h | h <;> simp [h])
  have HS := Lib.hid (hz4 w)
  clear hz4
  go_enter Tryd.func37, Tryd.ntmps37
  go_wp2_with (first | ((refine wpList_run rfl _ (exec_alloc_agg _ 24 rfl _ (HZ _)) ?_); try simp only [World.size_alloc]) | ((refine wpList_run rfl _ (exec_alloc_agg _ 59 rfl _ (HZE _)) ?_); try simp only [World.size_alloc]))
  try simp only [Act.put, List.setIfInBounds_toArray, List.set_cons_succ, List.set_cons_zero]
  generalize ((w.alloc (.cells L 50)).alloc (.cells Z 24)).alloc (.cells Z8 59) = W0 at *
  go_loopw [4, 5] (fun c i wr => ∃ (p c' : Nat) (o : Nat → Nat), p ≤ 8 ∧ i = .int .i64 p ∧ c = .int .u64 c' ∧ FoldI l p c' o ∧ Kt w [(w.heap.size, L, 50), (w.heap.size + 1, Z, 24), (w.heap.size + 1 + 1, (rowOf .u64 8 o).toArray, 59)] wr) (fun _ i _ => 8 - (intOf i).toNat)
  case atStart => exact ⟨0, 0, fun _ => 0, by omega, rfl, rfl, FoldI.start l, by rw [← hZ8.out]; exact HS.out⟩
  case round =>
    clear HS hZ8 HZE
    obtain ⟨p, c, o, hp, rfl, rfl, HI0, HK0⟩ := hrel
    have HI := Lib.hid HI0
    have HK := Lib.hid HK0
    clear HI0 HK0
    by_cases hlt : p < 8
    · have hltI : (p : Int) < 8 := by omega
      obtain ⟨S, hS⟩ : ∃ S, Hid (S = 8 + p) := ⟨_, Lib.hid rfl⟩
      have hS1 : (p : Int) + 8 = (S : Int) := by rw [hS.out]; omega
      have hSl : S < 16 := by rw [hS.out]; omega
      have hS16 : (S : Int) < 16 := by omega
      have hp16 : (p : Int) < 16 := by omega
      have hr := HK.out.row (w.heap.size + 1 + 1) 59 .u64 8 o (by simp)
      have c0 := hr.cell p hlt
      have f0 := hr.free p
      have c1 : wr.cell? ⟨w.heap.size, p, none⟩ = some (.int .u64 (l p : Int)) := by rw [HK.out.cell (w.heap.size) L 50 (by simp), hL.out, List.getElem?_toArray, rowOf_get _ _ _ _ (by omega)]
      have c2 : wr.cell? ⟨w.heap.size, S, none⟩ = some (.int .u64 (l S : Int)) := by rw [HK.out.cell (w.heap.size) L 50 (by simp), hL.out, List.getElem?_toArray, rowOf_get _ _ _ _ hSl]
      have hl1 := HL.out p (by omega)
      have hl2 := HL.out S hSl
      have hc := HI.out.2.2.1
      obtain ⟨R, hR⟩ : ∃ R, Hid (R = c + l p) := ⟨_, Lib.hid rfl⟩
      obtain ⟨T, hT⟩ : ∃ T, Hid (T = 38 * l S) := ⟨_, Lib.hid rfl⟩
      obtain ⟨Q, hQ⟩ : ∃ Q, Hid (Q = R + T) := ⟨_, Lib.hid rfl⟩
      have e1 : IntKind.u64.wrap ((c : Int) + (l p : Int)) = (R : Int) := by rw [show (c : Int) + (l p : Int) = (R : Int) by rw [hR.out]; omega]; exact wrap_id (by rw [hR.out]; omega)
      have e2 : IntKind.u64.wrap (38 * (l S : Int)) = (T : Int) := by rw [show 38 * (l S : Int) = (T : Int) by rw [hT.out]; omega]; exact wrap_id (by rw [hT.out]; omega)
      have e3 : IntKind.u64.wrap ((R : Int) + (T : Int)) = (Q : Int) := by rw [show (R : Int) + (T : Int) = (Q : Int) by rw [hQ.out]; omega]; exact wrap_id (by rw [hQ.out, hR.out, hT.out]; omega)
      have hQl : Q < 18446744073709551616 := by rw [hQ.out, hR.out, hT.out]; omega
      have HN := Lib.hid (HI.out.step hlt HL.out Q (by rw [hQ.out, hR.out, hT.out, hS.out]))
      obtain ⟨lo, hlo⟩ : ∃ lo, Hid (lo = Q % 4294967296) := ⟨_, Lib.hid rfl⟩
      obtain ⟨hi, hhi⟩ : ∃ hi, Hid (hi = Q / 4294967296) := ⟨_, Lib.hid rfl⟩
      rw [← hlo.out, ← hhi.out] at HN
      have HKN : Hid (∀ nq, Kt w [(w.heap.size, L, 50), (w.heap.size + 1, Z, 24), (w.heap.size + 1 + 1, (rowOf .u64 8 (upd o p lo)).toArray, 59)] ((wr.drewN nq).setCell ⟨w.heap.size + 1 + 1, p, none⟩ (.int .u64 (lo : Int)))) := Lib.hid (fun nq => Kt.setw (w := wr.drewN nq) ⟨Below.drewN' HK.out.1 nq, HK.out.2⟩ (w.heap.size + 1 + 1) 59 .u64 8 o p lo hr (by omega) (fun p hp => by simp at hp; rcases hp with rfl | rfl | rfl <;> first | exact .inl rfl | exact .inr ⟨by simp, by simp only; omega⟩))
      generalize o p = ov at *
      generalize l p = xv at *
      generalize l S = yv at *
      clear hr HK HI hL HL hS hR hT hQ hZ HZ SZ hSl hl1 hl2 hc
      go_wp2
      go_quiet (fail)
      go_wp2_with (first | (refine wpList_run rfl _ (exec_and32 (.tmp 24) rfl rfl Q lo hQl hlo.out rfl _) ?_) | (refine wpList_run rfl _ (exec_shr32 (.tmp 27) rfl rfl Q hi hhi.out rfl _) ?_))
      go_roundw
      case rel => exact ⟨p + 1, hi, _, by omega, by first | rfl | simp | go_num, rfl, HN.out, HKN.out _⟩
      case measure => simp [intOf]; omega
    · obtain rfl : p = 8 := by omega
      have hm : Hid ((v32 8 o + c * 115792089237316195423570985008687907853269984665640564039457584007913129639936) % pp = v32 16 l % pp) := by
        have h := HI.out.2.2.2
        rw [show (4294967296 : Nat) ^ 8 = 115792089237316195423570985008687907853269984665640564039457584007913129639936 from rfl] at h
        exact fold_mod l _ h
      have ho := Lib.hid HI.out.1
      have hc := Lib.hid HI.out.2.2.1
      obtain ⟨T, hT⟩ : ∃ T, Hid (T = v32 16 l % pp) := ⟨_, Lib.hid rfl⟩
      rw [← hT.out] at hm
      clear HI hL HL
      rw [show ((8 : Nat) : Int) = (8 : Int) from rfl]
      go_wp2
      go_loopw [4] (fun c wr => ∃ (c' : Nat) (o : Nat → Nat), c = .int .u64 c' ∧ (∀ j, j < 8 → o j < 4294967296) ∧ c' ≤ 39 ∧ (v32 8 o + c' * 115792089237316195423570985008687907853269984665640564039457584007913129639936) % pp = T ∧ Kt w [(w.heap.size, L, 50), (w.heap.size + 1, Z, 24), (w.heap.size + 1 + 1, (rowOf .u64 8 o).toArray, 59)] wr) (fun c wr => val8O (wr.heap[w.heap.size + 1 + 1]?) + (intOf c).toNat * 115792089237316195423570985008687907853269984665640564039457584007913129639936)
      case atStart => exact ⟨c, o, rfl, ho.out, hc.out, hm.out, HK.out⟩
      case round =>
        clear HK hm ho hc
        obtain ⟨c, o, rfl, ho0, hc0, hm0, HK0⟩ := hrel
        have HO := Lib.hid ho0
        have HM := Lib.hid hm0
        have HK := Lib.hid HK0
        have HG : Hid (val8O (wr.heap[w.heap.size + 1 + 1]?) = v32 8 o) := by unfold Hid; rw [HK0.get (w.heap.size + 1 + 1) (rowOf .u64 8 o).toArray 59 (by simp), val8O_row]
        clear ho0 hm0 HK0
        by_cases h0 : c = 0
        · subst h0
          have HW := Lib.hid (whole_any o HO.out)
          have HR : Hid (∃ n : Nat, n < 115792089237316195423570985008687907853269984665640564039457584007913129639936 ∧ n % pp = T ∧ Ending.returned (.agg (num (v32 8 o))) = .returned (.agg (num n))) := Lib.hid ⟨v32 8 o, v32_8_lt o HO.out, by rw [← HM.out, Nat.zero_mul, Nat.add_zero], rfl⟩
          obtain ⟨D, hD⟩ : ∃ D, Hid (D = (rowOf .u64 8 o).toArray) := ⟨_, Lib.hid rfl⟩
          obtain ⟨V, hV⟩ : ∃ V, Hid (V = num (v32 8 o)) := ⟨_, Lib.hid rfl⟩
          have ID : IsRw 8 D := ⟨_, hD.out⟩
          have IV : IsNum V := by rw [hV.out]; exact isNum _
          rw [← hD.out, ← hV.out] at HW
          rw [← hV.out] at HR
          rw [← hD.out] at HK
          rw [hT.out] at HR
          have hl := load59 ID (HK.out.get (w.heap.size + 1 + 1) D 59 (by simp))
          clear hD hV HG HM HO hT
          go_wp2_with (first | (refine wpList_run rfl _ (exec_gtr0 (.tmp 29) rfl rfl 0 false rfl rfl _) ?_) | (refine wpList_run rfl _ (exec_load_of _ 59 (.tmp 3) rfl ⟨w.heap.size + 1 + 1, 0, none⟩ rfl (.agg D) hl) ?_))
          refine (HW.out _).mono ?_
          rintro e w5 ⟨rfl, hb⟩
          have HS5 := Lib.hid (HK.out.below hb)
          clear hb HK hl
          have h1 := HS5.out.get (w.heap.size + 1) Z 24 (by simp)
          go_wp2_with (refine wpList_run0 rfl (exec_store24 _ (.tmp 2) (.tmp 54) rfl (w.heap.size + 1) rfl V IV rfl Z 24 h1 SZ) ?_)
          exact bodyPost_ret (results_cell rfl _ _ _ ⟨w.heap.size + 1, 0, none⟩ rfl _ (loadA IV (setRow_heap _ _ _ _ _ _ h1))) rfl ⟨HR.out, HS5.out.1.trans ⟨rfl, rfl, rfl, by simp, fun k hk => setRow_other _ _ _ _ (by omega)⟩⟩
        · have hpos : 0 < c := by omega
          obtain ⟨m0, hm0⟩ : ∃ m0, Hid (m0 = 38 * c) := ⟨_, Lib.hid rfl⟩
          have e1 : IntKind.u64.wrap (38 * (c : Int)) = (m0 : Int) := by rw [show 38 * (c : Int) = (m0 : Int) by rw [hm0.out]; omega]; exact wrap_id (by rw [hm0.out]; omega)
          have HJ : Hid (FoldJ (v32 8 o + m0) 0 m0 o) := Lib.hid ⟨HO.out, by rw [hm0.out]; omega, by rw [Nat.pow_zero, Nat.mul_one]⟩
          have HNL : Hid (v32 8 o + m0 < 115792089237316195423570985008687907853269984665640564039457584007913129639936 + 1500) := by
            have := v32_8_lt o HO.out
            unfold Hid; rw [hm0.out]; omega
          have HNM : Hid ((v32 8 o + m0) % pp = T) := by
            unfold Hid
            rw [← HM.out, hm0.out, show v32 8 o + c * 115792089237316195423570985008687907853269984665640564039457584007913129639936 = v32 8 o + 38 * c + pp * (2 * c) by rw [show pp = 57896044618658097711785492504343953926634992332820282019728792003956564819949 from rfl]; omega, Nat.add_mul_mod_self_left]
          have HDE : Hid (v32 8 o + m0 < v32 8 o + c * 115792089237316195423570985008687907853269984665640564039457584007913129639936) := by unfold Hid; rw [hm0.out]; omega
          have hci : (intOf (.int .u64 (c : Int))).toNat = c := by simp [intOf]
          have HDE2 : Hid (v32 8 o + m0 < val8O (wr.heap[w.heap.size + 1 + 1]?) + (intOf (.int .u64 (c : Int))).toNat * 115792089237316195423570985008687907853269984665640564039457584007913129639936) := by
            unfold Hid
            rw [HG.out, hci]
            exact HDE.out
          clear hci
          obtain ⟨Me, hMe⟩ : ∃ Me, Hid (Me = val8O (wr.heap[w.heap.size + 1 + 1]?) + (intOf (.int .u64 (c : Int))).toNat * 115792089237316195423570985008687907853269984665640564039457584007913129639936) := ⟨_, Lib.hid rfl⟩
          rw [← hMe.out] at HDE2
          clear HG HM hm0 HDE HO
          generalize v32 8 o + m0 = N at *
          clear hc0
          go_wp2_with (refine wpList_run rfl _ (exec_gtr0 (.tmp 29) rfl rfl c true (by simp [hpos]) rfl _) ?_)
          go_loopw [6, 7] (fun m i wr => ∃ (p m' : Nat) (o : Nat → Nat), p ≤ 8 ∧ i = .int .i64 p ∧ m = .int .u64 m' ∧ FoldJ N p m' o ∧ Kt w [(w.heap.size, L, 50), (w.heap.size + 1, Z, 24), (w.heap.size + 1 + 1, (rowOf .u64 8 o).toArray, 59)] wr) (fun _ i _ => 8 - (intOf i).toNat)
          case atStart => exact ⟨0, m0, o, by omega, rfl, rfl, HJ.out, HK.out⟩
          case round =>
            clear HK HJ
            obtain ⟨p, m, o, hp, rfl, rfl, HJ0, HK0⟩ := hrel
            have HJ := Lib.hid HJ0
            have HK := Lib.hid HK0
            clear HJ0 HK0
            by_cases hgo : p < 8 ∧ 0 < m
            · obtain ⟨hlt, hmp⟩ := hgo
              have hltI : (p : Int) < 8 := by omega
              have hr := HK.out.row (w.heap.size + 1 + 1) 59 .u64 8 o (by simp)
              have c0 := hr.cell p hlt
              have f0 := hr.free p
              have ho1 := HJ.out.1 p hlt
              have hm1 := HJ.out.2.1
              obtain ⟨Q, hQ⟩ : ∃ Q, Hid (Q = m + o p) := ⟨_, Lib.hid rfl⟩
              have e2 : IntKind.u64.wrap ((m : Int) + (o p : Int)) = (Q : Int) := by rw [show (m : Int) + (o p : Int) = (Q : Int) by rw [hQ.out]; omega]; exact wrap_id (by rw [hQ.out]; omega)
              have hQl : Q < 18446744073709551616 := by rw [hQ.out]; omega
              have HN := Lib.hid (HJ.out.step hlt Q hQ.out)
              obtain ⟨lo, hlo⟩ : ∃ lo, Hid (lo = Q % 4294967296) := ⟨_, Lib.hid rfl⟩
              obtain ⟨hi, hhi⟩ : ∃ hi, Hid (hi = Q / 4294967296) := ⟨_, Lib.hid rfl⟩
              rw [← hlo.out, ← hhi.out] at HN
              have HKN : Hid (Kt w [(w.heap.size, L, 50), (w.heap.size + 1, Z, 24), (w.heap.size + 1 + 1, (rowOf .u64 8 (upd o p lo)).toArray, 59)] (wr.setCell ⟨w.heap.size + 1 + 1, p, none⟩ (.int .u64 (lo : Int)))) := Lib.hid (Kt.setw HK.out (w.heap.size + 1 + 1) 59 .u64 8 o p lo hr (by omega) (fun p hp => by simp at hp; rcases hp with rfl | rfl | rfl <;> first | exact .inl rfl | exact .inr ⟨by simp, by simp only; omega⟩))
              have dm : decide ((0 : Int) < (m : Int)) = true := by simp; omega
              have hmI : (0 : Int) < (m : Int) := by omega
              generalize o p = ov at *
              clear hr HK HJ hQ hmp ho1 hm1 HNL HNM HDE2 hT hZ HZ SZ hpos h0
              go_wp2_with (first | (refine wpList_run rfl _ (exec_and32 (.tmp 47) rfl rfl Q lo hQl hlo.out rfl _) ?_) | (refine wpList_run rfl _ (exec_shr32 (.tmp 50) rfl rfl Q hi hhi.out rfl _) ?_))
              go_roundw
              case rel => exact ⟨p + 1, hi, _, by omega, by first | rfl | simp | go_num, rfl, HN.out, HKN.out⟩
              case measure => simp [intOf]; omega
            · have hd := HJ.out.done hp (by omega)
              have hl8 := v32_8_lt o HJ.out.1
              have hm1 : m ≤ 1 := by
                have := HNL.out
                omega
              have HM2 : Hid ((v32 8 o + m * 115792089237316195423570985008687907853269984665640564039457584007913129639936) % pp = T) := by unfold Hid; rw [hd]; exact HNM.out
              have HDD : Hid (v32 8 o + m * 115792089237316195423570985008687907853269984665640564039457584007913129639936 < Me) := by unfold Hid; rw [hd]; exact HDE2.out
              have HO := Lib.hid HJ.out.1
              have HG : Hid (val8O (wr.heap[w.heap.size + 1 + 1]?) = v32 8 o) := by unfold Hid; rw [HK.out.get (w.heap.size + 1 + 1) (rowOf .u64 8 o).toArray 59 (by simp), val8O_row]
              have hHM := Lib.hid hm1
              clear hd hl8 hm1 HNL HNM HDE2 HJ hZ HZ SZ hT h0 hpos
              by_cases hp8 : p < 8
              · obtain rfl : m = 0 := by omega
                have hltI : (p : Int) < 8 := by omega
                clear hgo
                go_wp2
                go_roundw
                case rel => exact ⟨0, o, rfl, HO.out, by omega, HM2.out, HK.out⟩
                case measure =>
                  rw [hMe.out] at HDD
                  rw [HG.out]
                  exact HDD.out
              · obtain rfl : p = 8 := by omega
                clear hgo hp8
                rw [show ((8 : Nat) : Int) = (8 : Int) from rfl]
                go_wp2
                go_roundw
                case rel => exact ⟨m, o, rfl, HO.out, by have := hHM.out; omega, HM2.out, HK.out⟩
                case measure =>
                  rw [hMe.out] at HDD
                  rw [HG.out]
                  exact HDD.out
end Go.Proofs.YtkkgeljcgebegaaDoor
