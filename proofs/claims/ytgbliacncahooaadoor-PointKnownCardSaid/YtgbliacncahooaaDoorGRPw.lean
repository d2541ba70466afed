/- Several texts, one behind the other; each says by itself what it proves, and on what conditions. -/
import Derived.Test.YtgbliacncahooaaDoorGNum
import Derived.Test.YtgbliacncahooaaDoorGRMul
/- fold and Mul of the document: a product modulo the prime. No condition but that the numbers have 256 bits. -/
namespace Go.Proofs.YtgbliacncahooaaDoor
open Go.RowKit Go.Shelf
set_option linter.unusedVariables false
set_option linter.unusedSimpArgs false
theorem enters70 : ∀ args w, (callFunc 70 args).run Tryd.prog w = .ok (.enter 70 args) w := enters_of Tryd.func70 (by kernel_rfl) rfl
/-- What a block of eight words is worth. -/
def val8O (o : Option Obj) : Nat := match o with
  | some (.cells A _ _) => v32 8 (fun j => (intOf (A.getD j undef)).toNat)
  | _ => 0
theorem val8O_row (f : Nat → Nat) (t : TypeId) (fr : Nat × Nat) : val8O (some (.cells (rowOf .u64 8 f).toArray t fr)) = v32 8 f := by
  show v32 8 (fun j => (intOf ((rowOf .u64 8 f).toArray.getD j undef)).toNat) = v32 8 f
  refine v32_ext 8 (fun j hj => ?_)
  have h : (rowOf .u64 8 f).toArray.getD j undef = .int .u64 (f j) := by
    rw [Array.getD_eq_getD_getElem?, List.getElem?_toArray, rowOf_get _ _ _ _ hj]
    rfl
  rw [h]
  rfl
theorem exec_gtr0 {ρ : Operand → Value} {o : Oper} (x : Operand) (ho : o.op = .binOp .gtr 22 x (.const (.int .u64 0)) 22) (hc : ρ (.const (.int .u64 0)) = .int .u64 0) (d : Nat) (b : Bool) (hb : b = decide (0 < d)) (hx : ρ x = .int .u64 (d : Int)) (w : World) :
    (execOp ρ o).run Tryd.prog w = .ok (.value (.bool b)) w := by
  have h2 : decide ((0 : Int) < (d : Int)) = b := by rw [hb]; by_cases h : 0 < d <;> simp [h] <;> omega
  have h3 : decide (0 < d) = b := hb.symm
  clear hb
  unfold execOp
  rw [ho]
  simp only [hx, hc]
  go_simp
set_option maxRecDepth 100000 in
set_option maxHeartbeats 1000000 in
theorem fold_any (l : Nat → Nat) (hl : ∀ j, j < 16 → l j < 4294967296) (w : World) :
    Calls Tryd.prog 55 #[.agg (rowOf .u64 16 l).toArray] w fun e w' => (∃ n : Nat, n < 115792089237316195423570985008687907853269984665640564039457584007913129639936 ∧ n % pp = v32 16 l % pp ∧ e = .returned (.agg (num n))) ∧ Below w.heap.size w w' := by
  have HL := Lib.hid hl
  have HZ := zero_run
  have HZE := zero59
  clear hl
  obtain ⟨L, hL⟩ : ∃ L, Hid (L = (rowOf .u64 16 l).toArray) := ⟨_, Lib.hid rfl⟩
  obtain ⟨Z, hZ⟩ : ∃ Z, Hid (Z = num 0) := ⟨_, Lib.hid rfl⟩
  obtain ⟨Z8, hZ8⟩ : ∃ Z8, Hid (Z8 = (rowOf .u64 8 (fun _ => 0)).toArray) := ⟨_, Lib.hid rfl⟩
  have SZ : Z.size = 4 := by rw [hZ.out]; exact (isNum 0).size
  rw [← hL.out]
  rw [← hZ.out] at HZ
  rw [← hZ8.out] at HZE
  have hz4 : ∀ W : World, Kt W [(W.heap.size, L, 79), (W.heap.size + 1, Z, 24), (W.heap.size + 1 + 1, Z8, 92)] (((W.alloc (.cells L 79)).alloc (.cells Z 24)).alloc (.cells Z8 92)) := by
    intro W
    have h := (((Kt.nil W).new L 79).new Z 24).new Z8 92
    simp only [World.size_alloc] at h
    exact h.sub (fun p hp => by simp at hp ⊢; rcases hp with h | h | h <;> simp [h])
  have HS := Lib.hid (hz4 w)
  clear hz4
  go_enter Tryd.func55, Tryd.ntmps55
  go_wp2_with (first | ((refine wpList_run rfl _ (exec_alloc_agg _ 24 rfl _ (HZ _)) ?_); try simp only [World.size_alloc]) | ((refine wpList_run rfl _ (exec_alloc_agg _ 92 rfl _ (HZE _)) ?_); try simp only [World.size_alloc]))
  try simp only [Act.put, sT, sS, sZ]
  generalize ((w.alloc (.cells L 79)).alloc (.cells Z 24)).alloc (.cells Z8 92) = W0 at *
  go_loopw [4, 5] (fun c i wr => ∃ (p c' : Nat) (o : Nat → Nat), p ≤ 8 ∧ i = .int .i64 p ∧ c = .int .u64 c' ∧ FoldI l p c' o ∧ Kt w [(w.heap.size, L, 79), (w.heap.size + 1, Z, 24), (w.heap.size + 1 + 1, (rowOf .u64 8 o).toArray, 92)] wr) (fun _ i _ => 8 - (intOf i).toNat)
  case atStart => exact ⟨0, 0, fun _ => 0, by omega, rfl, rfl, FoldI.start l, by rw [← hZ8.out]; exact HS.out⟩
  case round =>
    clear HS hZ8 HZE
    obtain ⟨p, c, o, hp, rfl, rfl, HI0, HK0⟩ := hrel
    have HI := Lib.hid HI0
    have HK := Lib.hid HK0
    clear HI0 HK0
    by_cases hlt : p < 8
    · have hltI : (p : Int) < 8 := by omega
      obtain ⟨S, hS⟩ : ∃ S, Hid (S = 8 + p) := ⟨_, Lib.hid rfl⟩
      have hS1 : (p : Int) + 8 = (S : Int) := by rw [hS.out]; omega
      have hSl : S < 16 := by rw [hS.out]; omega
      have hS16 : (S : Int) < 16 := by omega
      have hp16 : (p : Int) < 16 := by omega
      have hr := HK.out.row (w.heap.size + 1 + 1) 92 .u64 8 o (by simp)
      have c0 := hr.cell p hlt
      have f0 := hr.free p
      have c1 : wr.cell? ⟨w.heap.size, p, none⟩ = some (.int .u64 (l p : Int)) := by rw [HK.out.cell (w.heap.size) L 79 (by simp), hL.out, List.getElem?_toArray, rowOf_get _ _ _ _ (by omega)]
      have c2 : wr.cell? ⟨w.heap.size, S, none⟩ = some (.int .u64 (l S : Int)) := by rw [HK.out.cell (w.heap.size) L 79 (by simp), hL.out, List.getElem?_toArray, rowOf_get _ _ _ _ hSl]
      have hl1 := HL.out p (by omega)
      have hl2 := HL.out S hSl
      have hc := HI.out.2.2.1
      obtain ⟨R, hR⟩ : ∃ R, Hid (R = c + l p) := ⟨_, Lib.hid rfl⟩
      obtain ⟨T, hT⟩ : ∃ T, Hid (T = 38 * l S) := ⟨_, Lib.hid rfl⟩
      obtain ⟨Q, hQ⟩ : ∃ Q, Hid (Q = R + T) := ⟨_, Lib.hid rfl⟩
      have e1 : IntKind.u64.wrap ((c : Int) + (l p : Int)) = (R : Int) := by rw [show (c : Int) + (l p : Int) = (R : Int) by rw [hR.out]; omega]; exact wrap_id (by rw [hR.out]; omega)
      have e2 : IntKind.u64.wrap (38 * (l S : Int)) = (T : Int) := by rw [show 38 * (l S : Int) = (T : Int) by rw [hT.out]; omega]; exact wrap_id (by rw [hT.out]; omega)
      have e3 : IntKind.u64.wrap ((R : Int) + (T : Int)) = (Q : Int) := by rw [show (R : Int) + (T : Int) = (Q : Int) by rw [hQ.out]; omega]; exact wrap_id (by rw [hQ.out, hR.out, hT.out]; omega)
      have hQl : Q < 18446744073709551616 := by rw [hQ.out, hR.out, hT.out]; omega
      have HN := Lib.hid (HI.out.step hlt HL.out Q (by rw [hQ.out, hR.out, hT.out, hS.out]))
      obtain ⟨lo, hlo⟩ : ∃ lo, Hid (lo = Q % 4294967296) := ⟨_, Lib.hid rfl⟩
      obtain ⟨hi, hhi⟩ : ∃ hi, Hid (hi = Q / 4294967296) := ⟨_, Lib.hid rfl⟩
      rw [← hlo.out, ← hhi.out] at HN
      have HKN : Hid (∀ nq, Kt w [(w.heap.size, L, 79), (w.heap.size + 1, Z, 24), (w.heap.size + 1 + 1, (rowOf .u64 8 (upd o p lo)).toArray, 92)] ((wr.drewN nq).setCell ⟨w.heap.size + 1 + 1, p, none⟩ (.int .u64 (lo : Int)))) := Lib.hid (fun nq => Kt.setw (w := wr.drewN nq) ⟨Below.drewN' HK.out.1 nq, HK.out.2⟩ (w.heap.size + 1 + 1) 92 .u64 8 o p lo hr (by omega) (fun p hp => by simp at hp; rcases hp with rfl | rfl | rfl <;> first | exact .inl rfl | exact .inr ⟨by simp, by simp only; omega⟩))
      generalize o p = ov at *
      generalize l p = xv at *
      generalize l S = yv at *
      clear hr HK HI hL HL hS hR hT hQ hZ HZ SZ hSl hl1 hl2 hc
      go_wp2
      go_quiet (fail)
      go_wp2_with (first | (refine wpList_run rfl _ (exec_and32 (.tmp 24) rfl rfl Q lo hQl hlo.out rfl _) ?_) | (refine wpList_run rfl _ (exec_shr32 (.tmp 27) rfl rfl Q hi hhi.out rfl _) ?_))
      go_roundw
      case rel => exact ⟨p + 1, hi, _, by omega, by first | rfl | simp | go_num, rfl, HN.out, HKN.out _⟩
      case measure => simp [intOf]; omega
    · obtain rfl : p = 8 := by omega
      have hm : Hid ((v32 8 o + c * 115792089237316195423570985008687907853269984665640564039457584007913129639936) % pp = v32 16 l % pp) := by
        have h := HI.out.2.2.2
        rw [show (4294967296 : Nat) ^ 8 = 115792089237316195423570985008687907853269984665640564039457584007913129639936 from rfl] at h
        exact fold_mod l _ h
      have ho := Lib.hid HI.out.1
      have hc := Lib.hid HI.out.2.2.1
      obtain ⟨T, hT⟩ : ∃ T, Hid (T = v32 16 l % pp) := ⟨_, Lib.hid rfl⟩
      rw [← hT.out] at hm
      clear HI hL HL
      rw [show ((8 : Nat) : Int) = (8 : Int) from rfl]
      go_wp2
      go_loopw [4] (fun c wr => ∃ (c' : Nat) (o : Nat → Nat), c = .int .u64 c' ∧ (∀ j, j < 8 → o j < 4294967296) ∧ c' ≤ 39 ∧ (v32 8 o + c' * 115792089237316195423570985008687907853269984665640564039457584007913129639936) % pp = T ∧ Kt w [(w.heap.size, L, 79), (w.heap.size + 1, Z, 24), (w.heap.size + 1 + 1, (rowOf .u64 8 o).toArray, 92)] wr) (fun c wr => val8O (wr.heap[w.heap.size + 1 + 1]?) + (intOf c).toNat * 115792089237316195423570985008687907853269984665640564039457584007913129639936)
      case atStart => exact ⟨c, o, rfl, ho.out, hc.out, hm.out, HK.out⟩
      case round =>
        clear HK hm ho hc
        obtain ⟨c, o, rfl, ho0, hc0, hm0, HK0⟩ := hrel
        have HO := Lib.hid ho0
        have HM := Lib.hid hm0
        have HK := Lib.hid HK0
        have HG : Hid (val8O (wr.heap[w.heap.size + 1 + 1]?) = v32 8 o) := by unfold Hid; rw [HK0.get (w.heap.size + 1 + 1) (rowOf .u64 8 o).toArray 92 (by simp), val8O_row]
        clear ho0 hm0 HK0
        by_cases h0 : c = 0
        · subst h0
          have HW := Lib.hid (whole_any o HO.out)
          have HR : Hid (∃ n : Nat, n < 115792089237316195423570985008687907853269984665640564039457584007913129639936 ∧ n % pp = T ∧ Ending.returned (.agg (num (v32 8 o))) = .returned (.agg (num n))) := Lib.hid ⟨v32 8 o, v32_8_lt o HO.out, by rw [← HM.out, Nat.zero_mul, Nat.add_zero], rfl⟩
          obtain ⟨D, hD⟩ : ∃ D, Hid (D = (rowOf .u64 8 o).toArray) := ⟨_, Lib.hid rfl⟩
          obtain ⟨V, hV⟩ : ∃ V, Hid (V = num (v32 8 o)) := ⟨_, Lib.hid rfl⟩
          have ID : IsRw 8 D := ⟨_, hD.out⟩
          have IV : IsNum V := by rw [hV.out]; exact isNum _
          rw [← hD.out, ← hV.out] at HW
          rw [← hV.out] at HR
          rw [← hD.out] at HK
          rw [hT.out] at HR
          have hl := load59 ID (HK.out.get (w.heap.size + 1 + 1) D 92 (by simp))
          clear hD hV HG HM HO hT
          go_wp2_with (first | (refine wpList_run rfl _ (exec_gtr0 (.tmp 29) rfl rfl 0 false rfl rfl _) ?_) | (refine wpList_run rfl _ (exec_load_of _ 92 (.tmp 3) rfl ⟨w.heap.size + 1 + 1, 0, none⟩ rfl (.agg D) hl) ?_))
          refine (HW.out _).mono ?_
          rintro e w5 ⟨rfl, hb⟩
          have HS5 := Lib.hid (HK.out.below hb)
          clear hb HK hl
          have h1 := HS5.out.get (w.heap.size + 1) Z 24 (by simp)
          go_wp2_with (refine wpList_run0 rfl (exec_store24 _ (.tmp 2) (.tmp 54) rfl (w.heap.size + 1) rfl V IV rfl Z 24 h1 SZ) ?_)
          exact bodyPost_ret (results_cell rfl _ _ _ ⟨w.heap.size + 1, 0, none⟩ rfl _ (loadA IV (setRow_heap _ _ _ _ _ _ h1))) rfl ⟨HR.out, HS5.out.1.trans ⟨rfl, rfl, rfl, by simp, fun k hk => setRow_other _ _ _ _ (by omega)⟩⟩
        · have hpos : 0 < c := by omega
          obtain ⟨m0, hm0⟩ : ∃ m0, Hid (m0 = 38 * c) := ⟨_, Lib.hid rfl⟩
          have e1 : IntKind.u64.wrap (38 * (c : Int)) = (m0 : Int) := by rw [show 38 * (c : Int) = (m0 : Int) by rw [hm0.out]; omega]; exact wrap_id (by rw [hm0.out]; omega)
          have HJ : Hid (FoldJ (v32 8 o + m0) 0 m0 o) := Lib.hid ⟨HO.out, by rw [hm0.out]; omega, by rw [Nat.pow_zero, Nat.mul_one]⟩
          have HNL : Hid (v32 8 o + m0 < 115792089237316195423570985008687907853269984665640564039457584007913129639936 + 1500) := by
            have := v32_8_lt o HO.out
            unfold Hid; rw [hm0.out]; omega
          have HNM : Hid ((v32 8 o + m0) % pp = T) := by
            unfold Hid
            rw [← HM.out, hm0.out, show v32 8 o + c * 115792089237316195423570985008687907853269984665640564039457584007913129639936 = v32 8 o + 38 * c + pp * (2 * c) by rw [show pp = 57896044618658097711785492504343953926634992332820282019728792003956564819949 from rfl]; omega, Nat.add_mul_mod_self_left]
          have HDE : Hid (v32 8 o + m0 < v32 8 o + c * 115792089237316195423570985008687907853269984665640564039457584007913129639936) := by unfold Hid; rw [hm0.out]; omega
          have hci : (intOf (.int .u64 (c : Int))).toNat = c := by simp [intOf]
          have HDE2 : Hid (v32 8 o + m0 < val8O (wr.heap[w.heap.size + 1 + 1]?) + (intOf (.int .u64 (c : Int))).toNat * 115792089237316195423570985008687907853269984665640564039457584007913129639936) := by
            unfold Hid
            rw [HG.out, hci]
            exact HDE.out
          clear hci
          obtain ⟨Me, hMe⟩ : ∃ Me, Hid (Me = val8O (wr.heap[w.heap.size + 1 + 1]?) + (intOf (.int .u64 (c : Int))).toNat * 115792089237316195423570985008687907853269984665640564039457584007913129639936) := ⟨_, Lib.hid rfl⟩
          rw [← hMe.out] at HDE2
          clear HG HM hm0 HDE HO
          generalize v32 8 o + m0 = N at *
          clear hc0
          go_wp2_with (refine wpList_run rfl _ (exec_gtr0 (.tmp 29) rfl rfl c true (by simp [hpos]) rfl _) ?_)
          go_loopw [6, 7] (fun m i wr => ∃ (p m' : Nat) (o : Nat → Nat), p ≤ 8 ∧ i = .int .i64 p ∧ m = .int .u64 m' ∧ FoldJ N p m' o ∧ Kt w [(w.heap.size, L, 79), (w.heap.size + 1, Z, 24), (w.heap.size + 1 + 1, (rowOf .u64 8 o).toArray, 92)] wr) (fun _ i _ => 8 - (intOf i).toNat)
          case atStart => exact ⟨0, m0, o, by omega, rfl, rfl, HJ.out, HK.out⟩
          case round =>
            clear HK HJ
            obtain ⟨p, m, o, hp, rfl, rfl, HJ0, HK0⟩ := hrel
            have HJ := Lib.hid HJ0
            have HK := Lib.hid HK0
            clear HJ0 HK0
            by_cases hgo : p < 8 ∧ 0 < m
            · obtain ⟨hlt, hmp⟩ := hgo
              have hltI : (p : Int) < 8 := by omega
              have hr := HK.out.row (w.heap.size + 1 + 1) 92 .u64 8 o (by simp)
              have c0 := hr.cell p hlt
              have f0 := hr.free p
              have ho1 := HJ.out.1 p hlt
              have hm1 := HJ.out.2.1
              obtain ⟨Q, hQ⟩ : ∃ Q, Hid (Q = m + o p) := ⟨_, Lib.hid rfl⟩
              have e2 : IntKind.u64.wrap ((m : Int) + (o p : Int)) = (Q : Int) := by rw [show (m : Int) + (o p : Int) = (Q : Int) by rw [hQ.out]; omega]; exact wrap_id (by rw [hQ.out]; omega)
              have hQl : Q < 18446744073709551616 := by rw [hQ.out]; omega
              have HN := Lib.hid (HJ.out.step hlt Q hQ.out)
              obtain ⟨lo, hlo⟩ : ∃ lo, Hid (lo = Q % 4294967296) := ⟨_, Lib.hid rfl⟩
              obtain ⟨hi, hhi⟩ : ∃ hi, Hid (hi = Q / 4294967296) := ⟨_, Lib.hid rfl⟩
              rw [← hlo.out, ← hhi.out] at HN
              have HKN : Hid (Kt w [(w.heap.size, L, 79), (w.heap.size + 1, Z, 24), (w.heap.size + 1 + 1, (rowOf .u64 8 (upd o p lo)).toArray, 92)] (wr.setCell ⟨w.heap.size + 1 + 1, p, none⟩ (.int .u64 (lo : Int)))) := Lib.hid (Kt.setw HK.out (w.heap.size + 1 + 1) 92 .u64 8 o p lo hr (by omega) (fun p hp => by simp at hp; rcases hp with rfl | rfl | rfl <;> first | exact .inl rfl | exact .inr ⟨by simp, by simp only; omega⟩))
              have dm : decide ((0 : Int) < (m : Int)) = true := by simp; omega
              have hmI : (0 : Int) < (m : Int) := by omega
              generalize o p = ov at *
              clear hr HK HJ hQ hmp ho1 hm1 HNL HNM HDE2 hT hZ HZ SZ hpos h0
              go_wp2_with (first | (refine wpList_run rfl _ (exec_and32 (.tmp 47) rfl rfl Q lo hQl hlo.out rfl _) ?_) | (refine wpList_run rfl _ (exec_shr32 (.tmp 50) rfl rfl Q hi hhi.out rfl _) ?_))
              go_roundw
              case rel => exact ⟨p + 1, hi, _, by omega, by first | rfl | simp | go_num, rfl, HN.out, HKN.out⟩
              case measure => simp [intOf]; omega
            · have hd := HJ.out.done hp (by omega)
              have hl8 := v32_8_lt o HJ.out.1
              have hm1 : m ≤ 1 := by
                have := HNL.out
                omega
              have HM2 : Hid ((v32 8 o + m * 115792089237316195423570985008687907853269984665640564039457584007913129639936) % pp = T) := by unfold Hid; rw [hd]; exact HNM.out
              have HDD : Hid (v32 8 o + m * 115792089237316195423570985008687907853269984665640564039457584007913129639936 < Me) := by unfold Hid; rw [hd]; exact HDE2.out
              have HO := Lib.hid HJ.out.1
              have HG : Hid (val8O (wr.heap[w.heap.size + 1 + 1]?) = v32 8 o) := by unfold Hid; rw [HK.out.get (w.heap.size + 1 + 1) (rowOf .u64 8 o).toArray 92 (by simp), val8O_row]
              have hHM := Lib.hid hm1
              clear hd hl8 hm1 HNL HNM HDE2 HJ hZ HZ SZ hT h0 hpos
              by_cases hp8 : p < 8
              · obtain rfl : m = 0 := by omega
                have hltI : (p : Int) < 8 := by omega
                clear hgo
                go_wp2
                go_roundw
                case rel => exact ⟨0, o, rfl, HO.out, by omega, HM2.out, HK.out⟩
                case measure =>
                  rw [hMe.out] at HDD
                  rw [HG.out]
                  exact HDD.out
              · obtain rfl : p = 8 := by omega
                clear hgo hp8
                rw [show ((8 : Nat) : Int) = (8 : Int) from rfl]
                go_wp2
                go_roundw
                case rel => exact ⟨m, o, rfl, HO.out, by have := hHM.out; omega, HM2.out, HK.out⟩
                case measure =>
                  rw [hMe.out] at HDD
                  rw [HG.out]
                  exact HDD.out
end Go.Proofs.YtgbliacncahooaaDoor
/- Mul of the document: a product modulo the prime. No condition but that the numbers have 256 bits. -/
namespace Go.Proofs.YtgbliacncahooaaDoor
open Go.RowKit Go.Shelf
set_option linter.unusedVariables false
set_option linter.unusedSimpArgs false
theorem enters55 : ∀ args w, (callFunc 55 args).run Tryd.prog w = .ok (.enter 55 args) w := enters_of Tryd.func55 (by kernel_rfl) rfl
theorem enters56 : ∀ args w, (callFunc 56 args).run Tryd.prog w = .ok (.enter 56 args) w := enters_of Tryd.func56 (by kernel_rfl) rfl
set_option maxRecDepth 100000 in
set_option maxHeartbeats 1000000 in
theorem rmulf_any (a b : Nat) (ha : a < 115792089237316195423570985008687907853269984665640564039457584007913129639936) (hb : b < 115792089237316195423570985008687907853269984665640564039457584007913129639936) (w : World) :
    Calls Tryd.prog 34 #[.agg (num a), .agg (num b)] w fun e w' => e = .returned (.agg (num (mulF a b))) ∧ Below w.heap.size w w' := by
  have H1 := Lib.hid (mulnum_any a b ha hb)
  have HZ := zero_run
  clear ha hb
  obtain ⟨A, hA⟩ : ∃ A, Hid (A = num a) := ⟨_, Lib.hid rfl⟩
  have IA : IsNum A := by rw [hA.out]; exact isNum _
  obtain ⟨B, hB⟩ : ∃ B, Hid (B = num b) := ⟨_, Lib.hid rfl⟩
  have IB : IsNum B := by rw [hB.out]; exact isNum _
  obtain ⟨T, hT⟩ : ∃ T, Hid (T = num (mulF a b)) := ⟨_, Lib.hid rfl⟩
  have IT : IsNum T := by rw [hT.out]; exact isNum _
  obtain ⟨Z, hZ⟩ : ∃ Z, Hid (Z = num 0) := ⟨_, Lib.hid rfl⟩
  have IZ : IsNum Z := by rw [hZ.out]; exact isNum _
  rw [← hA.out, ← hB.out] at H1
  have HZ2 : ∀ w, (zeroValue 24).run Tryd.prog w = .ok (.agg Z) w := by rw [hZ.out]; exact HZ
  have IZ2 := IZ.size
  rw [← hA.out, ← hB.out, ← hT.out]
  clear HZ hA hB hZ
  have hz4 : ∀ W : World, Kn W [(W.heap.size, A), (W.heap.size + 1, B), (W.heap.size + 1 + 1, Z)] (((W.alloc (.cells A 24)).alloc (.cells B 24)).alloc (.cells Z 24)) := by
    intro W
    have h := (((Kn.nil W).new A).new B).new Z
    simp only [World.size_alloc] at h
    exact h.sub (fun p hp => by simp at hp ⊢; rcases hp with h | h | h <;> simp [h])
  have HS := Lib.hid (hz4 w)
  clear hz4
  go_enter Tryd.func34, Tryd.ntmps34
  go_upto_region 1 with ((refine wpList_run rfl _ (exec_alloc_agg _ 24 rfl _ (HZ2 _)) ?_); try simp only [World.size_alloc])
  try simp only [Act.put, sT, sS, sZ]
  generalize ((w.alloc (.cells A 24)).alloc (.cells B 24)).alloc (.cells Z 24) = W0 at *
  have hl1 := HS.out.load (w.heap.size) A (by simp) IA
  have hl2 := HS.out.load (w.heap.size + 1) B (by simp) IB
  go_wp2_with (first | (refine wpList_run rfl _ (exec_load_of _ 24 (.tmp 2) rfl ⟨w.heap.size, 0, none⟩ rfl (.agg A) hl1) ?_) | (refine wpList_run rfl _ (exec_load_of _ 24 (.tmp 3) rfl ⟨w.heap.size + 1, 0, none⟩ rfl (.agg B) hl2) ?_))
  clear hl1 hl2
  refine (H1.out _).mono ?_
  rintro e w1 ⟨⟨l, hl, hv, rfl⟩, hb⟩
  have HS1 := Lib.hid (HS.out.below hb)
  clear hb HS H1
  have H2 := Lib.hid (fold_any l hl)
  have HV := Lib.hid hv
  obtain ⟨D, hD⟩ : ∃ D, Hid (D = (rowOf .u64 16 l).toArray) := ⟨_, Lib.hid rfl⟩
  rw [← hD.out] at H2 ⊢
  clear hl hv hD
  go_wp2_with fail
  refine (H2.out _).mono ?_
  rintro e w2 ⟨⟨n, hn, hm, rfl⟩, hb⟩
  have HS2 := Lib.hid (HS1.out.below hb)
  clear hb HS1 H2
  have H3 := Lib.hid (rnorm_any n hn)
  rw [show n % pp = mulF a b by rw [hm, HV.out]; rfl, ← hT.out] at H3
  clear hm hn HV hT
  generalize num n = N at *
  go_wp2_with fail
  refine (H3.out _).mono ?_
  rintro e w3 ⟨rfl, hb⟩
  have HS3 := Lib.hid (HS2.out.below hb)
  clear hb HS2 H3
  go_wp2_with (refine wpList_run0 rfl (exec_store_kn (w0 := w) (l := [(w.heap.size, A), (w.heap.size + 1, B), (w.heap.size + 1 + 1, Z)]) _ HS3.out (.tmp 4) (.tmp 9) rfl (w.heap.size + 1 + 1) rfl T IT rfl Z IZ (by simp)) ?_)
  have HSZ : Kn w [(w.heap.size + 1 + 1, T)] (World.setRow _ (w.heap.size + 1 + 1) T) := HS3.out.set (w.heap.size + 1 + 1) T Z (HS3.out.get (w.heap.size + 1 + 1) Z (by simp)) (by omega) (fun p hp => by simp at hp; subst hp; simp)
  exact bodyPost_ret (results_cell rfl _ _ _ ⟨w.heap.size + 1 + 1, 0, none⟩ rfl _ (HSZ.load (w.heap.size + 1 + 1) T (by simp) IT)) rfl ⟨rfl, HSZ.1⟩
end Go.Proofs.YtgbliacncahooaaDoor
/- Pow of the document: a power modulo the prime, bit by bit. No condition but that the numbers have 256 bits. -/
namespace Go.Proofs.YtgbliacncahooaaDoor
open Go.RowKit Go.Shelf
set_option linter.unusedVariables false
set_option linter.unusedSimpArgs false
theorem enters34 : ∀ args w, (callFunc 34 args).run Tryd.prog w = .ok (.enter 34 args) w := enters_of Tryd.func34 (by kernel_rfl) rfl
theorem mod64_bit (x s : Nat) (hs : s < 64) : x % 18446744073709551616 / 2 ^ s % 2 = x / 2 ^ s % 2 := by
  rw [← Nat.toNat_testBit, ← Nat.toNat_testBit, show (18446744073709551616 : Nat) = 2 ^ 64 from rfl, Nat.testBit_mod_two_pow, decide_eq_true hs, Bool.true_and]
theorem dig_bit (n q : Nat) (hq : q < 256) : dig n (q / 64) / 2 ^ (q % 64) % 2 = n / 2 ^ q % 2 := by
  have hs : q % 64 < 64 := Nat.mod_lt _ (by decide)
  obtain ⟨s, hs2⟩ : ∃ s, s = q % 64 := ⟨_, rfl⟩
  rw [← hs2] at hs ⊢
  rcases (show q / 64 = 0 ∨ q / 64 = 1 ∨ q / 64 = 2 ∨ q / 64 = 3 by omega) with h | h | h | h <;> rw [h]
  · rw [dig_0, mod64_bit _ _ hs, show q = s by omega]
  · rw [dig_1, mod64_bit _ _ hs, Nat.div_div_eq_div_mul, show (18446744073709551616 : Nat) = 2 ^ 64 from rfl, ← Nat.pow_add, show q = 64 + s by omega]
  · rw [dig_2, mod64_bit _ _ hs, Nat.div_div_eq_div_mul, show (340282366920938463463374607431768211456 : Nat) = 2 ^ 128 from rfl, ← Nat.pow_add, show q = 128 + s by omega]
  · rw [dig_3, mod64_bit _ _ hs, Nat.div_div_eq_div_mul, show (6277101735386680763835789423207666416102355444464034512896 : Nat) = 2 ^ 192 from rfl, ← Nat.pow_add, show q = 192 + s by omega]
theorem pow_even (a n q : Nat) (h : n / 2 ^ q % 2 = 0) : mulF (powF a (n / 2 ^ (q + 1))) (powF a (n / 2 ^ (q + 1))) = powF a (n / 2 ^ q) := by
  rw [mulF_pow]
  congr 1
  rw [Nat.pow_succ, ← Nat.div_div_eq_div_mul]
  omega
theorem pow_odd (a n q : Nat) (h : n / 2 ^ q % 2 = 1) : mulF (mulF (powF a (n / 2 ^ (q + 1))) (powF a (n / 2 ^ (q + 1)))) a = powF a (n / 2 ^ q) := by
  rw [mulF_pow, ← mulF_modr, ← powF_one a, mulF_pow]
  congr 1
  rw [Nat.pow_succ, ← Nat.div_div_eq_div_mul]
  omega
theorem exec_quo64 {ρ : Operand → Value} {o : Oper} (x : Operand) (ho : o.op = .binOp .quo 3 x (.const (.int .i64 64)) 3) (hc : ρ (.const (.int .i64 64)) = .int .i64 64) (i j : Nat) (hi : i < 1000) (hx : ρ x = .int .i64 (i : Int)) (hj : j = i / 64) (w : World) : (execOp ρ o).run Tryd.prog w = .ok (.value (.int .i64 (j : Int))) w := by
  have hq : (i : Int).tdiv 64 = (j : Int) := by rw [Int.tdiv_eq_ediv_of_nonneg (by omega)]; omega
  have hq2 : (i : Int) / 64 = (j : Int) := by omega
  have hw : IntKind.i64.wrap (j : Int) = (j : Int) := IntWalk.i64_in _ (by omega)
  clear hj
  unfold execOp
  rw [ho]
  simp only [hx, hc]
  go_simp
theorem exec_rem64 {ρ : Operand → Value} {o : Oper} (x : Operand) (ho : o.op = .binOp .rem 3 x (.const (.int .i64 64)) 3) (hc : ρ (.const (.int .i64 64)) = .int .i64 64) (i j : Nat) (hi : i < 1000) (hx : ρ x = .int .i64 (i : Int)) (hj : j = i % 64) (w : World) : (execOp ρ o).run Tryd.prog w = .ok (.value (.int .i64 (j : Int))) w := by
  have hq : (i : Int).tmod 64 = (j : Int) := by rw [Int.tmod_eq_emod_of_nonneg (by omega)]; omega
  have hq2 : (i : Int) % 64 = (j : Int) := by omega
  have hw : IntKind.i64.wrap (j : Int) = (j : Int) := IntWalk.i64_in _ (by omega)
  clear hj
  unfold execOp
  rw [ho]
  simp only [hx, hc]
  go_simp
theorem and_one (d r : Nat) (hd : d < 18446744073709551616) (hr : r = d % 2) : bits .and .u64 (d : Int) 1 = (r : Int) := by
  have hb := bits_and_u64_nat d 1 hd (by decide)
  rw [show d &&& 1 = r by rw [Nat.and_one_is_mod, hr]] at hb
  exact hb
set_option maxRecDepth 100000 in
set_option maxHeartbeats 1000000 in
theorem rpow_any (a n : Nat) (ha : a < 115792089237316195423570985008687907853269984665640564039457584007913129639936) (hn : n < 115792089237316195423570985008687907853269984665640564039457584007913129639936) (w : World) :
    Calls Tryd.prog 58 #[.agg (num a), .agg (num n)] w fun e w' => e = .returned (.agg (num (powF a n))) ∧ Below w.heap.size w w' := by
  have H1 : Hid (∀ o W, o < pp → Calls Tryd.prog 34 #[.agg (num o), .agg (num o)] W fun e w' => e = .returned (.agg (num (mulF o o))) ∧ Below W.heap.size W w') := Lib.hid (fun o W h => rmulf_any o o (pp_lt h) (pp_lt h) W)
  have H2 : Hid (∀ o W, o < pp → Calls Tryd.prog 34 #[.agg (num o), .agg (num a)] W fun e w' => e = .returned (.agg (num (mulF o a))) ∧ Below W.heap.size W w') := Lib.hid (fun o W h => rmulf_any o a (pp_lt h) ha W)
  have HBIT := Lib.hid (fun q hq => dig_bit n q hq)
  have HDL := Lib.hid (dig_lt n)
  have h256 : powF a (n / 2 ^ 256) = 1 := by
    rw [show n / 2 ^ 256 = 0 from Nat.div_eq_of_lt hn]
    unfold powF
    rw [Nat.pow_zero]
    decide
  have hb1 := build_run 1 (by decide)
  have HZ := zero_run
  clear ha hn
  obtain ⟨A, hA⟩ : ∃ A, Hid (A = num a) := ⟨_, Lib.hid rfl⟩
  have IA : IsNum A := by rw [hA.out]; exact isNum _
  obtain ⟨B, hB⟩ : ∃ B, Hid (B = num n) := ⟨_, Lib.hid rfl⟩
  have IB : IsNum B := by rw [hB.out]; exact isNum _
  obtain ⟨T, hT⟩ : ∃ T, Hid (T = num (powF a n)) := ⟨_, Lib.hid rfl⟩
  have IT : IsNum T := by rw [hT.out]; exact isNum _
  obtain ⟨U1, hU1⟩ : ∃ U1, Hid (U1 = num 1) := ⟨_, Lib.hid rfl⟩
  have IU1 : IsNum U1 := by rw [hU1.out]; exact isNum _
  obtain ⟨Z, hZ⟩ : ∃ Z, Hid (Z = num 0) := ⟨_, Lib.hid rfl⟩
  have IZ : IsNum Z := by rw [hZ.out]; exact isNum _
  rw [← hU1.out] at hb1
  have HB1 := Lib.hid hb1
  have HZ2 : ∀ w, (zeroValue 24).run Tryd.prog w = .ok (.agg Z) w := by rw [hZ.out]; exact HZ
  have IZ2 := IZ.size
  rw [← hA.out] at H2
  rw [← hA.out, ← hB.out, ← hT.out]
  clear HZ hb1 hA hZ
  have hz4 : ∀ W : World, Kn W [(W.heap.size, A), (W.heap.size + 1, B), (W.heap.size + 1 + 1, Z)] (((W.alloc (.cells A 24)).alloc (.cells B 24)).alloc (.cells Z 24)) := by
    intro W
    have h := (((Kn.nil W).new A).new B).new Z
    simp only [World.size_alloc] at h
    exact h.sub (fun p hp => by simp at hp ⊢; rcases hp with h | h | h <;> simp [h])
  have HS := Lib.hid (hz4 w)
  clear hz4
  go_enter Tryd.func58, Tryd.ntmps58
  go_upto_region 1 with ((refine wpList_run rfl _ (exec_alloc_agg _ 24 rfl _ (HZ2 _)) ?_); try simp only [World.size_alloc])
  try simp only [Act.put, sT, sS, sZ]
  generalize ((w.alloc (.cells A 24)).alloc (.cells B 24)).alloc (.cells Z 24) = W0 at *
  have l5 := HS.out.lt (w.heap.size + 1 + 1) Z (by simp)
  have HS1_ : Kn w [(w.heap.size, A), (w.heap.size + 1, B), (w.heap.size + 1 + 1, Z), (W0.heap.size, U1)] (W0.alloc (.cells U1 24)) := (HS.out.new U1).sub (fun p hp => by simp at hp ⊢; rcases hp with h | h | h | h <;> simp [h])
  have HS1 := Lib.hid HS1_
  clear HS1_ HS
  go_upto_region 2 with (first | ((refine wpList_run rfl _ (exec_alloc_agg _ 24 rfl _ (HZ2 _)) ?_); try simp only [World.size_alloc]) | (refine wpList_run0 rfl (exec_new24 _ (.tmp 5) (.tmp 7) rfl _ _ rfl U1 IU1 rfl IZ2) ?_) | (refine wpList_run rfl _ (exec_build1 _ 24 0 (.const (.int .u64 1)) rfl (.int .u64 1) rfl _ (HB1.out _)) ?_))
  try simp only [Act.put, sT, sS, sZ]
  generalize W0.alloc (.cells U1 24) = W2 at *
  generalize W0.heap.size = g5 at *
  go_wp2
  go_loopw [6] (fun i wr => ∃ q : Nat, q ≤ 256 ∧ i = .int .i64 ((q : Int) - 1) ∧ Kn w [(w.heap.size, A), (w.heap.size + 1, B), (w.heap.size + 1 + 1, Z), (g5, num (powF a (n / 2 ^ q)))] wr) (fun i _ => (1 + intOf i).toNat)
  case atStart => exact ⟨256, by omega, rfl, by rw [h256, ← hU1.out]; exact HS1.out⟩
  case round =>
    clear HS1 HB1 hU1 h256
    obtain ⟨q, hq, rfl, HK0⟩ := hrel
    have HK := Lib.hid HK0
    clear HK0
    cases q with
    | zero =>
      rw [Nat.pow_zero, Nat.div_one, ← hT.out] at HK
      have hl := HK.out.load (g5) T (by simp) IT
      clear H1 H2 HBIT HDL hB hT
      go_wp2_with (first | (refine wpList_run rfl _ (exec_load_of _ 24 (.tmp 5) rfl ⟨g5, 0, none⟩ rfl (.agg T) hl) ?_) | (refine wpList_run0 rfl (exec_store_kn (w0 := w) (l := [(w.heap.size, A), (w.heap.size + 1, B), (w.heap.size + 1 + 1, Z), (g5, T)]) _ HK.out (.tmp 4) (.tmp 27) rfl (w.heap.size + 1 + 1) rfl T IT rfl Z IZ (by simp)) ?_))
      have HSZ : Kn w [(w.heap.size + 1 + 1, T)] (World.setRow _ (w.heap.size + 1 + 1) T) := HK.out.set (w.heap.size + 1 + 1) T Z (HK.out.get (w.heap.size + 1 + 1) Z (by simp)) (by omega) (fun p hp => by simp at hp; subst hp; simp)
      exact bodyPost_ret (results_cell rfl _ _ _ ⟨w.heap.size + 1 + 1, 0, none⟩ rfl _ (HSZ.load (w.heap.size + 1 + 1) T (by simp) IT)) rfl ⟨rfl, HSZ.1⟩
    | succ q =>
      have e1 : (((q + 1 : Nat) : Int) - 1) = (q : Int) := by omega
      rw [e1]
      have hpl := powF_lt a (n / 2 ^ (q + 1))
      have K1 := Lib.hid (fun W => H1.out (powF a (n / 2 ^ (q + 1))) W hpl)
      have K2 := Lib.hid (fun W => H2.out (mulF (powF a (n / 2 ^ (q + 1))) (powF a (n / 2 ^ (q + 1)))) W (mulF_lt _ _))
      have hev := fun h => Lib.hid (pow_even a n q h)
      have hod := fun h => Lib.hid (pow_odd a n q h)
      have hbit := HBIT.out q (by omega)
      obtain ⟨j, hj⟩ : ∃ j, Hid (j = q / 64) := ⟨_, Lib.hid rfl⟩
      obtain ⟨s, hs⟩ : ∃ s, Hid (s = q % 64) := ⟨_, Lib.hid rfl⟩
      have hs64 : s < 64 := by rw [hs.out]; omega
      have hj4 : j < 4 := by rw [hj.out]; omega
      have hj4I : (j : Int) < 4 := by omega
      rw [← hj.out, ← hs.out] at hbit
      obtain ⟨sh, hsh⟩ : ∃ sh, Hid (sh = dig n j / 2 ^ s) := ⟨_, Lib.hid rfl⟩
      rw [← hsh.out] at hbit
      have hshl : sh < 18446744073709551616 := by rw [hsh.out]; exact Nat.lt_of_le_of_lt (Nat.div_le_self _ _) (HDL.out j)
      have hqI : (0 : Int) ≤ (q : Int) := by omega
      have hq1 : q < 1000 := by omega
      have cB : Hid (∀ W : World, ∀ o, Kn w [(w.heap.size, A), (w.heap.size + 1, B), (w.heap.size + 1 + 1, Z), (g5, o)] W → W.cell? ⟨w.heap.size + 1, j, none⟩ = some (.int .u64 (dig n j : Int))) := Lib.hid (fun W o h => by rw [h.cell (w.heap.size + 1) B (by simp) j, hB.out, num_get n j hj4])
      obtain ⟨r, hr⟩ : ∃ r, Hid (r = sh % 2) := ⟨_, Lib.hid rfl⟩
      rw [← hr.out] at hbit
      obtain ⟨D, hD⟩ : ∃ D, D = dig n j := ⟨_, rfl⟩
      rw [← hD] at hsh cB
      clear hD HBIT HDL H1 H2 hB hT e1
      obtain ⟨O, hO⟩ : ∃ O, Hid (O = num (powF a (n / 2 ^ (q + 1)))) := ⟨_, Lib.hid rfl⟩
      obtain ⟨M2, hM2⟩ : ∃ M2, Hid (M2 = num (mulF (powF a (n / 2 ^ (q + 1))) (powF a (n / 2 ^ (q + 1))))) := ⟨_, Lib.hid rfl⟩
      obtain ⟨M3, hM3⟩ : ∃ M3, Hid (M3 = num (mulF (mulF (powF a (n / 2 ^ (q + 1))) (powF a (n / 2 ^ (q + 1)))) a)) := ⟨_, Lib.hid rfl⟩
      have IOo : IsNum O := by rw [hO.out]; exact isNum _
      have IM2 : IsNum M2 := by rw [hM2.out]; exact isNum _
      have IM3 : IsNum M3 := by rw [hM3.out]; exact isNum _
      rw [← hO.out, ← hM2.out] at K1
      rw [← hM2.out, ← hM3.out] at K2
      rw [← hO.out] at HK
      have FE : n / 2 ^ q % 2 = 0 → Hid (M2 = num (powF a (n / 2 ^ q))) := fun h => by unfold Hid; rw [hM2.out, (hev h).out]
      have FO : n / 2 ^ q % 2 = 1 → Hid (M3 = num (powF a (n / 2 ^ q))) := fun h => by unfold Hid; rw [hM3.out, (hod h).out]
      have hr2 : r < 2 := by rw [hr.out]; omega
      rw [← hbit] at FE FO
      clear hO hM2 hM3 hev hod hbit hpl
      have hl := HK.out.load (g5) O (by simp) IOo
      go_wp2_with (refine wpList_run rfl _ (exec_load_of _ 24 (.tmp 5) rfl ⟨g5, 0, none⟩ rfl (.agg O) hl) ?_)
      clear hl
      refine (K1.out _).mono ?_
      rintro e w1 ⟨rfl, hb⟩
      have HK1 := Lib.hid (HK.out.below hb)
      clear hb HK K1
      go_upto_region 6 with (first | (refine wpList_run0 rfl (exec_store_kn (w0 := w) (l := [(w.heap.size, A), (w.heap.size + 1, B), (w.heap.size + 1 + 1, Z), (g5, O)]) _ HK1.out (.tmp 5) (.tmp 14) rfl (g5) rfl M2 IM2 rfl O IOo (by simp)) ?_))
      try simp only [Act.put, sT, sS, sZ]
      have HS1 : Hid (Kn w [(w.heap.size, A), (w.heap.size + 1, B), (w.heap.size + 1 + 1, Z), (g5, M2)] (w1.setRow (g5) M2)) := Lib.hid (HK1.out.set (g5) M2 O (HK1.out.get (g5) O (by simp)) (by omega) (fun p hp => by simp at hp; rcases hp with rfl | rfl | rfl | rfl <;> simp <;> omega))
      clear HK1
      generalize w1.setRow (g5) M2 = W2 at *
      have cb := cB.out W2 M2 HS1.out
      clear cB
      have e1 : (D : Int) / 2 ^ s = (sh : Int) := by rw [shr_cast, hsh.out]
      have e2 : bits .and .u64 (sh : Int) 1 = (r : Int) := and_one sh r hshl hr.out
      have hs64I : (s : Int) < 64 := by omega
      by_cases hr1 : r = 1
      · have hF := FO hr1
        have e3 : ((r : Int) == 1) = true := by simp [hr1]
        clear FE FO hr1
        have hl := HS1.out.load (g5) M2 (by simp) IM2
        have hl2 := HS1.out.load (w.heap.size) A (by simp) IA
        go_wp2_with (first | (refine wpList_run rfl _ (exec_load_one _ 22 (.tmp 17) rfl ⟨w.heap.size + 1, j, none⟩ rfl _ cb _ Tryd.underlying22 rfl) ?_) | (refine wpList_run rfl _ (exec_quo64 (.tmp 15) rfl rfl q j hq1 rfl hj.out _) ?_) | (refine wpList_run rfl _ (exec_rem64 (.tmp 19) rfl rfl q s hq1 rfl hs.out _) ?_) | (refine wpList_run rfl _ (exec_load_of _ 24 (.tmp 5) rfl ⟨g5, 0, none⟩ rfl (.agg M2) hl) ?_) | (refine wpList_run rfl _ (exec_load_of _ 24 (.tmp 2) rfl ⟨w.heap.size, 0, none⟩ rfl (.agg A) hl2) ?_))
        clear hl hl2 cb
        refine (K2.out _).mono ?_
        rintro e w7 ⟨rfl, hb⟩
        have HK7 := Lib.hid (HS1.out.below hb)
        clear hb HS1 K2
        have HK8 : Hid (Kn w [(w.heap.size, A), (w.heap.size + 1, B), (w.heap.size + 1 + 1, Z), (g5, M3)] (w7.setRow (g5) M3)) := Lib.hid (HK7.out.set (g5) M3 M2 (HK7.out.get (g5) M2 (by simp)) (by omega) (fun p hp => by simp at hp; rcases hp with rfl | rfl | rfl | rfl <;> simp <;> omega))
        rw [hF.out] at HK8
        have hF2 : Hid (w7.setRow (g5) M3 = w7.setRow (g5) (num (powF a (n / 2 ^ q)))) := by unfold Hid; rw [hF.out]
        rw [← hF2.out] at HK8
        go_wp2_with (refine wpList_run0 rfl (exec_store_kn (w0 := w) (l := [(w.heap.size, A), (w.heap.size + 1, B), (w.heap.size + 1 + 1, Z), (g5, M2)]) _ HK7.out (.tmp 5) (.tmp 26) rfl (g5) rfl M3 IM3 rfl M2 IM2 (by simp)) ?_)
        go_roundw
        case rel => exact ⟨q, by omega, by first | rfl | simp | go_num, HK8.out⟩
        case measure => simp [intOf]; omega
      · have hF := FE (by omega)
        have e3 : ((r : Int) == 1) = false := by simp; omega
        rw [hF.out] at HS1
        clear FE FO hr1 K2
        go_wp2_with (first | (refine wpList_run rfl _ (exec_load_one _ 22 (.tmp 17) rfl ⟨w.heap.size + 1, j, none⟩ rfl _ cb _ Tryd.underlying22 rfl) ?_) | (refine wpList_run rfl _ (exec_quo64 (.tmp 15) rfl rfl q j hq1 rfl hj.out _) ?_) | (refine wpList_run rfl _ (exec_rem64 (.tmp 19) rfl rfl q s hq1 rfl hs.out _) ?_))
        go_roundw
        case rel => exact ⟨q, by omega, by first | rfl | simp | go_num, HS1.out⟩
        case measure => simp [intOf]; omega
end Go.Proofs.YtgbliacncahooaaDoor
/- shift and Inv of the document: a number halved so often; an inverse modulo the prime. No condition but that the numbers have 256 bits. -/
namespace Go.Proofs.YtgbliacncahooaaDoor
open Go.RowKit Go.Shelf
set_option linter.unusedVariables false
set_option linter.unusedSimpArgs false
theorem dig_half (v i : Nat) (hi : i < 3) : dig (v / 2) i = dig v i / 2 + dig v (i + 1) % 2 * 9223372036854775808 := by
  rcases (show i = 0 ∨ i = 1 ∨ i = 2 by omega) with rfl | rfl | rfl
  · rw [dig_0, dig_0, dig_1]; omega
  · rw [dig_1, dig_1, dig_2]; omega
  · rw [dig_2, dig_2, dig_3]; omega
theorem dig_half3 (v : Nat) (hv : v < 115792089237316195423570985008687907853269984665640564039457584007913129639936) : dig (v / 2) 3 = dig v 3 / 2 + 0 := by rw [dig_3, dig_3]; omega
def sTo (v i j : Nat) : Nat := if j < i then dig (v / 2) j else dig v j
theorem sTo_step (v i d r : Nat) (hr : r = dig (v / 2) i) : ∀ j, j < 4 → upd (upd (sTo v i) i d) i r j = sTo v (i + 1) j := by
  intro j _
  unfold upd sTo
  by_cases e : j = i
  · subst e; rw [if_pos rfl, if_pos (by omega), hr]
  · rw [if_neg e, if_neg e]
    by_cases h : j < i
    · rw [if_pos h, if_pos (by omega)]
    · rw [if_neg h, if_neg (by omega)]
theorem or_top (x y : Nat) (hx : x < 9223372036854775808) (hy : y < 2) : bits .or .u64 (x : Int) ((y * 9223372036854775808 : Nat) : Int) = ((x + y * 9223372036854775808 : Nat) : Int) := by
  have hb := bits_or_u64_nat x (y * 9223372036854775808) (by omega) (by omega)
  have ho2 : x ||| y * 9223372036854775808 = x + y * 9223372036854775808 := by rw [Nat.or_comm]; have h := or_join 63 y x hx; rw [show (2 : Nat) ^ 63 = 9223372036854775808 from rfl] at h; rw [h]; omega
  rw [ho2] at hb
  exact hb
theorem shl63 (y : Nat) : IntKind.u64.wrap ((y : Int) * 9223372036854775808) = ((y % 2 * 9223372036854775808 : Nat) : Int) := by
  have h : IntKind.u64.wrap ((y : Int) * 9223372036854775808) = ((y : Int) * 9223372036854775808) % 18446744073709551616 := by simp [IntKind.wrap, IntKind.bits, IntKind.signed]
  rw [h]; omega
set_option maxRecDepth 100000 in
set_option maxHeartbeats 1000000 in
theorem shift_any (a m : Nat) (ha : a < 115792089237316195423570985008687907853269984665640564039457584007913129639936) (hm : m < 256) (w : World) :
    Calls Tryd.prog 59 #[.agg (num a), .int .i64 (m : Int)] w fun e w' => e = .returned (.agg (num (a / 2 ^ m))) ∧ Below w.heap.size w w' := by
  have HZ := zero_run
  have hml : (m : Int) < 256 := by omega
  obtain ⟨A, hA⟩ : ∃ A, Hid (A = num a) := ⟨_, Lib.hid rfl⟩
  have IA : IsNum A := by rw [hA.out]; exact isNum _
  obtain ⟨T, hT⟩ : ∃ T, Hid (T = num (a / 2 ^ m)) := ⟨_, Lib.hid rfl⟩
  have IT : IsNum T := by rw [hT.out]; exact isNum _
  obtain ⟨Z, hZ⟩ : ∃ Z, Hid (Z = num 0) := ⟨_, Lib.hid rfl⟩
  have IZ : IsNum Z := by rw [hZ.out]; exact isNum _
  have HZ2 : ∀ w, (zeroValue 24).run Tryd.prog w = .ok (.agg Z) w := by rw [hZ.out]; exact HZ
  have IZ2 := IZ.size
  rw [← hA.out, ← hT.out]
  clear HZ hZ
  have hz4 : ∀ W : World, Kn W [(W.heap.size, A), (W.heap.size + 1, Z)] ((W.alloc (.cells A 24)).alloc (.cells Z 24)) := by
    intro W
    have h := ((Kn.nil W).new A).new Z
    simp only [World.size_alloc] at h
    exact h.sub (fun p hp => by simp at hp ⊢; rcases hp with h | h <;> simp [h])
  have HS := Lib.hid (hz4 w)
  clear hz4
  go_enter Tryd.func59, Tryd.ntmps59
  go_wp2_with ((refine wpList_run rfl _ (exec_alloc_agg _ 24 rfl _ (HZ2 _)) ?_); try simp only [World.size_alloc])
  try simp only [Act.put, sT, sS, sZ]
  generalize (w.alloc (.cells A 24)).alloc (.cells Z 24) = W0 at *
  go_loopw [5] (fun i wr => ∃ q : Nat, q ≤ m ∧ i = .int .i64 q ∧ Kn w [(w.heap.size, num (a / 2 ^ q)), (w.heap.size + 1, Z)] wr) (fun i _ => m - (intOf i).toNat)
  case atStart => exact ⟨0, by omega, rfl, by rw [Nat.pow_zero, Nat.div_one, ← hA.out]; exact HS.out⟩
  case round =>
    clear HS
    obtain ⟨q, hq, rfl, HK0⟩ := hrel
    have HK := Lib.hid HK0
    clear HK0
    by_cases hlt : q < m
    · have hltI : (q : Int) < (m : Int) := by omega
      obtain ⟨v, hv⟩ : ∃ v, Hid (v = a / 2 ^ q) := ⟨_, Lib.hid rfl⟩
      have hvl : Hid (v < 115792089237316195423570985008687907853269984665640564039457584007913129639936) := by unfold Hid; rw [hv.out]; exact Nat.lt_of_le_of_lt (Nat.div_le_self _ _) ha
      have hv2 : Hid (v / 2 = a / 2 ^ (q + 1)) := by unfold Hid; rw [hv.out, Nat.div_div_eq_div_mul, Nat.pow_succ]
      rw [← hv.out] at HK
      clear hv hA hT IA IT
      go_wp2
      go_loopw [6] (fun i wr => ∃ i' : Nat, i' ≤ 4 ∧ i = .int .i64 i' ∧ Kn w [(w.heap.size, (rowOf .u64 4 (sTo v i')).toArray), (w.heap.size + 1, Z)] wr) (fun i _ => 4 - (intOf i).toNat)
      case atStart => exact ⟨0, by omega, rfl, HK.out.ext (w.heap.size) (dig v) (sTo v 0) (fun j _ => by unfold sTo; rw [if_neg (by omega)]) (fun p hp => by simp at hp; rcases hp with rfl | rfl <;> first | exact .inr ⟨rfl, by simp [num]⟩ | exact .inl (by simp))⟩
      case round =>
        clear HK
        obtain ⟨i, hi, rfl, HK0⟩ := hrel
        have HK := Lib.hid HK0
        clear HK0
        by_cases hi4 : i < 4
        · have hi4I : (i : Int) < 4 := by omega
          have hr := HK.out.row (w.heap.size) (sTo v i) (by simp)
          have hsi : sTo v i i = dig v i := by unfold sTo; rw [if_neg (by omega)]
          have c0 := hr.cell i hi4
          rw [hsi] at c0
          have f0 := hr.free i
          have hdl := dig_lt v i
          obtain ⟨h, hh⟩ : ∃ h, Hid (h = dig v i / 2) := ⟨_, Lib.hid rfl⟩
          have e1 : (dig v i : Int) / 2 = (h : Int) := by rw [hh.out]; omega
          have HK1 : Hid (Kn w [(w.heap.size, (rowOf .u64 4 (upd (sTo v i) i h)).toArray), (w.heap.size + 1, Z)] (wr.setCell ⟨w.heap.size, i, none⟩ (.int .u64 (h : Int)))) := Lib.hid (HK.out.setw (w.heap.size) (sTo v i) i h hr (by omega) (fun p hp => by simp at hp; rcases hp with rfl | rfl <;> first | exact .inl rfl | exact .inr ⟨by simp, by simp only; omega⟩))
          have hhl : h < 9223372036854775808 := by rw [hh.out]; omega
          clear HK hr hsi hdl
          have HDg := Lib.hid (fun hi3 => dig_half v i hi3)
          rw [← hh.out] at HDg
          have HDg3 : i = 3 → Hid (h = dig (v / 2) 3) := fun e => by subst e; unfold Hid; rw [dig_half3 v hvl.out, hh.out]; omega
          clear hh
          generalize dig v i = d at *
          go_upto_region 8 with fail
          try simp only [Act.put, sT, sS, sZ]
          generalize wr.setCell ⟨w.heap.size, i, none⟩ (.int .u64 (h : Int)) = W1 at *
          by_cases hi3 : i < 3
          · have hi3I : (i : Int) < 3 := by omega
            obtain ⟨i1, hi1⟩ : ∃ i1, Hid (i1 = i + 1) := ⟨_, Lib.hid rfl⟩
            have hi1I : (i : Int) + 1 = (i1 : Int) := by rw [hi1.out]; omega
            have hi14 : i1 < 4 := by rw [hi1.out]; omega
            have hi14I : (i1 : Int) < 4 := by omega
            have hr := HK1.out.row (w.heap.size) (upd (sTo v i) i h) (by simp)
            have c0 := hr.cell i hi4
            rw [upd_same] at c0
            have f0 := hr.free i
            have c1 := hr.cell i1 hi14
            rw [show upd (sTo v i) i h i1 = dig v i1 by unfold upd sTo; rw [if_neg (by rw [hi1.out]; omega), if_neg (by rw [hi1.out]; omega)]] at c1
            have e2 := shl63 (dig v i1)
            have e3 := or_top h (dig v i1 % 2) hhl (by omega)
            have HD2 := HDg.out hi3
            rw [← hi1.out] at HD2
            rw [← HD2] at e3
            have HK2 : Hid (Kn w [(w.heap.size, (rowOf .u64 4 (sTo v (i + 1))).toArray), (w.heap.size + 1, Z)] (W1.setCell ⟨w.heap.size, i, none⟩ (.int .u64 (dig (v / 2) i : Int))).drew) := Lib.hid ((HK1.out.setw (m := [(w.heap.size, (rowOf .u64 4 (upd (upd (sTo v i) i h) i (dig (v / 2) i))).toArray), (w.heap.size + 1, Z)]) (w.heap.size) _ i (dig (v / 2) i) hr (by omega) (fun p hp => by simp at hp; rcases hp with rfl | rfl <;> first | exact .inl rfl | exact .inr ⟨by simp, by simp only; omega⟩)).ext (w.heap.size) _ _ (sTo_step v i h _ rfl) (fun p hp => by simp at hp; rcases hp with rfl | rfl <;> first | exact .inr ⟨rfl, by simp⟩ | exact .inl (by simp))).drew
            obtain ⟨Y, hY⟩ : ∃ Y, Hid (Y = dig v i1 % 2 * 9223372036854775808) := ⟨_, Lib.hid rfl⟩
            rw [← hY.out] at e2 e3
            generalize dig (v / 2) i = r at *
            generalize dig v i1 = y at *
            clear hr HK1 HDg HDg3 hY HD2 hhl e1
            rw [← hi1.out] at HK2
            clear hi1
            go_wp2
            go_region
            go_wp2
            go_roundw
            case rel => exact ⟨i1, by omega, by first | rfl | simp | go_num, HK2.out⟩
            case measure => simp [intOf]; omega
          · obtain rfl : i = 3 := by omega
            have HK2 : Hid (Kn w [(w.heap.size, (rowOf .u64 4 (sTo v (3 + 1))).toArray), (w.heap.size + 1, Z)] W1) := by
              have h3 := (HDg3 rfl).out
              refine Lib.hid (HK1.out.ext (w.heap.size) (upd (sTo v 3) 3 h) (sTo v 4) (fun j hj => ?_) (fun p hp => by simp at hp; rcases hp with rfl | rfl <;> first | exact .inr ⟨rfl, by simp⟩ | exact .inl (by simp)))
              have := sTo_step v 3 h h h3 j hj
              rw [← this]
              unfold upd
              split <;> rfl
            clear HK1 HDg HDg3 e1 c0 f0
            rw [show ((3 : Nat) : Int) = (3 : Int) from rfl]
            go_wp2
            go_roundw
            case rel => exact ⟨4, by omega, by first | rfl | simp | go_num, HK2.out⟩
            case measure => simp [intOf]
        · obtain rfl : i = 4 := by omega
          have HK2 : Hid (Kn w [(w.heap.size, num (a / 2 ^ (q + 1))), (w.heap.size + 1, Z)] wr) := by
            rw [← hv2.out]
            exact Lib.hid (HK.out.ext (w.heap.size) (sTo v 4) (dig (v / 2)) (fun j hj => by unfold sTo; rw [if_pos hj]) (fun p hp => by simp at hp; rcases hp with rfl | rfl <;> first | exact .inr ⟨rfl, by simp⟩ | exact .inl (by simp)))
          clear HK hv2
          rw [show ((4 : Nat) : Int) = (4 : Int) from rfl]
          go_wp2
          go_roundw
          case rel => exact ⟨q + 1, by omega, by first | rfl | simp | go_num, HK2.out⟩
          case measure => simp [intOf]; omega
    · obtain rfl : q = m := by omega
      rw [← hT.out] at HK
      have hl := HK.out.load (w.heap.size) T (by simp) IT
      clear hT
      go_wp2_with (first | (refine wpList_run rfl _ (exec_load_of _ 24 (.tmp 2) rfl ⟨w.heap.size, 0, none⟩ rfl (.agg T) hl) ?_) | (refine wpList_run0 rfl (exec_store_kn (w0 := w) (l := [(w.heap.size, T), (w.heap.size + 1, Z)]) _ HK.out (.tmp 4) (.tmp 34) rfl (w.heap.size + 1) rfl T IT rfl Z IZ (by simp)) ?_))
      have HSZ : Kn w [(w.heap.size + 1, T)] (World.setRow _ (w.heap.size + 1) T) := HK.out.set (w.heap.size + 1) T Z (HK.out.get (w.heap.size + 1) Z (by simp)) (by omega) (fun p hp => by simp at hp; subst hp; simp)
      exact bodyPost_ret (results_cell rfl _ _ _ ⟨w.heap.size + 1, 0, none⟩ rfl _ (HSZ.load (w.heap.size + 1) T (by simp) IT)) rfl ⟨rfl, HSZ.1⟩
end Go.Proofs.YtgbliacncahooaaDoor
/- Inv of the document: an inverse modulo the prime. No condition but that the number has 256 bits. -/
namespace Go.Proofs.YtgbliacncahooaaDoor
open Go.RowKit Go.Shelf
set_option linter.unusedVariables false
set_option linter.unusedSimpArgs false
theorem enters58r : ∀ args w, (callFunc 58 args).run Tryd.prog w = .ok (.enter 58 args) w := enters_of Tryd.func58 (by kernel_rfl) rfl
set_option maxRecDepth 100000 in
set_option maxHeartbeats 1000000 in
theorem rinv_any (a : Nat) (ha : a < 115792089237316195423570985008687907853269984665640564039457584007913129639936) (w : World) :
    Calls Tryd.prog 36 #[.agg (num a)] w fun e w' => e = .returned (.agg (num (invF a))) ∧ Below w.heap.size w w' := by
  have HP := Lib.hid prime_any
  have H1 := Lib.hid (subnum_any pp 2 (by decide) (by decide))
  rw [subM_le pp 2 (by decide) (by decide)] at H1
  have H2 := Lib.hid (rpow_any a (pp - 2) ha (by decide))
  rw [show powF a (pp - 2) = invF a from rfl] at H2
  have hb2 := build_run 2 (by decide)
  have HZ := zero_run
  clear ha
  obtain ⟨A, hA⟩ : ∃ A, Hid (A = num a) := ⟨_, Lib.hid rfl⟩
  have IA : IsNum A := by rw [hA.out]; exact isNum _
  obtain ⟨PR, hPR⟩ : ∃ PR, Hid (PR = num pp) := ⟨_, Lib.hid rfl⟩
  have IPR : IsNum PR := by rw [hPR.out]; exact isNum _
  obtain ⟨U2, hU2⟩ : ∃ U2, Hid (U2 = num 2) := ⟨_, Lib.hid rfl⟩
  have IU2 : IsNum U2 := by rw [hU2.out]; exact isNum _
  obtain ⟨E, hE⟩ : ∃ E, Hid (E = num (pp - 2)) := ⟨_, Lib.hid rfl⟩
  have IE : IsNum E := by rw [hE.out]; exact isNum _
  obtain ⟨T, hT⟩ : ∃ T, Hid (T = num (invF a)) := ⟨_, Lib.hid rfl⟩
  have IT : IsNum T := by rw [hT.out]; exact isNum _
  obtain ⟨Z, hZ⟩ : ∃ Z, Hid (Z = num 0) := ⟨_, Lib.hid rfl⟩
  have IZ : IsNum Z := by rw [hZ.out]; exact isNum _
  rw [← hPR.out] at HP
  rw [← hPR.out, ← hU2.out, ← hE.out] at H1
  rw [← hA.out, ← hE.out, ← hT.out] at H2
  have HZ2 : ∀ w, (zeroValue 24).run Tryd.prog w = .ok (.agg Z) w := by rw [hZ.out]; exact HZ
  have IZ2 := IZ.size
  rw [← hU2.out] at hb2
  have HB2 := Lib.hid hb2
  rw [← hA.out, ← hT.out]
  clear HZ hb2 hA hPR hU2 hE hT hZ
  have hz4 : ∀ W : World, Kn W [(W.heap.size, A), (W.heap.size + 1, Z)] ((W.alloc (.cells A 24)).alloc (.cells Z 24)) := by
    intro W
    have h := ((Kn.nil W).new A).new Z
    simp only [World.size_alloc] at h
    exact h.sub (fun p hp => by simp at hp ⊢; rcases hp with h | h <;> simp [h])
  have HS := Lib.hid (hz4 w)
  clear hz4
  go_enter Tryd.func36, Tryd.ntmps36
  go_upto_region 1 with ((refine wpList_run rfl _ (exec_alloc_agg _ 24 rfl _ (HZ2 _)) ?_); try simp only [World.size_alloc])
  try simp only [Act.put, sT, sS, sZ]
  generalize (w.alloc (.cells A 24)).alloc (.cells Z 24) = W0 at *
  refine wp_nrm ?_
  refine wp_region_any (by kernel_rfl) ?_
  change wpAny _ _ _ _ _ _ _ (World.drew _)
  have HD := HS.out.drew
  clear HS
  generalize W0.drew = Wd at *
  refine any_of_F (S := Kn w [(w.heap.size, A), (w.heap.size + 1, Z)]) (f := 5) _ _ _ _ ?_
  refine tkL 0 (some 3) (.load 24 (.tmp 1)) (.agg A) (fun o ho w2 hw => exec_load_of _ 24 (.tmp 1) ho ⟨w.heap.size, 0, none⟩ rfl _ (hw.load (w.heap.size) A (by simp) IA)) HD ?_
  simp only [Act.put, sT, sS, sZ]
  refine tkL 2 (some 5) (.build 24 #[(0, .const (.int .u64 2))]) (.agg U2) (fun o ho w2 hw => exec_build1 w2 24 0 (.const (.int .u64 2)) ho _ rfl _ (HB2.out w2)) HD ?_
  simp only [Act.put, sT, sS, sZ]
  refine rdy [1] (rcl (some 4) 33 #[] #[] #[] enters33 _ (HP.out _) ?_ ReadyF.nil)
  rintro v ws1 ⟨he, hb⟩
  cases he
  have Hs2 := HD.below hb
  clear hb
  refine ⟨Hs2, ?_⟩
  simp only [Act.put, sT, sS, sZ]
  refine rdy [3] (rcl (some 6) 50 #[.tmp 4, .tmp 5] #[24, 24] #[.agg PR, .agg U2] enters50 _ (H1.out _) ?_ ReadyF.nil)
  rintro v ws3 ⟨he, hb⟩
  cases he
  have Hs4 := Hs2.below hb
  clear hb
  refine ⟨Hs4, ?_⟩
  simp only [Act.put, sT, sS, sZ]
  refine rdy [4] (rcl (some 7) 58 #[.tmp 3, .tmp 6] #[24, 24] #[.agg A, .agg E] enters58r _ (H2.out _) ?_ ReadyF.nil)
  rintro v ws5 ⟨he, hb⟩
  cases he
  have Hs6 := Hs4.below hb
  clear hb
  refine ⟨Hs6, ?_⟩
  simp only [Act.put, sT, sS, sZ]
  refine rdy [5] (ReadyF.last (.store 24 (.tmp 2) (.tmp 7)) rfl (fun o ho => exec_store_kn ws5 Hs6 (.tmp 2) (.tmp 7) ho (w.heap.size + 1) rfl T IT rfl Z IZ (by simp)) ?_ ReadyF.nil)
  refine any_doneF (by kernel_rfl) ?_ _
  refine nrm_intro ?_
  have HSZ : Kn w [(w.heap.size + 1, T)] (World.setRow _ (w.heap.size + 1) T) := Hs6.set (w.heap.size + 1) T Z (Hs6.get (w.heap.size + 1) Z (by simp)) (by omega) (fun p hp => by simp at hp; subst hp; simp)
  generalize World.setRow _ (w.heap.size + 1) T = Wz at *
  go_wp2
  exact bodyPost_ret (results_cell rfl _ _ _ ⟨w.heap.size + 1, 0, none⟩ rfl _ (HSZ.load (w.heap.size + 1) T (by simp) IT)) rfl ⟨rfl, HSZ.1⟩
end Go.Proofs.YtgbliacncahooaaDoor
