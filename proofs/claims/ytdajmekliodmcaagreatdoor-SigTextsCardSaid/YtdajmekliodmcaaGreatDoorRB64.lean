/- Base64 of the document: bytes as letters. No condition but that there are up to a thousand. -/
import Derived.Test.YtdajmekliodmcaaGreatDoorRGetHex
namespace Go.Proofs.YtdajmekliodmcaaGreatDoor.R
open Go.RowKit Go.Shelf
set_option linter.unusedVariables false
set_option linter.unusedSimpArgs false
theorem enters31 : ∀ args w, (callFunc 61 args).run Tryz.prog w = .ok (.enter 61 args) w := enters_of Tryz.func61 (by kernel_rfl) rfl
/-- Byte j of what is left, nought behind it. -/
def bt (l : List UInt8) (j : Nat) : Nat := (l.getD j 0).toNat
def pn (l : List UInt8) : Nat → Nat
  | 0 => 0
  | j + 1 => pn l j * 256 + bt l j
theorem bt_lt (l : List UInt8) (j : Nat) : bt l j < 256 := UInt8.toNat_lt _
theorem pn_lt (l : List UInt8) : ∀ j, pn l j < 256 ^ j
  | 0 => by show 0 < 1; omega
  | j + 1 => by
    have h := pn_lt l j
    have h2 := bt_lt l j
    show pn l j * 256 + bt l j < 256 ^ j * 256
    omega
def quad (n k j : Nat) : UInt8 := if j ≤ k then six (n / 2 ^ (18 - 6 * j) % 64) else 61
theorem b64_chunk : ∀ l : List UInt8, l ≠ [] → b64 l = (List.range 4).map (quad (pn l 3) (min 3 l.length)) ++ b64 (l.drop 3)
  | [], h => absurd rfl h
  | [a], _ => by
    have ha := a.toNat_lt
    have e : pn [a] 3 = ((0 * 256 + a.toNat) * 256 + 0) * 256 + 0 := rfl
    show [six (a.toNat / 4), six (a.toNat % 4 * 16), 61, 61] = [quad (pn [a] 3) 1 0, quad (pn [a] 3) 1 1, quad (pn [a] 3) 1 2, quad (pn [a] 3) 1 3] ++ []
    rw [e]
    unfold quad
    simp
    constructor <;> congr 1 <;> omega
  | [a, b], _ => by
    have ha := a.toNat_lt
    have hb := b.toNat_lt
    have e : pn [a, b] 3 = ((0 * 256 + a.toNat) * 256 + b.toNat) * 256 + 0 := rfl
    show [six (a.toNat / 4), six (a.toNat % 4 * 16 + b.toNat / 16), six (b.toNat % 16 * 4), 61] = [quad (pn [a, b] 3) 2 0, quad (pn [a, b] 3) 2 1, quad (pn [a, b] 3) 2 2, quad (pn [a, b] 3) 2 3] ++ []
    rw [e]
    unfold quad
    simp
    refine ⟨?_, ?_, ?_⟩ <;> congr 1 <;> omega
  | a :: b :: c :: l, _ => by
    have ha := a.toNat_lt
    have hb := b.toNat_lt
    have hc := c.toNat_lt
    have e : pn (a :: b :: c :: l) 3 = ((0 * 256 + a.toNat) * 256 + b.toNat) * 256 + c.toNat := rfl
    have em : min 3 (a :: b :: c :: l).length = 3 := by simp
    rw [em]
    show six (a.toNat / 4) :: six (a.toNat % 4 * 16 + b.toNat / 16) :: six (b.toNat % 16 * 4 + c.toNat / 64) :: six (c.toNat % 64) :: b64 l = [quad (pn (a :: b :: c :: l) 3) 3 0, quad (pn (a :: b :: c :: l) 3) 3 1, quad (pn (a :: b :: c :: l) 3) 3 2, quad (pn (a :: b :: c :: l) 3) 3 3] ++ b64 l
    rw [e]
    unfold quad
    simp
    refine ⟨?_, ?_, ?_, ?_⟩ <;> congr 1 <;> omega
theorem i64_nat (a b : Nat) (ha : a < 1099511627776) (hb : b < 1099511627776) : bits .and .i64 (a : Int) (b : Int) = ((a &&& b : Nat) : Int) ∧ bits .or .i64 (a : Int) (b : Int) = ((a ||| b : Nat) : Int) :=
  bits_nat .i64 40 (by decide) (fun n h0 h1 => by rw [IntKind.wrap_i64]; omega) a b ha hb
theorem and63 (x : Nat) (hx : x < 1099511627776) : bits .and .i64 (x : Int) 63 = ((x % 64 : Nat) : Int) := by
  have h := (i64_nat x 63 hx (by decide)).1
  rw [show x &&& 63 = x % 64 from Nat.and_two_pow_sub_one_eq_mod x 6] at h
  exact h
theorem or8 (x y : Nat) (hx : x < 1073741824) (hy : y < 256) : bits .or .i64 ((x * 256 : Nat) : Int) (y : Int) = ((x * 256 + y : Nat) : Int) := by
  have h := (i64_nat (x * 256) y (by omega) (by omega)).2
  have h2 : x * 256 ||| y = x * 256 + y := by
    have := Nat.two_pow_add_eq_or_of_lt (i := 8) (b := y) hy x
    rw [Nat.mul_comm x 256, ← show (2 : Nat) ^ 8 = 256 from rfl, ← this]
  rw [h2] at h
  exact h
theorem six_get (d : Nat) (hd : d < 64) : ∃ h : d < sixB.size, (sixB[d]'h) = six d := by
  have h : d < sixB.size := hd
  refine ⟨h, ?_⟩
  have : ∀ d, (h : d < 64) → sixL.getD d 0 = sixL[d]'h := fun d h => by rw [List.getD_eq_getElem?_getD, List.getElem?_eq_getElem h]; rfl
  unfold six
  rw [this d hd]
  rfl
theorem exec_shr3 {ρ : Operand → Value} {o : Oper} (x z : Operand) (ho : o.op = .binOp .shr 3 x z 3) (y s r : Nat) (hr : r = y / 2 ^ s) (hs : s < 64) (hx : ρ x = .int .i64 (y : Int)) (hz : ρ z = .int .i64 (s : Int)) (w : World) :
    (execOp ρ o).run Tryz.prog w = .ok (.value (.int .i64 (r : Int))) w := by
  have hsh : (y : Int) / 2 ^ s = (r : Int) := by rw [hr, Int.natCast_ediv, Int.natCast_pow]; rfl
  have hsi : (s : Int) < 64 := by omega
  clear hr
  unfold execOp
  rw [ho]
  simp only [hx, hz]
  go_simp
theorem exec_index_six {ρ : Operand → Value} {o : Oper} (x y : Operand) (ho : o.op = .index 9 x y) (q : Nat) (hq : q < 64) (g : UInt8) (hsx : six q = g) (hx : ρ x = .string sixB) (hy : ρ y = .int .i64 (q : Int)) (w : World) :
    (execOp ρ o).run Tryz.prog w = .ok (.value (.int .u8 (g.toNat : Int))) w := by
  obtain ⟨h, e⟩ := six_get q hq
  have h2 := exec_index_str x y ho sixB q h hx hy w
  rw [e, hsx] at h2
  exact h2
theorem exec_min3 {ρ : Operand → Value} {o : Oper} (x : Operand) (ho : o.op = .call { callee := .builtin .min, args := #[.const (.int .i64 3), x], argTypes := #[3, 3] }) (hc : ρ (.const (.int .i64 3)) = .int .i64 3) (R K : Nat) (hK : K = min 3 R) (hR : R < 1099511627776) (hx : ρ x = .int .i64 (R : Int)) (w : World) :
    (execOp ρ o).run Tryz.prog w = .ok (.value (.int .i64 (K : Int))) w := by
  subst hK
  by_cases h : R < 3
  · have h1 : min 3 R = R := by omega
    have h2 : (R : Int) < 3 := by omega
    rw [h1]
    unfold execOp
    simp only [ho]
    simp [go_sem, hc, hx, resolve, invoke, builtin, h2]
  · have h1 : min 3 R = 3 := by omega
    have h2 : ¬ (R : Int) < 3 := by omega
    rw [h1]
    unfold execOp
    simp only [ho]
    simp [go_sem, hc, hx, resolve, invoke, builtin, h2]
set_option maxRecDepth 100000 in
set_option maxHeartbeats 1000000 in
theorem rb64_any (s : ByteArray) (hs : s.size ≤ 1000) (w : World) :
    Calls Tryz.prog 29 #[.string s] w fun e w' => e = .returned (.string ⟨(b64 s.data.toList).toArray⟩) ∧ Below w.heap.size w w' := by
  obtain ⟨l, hl⟩ : ∃ l, Hid (l = s.data.toList) := ⟨_, Lib.hid rfl⟩
  have hlen : l.length = s.size := by rw [hl.out]; rfl
  have HSIX := Lib.hid sixty_any
  rw [← hl.out]
  go_enter Tryz.func29, Tryz.ntmps29
  go_wp2
  go_loopw [3, 4] (fun v i wr => ∃ (I : Nat) (out : List UInt8), I ≤ s.size + 2 ∧ i = .int .i64 (I : Int) ∧ wr.ownsRow w.heap.size 5 1 v out.length (bytesV out) ∧ (out.length = 0 → v = .slice none 0 0) ∧ out ++ b64 (l.drop I) = b64 l ∧ out.length ≤ 4 * I ∧ Below w.heap.size w wr) (fun _ i _ => s.size + 2 - (intOf i).toNat)
  case atStart => exact ⟨0, [], by omega, rfl, World.ownsRow_nil _ _ _ _, fun _ => rfl, rfl, by simp, Below.refl _ _⟩
  case round =>
    obtain ⟨I, out, hI, rfl, hown, hv0, happ, hol, hb⟩ := hrel
    have HO := Lib.hid hown
    have HV := Lib.hid hv0
    have HA := Lib.hid happ
    have HB := Lib.hid hb
    clear hown hv0 happ hb
    by_cases hlt : I < s.size
    · have hltI : (I : Int) < (s.size : Int) := by omega
      obtain ⟨R, hR⟩ : ∃ R, Hid (R = s.size - I) := ⟨_, Lib.hid rfl⟩
      have hR1 : (s.size : Int) - (I : Int) = (R : Int) := by rw [hR.out]; omega
      have hRl : (R : Int) ≤ 1000 := by rw [hR.out]; omega
      obtain ⟨K, hK⟩ : ∃ K, Hid (K = min 3 R) := ⟨_, Lib.hid rfl⟩
      have hRn : R < 1099511627776 := by rw [hR.out]; omega
      obtain ⟨d, hd⟩ : ∃ d, Hid (d = l.drop I) := ⟨_, Lib.hid rfl⟩
      have hdl : d.length = R := by rw [hd.out, List.length_drop, hlen, hR.out]
      have hK3 : K ≤ 3 := by rw [hK.out]; omega
      have hKR : K ≤ R := by rw [hK.out]; omega
      have hKs : Hid (I + K ≤ s.size) := by unfold Hid; have := hR.out; omega
      have hbt0 : Hid (∀ j, j < 3 → K ≤ j → bt d j = 0) := Lib.hid (fun j h3 hj => by
        unfold bt
        rw [List.getD_eq_getElem?_getD, List.getElem?_eq_none (by rw [hdl]; have := hK.out; omega)]
        rfl)
      have hbtj : Hid (∀ j, j < K → ∃ h : I + j < s.size, (s[I + j]'h).toNat = bt d j) := Lib.hid (fun j hj => by
        have hh : I + j < s.size := by have := hKs.out; omega
        refine ⟨hh, ?_⟩
        unfold bt
        rw [List.getD_eq_getElem?_getD, hd.out, List.getElem?_drop, hl.out, List.getElem?_eq_getElem (by exact hh)]
        rfl)
      have hch : Hid (out ++ (List.range 4).map (quad (pn d 3) K) ++ b64 (l.drop (I + 3)) = b64 l) := by
        unfold Hid
        have h1 := b64_chunk d (by intro h; rw [h] at hdl; simp at hdl; have := hR.out; omega)
        rw [hdl, ← hK.out, hd.out, List.drop_drop] at h1
        rw [hd.out, List.append_assoc, ← h1]
        exact HA.out
      clear HA
      go_wp2_with (refine wpList_run rfl _ (exec_min3 (.tmp 18) rfl rfl R K hK.out hRn rfl _) ?_)
      go_loopw [5, 7] (fun n j wr2 => ∃ J : Nat, J ≤ 3 ∧ j = .int .i64 (J : Int) ∧ n = .int .i64 (pn d J : Int) ∧ wr2 = wr) (fun _ j _ => 3 - (intOf j).toNat)
      case atStart => exact ⟨0, by omega, rfl, rfl, rfl⟩
      case round =>
        obtain ⟨J, hJ, rfl, rfl, hwr⟩ := hrel
        subst hwr
        by_cases hJ3 : J < 3
        · have hJ3I : (J : Int) < 3 := by omega
          have hpl := pn_lt d J
          have hp3 : (256 : Nat) ^ J ≤ 65536 := by
            have : (256 : Nat) ^ J ≤ 256 ^ 2 := Nat.pow_le_pow_right (by decide) (by omega)
            exact this
          have hps : Hid (pn d (J + 1) = pn d J * 256 + bt d J) := Lib.hid rfl
          obtain ⟨m, hm⟩ : ∃ m, Hid (m = pn d J * 256) := ⟨_, Lib.hid rfl⟩
          have hm1 : (pn d J : Int) * 256 = (m : Int) := by rw [hm.out]; omega
          have hml : (m : Int) < 16777217 := by rw [hm.out]; omega
          by_cases hJK : J < K
          · have hJKI : (J : Int) < (K : Int) := by omega
            obtain ⟨hIJ, hc⟩ := hbtj.out J hJK
            obtain ⟨S, hS⟩ : ∃ S, Hid (S = I + J) := ⟨_, Lib.hid rfl⟩
            have hS1 : (I : Int) + (J : Int) = (S : Int) := by rw [hS.out]; omega
            have hSl : S < s.size := by rw [hS.out]; exact hIJ
            have hSI : (S : Int) < (s.size : Int) := by omega
            have hc2 : s[S].toNat = bt d J := by rw [← hc]; congr 1; simp only [hS.out]
            obtain ⟨c, hcc⟩ : ∃ c, c = s[S].toNat := ⟨_, rfl⟩
            have hor := or8 (pn d J) (bt d J) (by omega) (bt_lt d J)
            rw [← hps.out, ← hm.out] at hor
            have hwb : wrap64 ((bt d J : Nat) : Int) = (bt d J : Int) := IntWalk.wrap64_in _ (by have := bt_lt d J; omega)
            generalize hp2 : pn d (J + 1) = p2 at *
            generalize pn d J = p at *
            clear hcc hbtj hbt0 hch hps hc hpl hp3 hIJ HSIX HO HV HB hKs hl
            go_wp2
            go_roundw
            case rel => exact ⟨J + 1, by omega, by first | rfl | simp | go_num, by first | rfl | rw [hor] | rw [hp2], by simp⟩
            case measure => simp [intOf]; omega
          · have hJKI : ¬ (J : Int) < (K : Int) := by omega
            have hJKI2 : (K : Int) ≤ (J : Int) := by omega
            have hz := hbt0.out J hJ3 (by omega)
            have hp2 : Hid (pn d (J + 1) = m) := by unfold Hid; rw [hps.out, hz, hm.out]; rfl
            generalize pn d J = p at *
            clear hbtj hbt0 hch hps hpl hp3 HSIX HO HV HB hKs hl hz
            go_wp2
            go_roundw
            case rel => exact ⟨J + 1, by omega, by first | rfl | simp | go_num, by rw [hp2.out], by simp⟩
            case measure => simp [intOf]; omega
        · obtain rfl : J = 3 := by omega
          rw [show ((3 : Nat) : Int) = (3 : Int) from rfl]
          have hNl := pn_lt d 3
          obtain ⟨N, hN⟩ : ∃ N, N = pn d 3 := ⟨_, rfl⟩
          rw [← hN] at hNl hch ⊢
          have hNs : N < 16777216 := hNl
          have hol2 : out.length ≤ 4000 := by omega
          clear hbt0 hbtj hN hNl hdl hK hd hRn hKs
          go_wp2
          go_loopw [3, 8] (fun v j wr2 => ∃ J : Nat, J ≤ 4 ∧ j = .int .i64 (J : Int) ∧ wr2.ownsRow w.heap.size 5 1 v (out.length + J) (bytesV (out ++ (List.range J).map (quad N K))) ∧ (out.length + J = 0 → v = .slice none 0 0) ∧ Below w.heap.size w wr2) (fun _ j _ => 4 - (intOf j).toNat)
          case atStart => exact ⟨0, by omega, rfl, by rw [List.range_zero, List.map_nil, List.append_nil]; exact HO.out, HV.out, HB.out⟩
          case round =>
            clear HO HV HB
            obtain ⟨J, hJ, rfl, hown, hv0, hb⟩ := hrel
            have hbs := hb.size
            by_cases hJ4 : J < 4
            · have hJ4I : (J : Int) < 4 := by omega
              have hsn : Hid (bytesV (out ++ (List.range (J + 1)).map (quad N K)) = bytesV ((out ++ (List.range J).map (quad N K)) ++ [quad N K J])) := by unfold Hid; rw [List.range_succ, List.map_append, List.map_singleton, List.append_assoc]
              by_cases hJK : J ≤ K
              · have hJKI : (J : Int) ≤ (K : Int) := by omega
                obtain ⟨M6, hM6⟩ : ∃ M6, Hid (M6 = 6 * J) := ⟨_, Lib.hid rfl⟩
                obtain ⟨sh, hsh⟩ : ∃ sh, Hid (sh = 18 - 6 * J) := ⟨_, Lib.hid rfl⟩
                have e6 : (6 : Int) * (J : Int) = (M6 : Int) := by rw [hM6.out]; omega
                have e18 : (18 : Int) - (M6 : Int) = (sh : Int) := by rw [hM6.out, hsh.out]; omega
                have hM6l : (M6 : Int) ≤ 18 := by rw [hM6.out]; omega
                have hshl : sh ≤ 18 := by rw [hsh.out]; omega
                obtain ⟨x, hx⟩ : ∃ x, Hid (x = N / 2 ^ sh) := ⟨_, Lib.hid rfl⟩
                have hxl : x < 1099511627776 := by rw [hx.out]; exact Nat.lt_of_le_of_lt (Nat.div_le_self _ _) (by omega)
                obtain ⟨q, hq⟩ : ∃ q, Hid (q = x % 64) := ⟨_, Lib.hid rfl⟩
                have hand := and63 x hxl
                rw [← hq.out] at hand
                have hq64 : q < 64 := by rw [hq.out]; omega
                have hg : Hid (quad N K J = six q) := by unfold Hid quad; rw [if_pos hJK, hq.out, hx.out, hsh.out]
                rw [hg.out] at hsn
                obtain ⟨v', W3, happ, hown', hb', hz'⟩ := bytes_app (wr := wr.drew) hown hb.drew hbs [six q] 1 rfl _ rfl (by omega)
                have HAPP := Lib.hid happ
                have HO := Lib.hid hown'
                have HF := Lib.hid hb'
                generalize hsx : six q = g at *
                clear happ hown' hb' hown hb hz' hv0 hbs hg
                go_upto_region 16 with fail
                try simp only [Act.put, List.setIfInBounds_toArray, List.set_cons_succ, List.set_cons_zero]
                refine wp_nrm ?_
                refine wp_region_any (by kernel_rfl) ?_
                change wpAny _ _ _ _ _ _ _ (World.drew _)
                generalize wr.drew = Wd at *
                refine any_of_F (S := fun _ => True) (f := 1000) _ _ _ _ ?_
                refine AnyF.takeG (by rfl) 0 (some 44) (.move (.tmp 3)) none (u3) rfl (by kernel_rfl) (by kernel_rfl) (by kernel_rfl) (fun _ _ _ h => h) rfl (fun o h => by obtain rfl := Option.some.inj h; rfl) (fun o ho w2 _ => exec_move (.tmp 3) ho _ rfl w2) trivial ?_
                simp only [Act.put, List.setIfInBounds_toArray, List.set_cons_succ, List.set_cons_zero]
                refine AnyF.takeG (by rfl) 2 (some 46) (.move (.tmp 5)) none (.int .i64 (N : Int)) rfl (by kernel_rfl) (by kernel_rfl) (by kernel_rfl) (fun _ _ _ h => h) rfl (fun o h => by obtain rfl := Option.some.inj h; rfl) (fun o ho w2 _ => exec_move (.tmp 5) ho _ rfl w2) trivial ?_
                simp only [Act.put, List.setIfInBounds_toArray, List.set_cons_succ, List.set_cons_zero]
                refine AnyF.takeG (by rfl) 3 (some 47) (.move (.tmp 8)) none (.int .i64 (J : Int)) rfl (by kernel_rfl) (by kernel_rfl) (by kernel_rfl) (fun _ _ _ h => h) rfl (fun o h => by obtain rfl := Option.some.inj h; rfl) (fun o ho w2 _ => exec_move (.tmp 8) ho _ rfl w2) trivial ?_
                simp only [Act.put, List.setIfInBounds_toArray, List.set_cons_succ, List.set_cons_zero]
                refine AnyF.takeG (by rfl) 4 (some 48) (.binOp .mul 3 (.const (.int .i64 6)) (.tmp 47) 3) none (.int .i64 (M6 : Int)) rfl (by kernel_rfl) (by kernel_rfl) (by kernel_rfl) (fun _ _ _ h => h) rfl (fun o h => by obtain rfl := Option.some.inj h; rfl) (fun o ho w2 _ => by have hw := IntWalk.i64_in (M6 : Int) (by omega); unfold execOp; rw [ho]; go_simp) trivial ?_
                simp only [Act.put, List.setIfInBounds_toArray, List.set_cons_succ, List.set_cons_zero]
                refine AnyF.takeG (by rfl) 5 (some 49) (.binOp .sub 3 (.const (.int .i64 18)) (.tmp 48) 3) none (.int .i64 (sh : Int)) rfl (by kernel_rfl) (by kernel_rfl) (by kernel_rfl) (fun _ _ _ h => h) rfl (fun o h => by obtain rfl := Option.some.inj h; rfl) (fun o ho w2 _ => by have hw := IntWalk.i64_in (sh : Int) (by omega); unfold execOp; rw [ho]; go_simp) trivial ?_
                simp only [Act.put, List.setIfInBounds_toArray, List.set_cons_succ, List.set_cons_zero]
                refine AnyF.takeG (by rfl) 6 (some 50) (.binOp .shr 3 (.tmp 46) (.tmp 49) 3) none (.int .i64 (x : Int)) rfl (by kernel_rfl) (by kernel_rfl) (by kernel_rfl) (fun _ _ _ h => h) rfl (fun o h => by obtain rfl := Option.some.inj h; rfl) (fun o ho w2 _ => exec_shr3 (.tmp 46) (.tmp 49) ho N sh x hx.out (by omega) rfl rfl w2) trivial ?_
                simp only [Act.put, List.setIfInBounds_toArray, List.set_cons_succ, List.set_cons_zero]
                refine AnyF.takeG (by rfl) 7 (some 51) (.binOp .and 3 (.tmp 50) (.const (.int .i64 63)) 3) none (.int .i64 (q : Int)) rfl (by kernel_rfl) (by kernel_rfl) (by kernel_rfl) (fun _ _ _ h => h) rfl (fun o h => by obtain rfl := Option.some.inj h; rfl) (fun o ho w2 _ => by unfold execOp; rw [ho]; go_simp) trivial ?_
                simp only [Act.put, List.setIfInBounds_toArray, List.set_cons_succ, List.set_cons_zero]
                refine AnyF.ready (rs := [1]) (by kernel_rfl) (by simp) (ReadyF.call (some 45) 61 #[] #[] rfl #[] (by simp [Act.eval]) enters31 _ (HSIX.out _) ?_ (fun c w' h => by cases h.1) (fun w' h => by cases h.1) ReadyF.nil)
                rintro v w' ⟨he, hw'⟩
                cases he
                rw [hw']
                clear hw'
                refine ⟨trivial, ?_⟩
                simp only [Act.put, List.setIfInBounds_toArray, List.set_cons_succ, List.set_cons_zero]
                refine AnyF.takeG (by rfl) 8 (some 52) (.index 9 (.tmp 45) (.tmp 51)) none (.int .u8 (g.toNat : Int)) rfl (by kernel_rfl) (by kernel_rfl) (by kernel_rfl) (fun _ _ _ h => h) rfl (fun o h => by obtain rfl := Option.some.inj h; rfl) (fun o ho w2 _ => exec_index_six (.tmp 45) (.tmp 51) ho q hq64 g hsx rfl rfl w2) trivial ?_
                simp only [Act.put, List.setIfInBounds_toArray, List.set_cons_succ, List.set_cons_zero]
                refine AnyF.ready (rs := [9]) (by kernel_rfl) (by simp) (ReadyF.op (w2 := Wd.alloc (.cells #[.int .u8 (g.toNat : Int)] 5)) (some 53) (.buildSlice 33 1 #[(0, .tmp 52)]) rfl (.slice (some ⟨Wd.heap.size, 0, none⟩) 1 1) (fun o ho => exec_slice1 (.tmp 52) ho g.toNat rfl Wd) trivial ?_ ReadyF.nil)
                simp only [Act.put, List.setIfInBounds_toArray, List.set_cons_succ, List.set_cons_zero]
                refine AnyF.ready (rs := [10]) (by kernel_rfl) (by simp) (ReadyF.op (w2 := W3) (some 54) (.call { callee := .builtin .append, args := #[.tmp 44, .tmp 53], argTypes := #[33, 33] }) rfl (v') (fun o ho => HAPP.out _ _ (.tmp 44) (.tmp 53) ho rfl rfl) trivial ?_ ReadyF.nil)
                simp only [Act.put, List.setIfInBounds_toArray, List.set_cons_succ, List.set_cons_zero]
                refine AnyF.takeG (by rfl) 11 (some 3) (.assign (.tmp 54)) none (v') rfl (by kernel_rfl) (by kernel_rfl) (by kernel_rfl) (fun _ _ _ h => h) rfl (fun o h => by obtain rfl := Option.some.inj h; rfl) (fun o ho w2 _ => exec_assign (.tmp 54) ho _ rfl w2) trivial ?_
                simp only [Act.put, List.setIfInBounds_toArray, List.set_cons_succ, List.set_cons_zero]
                refine AnyF.done (by kernel_rfl) ?_ _
                refine nrm_intro ?_
                go_wp2
                go_roundw
                case rel => exact ⟨J + 1, by omega, by first | rfl | simp | go_num, by rw [hsn.out]; exact HO.out, fun h => by omega, HF.out⟩
                case measure => simp [intOf]; omega
              · have hJKI : ¬ (J : Int) ≤ (K : Int) := by omega
                have hJKI2 : (K : Int) < (J : Int) := by omega
                have hg : Hid (quad N K J = 61) := by unfold Hid quad; rw [if_neg hJK]
                rw [hg.out] at hsn
                obtain ⟨v', W3, happ, hown', hb', hz'⟩ := bytes_app (wr := wr) hown hb hbs [61] 1 rfl _ rfl (by omega)
                have HAPP := Lib.hid happ
                have HO := Lib.hid hown'
                have HF := Lib.hid hb'
                clear happ hown' hb' hown hb hz' hv0 hbs hg
                go_wp2_with (first | (refine wpList_run rfl _ (exec_slice1 (.const (.int .u8 61)) rfl 61 rfl wr) ?_) | (refine wpList_run rfl _ (HAPP.out _ _ (.tmp 55) (.tmp 56) rfl rfl rfl) ?_))
                go_roundw
                case rel => exact ⟨J + 1, by omega, by first | rfl | simp | go_num, by rw [hsn.out]; exact HO.out, fun h => by omega, HF.out⟩
                case measure => simp [intOf]; omega
            · obtain rfl : J = 4 := by omega
              have HO := Lib.hid hown
              have HV := Lib.hid hv0
              have HB := Lib.hid hb
              have hI2 : I + 3 ≤ s.size + 2 := by omega
              obtain ⟨I2, hI3⟩ : ∃ I2, Hid (I2 = I + 3) := ⟨_, Lib.hid rfl⟩
              have hI4 : (I : Int) + 3 = (I2 : Int) := by rw [hI3.out]; omega
              have hI5 : (I2 : Int) ≤ 1002 := by rw [hI3.out]; omega
              rw [← hI3.out] at hI2 hch
              clear hown hv0 hb hbs
              have hme : Hid (s.size + 2 - I2 < s.size + 2 - I) := by unfold Hid; rw [hI3.out]; omega
              have hol3 : Hid (out.length + 4 ≤ 4 * I2) := by unfold Hid; rw [hI3.out]; omega
              clear hI
              rw [show ((4 : Nat) : Int) = (4 : Int) from rfl]
              go_wp2
              go_roundw
              case rel => exact ⟨I2, out ++ (List.range 4).map (quad N K), hI2, rfl, by rw [List.length_append, List.length_map, List.length_range]; exact HO.out, by rw [List.length_append, List.length_map, List.length_range]; exact HV.out, hch.out, by rw [List.length_append, List.length_map, List.length_range]; exact hol3.out, HB.out⟩
              case measure =>
                simp [intOf]
                have := hme.out
                omega
    · have hdn : l.drop I = [] := List.drop_eq_nil_of_le (by rw [hlen]; omega)
      have ho := HA.out
      rw [hdn, show b64 [] = [] from rfl, List.append_nil] at ho
      obtain ⟨ad, cap, rfl, hcv⟩ := own_str HO.out HV.out
      have hc1 := hcv wr (Below.refl _ _)
      obtain ⟨D, hD⟩ : ∃ D : ByteArray, Hid (D = ⟨out.toArray⟩) := ⟨_, Lib.hid rfl⟩
      rw [← hD.out] at hc1
      have HOE := Lib.hid ho
      have hltI : ¬ (I : Int) < (s.size : Int) := by omega
      have hltI2 : (s.size : Int) ≤ (I : Int) := by omega
      clear hcv HO HV HA ho hdn hl HSIX
      go_wp2
      go_ret
      exact ⟨by rw [hD.out, HOE.out]; rfl, HB.out⟩
end Go.Proofs.YtdajmekliodmcaaGreatDoor.R
