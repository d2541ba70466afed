/- sum of package scalar: two numbers below the order, added modulo it. No condition but that both are below it, and that the order stands in memory. -/
import Derived.Test.YtfcnfcolhahghaaDoorDoor
import Derived.Test.YtfcnfcolhahghaaDoorOps
import Derived.Test.YtfcnfcolhahghaaDoorSub
namespace Go.Proofs.YtfcnfcolhahghaaDoor
open Go.RowKit Go.Shelf
set_option linter.unusedVariables false
set_option linter.unusedSimpArgs false
/-- Words of a row, the first k of which have turned. -/
def mTo (f g : Nat → Nat) (k j : Nat) : Nat := if j < k then f j else g j
theorem mTo_step (f g : Nat → Nat) (k v : Nat) (hv : v = f k) : ∀ j, j < 4 → upd (mTo f g k) k v j = mTo f g (k + 1) j := by
  intro j _
  unfold upd mTo
  by_cases e : j = k
  · subst e; rw [if_pos rfl, if_pos (by omega), hv]
  · rw [if_neg e]
    by_cases h : j < k
    · rw [if_pos h, if_pos (by omega)]
    · rw [if_neg h, if_neg (by omega)]
theorem mTo_at (f g : Nat → Nat) (k : Nat) : mTo f g k k = g k := by unfold mTo; rw [if_neg (by omega)]
theorem mTo_all (f g : Nat → Nat) : ∀ j, j < 4 → mTo f g 4 j = f j := by intro j hj; unfold mTo; rw [if_pos hj]
theorem mTo_none (f g : Nat → Nat) (j : Nat) : mTo f g 0 j = g j := by unfold mTo; rw [if_neg (by omega)]
/-- What is lent, and the words of a difference. -/
def bA (a b : Nat → Nat) : Nat → Nat
  | 0 => 0
  | k + 1 => if a k < b k + bA a b k then 1 else 0
def dA (a b : Nat → Nat) (k : Nat) : Nat := (a k + 18446744073709551616 - b k - bA a b k) % 18446744073709551616
theorem bA_le (a b : Nat → Nat) : ∀ k, bA a b k ≤ 1
  | 0 => by unfold bA; omega
  | k + 1 => by unfold bA; split <;> omega
theorem miS_at (g u f : Nat → Nat) (k : Nat) (h : u k = f k) : miS g (u, bA f g k) k = (upd u k (dA f g k), bA f g (k + 1)) := by
  show (upd u k ((u k + 18446744073709551616 - g k - bA f g k) % 18446744073709551616), if u k < g k + bA f g k then 1 else 0) = _
  rw [h]
  rfl
theorem miS_all (g f : Nat → Nat) : miSt g f [0, 1, 2, 3] = (upd (upd (upd (upd f 0 (dA f g 0)) 1 (dA f g 1)) 2 (dA f g 2)) 3 (dA f g 3), bA f g 4) := by
  have e : miSt g f [0, 1, 2, 3] = miS g (miS g (miS g (miS g (f, bA f g 0) 0) 1) 2) 3 := rfl
  rw [e, miS_at g f f 0 rfl, miS_at g _ f 1 (upd_ne _ _ _ _ (by decide)), miS_at g _ f 2 (by rw [upd_ne _ _ _ _ (by decide), upd_ne _ _ _ _ (by decide)]), miS_at g _ f 3 (by rw [upd_ne _ _ _ _ (by decide), upd_ne _ _ _ _ (by decide), upd_ne _ _ _ _ (by decide)])]
theorem upd_row (f d : Nat → Nat) : rowOf .u64 4 (upd (upd (upd (upd f 0 (d 0)) 1 (d 1)) 2 (d 2)) 3 (d 3)) = rowOf .u64 4 d := by
  refine rowOf_ext ?_
  intro j hj
  unfold upd
  rcases (show j = 0 ∨ j = 1 ∨ j = 2 ∨ j = 3 by omega) with rfl | rfl | rfl | rfl <;> rfl
theorem bA_4 (x y : Nat) (hx : x < 115792089237316195423570985008687907853269984665640564039457584007913129639936) (hy : y < 115792089237316195423570985008687907853269984665640564039457584007913129639936) : (rowOf .u64 4 (dA (dig x) (dig y))).toArray = num ((x + 115792089237316195423570985008687907853269984665640564039457584007913129639936 - y) % 115792089237316195423570985008687907853269984665640564039457584007913129639936) ∧ bA (dig x) (dig y) 4 = if x < y then 1 else 0 := by
  obtain ⟨h1, h2⟩ := miSt_all x y hx hy
  rw [fin4, miS_all] at h1 h2
  have h3 := upd_row (dig x) (dA (dig x) (dig y))
  generalize dA (dig x) (dig y) = d at *
  rw [← h1, ← h3]
  exact ⟨rfl, h2⟩
/-- What the sum comes to. -/
theorem sum_val (a b : Nat) (ha : a < LL) (hb : b < LL) : (a + b) % LL = if a + b < LL then a + b else (a + b + 115792089237316195423570985008687907853269984665640564039457584007913129639936 - LL) % 115792089237316195423570985008687907853269984665640564039457584007913129639936 := by
  unfold LL at *
  split <;> omega
theorem LL_num : LL < 115792089237316195423570985008687907853269984665640564039457584007913129639936 := by decide
set_option maxRecDepth 100000 in
set_option maxHeartbeats 1000000 in
theorem sum_any (a b : Nat) (ha : a < LL) (hb : b < LL) (w : World) (hG0 : Glob w) :
    Calls Tryd.prog 24 #[.agg (num a), .agg (num b)] w fun e w' => e = .returned (.agg (num ((a + b) % LL))) ∧ Below w.heap.size w w' := by
  have hl2 : LL + LL < 115792089237316195423570985008687907853269984665640564039457584007913129639936 := by decide
  have hS : a + b < 115792089237316195423570985008687907853269984665640564039457584007913129639936 := by omega
  obtain ⟨hc1, hc2⟩ := cA_4 a b (LL_lt ha) (LL_lt hb)
  rw [Nat.mod_eq_of_lt hS] at hc1
  obtain ⟨hd1, hd2⟩ := bA_4 (a + b) LL hS LL_num
  have hsv := sum_val a b ha hb
  have HC1 := Lib.hid hc1
  have HD1 := Lib.hid hd1
  have HD2 := Lib.hid hd2
  have HSV := Lib.hid hsv
  have HCA := Lib.hid (cA_le (dig a) (dig b) (dig_lt a) (dig_lt b))
  have HBA := Lib.hid (bA_le (dig (a + b)) (dig LL))
  have IA := isNum a
  have IB := isNum b
  have HG := Lib.hid hG0
  clear hc1 hc2 hd1 hd2 hsv hl2 ha hb hG0
  obtain ⟨A, hA⟩ : ∃ A, Hid (A = num a) := ⟨_, Lib.hid rfl⟩
  obtain ⟨B, hB⟩ : ∃ B, Hid (B = num b) := ⟨_, Lib.hid rfl⟩
  obtain ⟨Z, hZ⟩ : ∃ Z, Hid (Z = num 0) := ⟨_, Lib.hid rfl⟩
  obtain ⟨L, hL⟩ : ∃ L, Hid (L = num LL) := ⟨_, Lib.hid rfl⟩
  obtain ⟨R, hR⟩ : ∃ R, Hid (R = num ((a + b) % LL)) := ⟨_, Lib.hid rfl⟩
  rw [← hA.out] at IA
  rw [← hB.out] at IB
  rw [← hA.out, ← hB.out, ← hR.out]
  have IZ : IsNum Z := by rw [hZ.out]; exact isNum _
  have IZ2 := IZ.size
  have IL : IsNum L := by rw [hL.out]; exact isNum _
  have HZ2 : ∀ w, (zeroValue 24).run Tryd.prog w = .ok (.agg Z) w := by rw [hZ.out]; exact zero_run
  have HIB : Hid (∀ k : Nat, k < 4 → ∀ w, (Instr.index 24 (.agg B) (.int .i64 (k : Int))).run Tryd.prog w = .ok (.int .u64 (dig b k)) w) := by rw [hB.out]; exact Lib.hid (index24 (dig b))
  have HIL : Hid (∀ k : Nat, k < 4 → ∀ w, (Instr.index 24 (.agg L) (.int .i64 (k : Int))).run Tryd.prog w = .ok (.int .u64 (dig LL k)) w) := by rw [hL.out]; exact Lib.hid (index24 (dig LL))
  have HS0 : Kn w [(w.heap.size, A), (w.heap.size + 1, B), (w.heap.size + 1 + 1, Z)] (((w.alloc (.cells A 24)).alloc (.cells B 24)).alloc (.cells Z 24)) := by
    have h := (((Kn.nil w).new A).new B).new Z
    simp only [World.size_alloc] at h
    exact h.sub (fun p hp => by simp at hp ⊢; rcases hp with h | h | h <;> simp [h])
  have HS := Lib.hid HS0
  clear HS0
  go_enter Tryd.func24, Tryd.ntmps24
  go_upto_region 2 with ((refine wpList_run rfl _ (exec_alloc_agg _ 24 rfl _ (HZ2 _)) ?_); try simp only [World.size_alloc])
  try simp only [Act.put, List.setIfInBounds_toArray, List.set_cons_succ, List.set_cons_zero]
  generalize ((w.alloc (.cells A 24)).alloc (.cells B 24)).alloc (.cells Z 24) = W0 at *
  have hl1 := HS.out.load (w.heap.size + 1) B (by simp) IB
  go_wp2_with (refine wpList_run rfl _ (exec_load_of _ 24 (.tmp 3) rfl ⟨w.heap.size + 1, 0, none⟩ rfl (.agg B) hl1) ?_)
  clear hl1
  go_loopw [5, 13] (fun c i wr => ∃ k : Nat, k ≤ 4 ∧ c = .int .u64 (cA (dig a) (dig b) k : Int) ∧ i = .int .i64 k ∧ Kn w [(w.heap.size, (rowOf .u64 4 (mTo (tA (dig a) (dig b)) (dig a) k)).toArray), (w.heap.size + 1 + 1, Z)] wr) (fun _ i _ => 4 - (intOf i).toNat)
  case atStart => exact ⟨0, by omega, rfl, rfl, by
    rw [rowOf_ext (fun j _ => mTo_none (tA (dig a) (dig b)) (dig a) j)]
    have h := HS.out.sub (m := [(w.heap.size, A), (w.heap.size + 1 + 1, Z)]) (fun p hp => by simp at hp ⊢; rcases hp with h | h <;> simp [h])
    rw [hA.out] at h
    exact h⟩
  case round =>
    clear HS
    obtain ⟨k, hk, rfl, rfl, hK0⟩ := hrel
    have HK := Lib.hid hK0
    clear hK0
    by_cases hlt : k < 4
    · have hr := HK.out.row (w.heap.size) (mTo (tA (dig a) (dig b)) (dig a) k) (by simp)
      have ck := hr.cell k hlt
      rw [mTo_at] at ck
      have fk := hr.free k
      have hix := HIB.out k hlt
      have A1 := add64_run (dig a k) (dig b k) (cA (dig a) (dig b) k) (HCA.out k)
      have HN0 : Kn w [(w.heap.size, (rowOf .u64 4 (mTo (tA (dig a) (dig b)) (dig a) (k + 1))).toArray), (w.heap.size + 1 + 1, Z)] (wr.setCell ⟨w.heap.size, k, none⟩ (.int .u64 ((tA (dig a) (dig b) k : Nat) : Int))) := by
        rw [← rowOf_ext (mTo_step (tA (dig a) (dig b)) (dig a) k _ rfl)]
        exact HK.out.setw (w.heap.size) (mTo (tA (dig a) (dig b)) (dig a) k) k _ hr (by omega) (fun p hp => by simp at hp; rcases hp with rfl | rfl <;> simp <;> omega)
      have HN := Lib.hid HN0
      rw [show (dig a k + dig b k + cA (dig a) (dig b) k) / 18446744073709551616 = cA (dig a) (dig b) (k + 1) from rfl, show (dig a k + dig b k + cA (dig a) (dig b) k) % 18446744073709551616 = tA (dig a) (dig b) k from rfl] at A1
      generalize tA (dig a) (dig b) k = t at *
      generalize dig a k = x at *
      generalize dig b k = y at *
      generalize cA (dig a) (dig b) k = c at *
      generalize hc2 : cA (dig a) (dig b) (k + 1) = c2 at *
      have HC2 := Lib.hid hc2
      have hltI : (k : Int) < 4 := by omega
      clear HN0 hr HK hc2 HCA HBA HC1 HD1 HD2 HSV
      go_wp2_with (first | (refine wpList_run rfl _ (exec_indexAddr24 (.tmp 2) (.tmp 19) rfl (w.heap.size) k rfl rfl hlt _) ?_) | (refine wpList_run rfl _ (exec_indexAddr24 (.tmp 2) (.tmp 18) rfl (w.heap.size) k rfl rfl hlt _) ?_))
      go_roundw
      case rel => exact ⟨k + 1, by omega, by rw [HC2.out], by first | rfl | simp | go_num, HN.out⟩
      case measure => simp [intOf]; omega
    · obtain rfl : k = 4 := by omega
      rw [show ((4 : Nat) : Int) = (4 : Int) from rfl]
      obtain ⟨S, hS⟩ : ∃ S, Hid (S = num (a + b)) := ⟨_, Lib.hid rfl⟩
      have IS : IsNum S := by rw [hS.out]; exact isNum _
      have hrow : (rowOf .u64 4 (mTo (tA (dig a) (dig b)) (dig a) 4)).toArray = S := by
        rw [hS.out, rowOf_ext (mTo_all (tA (dig a) (dig b)) (dig a)), rowOf_ext HC1.out]
        rfl
      rw [hrow] at HK
      clear hrow HC1 HCA HIB
      have hl2 := HK.out.load (w.heap.size) S (by simp) IS
      generalize cA (dig a) (dig b) 4 = c4 at *
      go_upto_region 8 with (first | (refine wpList_run rfl _ (exec_load_of _ 24 (.tmp 2) rfl ⟨w.heap.size, 0, none⟩ rfl (.agg S) hl2) ?_) | ((refine wpList_run rfl _ (exec_alloc_agg _ 24 rfl _ (HZ2 _)) ?_); try simp only [World.size_alloc]) | (refine wpList_run0 rfl (exec_new24 _ (.tmp 8) (.tmp 29) rfl _ _ rfl S IS rfl IZ2) ?_))
      try simp only [Act.put, List.setIfInBounds_toArray, List.set_cons_succ, List.set_cons_zero]
      have HK3_ : Kn w [(w.heap.size, S), (w.heap.size + 1 + 1, Z), (wr.heap.size, S)] (wr.alloc (.cells S 24)) := (HK.out.new S).sub (fun p hp => by simp at hp ⊢; rcases hp with h | h | h <;> simp [h])
      have HK3 := Lib.hid HK3_
      have hsz := HK.out.1.size
      have hne : w.heap.size + 1 + 1 < wr.heap.size := HK.out.lt _ Z (by simp)
      clear HK3_ HK hl2
      have hG3 := HG.out.kn HK3.out
      have hlg : (loadVar 24 ⟨0, 0, none⟩).run Tryd.prog (wr.alloc (.cells S 24)) = .ok (.agg L) (wr.alloc (.cells S 24)) := by rw [hL.out]; exact hG3.load
      generalize wr.alloc (.cells S 24) = W3 at *
      generalize wr.heap.size = g at *
      go_wp2_with (refine wpList_run rfl _ (exec_load_of _ 24 (.global 0) rfl ⟨0, 0, none⟩ rfl (.agg L) hlg) ?_)
      clear hlg hG3 HG
      go_loopw [9, 31] (fun c i wr => ∃ k : Nat, k ≤ 4 ∧ c = .int .u64 (bA (dig (a + b)) (dig LL) k : Int) ∧ i = .int .i64 k ∧ Kn w [(w.heap.size, S), (w.heap.size + 1 + 1, Z), (g, (rowOf .u64 4 (mTo (dA (dig (a + b)) (dig LL)) (dig (a + b)) k)).toArray)] wr) (fun _ i _ => 4 - (intOf i).toNat)
      case atStart => exact ⟨0, by omega, rfl, rfl, by
        rw [rowOf_ext (fun j _ => mTo_none (dA (dig (a + b)) (dig LL)) (dig (a + b)) j)]
        have h := HK3.out
        rw [hS.out] at h ⊢
        exact h⟩
      case round =>
        clear HK3
        obtain ⟨k, hk, rfl, rfl, hK0⟩ := hrel
        have HK := Lib.hid hK0
        clear hK0
        by_cases hlt : k < 4
        · have hr := HK.out.row g (mTo (dA (dig (a + b)) (dig LL)) (dig (a + b)) k) (by simp)
          have ck := HK.out.nat (w.heap.size) (a + b) (by rw [← hS.out]; simp) k hlt
          have fk := hr.free k
          have hg0 := hr.cell k hlt
          have hix := HIL.out k hlt
          have A1 := sub64_run (dig (a + b) k) (dig LL k) (bA (dig (a + b)) (dig LL) k) (HBA.out k)
          have HN0 : Kn w [(w.heap.size, S), (w.heap.size + 1 + 1, Z), (g, (rowOf .u64 4 (mTo (dA (dig (a + b)) (dig LL)) (dig (a + b)) (k + 1))).toArray)] (wr.setCell ⟨g, k, none⟩ (.int .u64 ((dA (dig (a + b)) (dig LL) k : Nat) : Int))) := by
            rw [← rowOf_ext (mTo_step (dA (dig (a + b)) (dig LL)) (dig (a + b)) k _ rfl)]
            exact HK.out.setw g (mTo (dA (dig (a + b)) (dig LL)) (dig (a + b)) k) k _ hr (by omega) (fun p hp => by simp at hp; rcases hp with rfl | rfl | rfl <;> simp <;> omega)
          have HN := Lib.hid HN0
          rw [show (if dig (a + b) k < dig LL k + bA (dig (a + b)) (dig LL) k then 1 else 0) = bA (dig (a + b)) (dig LL) (k + 1) from rfl, show (dig (a + b) k + 18446744073709551616 - dig LL k - bA (dig (a + b)) (dig LL) k) % 18446744073709551616 = dA (dig (a + b)) (dig LL) k from rfl] at A1
          generalize mTo (dA (dig (a + b)) (dig LL)) (dig (a + b)) k k = old at *
          generalize dA (dig (a + b)) (dig LL) k = t at *
          generalize dig (a + b) k = x at *
          generalize dig LL k = y at *
          generalize bA (dig (a + b)) (dig LL) k = c at *
          generalize hc2 : bA (dig (a + b)) (dig LL) (k + 1) = c2 at *
          have HC2 := Lib.hid hc2
          have hltI : (k : Int) < 4 := by omega
          clear HN0 hr HK hc2 HBA HD1 HD2 HSV
          go_wp2_with (first | (refine wpList_run rfl _ (exec_indexAddr24 (.tmp 2) (.tmp 37) rfl (w.heap.size) k rfl rfl hlt _) ?_) | (refine wpList_run rfl _ (exec_indexAddr24 (.tmp 8) (.tmp 36) rfl g k rfl rfl hlt _) ?_))
          go_roundw
          case rel => exact ⟨k + 1, by omega, by rw [HC2.out], by first | rfl | simp | go_num, HN.out⟩
          case measure => simp [intOf]; omega
        · obtain rfl : k = 4 := by omega
          rw [show ((4 : Nat) : Int) = (4 : Int) from rfl]
          obtain ⟨D, hD⟩ : ∃ D, Hid (D = num ((a + b + 115792089237316195423570985008687907853269984665640564039457584007913129639936 - LL) % 115792089237316195423570985008687907853269984665640564039457584007913129639936)) := ⟨_, Lib.hid rfl⟩
          have ID : IsNum D := by rw [hD.out]; exact isNum _
          have hrow : (rowOf .u64 4 (mTo (dA (dig (a + b)) (dig LL)) (dig (a + b)) 4)).toArray = D := by
            rw [hD.out, rowOf_ext (mTo_all (dA (dig (a + b)) (dig LL)) (dig (a + b))), HD1.out]
          rw [hrow] at HK
          clear hrow HD1 HBA HIL
          have hle := HD2.out
          generalize bA (dig (a + b)) (dig LL) 4 = b4 at *
          by_cases hlt2 : a + b < LL
          · rw [if_pos hlt2] at hle
            subst hle
            have hRS : R = S := by rw [hR.out, hS.out, HSV.out, if_pos hlt2]
            subst hRS
            have hl5 := HK.out.load (w.heap.size) R (by simp) IS
            clear HSV HD2 hlt2 hR hS hlt hk
            go_wp2_with (first | (refine wpList_run rfl _ (exec_load_of _ 24 (.tmp 2) rfl ⟨w.heap.size, 0, none⟩ rfl (.agg R) hl5) ?_) | (refine wpList_run0 rfl (exec_store_kn (w0 := w) (l := [(w.heap.size, R), (w.heap.size + 1 + 1, Z), (g, D)]) _ HK.out (.tmp 4) (.tmp 49) rfl (w.heap.size + 1 + 1) rfl R IS rfl Z IZ (by simp)) ?_))
            have HSZ : Kn w [(w.heap.size + 1 + 1, R)] (World.setRow _ (w.heap.size + 1 + 1) R) := HK.out.set (w.heap.size + 1 + 1) R Z (HK.out.get (w.heap.size + 1 + 1) Z (by simp)) (by omega) (fun p hp => by simp at hp; subst hp; simp)
            exact bodyPost_ret (results_cell rfl _ _ _ ⟨w.heap.size + 1 + 1, 0, none⟩ rfl _ (HSZ.load (w.heap.size + 1 + 1) R (by simp) IS)) rfl ⟨rfl, HSZ.1⟩
          · rw [if_neg hlt2] at hle
            subst hle
            have hRS : R = D := by rw [hR.out, hD.out, HSV.out, if_neg hlt2]
            subst hRS
            have hl5 := HK.out.load g R (by simp) ID
            clear HSV HD2 hlt2 hR hD hlt hk
            go_wp2_with (first | (refine wpList_run rfl _ (exec_load_of _ 24 (.tmp 8) rfl ⟨g, 0, none⟩ rfl (.agg R) hl5) ?_) | (refine wpList_run0 rfl (exec_store_kn (w0 := w) (l := [(w.heap.size, S), (w.heap.size + 1 + 1, Z), (g, R)]) _ HK.out (.tmp 4) (.tmp 50) rfl (w.heap.size + 1 + 1) rfl R ID rfl Z IZ (by simp)) ?_))
            have HSZ : Kn w [(w.heap.size + 1 + 1, R)] (World.setRow _ (w.heap.size + 1 + 1) R) := HK.out.set (w.heap.size + 1 + 1) R Z (HK.out.get (w.heap.size + 1 + 1) Z (by simp)) (by omega) (fun p hp => by simp at hp; subst hp; simp)
            exact bodyPost_ret (results_cell rfl _ _ _ ⟨w.heap.size + 1 + 1, 0, none⟩ rfl _ (HSZ.load (w.heap.size + 1 + 1) R (by simp) ID)) rfl ⟨rfl, HSZ.1⟩
end Go.Proofs.YtfcnfcolhahghaaDoor
