/- Several texts, one behind the other; each says by itself what it proves, and on what conditions. -/
import Derived.Test.YtdajmekliodmcaaGreatDoorK22
namespace Go.Proofs.YtdajmekliodmcaaGreatDoor.S7
open Go.Proofs.YtdajmekliodmcaaGreatDoor.P8
open Go.RowKit Go.Shelf
set_option linter.unusedVariables false
set_option linter.unusedSimpArgs false
def mTo (f g : Nat → Nat) (k j : Nat) : Nat := if j < k then f j else g j
theorem mTo_step (f g : Nat → Nat) (k v : Nat) (hv : v = f k) : ∀ j, j < 4 → upd (mTo f g k) k v j = mTo f g (k + 1) j := by
  intro j _
  unfold upd mTo
  by_cases e : j = k
  · subst e; rw [if_pos rfl, if_pos (by omega), hv]
  · rw [if_neg e]
    by_cases h : j < k
    · rw [if_pos h, if_pos (by omega)]
    · rw [if_neg h, if_neg (by omega)]
theorem mTo_at (f g : Nat → Nat) (k : Nat) : mTo f g k k = g k := by unfold mTo; rw [if_neg (by omega)]
theorem mTo_all (f g : Nat → Nat) : ∀ j, j < 4 → mTo f g 4 j = f j := by intro j hj; unfold mTo; rw [if_pos hj]
theorem mTo_none (f g : Nat → Nat) (j : Nat) : mTo f g 0 j = g j := by unfold mTo; rw [if_neg (by omega)]
def bA (a b : Nat → Nat) : Nat → Nat
  | 0 => 0
  | k + 1 => if a k < b k + bA a b k then 1 else 0
def dA (a b : Nat → Nat) (k : Nat) : Nat := (a k + 18446744073709551616 - b k - bA a b k) % 18446744073709551616
theorem bA_le (a b : Nat → Nat) : ∀ k, bA a b k ≤ 1
  | 0 => by unfold bA; omega
  | k + 1 => by unfold bA; split <;> omega
theorem miS_at (g u f : Nat → Nat) (k : Nat) (h : u k = f k) : miS g (u, bA f g k) k = (upd u k (dA f g k), bA f g (k + 1)) := by
  show (upd u k ((u k + 18446744073709551616 - g k - bA f g k) % 18446744073709551616), if u k < g k + bA f g k then 1 else 0) = _
  rw [h]
  rfl
theorem miS_all (g f : Nat → Nat) : miSt g f [0, 1, 2, 3] = (upd (upd (upd (upd f 0 (dA f g 0)) 1 (dA f g 1)) 2 (dA f g 2)) 3 (dA f g 3), bA f g 4) := by
  have e : miSt g f [0, 1, 2, 3] = miS g (miS g (miS g (miS g (f, bA f g 0) 0) 1) 2) 3 := rfl
  rw [e, miS_at g f f 0 rfl, miS_at g _ f 1 (upd_ne _ _ _ _ (by decide)), miS_at g _ f 2 (by rw [upd_ne _ _ _ _ (by decide), upd_ne _ _ _ _ (by decide)]), miS_at g _ f 3 (by rw [upd_ne _ _ _ _ (by decide), upd_ne _ _ _ _ (by decide), upd_ne _ _ _ _ (by decide)])]
theorem upd_row (f d : Nat → Nat) : rowOf .u64 4 (upd (upd (upd (upd f 0 (d 0)) 1 (d 1)) 2 (d 2)) 3 (d 3)) = rowOf .u64 4 d := by
  refine rowOf_ext ?_
  intro j hj
  unfold upd
  rcases (show j = 0 ∨ j = 1 ∨ j = 2 ∨ j = 3 by omega) with rfl | rfl | rfl | rfl <;> rfl
theorem bA_4 (x y : Nat) (hx : x < 115792089237316195423570985008687907853269984665640564039457584007913129639936) (hy : y < 115792089237316195423570985008687907853269984665640564039457584007913129639936) : (rowOf .u64 4 (dA (dig x) (dig y))).toArray = num ((x + 115792089237316195423570985008687907853269984665640564039457584007913129639936 - y) % 115792089237316195423570985008687907853269984665640564039457584007913129639936) ∧ bA (dig x) (dig y) 4 = if x < y then 1 else 0 := by
  obtain ⟨h1, h2⟩ := miSt_all x y hx hy
  rw [fin4, miS_all] at h1 h2
  have h3 := upd_row (dig x) (dA (dig x) (dig y))
  generalize dA (dig x) (dig y) = d at *
  rw [← h1, ← h3]
  exact ⟨rfl, h2⟩
theorem sum_val (a b : Nat) (ha : a < LL) (hb : b < LL) : (a + b) % LL = if a + b < LL then a + b else (a + b + 115792089237316195423570985008687907853269984665640564039457584007913129639936 - LL) % 115792089237316195423570985008687907853269984665640564039457584007913129639936 := by
  unfold LL at *
  split <;> omega
theorem LL_num : LL < 115792089237316195423570985008687907853269984665640564039457584007913129639936 := by decide
set_option maxRecDepth 100000 in
set_option maxHeartbeats 1000000 in
theorem sum_any (a b : Nat) (ha : a < LL) (hb : b < LL) (w : World) (hG0 : Glob w) :
    Calls Tryz.prog 75 #[.agg (num a), .agg (num b)] w fun e w' => e = .returned (.agg (num ((a + b) % LL))) ∧ Below w.heap.size w w' := by
  have hl2 : LL + LL < 115792089237316195423570985008687907853269984665640564039457584007913129639936 := by decide
  have hS : a + b < 115792089237316195423570985008687907853269984665640564039457584007913129639936 := by omega
  obtain ⟨hc1, hc2⟩ := cA_4 a b (LL_lt ha) (LL_lt hb)
  rw [Nat.mod_eq_of_lt hS] at hc1
  obtain ⟨hd1, hd2⟩ := bA_4 (a + b) LL hS LL_num
  have hsv := sum_val a b ha hb
  have HC1 := Lib.hid hc1
  have HD1 := Lib.hid hd1
  have HD2 := Lib.hid hd2
  have HSV := Lib.hid hsv
  have HCA := Lib.hid (cA_le (dig a) (dig b) (dig_lt a) (dig_lt b))
  have HBA := Lib.hid (bA_le (dig (a + b)) (dig LL))
  have IA := isNum a
  have IB := isNum b
  have HG := Lib.hid hG0
  clear hc1 hc2 hd1 hd2 hsv hl2 ha hb hG0
  obtain ⟨A, hA⟩ : ∃ A, Hid (A = num a) := ⟨_, Lib.hid rfl⟩
  obtain ⟨B, hB⟩ : ∃ B, Hid (B = num b) := ⟨_, Lib.hid rfl⟩
  obtain ⟨Z, hZ⟩ : ∃ Z, Hid (Z = num 0) := ⟨_, Lib.hid rfl⟩
  obtain ⟨L, hL⟩ : ∃ L, Hid (L = num LL) := ⟨_, Lib.hid rfl⟩
  obtain ⟨R, hR⟩ : ∃ R, Hid (R = num ((a + b) % LL)) := ⟨_, Lib.hid rfl⟩
  rw [← hA.out] at IA
  rw [← hB.out] at IB
  rw [← hA.out, ← hB.out, ← hR.out]
  have IZ : IsNum Z := by rw [hZ.out]; exact isNum _
  have IZ2 := IZ.size
  have IL : IsNum L := by rw [hL.out]; exact isNum _
  have HZ2 : ∀ w, (zeroValue 36).run Tryz.prog w = .ok (.agg Z) w := by rw [hZ.out]; exact zero_run
  have HIB : Hid (∀ k : Nat, k < 4 → ∀ w, (Instr.index 36 (.agg B) (.int .i64 (k : Int))).run Tryz.prog w = .ok (.int .u64 (dig b k)) w) := by rw [hB.out]; exact Lib.hid (index24 (dig b))
  have HIL : Hid (∀ k : Nat, k < 4 → ∀ w, (Instr.index 36 (.agg L) (.int .i64 (k : Int))).run Tryz.prog w = .ok (.int .u64 (dig LL k)) w) := by rw [hL.out]; exact Lib.hid (index24 (dig LL))
  have HS0 : Kn w [(w.heap.size, A), (w.heap.size + 1, B), (w.heap.size + 1 + 1, Z)] (((w.alloc (.cells A 36)).alloc (.cells B 36)).alloc (.cells Z 36)) := by
    have h := (((Kn.nil w).new A).new B).new Z
    simp only [World.size_alloc] at h
    exact h.sub (fun p hp => by simp at hp ⊢; rcases hp with h | h | h <;> simp [h])
  have HS := Lib.hid HS0
  clear HS0
  go_enter Tryz.func75, Tryz.ntmps75
  go_upto_region 2 with ((refine wpList_run rfl _ (exec_alloc_agg _ 36 rfl _ (HZ2 _)) ?_); try simp only [World.size_alloc])
  try simp only [Act.put, sT, sS, sZ]
  generalize ((w.alloc (.cells A 36)).alloc (.cells B 36)).alloc (.cells Z 36) = W0 at *
  have hl1 := HS.out.load (w.heap.size + 1) B (by simp) IB
  go_wp2_with (refine wpList_run rfl _ (exec_load_of _ 36 (.tmp 3) rfl ⟨w.heap.size + 1, 0, none⟩ rfl (.agg B) hl1) ?_)
  clear hl1
  go_loopw [5, 13] (fun c i wr => ∃ k : Nat, k ≤ 4 ∧ c = .int .u64 (cA (dig a) (dig b) k : Int) ∧ i = .int .i64 k ∧ Kn w [(w.heap.size, (rowOf .u64 4 (mTo (tA (dig a) (dig b)) (dig a) k)).toArray), (w.heap.size + 1 + 1, Z)] wr) (fun _ i _ => 4 - (intOf i).toNat)
  case atStart => exact ⟨0, by omega, rfl, rfl, by
    rw [rowOf_ext (fun j _ => mTo_none (tA (dig a) (dig b)) (dig a) j)]
    have h := HS.out.sub (m := [(w.heap.size, A), (w.heap.size + 1 + 1, Z)]) (fun p hp => by simp at hp ⊢; rcases hp with h | h <;> simp [h])
    rw [hA.out] at h
    exact h⟩
  case round =>
    clear HS
    obtain ⟨k, hk, rfl, rfl, hK0⟩ := hrel
    have HK := Lib.hid hK0
    clear hK0
    by_cases hlt : k < 4
    · have hr := HK.out.row (w.heap.size) (mTo (tA (dig a) (dig b)) (dig a) k) (by simp)
      have ck := hr.cell k hlt
      rw [mTo_at] at ck
      have fk := hr.free k
      have hix := HIB.out k hlt
      have A1 := add64_run (dig a k) (dig b k) (cA (dig a) (dig b) k) (HCA.out k)
      have HN0 : Kn w [(w.heap.size, (rowOf .u64 4 (mTo (tA (dig a) (dig b)) (dig a) (k + 1))).toArray), (w.heap.size + 1 + 1, Z)] (wr.setCell ⟨w.heap.size, k, none⟩ (.int .u64 ((tA (dig a) (dig b) k : Nat) : Int))) := by
        rw [← rowOf_ext (mTo_step (tA (dig a) (dig b)) (dig a) k _ rfl)]
        exact HK.out.setw (w.heap.size) (mTo (tA (dig a) (dig b)) (dig a) k) k _ hr (by omega) (fun p hp => by simp at hp; rcases hp with rfl | rfl <;> simp <;> omega)
      have HN := Lib.hid HN0
      rw [show (dig a k + dig b k + cA (dig a) (dig b) k) / 18446744073709551616 = cA (dig a) (dig b) (k + 1) from rfl, show (dig a k + dig b k + cA (dig a) (dig b) k) % 18446744073709551616 = tA (dig a) (dig b) k from rfl] at A1
      generalize tA (dig a) (dig b) k = t at *
      generalize dig a k = x at *
      generalize dig b k = y at *
      generalize cA (dig a) (dig b) k = c at *
      generalize hc2 : cA (dig a) (dig b) (k + 1) = c2 at *
      have HC2 := Lib.hid hc2
      have hltI : (k : Int) < 4 := by omega
      clear HN0 hr HK hc2 HCA HBA HC1 HD1 HD2 HSV
      go_wp2_with (first | (refine wpList_run rfl _ (exec_indexAddr24 (.tmp 2) (.tmp 19) rfl (w.heap.size) k rfl rfl hlt _) ?_) | (refine wpList_run rfl _ (exec_indexAddr24 (.tmp 2) (.tmp 18) rfl (w.heap.size) k rfl rfl hlt _) ?_))
      go_roundw
      case rel => exact ⟨k + 1, by omega, by rw [HC2.out], by first | rfl | simp | go_num, HN.out⟩
      case measure => simp [intOf]; omega
    · obtain rfl : k = 4 := by omega
      rw [show ((4 : Nat) : Int) = (4 : Int) from rfl]
      obtain ⟨S, hS⟩ : ∃ S, Hid (S = num (a + b)) := ⟨_, Lib.hid rfl⟩
      have IS : IsNum S := by rw [hS.out]; exact isNum _
      have hrow : (rowOf .u64 4 (mTo (tA (dig a) (dig b)) (dig a) 4)).toArray = S := by
        rw [hS.out, rowOf_ext (mTo_all (tA (dig a) (dig b)) (dig a)), rowOf_ext HC1.out]
        rfl
      rw [hrow] at HK
      clear hrow HC1 HCA HIB
      have hl2 := HK.out.load (w.heap.size) S (by simp) IS
      generalize cA (dig a) (dig b) 4 = c4 at *
      go_upto_region 8 with (first | (refine wpList_run rfl _ (exec_load_of _ 36 (.tmp 2) rfl ⟨w.heap.size, 0, none⟩ rfl (.agg S) hl2) ?_) | ((refine wpList_run rfl _ (exec_alloc_agg _ 36 rfl _ (HZ2 _)) ?_); try simp only [World.size_alloc]) | (refine wpList_run0 rfl (exec_new24 _ (.tmp 8) (.tmp 29) rfl _ _ rfl S IS rfl IZ2) ?_))
      try simp only [Act.put, sT, sS, sZ]
      have HK3_ : Kn w [(w.heap.size, S), (w.heap.size + 1 + 1, Z), (wr.heap.size, S)] (wr.alloc (.cells S 36)) := (HK.out.new S).sub (fun p hp => by simp at hp ⊢; rcases hp with h | h | h <;> simp [h])
      have HK3 := Lib.hid HK3_
      have hsz := HK.out.1.size
      have hne : w.heap.size + 1 + 1 < wr.heap.size := HK.out.lt _ Z (by simp)
      clear HK3_ HK hl2
      have hG3 := HG.out.kn HK3.out
      have hlg : (loadVar 36 ⟨1, 0, none⟩).run Tryz.prog (wr.alloc (.cells S 36)) = .ok (.agg L) (wr.alloc (.cells S 36)) := by rw [hL.out]; exact hG3.load
      generalize wr.alloc (.cells S 36) = W3 at *
      generalize wr.heap.size = g at *
      go_wp2_with (refine wpList_run rfl _ (exec_load_of _ 36 (.global 1) rfl ⟨1, 0, none⟩ rfl (.agg L) hlg) ?_)
      clear hlg hG3 HG
      go_loopw [9, 31] (fun c i wr => ∃ k : Nat, k ≤ 4 ∧ c = .int .u64 (bA (dig (a + b)) (dig LL) k : Int) ∧ i = .int .i64 k ∧ Kn w [(w.heap.size, S), (w.heap.size + 1 + 1, Z), (g, (rowOf .u64 4 (mTo (dA (dig (a + b)) (dig LL)) (dig (a + b)) k)).toArray)] wr) (fun _ i _ => 4 - (intOf i).toNat)
      case atStart => exact ⟨0, by omega, rfl, rfl, by
        rw [rowOf_ext (fun j _ => mTo_none (dA (dig (a + b)) (dig LL)) (dig (a + b)) j)]
        have h := HK3.out
        rw [hS.out] at h ⊢
        exact h⟩
      case round =>
        clear HK3
        obtain ⟨k, hk, rfl, rfl, hK0⟩ := hrel
        have HK := Lib.hid hK0
        clear hK0
        by_cases hlt : k < 4
        · have hr := HK.out.row g (mTo (dA (dig (a + b)) (dig LL)) (dig (a + b)) k) (by simp)
          have ck := HK.out.nat (w.heap.size) (a + b) (by rw [← hS.out]; simp) k hlt
          have fk := hr.free k
          have hg0 := hr.cell k hlt
          have hix := HIL.out k hlt
          have A1 := sub64_run (dig (a + b) k) (dig LL k) (bA (dig (a + b)) (dig LL) k) (HBA.out k)
          have HN0 : Kn w [(w.heap.size, S), (w.heap.size + 1 + 1, Z), (g, (rowOf .u64 4 (mTo (dA (dig (a + b)) (dig LL)) (dig (a + b)) (k + 1))).toArray)] (wr.setCell ⟨g, k, none⟩ (.int .u64 ((dA (dig (a + b)) (dig LL) k : Nat) : Int))) := by
            rw [← rowOf_ext (mTo_step (dA (dig (a + b)) (dig LL)) (dig (a + b)) k _ rfl)]
            exact HK.out.setw g (mTo (dA (dig (a + b)) (dig LL)) (dig (a + b)) k) k _ hr (by omega) (fun p hp => by simp at hp; rcases hp with rfl | rfl | rfl <;> simp <;> omega)
          have HN := Lib.hid HN0
          rw [show (if dig (a + b) k < dig LL k + bA (dig (a + b)) (dig LL) k then 1 else 0) = bA (dig (a + b)) (dig LL) (k + 1) from rfl, show (dig (a + b) k + 18446744073709551616 - dig LL k - bA (dig (a + b)) (dig LL) k) % 18446744073709551616 = dA (dig (a + b)) (dig LL) k from rfl] at A1
          generalize mTo (dA (dig (a + b)) (dig LL)) (dig (a + b)) k k = old at *
          generalize dA (dig (a + b)) (dig LL) k = t at *
          generalize dig (a + b) k = x at *
          generalize dig LL k = y at *
          generalize bA (dig (a + b)) (dig LL) k = c at *
          generalize hc2 : bA (dig (a + b)) (dig LL) (k + 1) = c2 at *
          have HC2 := Lib.hid hc2
          have hltI : (k : Int) < 4 := by omega
          clear HN0 hr HK hc2 HBA HD1 HD2 HSV
          go_wp2_with (first | (refine wpList_run rfl _ (exec_indexAddr24 (.tmp 2) (.tmp 37) rfl (w.heap.size) k rfl rfl hlt _) ?_) | (refine wpList_run rfl _ (exec_indexAddr24 (.tmp 8) (.tmp 36) rfl g k rfl rfl hlt _) ?_))
          go_roundw
          case rel => exact ⟨k + 1, by omega, by rw [HC2.out], by first | rfl | simp | go_num, HN.out⟩
          case measure => simp [intOf]; omega
        · obtain rfl : k = 4 := by omega
          rw [show ((4 : Nat) : Int) = (4 : Int) from rfl]
          obtain ⟨D, hD⟩ : ∃ D, Hid (D = num ((a + b + 115792089237316195423570985008687907853269984665640564039457584007913129639936 - LL) % 115792089237316195423570985008687907853269984665640564039457584007913129639936)) := ⟨_, Lib.hid rfl⟩
          have ID : IsNum D := by rw [hD.out]; exact isNum _
          have hrow : (rowOf .u64 4 (mTo (dA (dig (a + b)) (dig LL)) (dig (a + b)) 4)).toArray = D := by
            rw [hD.out, rowOf_ext (mTo_all (dA (dig (a + b)) (dig LL)) (dig (a + b))), HD1.out]
          rw [hrow] at HK
          clear hrow HD1 HBA HIL
          have hle := HD2.out
          generalize bA (dig (a + b)) (dig LL) 4 = b4 at *
          by_cases hlt2 : a + b < LL
          · rw [if_pos hlt2] at hle
            subst hle
            have hRS : R = S := by rw [hR.out, hS.out, HSV.out, if_pos hlt2]
            subst hRS
            have hl5 := HK.out.load (w.heap.size) R (by simp) IS
            clear HSV HD2 hlt2 hR hS hlt hk
            go_wp2_with (first | (refine wpList_run rfl _ (exec_load_of _ 36 (.tmp 2) rfl ⟨w.heap.size, 0, none⟩ rfl (.agg R) hl5) ?_) | (refine wpList_run0 rfl (exec_store_kn (w0 := w) (l := [(w.heap.size, R), (w.heap.size + 1 + 1, Z), (g, D)]) _ HK.out (.tmp 4) (.tmp 49) rfl (w.heap.size + 1 + 1) rfl R IS rfl Z IZ (by simp)) ?_))
            have HSZ : Kn w [(w.heap.size + 1 + 1, R)] (World.setRow _ (w.heap.size + 1 + 1) R) := HK.out.set (w.heap.size + 1 + 1) R Z (HK.out.get (w.heap.size + 1 + 1) Z (by simp)) (by omega) (fun p hp => by simp at hp; subst hp; simp)
            exact bodyPost_ret (results_cell rfl _ _ _ ⟨w.heap.size + 1 + 1, 0, none⟩ rfl _ (HSZ.load (w.heap.size + 1 + 1) R (by simp) IS)) rfl ⟨rfl, HSZ.1⟩
          · rw [if_neg hlt2] at hle
            subst hle
            have hRS : R = D := by rw [hR.out, hD.out, HSV.out, if_neg hlt2]
            subst hRS
            have hl5 := HK.out.load g R (by simp) ID
            clear HSV HD2 hlt2 hR hD hlt hk
            go_wp2_with (first | (refine wpList_run rfl _ (exec_load_of _ 36 (.tmp 8) rfl ⟨g, 0, none⟩ rfl (.agg R) hl5) ?_) | (refine wpList_run0 rfl (exec_store_kn (w0 := w) (l := [(w.heap.size, S), (w.heap.size + 1 + 1, Z), (g, R)]) _ HK.out (.tmp 4) (.tmp 50) rfl (w.heap.size + 1 + 1) rfl R ID rfl Z IZ (by simp)) ?_))
            have HSZ : Kn w [(w.heap.size + 1 + 1, R)] (World.setRow _ (w.heap.size + 1 + 1) R) := HK.out.set (w.heap.size + 1 + 1) R Z (HK.out.get (w.heap.size + 1 + 1) Z (by simp)) (by omega) (fun p hp => by simp at hp; subst hp; simp)
            exact bodyPost_ret (results_cell rfl _ _ _ ⟨w.heap.size + 1 + 1, 0, none⟩ rfl _ (HSZ.load (w.heap.size + 1 + 1) R (by simp) ID)) rfl ⟨rfl, HSZ.1⟩
attribute [local go_sem] Oper.semAt_some
theorem enters24 : ∀ args w, (callFunc 75 args).run Tryz.prog w = .ok (.enter 75 args) w := enters_of Tryz.func75 (by kernel_rfl) rfl
theorem kn_own {B : Nat} {w W W' : World} {l : List (Nat × Array Value)} {row : Option Nat} (h : Kn w l W) (hw : w.heap.size ≤ B) (hl : ∀ p ∈ l, p.1 < B) (hg : W.grownBy W' row) (hr : ∀ r, row = some r → B ≤ r ∧ ∃ o : Obj, W.heap[r]? = some o ∧ o.isCells = false) : Kn w l W' :=
  ⟨below_own h.1 hw h.1.size hg hr, fun p hp => (hg.block p.1 (Array.getElem?_eq_some_iff.1 (h.2 p hp)).1 (fun e => by have := (hr p.1 e.symm).1; have := hl p hp; omega)).trans (h.2 p hp)⟩
def TI (w : World) (b : Nat) (pre : List Bool) (W : World) : Prop := Kn w [(w.heap.size, num b), (w.heap.size + 1, num 0), (w.heap.size + 1 + 1, num (hv pre * b % LL))] W ∧ w.heap.size + 4 ≤ W.heap.size
theorem tI_own (w : World) (b B : Nat) (hB : w.heap.size + 3 ≤ B) : OwnFrom B (TI w b) := by
  rintro s W W' row ⟨h, h2⟩ hg hr
  exact ⟨kn_own h (by omega) (fun p hp => by simp at hp; rcases hp with rfl | rfl | rfl <;> simp <;> omega) hg hr, Nat.le_trans h2 hg.size⟩
theorem hv_step (n b : Nat) : (n * b % LL + n * b % LL) % LL = (2 * n + false.toNat) * b % LL := by
  rw [← Nat.add_mod]
  congr 1
  show n * b + n * b = (2 * n + 0) * b
  rw [Nat.add_zero, Nat.mul_assoc]
  omega
theorem hv_step1 (n b : Nat) (hb : b < LL) : ((n * b % LL + n * b % LL) % LL + b) % LL = (2 * n + true.toNat) * b % LL := by
  rw [hv_step]
  show ((2 * n + 0) * b % LL + b) % LL = (2 * n + 1) * b % LL
  rw [Nat.add_zero, Nat.mod_add_mod, Nat.add_mul (2 * n) 1 b, Nat.one_mul]
set_option maxRecDepth 100000 in
set_option maxHeartbeats 1000000 in
theorem times_any (s : ByteArray) (b : Nat) (hs : s.size ≤ 64) (hb : b < LL) (w : World) (hG0 : Glob w) :
    Calls Tryz.prog 76 #[.string s, .agg (num b)] w fun e w' => e = .returned (.agg (num (leVal s.data.toList * b % LL))) ∧ Below w.heap.size w w' := by
  have HV : Hid (hv (bitsTo s.data.toList (8 * s.size)) = leVal s.data.toList) := Lib.hid (hv_all s.data.toList)
  have HG := Lib.hid hG0
  have HBL := Lib.hid hb
  have HZ := zero_run
  clear hG0
  obtain ⟨B, hB⟩ : ∃ B, Hid (B = num b) := ⟨_, Lib.hid rfl⟩
  obtain ⟨Z, hZ⟩ : ∃ Z, Hid (Z = num 0) := ⟨_, Lib.hid rfl⟩
  have IB : IsNum B := by rw [hB.out]; exact isNum _
  have IZ : IsNum Z := by rw [hZ.out]; exact isNum _
  have IZ2 := IZ.size
  have HZ2 : ∀ w, (zeroValue 36).run Tryz.prog w = .ok (.agg Z) w := by rw [hZ.out]; exact HZ
  obtain ⟨R, hR⟩ : ∃ R, Hid (R = num (leVal s.data.toList * b % LL)) := ⟨_, Lib.hid rfl⟩
  rw [← hB.out, ← hR.out]
  have hI00 : TI w b [] ((((w.alloc (.cells B 36)).alloc (.cells Z 36)).alloc (.cells Z 36)).alloc (.cells #[.string s] 9)) := by
    have h := ((((Kn.nil w).new B).new Z).new Z).alloc (.cells #[.string s] 9)
    simp only [World.size_alloc] at h
    refine ⟨?_, by simp⟩
    rw [show hv [] * b % LL = 0 by show 0 * b % LL = 0; rw [Nat.zero_mul]; rfl, ← hB.out, ← hZ.out]
    exact h.sub (fun p hp => by simp at hp ⊢; rcases hp with h | h | h <;> simp [h])
  have hI0 := Lib.hid hI00
  have hbx0 : Boxed ((((w.alloc (.cells B 36)).alloc (.cells Z 36)).alloc (.cells Z 36)).alloc (.cells #[.string s] 9)) (w.heap.size + 1 + 1 + 1) 9 (.string s) := by
    have h := Boxed.new (((w.alloc (.cells B 36)).alloc (.cells Z 36)).alloc (.cells Z 36)) 9 (.string s)
    simp only [World.size_alloc] at h
    exact h
  have hbx := Lib.hid hbx0
  have hsz : ((((w.alloc (.cells B 36)).alloc (.cells Z 36)).alloc (.cells Z 36)).alloc (.cells #[.string s] 9)).heap.size = w.heap.size + 4 := by simp
  clear hI00 hbx0 HZ
  refine (callsIn_wide (n := 6)).1 ?_
  refine callsIn_of_wp_marks Tryz.func76 rfl trivial ?_ rfl
  simp only [Tryz.ntmps76, List.size_toArray, List.length_cons, List.length_nil, Nat.reduceAdd, Nat.reduceSub, Array.replicate_succ, Array.replicate_zero, List.push_toArray, List.append_toArray, List.nil_append, List.cons_append]
  gi_wp2_with (first | ((refine wpListIn_run rfl rfl rfl _ (exec_alloc_agg _ 36 rfl _ (HZ2 _)) ?_); try simp only [World.size_alloc]) | (refine ⟨trivial, ?_⟩; gi_at_call 126; refine (bitsOf_in _ _ _).mono ?_; rintro e w' ⟨rfl, rfl⟩))
  try simp only [World.size_alloc]
  generalize (((w.alloc (.cells B 36)).alloc (.cells Z 36)).alloc (.cells Z 36)).alloc (.cells #[.string s] 9) = W0 at *
  refine wpIn_rangeFunc_ownF rfl (by omega) (gf := 163) (lb := #[.pointer (some ⟨w.heap.size + 1 + 1 + 1, 0, none⟩)]) rfl trivial (enters_of Tryz.func163 (by kernel_rfl) rfl) (bits_stops 5 (w.heap.size + 1 + 1 + 1) s hs W0 hbx.out (by omega))
    (fun h1 h2 => Eq.trans h2 h1) (fun W l o o' hl ho hoc _ => World.putObj_heap_other (by omega)) (Below.refl _ _) (fun _ => rfl)
    (TI w b) (fun _ _ _ => False) (tI_own w b _ (by omega)) (fun _ _ _ _ _ hs _ _ => hs) hI0.out
    (fun x => { tmps := #[.string s, .agg B, undef, .pointer (some ⟨w.heap.size, 0, none⟩), .pointer (some ⟨w.heap.size + 1, 0, none⟩), .pointer (some ⟨w.heap.size + 1 + 1, 0, none⟩), .bool x, .string s, .func (.func 163) #[] #[.pointer (some ⟨w.heap.size + 1 + 1 + 1, 0, none⟩)], .bool x, undef, undef, undef, undef, undef, undef, undef, undef], defers := [] }) ?assign ?body ?done ?stop
  case assign =>
    intro l x W K hK
    unfold encB
    gi_wp2
    exact hK
  case body =>
    rintro l pre x W ⟨hK, hWs⟩ _
    obtain ⟨n, hn⟩ : ∃ n, n = hv pre := ⟨_, rfl⟩
    have hnx : hv (pre ++ [x]) = 2 * n + x.toNat := by rw [hv_snoc, hn]
    rw [← hn] at hK
    have hlt : ∀ y, y % LL < LL := fun y => Nat.mod_lt _ LL_pos
    have H1 := Lib.hid (sum_any (n * b % LL) (n * b % LL) (hlt _) (hlt _) W (HG.out.kn hK))
    rw [hv_step] at H1
    obtain ⟨N0, hN0⟩ : ∃ N0, Hid (N0 = num (n * b % LL)) := ⟨_, Lib.hid rfl⟩
    obtain ⟨N1, hN1⟩ : ∃ N1, Hid (N1 = num ((2 * n + false.toNat) * b % LL)) := ⟨_, Lib.hid rfl⟩
    have IN0 : IsNum N0 := by rw [hN0.out]; exact isNum _
    have IN1 : IsNum N1 := by rw [hN1.out]; exact isNum _
    rw [← hN0.out, ← hN1.out] at H1
    rw [← hN0.out, ← hB.out, ← hZ.out] at hK
    have HK := Lib.hid hK
    have HNX := Lib.hid hnx
    clear hK hnx hI0 hbx
    have hl1 := HK.out.load (w.heap.size + 1 + 1) N0 (by simp) IN0
    gi_wp2_with (refine wpListIn_run rfl rfl rfl _ (exec_load_of _ 36 (.tmp 5) rfl ⟨w.heap.size + 1 + 1, 0, none⟩ rfl (.agg N0) hl1) ?_)
    refine ⟨trivial, ?_⟩
    refine (CallsIn.inRound l (callsIn_wide.2 H1.out)).mono ?_
    rintro e W1 ⟨rfl, hb1⟩
    clear hl1
    have HK1 := Lib.hid (HK.out.below hb1)
    have HKE := Lib.hid (keeps_of_below hb1)
    have HB3 : Hid (W1.heap[w.heap.size + 1 + 1 + 1]? = W.heap[w.heap.size + 1 + 1 + 1]?) := Lib.hid (hb1.block _ (by omega))
    have hW1s : w.heap.size + 4 ≤ W1.heap.size := Nat.le_trans hWs hb1.size
    have hg1 := HK1.out.get (w.heap.size + 1 + 1) N0 (by simp)
    clear hb1 H1
    have HK2 : Hid (Kn w [(w.heap.size, B), (w.heap.size + 1, Z), (w.heap.size + 1 + 1, N1)] (W1.setRow (w.heap.size + 1 + 1) N1)) := Lib.hid (HK1.out.set (w.heap.size + 1 + 1) N1 N0 hg1 (by omega) (fun p hp => by simp at hp; rcases hp with rfl | rfl | rfl <;> first | exact .inl rfl | exact .inr ⟨by simp, by simp <;> omega⟩))
    have HKE2 : Hid (KeepsOthers W (W1.setRow (w.heap.size + 1 + 1) N1)) := Lib.hid (HKE.out.trans (keeps_setRow hg1))
    have HB32 : Hid ((W1.setRow (w.heap.size + 1 + 1) N1).heap[w.heap.size + 1 + 1 + 1]? = W.heap[w.heap.size + 1 + 1 + 1]?) := Lib.hid ((setRow_other _ _ _ _ (by omega)).trans HB3.out)
    have hW2s : w.heap.size + 4 ≤ (W1.setRow (w.heap.size + 1 + 1) N1).heap.size := by simp; omega
    cases x with
    | false =>
      gi_wp2_with (refine wpListIn_run0 rfl rfl rfl (exec_store24 _ (.tmp 5) (.tmp 12) rfl (w.heap.size + 1 + 1) rfl N1 IN1 rfl N0 36 hg1 IN0.size) ?_)
      refine ⟨HKE2.out, HB32.out, ?_, hW2s⟩
      rw [HNX.out, ← hN1.out, ← hB.out, ← hZ.out]
      exact HK2.out
    | true =>
      have hG2 := HG.out.kn HK2.out
      have hl2 := HK2.out.load (w.heap.size + 1 + 1) N1 (by simp) IN1
      have hl3 := HK2.out.load (w.heap.size) B (by simp) IB
      have H2 := Lib.hid (sum_any ((2 * n + false.toNat) * b % LL) b (hlt _) hb (W1.setRow (w.heap.size + 1 + 1) N1) hG2)
      rw [show ((2 * n + false.toNat) * b % LL + b) % LL = (2 * n + true.toNat) * b % LL by rw [← hv_step, hv_step1 n b hb]] at H2
      obtain ⟨N2, hN2⟩ : ∃ N2, Hid (N2 = num ((2 * n + true.toNat) * b % LL)) := ⟨_, Lib.hid rfl⟩
      have IN2 : IsNum N2 := by rw [hN2.out]; exact isNum _
      rw [← hN1.out, ← hN2.out, ← hB.out] at H2
      gi_wp2_with (first | (refine wpListIn_run0 rfl rfl rfl (exec_store24 _ (.tmp 5) (.tmp 12) rfl (w.heap.size + 1 + 1) rfl N1 IN1 rfl N0 36 hg1 IN0.size) ?_) | (refine wpListIn_run rfl rfl rfl _ (exec_load_of _ 36 (.tmp 5) rfl ⟨w.heap.size + 1 + 1, 0, none⟩ rfl (.agg N1) hl2) ?_) | (refine wpListIn_run rfl rfl rfl _ (exec_load_of _ 36 (.tmp 3) rfl ⟨w.heap.size, 0, none⟩ rfl (.agg B) hl3) ?_))
      refine ⟨trivial, ?_⟩
      refine (CallsIn.inRound l (callsIn_wide.2 H2.out)).mono ?_
      rintro e W3 ⟨rfl, hb3⟩
      have HK3 := Lib.hid (HK2.out.below hb3)
      have HKE3 := Lib.hid (HKE2.out.trans (keeps_of_below hb3))
      have HB33 : Hid (W3.heap[w.heap.size + 1 + 1 + 1]? = W.heap[w.heap.size + 1 + 1 + 1]?) := Lib.hid ((hb3.block _ (by omega)).trans HB32.out)
      have hW3s : w.heap.size + 4 ≤ W3.heap.size := Nat.le_trans hW2s hb3.size
      have hg3 := HK3.out.get (w.heap.size + 1 + 1) N1 (by simp)
      clear hb3 H2 hl2 hl3 hG2 hg1
      have HK4 : Hid (Kn w [(w.heap.size, B), (w.heap.size + 1, Z), (w.heap.size + 1 + 1, N2)] (W3.setRow (w.heap.size + 1 + 1) N2)) := Lib.hid (HK3.out.set (w.heap.size + 1 + 1) N2 N1 hg3 (by omega) (fun p hp => by simp at hp; rcases hp with rfl | rfl | rfl <;> first | exact .inl rfl | exact .inr ⟨by simp, by simp <;> omega⟩))
      have HKE4 : Hid (KeepsOthers W (W3.setRow (w.heap.size + 1 + 1) N2)) := Lib.hid (HKE3.out.trans (keeps_setRow hg3))
      have HB34 : Hid ((W3.setRow (w.heap.size + 1 + 1) N2).heap[w.heap.size + 1 + 1 + 1]? = W.heap[w.heap.size + 1 + 1 + 1]?) := Lib.hid ((setRow_other _ _ _ _ (by omega)).trans HB33.out)
      have hW4s : w.heap.size + 4 ≤ (W3.setRow (w.heap.size + 1 + 1) N2).heap.size := by simp; omega
      gi_wp2_with (refine wpListIn_run0 rfl rfl rfl (exec_store24 _ (.tmp 5) (.tmp 16) rfl (w.heap.size + 1 + 1) rfl N2 IN2 rfl N1 36 hg3 IN1.size) ?_)
      refine ⟨HKE4.out, HB34.out, ?_, hW4s⟩
      rw [HNX.out, ← hN2.out, ← hB.out, ← hZ.out]
      exact HK4.out
  case done =>
    rintro D xs W hD rfl ⟨hK, hWs⟩ hDf
    rw [HV.out] at hK
    have IR : IsNum R := by rw [hR.out]; exact isNum _
    rw [← hR.out, ← hB.out, ← hZ.out] at hK
    have HK := Lib.hid hK
    have HDf := Lib.hid hDf
    clear hK hDf hI0 hbx
    have hl7 := HK.out.load (w.heap.size + 1 + 1) R (by simp) IR
    have hg7 := HK.out.get (w.heap.size + 1) Z (by simp)
    gi_wp2_with (first | (refine wpListIn_run rfl rfl rfl _ (exec_load_of _ 36 (.tmp 5) rfl ⟨w.heap.size + 1 + 1, 0, none⟩ rfl (.agg R) hl7) ?_) | (refine wpListIn_run0 rfl rfl rfl (exec_store24 _ (.tmp 4) (.tmp 17) rfl (w.heap.size + 1) rfl R IR rfl Z 36 hg7 IZ2) ?_))
    have HKS : Kn w [(w.heap.size + 1, R)] (W.setRow (w.heap.size + 1) R) := HK.out.set (w.heap.size + 1) R Z hg7 (by omega) (fun p hp => by simp at hp; subst hp; simp)
    have hK2 : (W.setRow (w.heap.size + 1) R).heap[D]? = some (.deferred (some [])) := (setRow_other _ _ _ _ (by omega)).trans HDf.out
    generalize W.setRow (w.heap.size + 1) R = W2 at *
    refine ⟨by simp, .inl ⟨_, _, rfl, run_takeDeferred hK2, ?_⟩⟩
    have hrow7 : (W2.putObj D (.deferred none)).heap[w.heap.size + 1]? = some (.cells R 36 (0, 0)) := (World.putObj_heap_other (by omega)).trans (HKS.get (w.heap.size + 1) R (by simp))
    exact ⟨_, results_cell rfl _ _ _ ⟨w.heap.size + 1, 0, none⟩ rfl _ (loadA IR hrow7), rfl, HKS.1.trans (belowK_b (w := w) (Nat.le_refl _) W2 D _ _ (by omega) hK2 rfl rfl)⟩
  case stop =>
    rintro D c pre W _ _ h _
    exact h.elim
end Go.Proofs.YtdajmekliodmcaaGreatDoor.S7
namespace Go.Proofs.YtdajmekliodmcaaGreatDoor.S7
open Go.Proofs.YtdajmekliodmcaaGreatDoor.P8
open Go.RowKit Go.Shelf
set_option linter.unusedVariables false
set_option linter.unusedSimpArgs false
theorem enters22 : ∀ args w, (callFunc 76 args).run Tryz.prog w = .ok (.enter 76 args) w := enters_of Tryz.func76 (by kernel_rfl) rfl
theorem enters20 : ∀ args w, (callFunc 73 args).run Tryz.prog w = .ok (.enter 73 args) w := enters_of Tryz.func73 (by kernel_rfl) rfl
theorem enters25 : ∀ args w, (callFunc 74 args).run Tryz.prog w = .ok (.enter 74 args) w := enters_of Tryz.func74 (by kernel_rfl) rfl
set_option maxRecDepth 100000 in
set_option maxHeartbeats 1000000 in
theorem reduce_any (s : ByteArray) (hs : s.size ≤ 9223372036854775807) (w : World) (hG0 : Glob w) :
    Calls Tryz.prog 71 #[.string s] w fun e w' => e = .returned (.agg (num (reduceL s.data.toList))) ∧ Below w.heap.size w w' := by
  have HZ := zero_run
  obtain ⟨Z, hZ⟩ : ∃ Z, Hid (Z = num 0) := ⟨_, Lib.hid rfl⟩
  have IZ : IsNum Z := by rw [hZ.out]; exact isNum _
  have IZ2 := IZ.size
  have HZ2 : ∀ w, (zeroValue 36).run Tryz.prog w = .ok (.agg Z) w := by rw [hZ.out]; exact HZ
  obtain ⟨O, hO⟩ : ∃ O, Hid (O = num 1) := ⟨_, Lib.hid rfl⟩
  obtain ⟨R, hR⟩ : ∃ R, Hid (R = num (reduceL s.data.toList)) := ⟨_, Lib.hid rfl⟩
  have IR : IsNum R := by rw [hR.out]; exact isNum _
  have hb1 := build_run 1 (by decide)
  rw [← hO.out] at hb1
  have HB1 := Lib.hid hb1
  have HG : Hid (Glob (w.alloc (.cells Z 36))) := Lib.hid (hG0.below ((Below.refl _ w).alloc (Nat.le_refl _) _))
  have HS : Hid (Kn w [(w.heap.size, Z)] (w.alloc (.cells Z 36))) := Lib.hid ((Kn.nil w).new Z)
  rw [← hR.out]
  clear HZ hb1 hG0
  by_cases hle : s.size ≤ 64
  · have H1 := Lib.hid (times_any s 1 hle (by decide) (w.alloc (.cells Z 36)) HG.out)
    rw [Nat.mul_one, ← hO.out, show leVal s.data.toList % LL = reduceL s.data.toList by unfold reduceL; rw [List.take_of_length_le hle], ← hR.out] at H1
    clear hO hR
    go_enter Tryz.func71, Tryz.ntmps71
    go_wp2_with (first | ((refine wpList_run rfl _ (exec_alloc_agg _ 36 rfl _ (HZ2 _)) ?_); try simp only [World.size_alloc]) | (refine wpList_run rfl _ (exec_build1 _ 36 0 (.const (.int .u64 1)) rfl (.int .u64 1) rfl _ (HB1.out _)) ?_))
    refine H1.out.mono ?_
    rintro e w2 ⟨rfl, hb⟩
    have HS2 := Lib.hid (HS.out.below hb)
    clear hb H1 HS HG
    go_wp2_with (refine wpList_run0 rfl (exec_store_kn (w0 := w) (l := [(w.heap.size, Z)]) _ HS2.out (.tmp 2) (.tmp 9) rfl (w.heap.size) rfl R IR rfl Z IZ (by simp)) ?_)
    have HSZ : Kn w [(w.heap.size, R)] (World.setRow _ (w.heap.size) R) := HS2.out.set (w.heap.size) R Z (HS2.out.get (w.heap.size) Z (by simp)) (by omega) (fun p hp => by simp at hp; subst hp; simp)
    exact bodyPost_ret (results_cell rfl _ _ _ ⟨w.heap.size, 0, none⟩ rfl _ (HSZ.load (w.heap.size) R (by simp) IR)) rfl ⟨rfl, HSZ.1⟩
  · have hx : (s.extract 0 64).data.toList = s.data.toList.take 64 := by simp [ByteArray.data_extract]
    have hxs : (s.extract 0 64).size ≤ 64 := by simp [ByteArray.size_extract]; omega
    obtain ⟨T, hT⟩ : ∃ T, T = s.extract 0 64 := ⟨_, rfl⟩
    have H1 := Lib.hid (times_any T 1 (by rw [hT]; exact hxs) (by decide) (w.alloc (.cells Z 36)) HG.out)
    rw [Nat.mul_one, ← hO.out, show leVal T.data.toList % LL = reduceL s.data.toList by unfold reduceL; rw [hT, hx], ← hR.out] at H1
    have h64 : (64 : Int) ≤ (s.size : Int) := by omega
    have HTT := Lib.hid hT
    clear hO hR hx hxs hT
    go_enter Tryz.func71, Tryz.ntmps71
    go_wp2_with (first | ((refine wpList_run rfl _ (exec_alloc_agg _ 36 rfl _ (HZ2 _)) ?_); try simp only [World.size_alloc]) | (refine wpList_run rfl _ (exec_build1 _ 36 0 (.const (.int .u64 1)) rfl (.int .u64 1) rfl _ (HB1.out _)) ?_))
    rw [← HTT.out]
    refine H1.out.mono ?_
    rintro e w2 ⟨rfl, hb⟩
    have HS2 := Lib.hid (HS.out.below hb)
    clear hb H1 HS HG
    go_wp2_with (refine wpList_run0 rfl (exec_store_kn (w0 := w) (l := [(w.heap.size, Z)]) _ HS2.out (.tmp 2) (.tmp 9) rfl (w.heap.size) rfl R IR rfl Z IZ (by simp)) ?_)
    have HSZ : Kn w [(w.heap.size, R)] (World.setRow _ (w.heap.size) R) := HS2.out.set (w.heap.size) R Z (HS2.out.get (w.heap.size) Z (by simp)) (by omega) (fun p hp => by simp at hp; subst hp; simp)
    exact bodyPost_ret (results_cell rfl _ _ _ ⟨w.heap.size, 0, none⟩ rfl _ (HSZ.load (w.heap.size) R (by simp) IR)) rfl ⟨rfl, HSZ.1⟩
theorem reduceL_bytes (a : Nat) (ha : a < 115792089237316195423570985008687907853269984665640564039457584007913129639936) : reduceL (bytesN a) = a % LL := by
  unfold reduceL
  rw [List.take_of_length_le (by rw [bytesN_length]; decide), leVal_bytesN a ha]
set_option maxRecDepth 100000 in
set_option maxHeartbeats 1000000 in
theorem norm_any (a : Nat) (ha : a < 115792089237316195423570985008687907853269984665640564039457584007913129639936) (w : World) (hG0 : Glob w) :
    Calls Tryz.prog 74 #[.agg (num a)] w fun e w' => e = .returned (.agg (num (a % LL))) ∧ Below w.heap.size w w' := by
  have HZ := zero_run
  obtain ⟨Z, hZ⟩ : ∃ Z, Hid (Z = num 0) := ⟨_, Lib.hid rfl⟩
  have IZ : IsNum Z := by rw [hZ.out]; exact isNum _
  have IZ2 := IZ.size
  have HZ2 : ∀ w, (zeroValue 36).run Tryz.prog w = .ok (.agg Z) w := by rw [hZ.out]; exact HZ
  obtain ⟨A, hA⟩ : ∃ A, Hid (A = num a) := ⟨_, Lib.hid rfl⟩
  have IA : IsNum A := by rw [hA.out]; exact isNum _
  obtain ⟨R, hR⟩ : ∃ R, Hid (R = num (a % LL)) := ⟨_, Lib.hid rfl⟩
  have IR : IsNum R := by rw [hR.out]; exact isNum _
  have H1 := Lib.hid (raw_any a)
  have H2 : Hid (∀ w, Glob w → Calls Tryz.prog 71 #[.string ⟨(bytesN a).toArray⟩] w fun e w' => e = .returned (.agg R) ∧ Below w.heap.size w w') := by
    refine Lib.hid (fun w hw => ?_)
    have h := reduce_any ⟨(bytesN a).toArray⟩ (by show (bytesN a).length ≤ _; rw [bytesN_length]; decide) w hw
    rw [show (⟨(bytesN a).toArray⟩ : ByteArray).data.toList = bytesN a from List.toList_toArray, reduceL_bytes a ha, ← hR.out] at h
    exact h
  obtain ⟨S, hS⟩ : ∃ S : ByteArray, Hid (S = ⟨(bytesN a).toArray⟩) := ⟨_, Lib.hid rfl⟩
  rw [← hA.out, ← hS.out] at H1
  rw [← hS.out] at H2
  have HG := Lib.hid hG0
  have HS : Hid (Kn w [(w.heap.size, A), (w.heap.size + 1, Z)] ((w.alloc (.cells A 36)).alloc (.cells Z 36))) := by
    have h := ((Kn.nil w).new A).new Z
    simp only [World.size_alloc] at h
    exact Lib.hid (h.sub (fun p hp => by simp at hp ⊢; rcases hp with h | h <;> simp [h]))
  rw [← hA.out, ← hR.out]
  clear HZ hG0 hA hR hS
  go_enter Tryz.func74, Tryz.ntmps74
  go_upto_region 1 with ((refine wpList_run rfl _ (exec_alloc_agg _ 36 rfl _ (HZ2 _)) ?_); try simp only [World.size_alloc])
  try simp only [Act.put, sT, sS, sZ]
  generalize (w.alloc (.cells A 36)).alloc (.cells Z 36) = W0 at *
  have hl1 := HS.out.load (w.heap.size) A (by simp) IA
  go_wp2_with (refine wpList_run rfl _ (exec_load_of _ 36 (.tmp 1) rfl ⟨w.heap.size, 0, none⟩ rfl (.agg A) hl1) ?_)
  clear hl1
  refine (H1.out _).mono ?_
  rintro e w2 ⟨rfl, hb⟩
  have HS2 := Lib.hid (HS.out.below hb)
  clear hb HS H1
  go_wp2_with fail
  refine (H2.out _ (HG.out.kn HS2.out)).mono ?_
  rintro e w4 ⟨rfl, hb⟩
  have HS3 := Lib.hid (HS2.out.below hb)
  clear hb HS2 H2
  go_wp2_with (refine wpList_run0 rfl (exec_store_kn (w0 := w) (l := [(w.heap.size, A), (w.heap.size + 1, Z)]) _ HS3.out (.tmp 2) (.tmp 5) rfl (w.heap.size + 1) rfl R IR rfl Z IZ (by simp)) ?_)
  have HSZ : Kn w [(w.heap.size + 1, R)] (World.setRow _ (w.heap.size + 1) R) := HS3.out.set (w.heap.size + 1) R Z (HS3.out.get (w.heap.size + 1) Z (by simp)) (by omega) (fun p hp => by simp at hp; subst hp; simp)
  exact bodyPost_ret (results_cell rfl _ _ _ ⟨w.heap.size + 1, 0, none⟩ rfl _ (HSZ.load (w.heap.size + 1) R (by simp) IR)) rfl ⟨rfl, HSZ.1⟩
set_option maxRecDepth 100000 in
set_option maxHeartbeats 1000000 in
theorem bytes_any (a : Nat) (ha : a < 115792089237316195423570985008687907853269984665640564039457584007913129639936) (w : World) (hG0 : Glob w) :
    Calls Tryz.prog 38 #[.agg (num a)] w fun e w' => e = .returned (.string ⟨(bytesN (a % LL)).toArray⟩) ∧ Below w.heap.size w w' := by
  obtain ⟨A, hA⟩ : ∃ A, Hid (A = num a) := ⟨_, Lib.hid rfl⟩
  have IA : IsNum A := by rw [hA.out]; exact isNum _
  obtain ⟨R, hR⟩ : ∃ R, Hid (R = num (a % LL)) := ⟨_, Lib.hid rfl⟩
  have IR : IsNum R := by rw [hR.out]; exact isNum _
  obtain ⟨S, hS⟩ : ∃ S : ByteArray, Hid (S = ⟨(bytesN (a % LL)).toArray⟩) := ⟨_, Lib.hid rfl⟩
  have H1 := Lib.hid (fun w hw => norm_any a ha w hw)
  have H2 := Lib.hid (raw_any (a % LL))
  rw [← hA.out, ← hR.out] at H1
  rw [← hR.out, ← hS.out] at H2
  have HG := Lib.hid hG0
  have HS : Hid (Kn w [(w.heap.size, A)] (w.alloc (.cells A 36))) := Lib.hid ((Kn.nil w).new A)
  rw [← hA.out, ← hS.out]
  clear hG0 hA hR hS
  go_enter Tryz.func38, Tryz.ntmps38
  go_upto_region 1 with fail
  try simp only [Act.put, sT, sS, sZ]
  generalize w.alloc (.cells A 36) = W0 at *
  have hl1 := HS.out.load (w.heap.size) A (by simp) IA
  go_wp2_with (refine wpList_run rfl _ (exec_load_of _ 36 (.tmp 1) rfl ⟨w.heap.size, 0, none⟩ rfl (.agg A) hl1) ?_)
  clear hl1
  refine (H1.out _ (HG.out.kn HS.out)).mono ?_
  rintro e w2 ⟨rfl, hb⟩
  have HS2 := Lib.hid (HS.out.below hb)
  clear hb HS H1
  go_wp2_with fail
  refine (H2.out _).mono ?_
  rintro e w4 ⟨rfl, hb⟩
  have HS3 := Lib.hid (HS2.out.below hb)
  clear hb HS2 H2
  go_wp2
  go_ret
  exact ⟨rfl, HS3.out.1⟩
end Go.Proofs.YtdajmekliodmcaaGreatDoor.S7
