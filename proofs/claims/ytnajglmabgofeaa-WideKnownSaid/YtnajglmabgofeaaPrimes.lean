/- The first primes, as the document's package finds them. No condition but that at most 80 are asked for. -/
import Derived.Test.YtnajglmabgofeaaRootT
import Derived.Test.YtnajglmabgofeaaRootF
namespace Go.Proofs.Ytnajglmabgofeaa
open Go.RowKit
set_option linter.unusedVariables false
theorem root3_any (a : N4) (ha : a.ok) (w : World) : Calls Try.prog 18 #[.agg (l4 a).toArray, .int .i64 3] w fun e w' => e = .returned (.agg (l4 (rootL a true)).toArray) ∧ Below w.heap.size w w' := root_walk_true a ha w
theorem root2_any (a : N4) (ha : a.ok) (w : World) : Calls Try.prog 18 #[.agg (l4 a).toArray, .int .i64 2] w fun e w' => e = .returned (.agg (l4 (rootL a false)).toArray) ∧ Below w.heap.size w w' := root_walk_false a ha w
/-- Numbers as cells. -/
def numsV (kd : IntKind) (l : List Nat) : List Value := l.map fun (x : Nat) => .int kd (x : Int)
theorem numsV_append (kd : IntKind) (l m : List Nat) : numsV kd (l ++ m) = numsV kd l ++ numsV kd m := by simp [numsV]
theorem numsV_length (kd : IntKind) (l : List Nat) : (numsV kd l).length = l.length := by simp [numsV]
def pB (k : Nat) : List Nat := pL.filter fun p => decide (p < k)
theorem pB_step : ∀ k, k < 410 → 2 ≤ k → pB (k + 1) = if (pB k).all (fun x => k % x != 0) then pB k ++ [k] else pB k := by decide +kernel
theorem pB_last : (pB 410).length = 80 := by decide +kernel
theorem pB_take : ∀ k, k < 411 → pB k = pL.take (pB k).length := by decide +kernel
theorem pL_pos : ∀ x ∈ pL, 0 < x ∧ x < 410 := by decide +kernel
theorem pB_pos {k x : Nat} (h : x ∈ pB k) : 0 < x ∧ x < 410 := pL_pos x (List.mem_filter.1 h).1
theorem info27 : (Try.prog.info? 27).map (fun i => (i.zero, i.size, i.bytes)) = some (some (.int .u64 0), 1, 8) := by kernel_rfl
theorem own_form {w : World} {base : Nat} {e : TypeId} {size : Nat} {v : Value} {n : Nat} {xs : List Value} (h : w.ownsRow base e size v n xs) : ∃ p c, v = .slice p n c := by
  rcases h.2 with ⟨h1, h2⟩ | ⟨g, cap, cur, h1, -⟩
  · exact ⟨none, 0, by rw [h1, h2]⟩
  · exact ⟨_, _, h1⟩
theorem own_some {w : World} {base : Nat} {e : TypeId} {size : Nat} {p : Option Addr} {c n : Nat} {xs : List Value} (h : w.ownsRow base e size (.slice p n c) n xs) (hn : 0 < n) : ∃ g, p = some ⟨g, 0, none⟩ := by
  rcases h.2 with ⟨h1, h2⟩ | ⟨g, cap, cur, h1, -⟩
  · omega
  · injection h1 with h1; exact ⟨g, h1⟩
theorem own_le {w : World} {base : Nat} {e : TypeId} {size : Nat} {p : Option Addr} {c n : Nat} {xs : List Value} (h : w.ownsRow base e size (.slice p n c) n xs) : n ≤ c := by
  rcases h.2 with ⟨h1, h2⟩ | ⟨g, cap, cur, h1, -, -, h4, -⟩
  · omega
  · injection h1 with _ _ h1; omega
theorem all_snoc (l : List Nat) (k q x : Nat) (hx : l[q]? = some x) : (l.take (q + 1)).all (fun y => k % y != 0) = ((l.take q).all (fun y => k % y != 0) && (k % x != 0)) := by
  rw [List.take_add_one, hx]
  simp
theorem bne_cast (y : Nat) : ((y : Int) != 0) = (y != 0) := by
  cases y with
  | zero => rfl
  | succ y => rw [show ((y + 1 : Nat) != 0) = true from rfl]; simp; omega
set_option maxRecDepth 100000 in
set_option maxHeartbeats 1000000 in
theorem primes_any (n : Nat) (hn : n ≤ 80) (w : World) :
    Calls Try.prog 17 #[.int .i64 n] w fun e w' => ∃ p c, e = .returned (.slice p n c) ∧ w'.ownsRow w.heap.size 27 1 (.slice p n c) n (numsV .u64 (pL.take n)) ∧ Below w.heap.size w w' := by
  go_enter Try.func17, Try.ntmps17
  go_wp2
  go_loopw [3, 4, 5, 6] (fun v kv b i wr => ∃ k m : Nat, ∃ p c, 2 ≤ k ∧ k ≤ 410 ∧ m ≤ n ∧ v = .slice p m c ∧ kv = .int .u64 k ∧ Hid (m = (pB k).length) ∧ wr.ownsRow w.heap.size 27 1 (.slice p m c) m (numsV .u64 (pB k)) ∧ Below w.heap.size w wr) (fun _ kv _ _ _ => 410 - (intOf kv).toNat)
  case atStart => exact ⟨2, 0, none, 0, by omega, by omega, by omega, rfl, rfl, Lib.hid (by decide +kernel), by rw [show pB 2 = [] by decide +kernel]; exact World.ownsRow_nil _ _ _ _, Below.refl _ _⟩
  case round =>
    obtain ⟨k, m, p, c, hk2, hk3, hmn, rfl, rfl, hm, hown, hb⟩ := hrel
    have HO := Lib.hid hown
    have HB := Lib.hid hb
    have HLE := own_le hown
    clear hown hb
    by_cases hlt : m < n
    · have hk4 : k < 410 := by
        rcases Nat.lt_or_ge k 410 with h | h
        · exact h
        · have e : k = 410 := by omega
          have := hm.out
          rw [e, pB_last] at this
          omega
      have HST := Lib.hid (pB_step k hk4 hk2)
      have HPOS : Hid (∀ x ∈ pB k, 0 < x ∧ x < 410) := fun x hx => pB_pos hx
      obtain ⟨l, hl⟩ : ∃ l, Hid (l = pB k) := ⟨_, Lib.hid rfl⟩
      rw [← hl.out] at HO HST hm HPOS
      go_wp2
      go_loop [5, 6] (fun b i => ∃ q : Nat, q ≤ m ∧ i = .int .i64 q ∧ b = .bool ((l.take q).all fun y => k % y != 0)) (fun _ i => m - (intOf i).toNat)
      case atStart => exact ⟨0, Nat.zero_le _, rfl, by simp⟩
      case round =>
        obtain ⟨q, hq, rfl, rfl⟩ := hrel
        by_cases hqm : q < m
        · obtain ⟨g, rfl⟩ := own_some HO.out (by omega)
          obtain ⟨x, hx⟩ : ∃ x, l[q]? = some x := by
            have := hm.out
            exact ⟨l[q]'(by omega), List.getElem?_eq_getElem _⟩
          have hcell : wr.cell? ⟨g, q, none⟩ = some (.int .u64 x) := by
            rw [HO.out.cellAt q (by omega)]
            unfold numsV
            rw [List.getElem?_map, hx]; rfl
          have HAS := Lib.hid (all_snoc l k q x hx)
          have hx0 := HPOS.out x (List.mem_of_getElem? hx)
          have hx1 : ¬ (x : Int) = 0 := by omega
          have hqm' : (q : Int) < m := by omega
          have hmod : (k : Int) % (x : Int) = ((k % x : Nat) : Int) := by omega
          have htmod : Int.tmod (k : Int) (x : Int) = ((k % x : Nat) : Int) := by rw [Int.tmod_eq_emod_of_nonneg (by omega)]; exact hmod
          have hml : k % x < 410 := Nat.lt_of_lt_of_le (Nat.mod_lt _ hx0.1) (by omega)
          clear hx
          cases hb2 : (l.take q).all fun y => k % y != 0 with
          | true =>
            rw [hb2] at HAS
            generalize k % x = y at *
            go_wp2
            go_round
            case rel => exact ⟨q + 1, by omega, by go_num, by rw [HAS.out, bne_cast]; rfl⟩
            case measure => simp [intOf]; omega
          | false =>
            rw [hb2] at HAS
            generalize k % x = y at *
            go_wp2
            go_round
            case rel => exact ⟨q + 1, by omega, by go_num, by rw [HAS.out]; rfl⟩
            case measure => simp [intOf]; omega
        · obtain rfl : q = m := by omega
          rw [List.take_of_length_le (by rw [hm.out]; exact Nat.le_refl _)]
          cases hb2 : l.all fun y => k % y != 0 with
          | true =>
            have HN : Hid (pB (k + 1) = l ++ [k]) := by have h := HST.out; rw [hb2] at h; exact h
            have HNL : Hid (q + 1 = (pB (k + 1)).length) := by unfold Hid; rw [HN.out, List.length_append, ← hm.out]; rfl
            obtain ⟨i3, hi3, hz3, hs3, hb3⟩ := info_parts info27
            have hown := HO.out
            have hfr := HB.out
            obtain ⟨v', W3, happ, hown', hgrow, hat⟩ := exec_append_own (P := Try.prog) (wr.alloc (.cells #[.int .u64 (k : Int)] 27)) w.heap.size 25 27 i3 _ 1 8 Try.underlying25 hi3 hz3 hs3 hb3 rfl (by decide) _ q _ (hown.alloc _) ⟨wr.heap.size, 0, none⟩ 1 1 [.int .u64 (k : Int)] rfl (by
                intro j u hu
                rw [addr_add, cell_of_row _ wr.heap.size (0 + j) [Value.int .u64 (k : Int)].toArray 27 (0, 0) (heap_alloc_new wr _), Nat.zero_add, List.getElem?_toArray]
                exact hu) (by intro u hu; simp at hu; subst hu; rfl) (by unfold maxLen; omega) (by omega) (by have := hfr.size; simp; omega)
            have hbel : Below w.heap.size w W3 := by
              refine (hfr.alloc hfr.size _).grown hgrow (by have := hfr.size; simp; omega) (fun j hj => (hown.lt j hj).1)
            obtain ⟨p', c', rfl⟩ := own_form hown'
            have hown2 : W3.ownsRow w.heap.size 27 1 (.slice p' (q + 1) c') (q + 1) (numsV .u64 (pB (k + 1))) := by rw [HN.out, numsV_append]; exact hown'
            have HAPP := Lib.hid happ
            have HO := Lib.hid hown2
            have HF := Lib.hid hbel
            clear happ hown' hgrow hat hown hfr hown2 hbel hi3 hz3 hs3 hb3 HST hb2 HB HPOS
            go_wp2_with (at_builtin; refine wpList_run rfl _ (HAPP.out _ _ (.tmp 30) (.tmp 32) rfl rfl rfl) ?_)
            go_roundw
            case rel => exact ⟨k + 1, q + 1, p', c', by omega, by omega, by omega, rfl, by go_num, HNL, HO.out, HF.out⟩
            case measure => simp [intOf]; omega
          | false =>
            have HN : Hid (pB (k + 1) = l) := by have h := HST.out; rw [hb2] at h; exact h
            have HNL : Hid (q = (pB (k + 1)).length) := by unfold Hid; rw [HN.out]; exact hm.out
            have HO2 : Hid (wr.ownsRow w.heap.size 27 1 (.slice p q c) q (numsV .u64 (pB (k + 1)))) := by unfold Hid; rw [HN.out]; exact HO.out
            clear HST hb2 HPOS HO
            go_wp2
            go_roundw
            case rel => exact ⟨k + 1, q, p, c, by omega, by omega, by omega, rfl, by go_num, HNL, HO2.out, HB.out⟩
            case measure => simp [intOf]; omega
    · obtain rfl : m = n := by omega
      have HT : Hid (pB k = pL.take m) := by unfold Hid; rw [hm.out]; exact pB_take k (by omega)
      rw [HT.out] at HO
      clear HT hm
      go_wp2
      go_ret
      exact ⟨p, c, rfl, HO.out, HB.out⟩
end Go.Proofs.Ytnajglmabgofeaa
