/- Several texts, one behind the other; each says by itself what it proves, and on what conditions. -/
import Derived.Test.YtgbaaiedpiiepaaDoorV17
/- Of the program: Same of nodes is whether they are alike; lists of nodes as values. Its conditions: lengths that fit. -/
namespace Go.Proofs.YtgbaaiedpiiepaaDoor
open Go.RowKit Go.Shelf
set_option linter.unusedVariables false
set_option linter.unusedSimpArgs false
/-- A list of nodes as a value. -/
def NdV (W : World) (v : Value) (l : List Nd) : Prop := ∃ a cap, v = .slice a l.length cap ∧ l.length ≤ cap ∧ cap ≤ 9223372036854775807 ∧ (0 < l.length → ∃ b o, a = some ⟨b, o, none⟩ ∧ Nodes W b o l)
theorem NdV.below {W W2 : World} {v : Value} {l : List Nd} (h : NdV W v l) (hb : Below W.heap.size W W2) : NdV W2 v l := by
  obtain ⟨a, cap, rfl, h1, h2, h3⟩ := h
  refine ⟨a, cap, rfl, h1, h2, fun h0 => ?_⟩
  obtain ⟨b, o, rfl, hN⟩ := h3 h0
  exact ⟨b, o, rfl, hN.below hb⟩
section
open E
abbrev ndSl1 (n cap : Nat) : TV := .s (.lf (.sl 1 0 0 3 n (some cap)))
abbrev rows2E (nd ne : Nat → Nd) (n m : Nat) : List (Nat × Row) := [(0, ndRow nd n), (1, ndRow ne m)]
abbrev tm2E (n m cap cap2 k : Nat) : List (Nat × TV) := [(0, ndSl n cap), (1, ndSl1 m cap2), (12, .int .i64 n), (13, .int .i64 k)]
theorem same_nd (c d : Nd) : (lb ⟨c.path.toArray⟩ == lb ⟨d.path.toArray⟩ && (c.kind == d.kind && (lb ⟨c.data.toArray⟩ == lb ⟨d.data.toArray⟩ && true))) = sameN c d := by
  unfold sameN
  rw [Bool.and_true]
  show (c.path == d.path && (c.kind == d.kind && c.data == d.data)) = _
  rw [Bool.eq_iff_iff]
  simp
set_option maxRecDepth 100000 in
set_option maxHeartbeats 1000000 in
theorem psame_rows (l m : List Nd) (cap cap2 : Nat) (h0 : 0 < l.length) (h1 : 0 < m.length) (hl : l.length ≤ 1000000000000000) (hm : m.length ≤ 1000000000000000) (ρ : Env) (w : World) (hr : RowAt ρ 0 (ndRow (ndf l) l.length) w) (hr2 : RowAt ρ 1 (ndRow (ndf m) m.length) w) :
    Calls Tryd.prog 44 #[(ndSl l.length cap).val ρ, (ndSl1 m.length cap2).val ρ] w fun e w' => e = .returned (.bool (sameL l m)) ∧ Below w.heap.size w w' := by
  refine At.calls (args := [ndSl l.length cap, ndSl1 m.length cap2]) (rows := rows2E (ndf l) (ndf m) l.length m.length) (gl := []) (wr := []) (ρ := ρ) Tryd.func44 rfl rfl (init_ro1 ⟨trivial, trivial, trivial⟩ rfl rfl ⟨⟨hr, ndRow_ok _ _⟩, ⟨hr2, ndRow_ok _ _⟩, trivial⟩) rfl ?_
  by_cases hne : l.length = m.length
  · have hloop : ∀ k, (k ≤ l.length ∧ sameL l m = sameL (l.drop k) (m.drop k)) → At Tryd.prog w ⟨[], ρ, []⟩ 26 [] (lp Tryd.f44 0) (EndX Tryd.prog Tryd.f44 fun e w' => e = .returned (.bool (sameL l m)) ∧ Below w.heap.size w w') (tm2E l.length m.length cap cap2 k) (rows2E (ndf l) (ndf m) l.length m.length) := by
      refine At.loop (tm2E l.length m.length cap cap2) (fun _ => rows2E (ndf l) (ndf m) l.length m.length) (fun k => k ≤ l.length ∧ sameL l m = sameL (l.drop k) (m.drop k)) (fun k => l.length - k) fun k hk ih => ?_
      obtain ⟨hk, hs⟩ := hk
      by_cases h : k < l.length
      · have h2 : k < m.length := by omega
        have hd := same_drop l m k h h2
        rw [← ndf_at l k h, ← ndf_at m k h2] at hd
        cases hq : sameN (ndf l k) (ndf m k) with
        | true =>
          refine At.run rfl [] trivial [.y, .n] (tm2 := tm2E l.length m.length cap cap2 (k + 1)) (rows2 := rows2E (ndf l) (ndf m) l.length m.length) (td := lp Tryd.f44 0)
            (ob := [decide ((k : Int) < (l.length : Int)) = true, 0 ≤ (k : Int) ∧ (k : Int) < (l.length : Int), k < l.length, 0 ≤ (k : Int) ∧ (k : Int) < (m.length : Int), k < m.length, (!(lb ⟨(ndf l k).path.toArray⟩ == lb ⟨(ndf m k).path.toArray⟩ && ((ndf l k).kind == (ndf m k).kind && (lb ⟨(ndf l k).data.toArray⟩ == lb ⟨(ndf m k).data.toArray⟩ && true)))) = false, inI ((k : Int) + 1)]) (by kernel_rfl) ?_ rfl rfl (by intro h; cases h) (ih (k + 1) ⟨h, by rw [hs, hd, hq, Bool.true_and]⟩ (by omega))
          exact ⟨decide_eq_true (by omega), by omega, h, by omega, h2, by rw [same_nd, hq]; rfl, ⟨by omega, by omega⟩, trivial⟩
        | false =>
          refine At.fin rfl [] trivial [.y, .y] (x := .v (.bool false))
            (ob := [decide ((k : Int) < (l.length : Int)) = true, 0 ≤ (k : Int) ∧ (k : Int) < (l.length : Int), k < l.length, 0 ≤ (k : Int) ∧ (k : Int) < (m.length : Int), k < m.length, (!(lb ⟨(ndf l k).path.toArray⟩ == lb ⟨(ndf m k).path.toArray⟩ && ((ndf l k).kind == (ndf m k).kind && (lb ⟨(ndf l k).data.toArray⟩ == lb ⟨(ndf m k).data.toArray⟩ && true)))) = true]) (by kernel_rfl) ?_ fun ρ w' hf _ => ⟨by rw [hs, hd, hq]; rfl, hf.below⟩
          exact ⟨decide_eq_true (by omega), by omega, h, by omega, h2, by rw [same_nd, hq]; rfl, trivial⟩
      · refine At.fin rfl [] trivial [.n] (x := .v (.bool true)) (ob := [decide ((k : Int) < (l.length : Int)) = false]) (by kernel_rfl) ⟨decide_eq_false (by omega), trivial⟩ fun ρ w' hf _ => ⟨?_, hf.below⟩
        rw [hs, List.drop_of_length_le (by omega), List.drop_of_length_le (by omega)]
        rfl
    refine At.run rfl [] trivial [.n] (tm2 := tm2E l.length m.length cap cap2 0) (rows2 := rows2E (ndf l) (ndf m) l.length m.length) (ob := [((l.length : Int) != (m.length : Int)) = false]) (td := lp Tryd.f44 0) (by kernel_rfl) ⟨by rw [hne]; simp, trivial⟩ rfl rfl (by intro h; cases h) (hloop 0 ⟨by omega, rfl⟩)
  · refine At.fin rfl [] trivial [.y] (x := .v (.bool false)) (ob := [((l.length : Int) != (m.length : Int)) = true]) (by kernel_rfl) ⟨by simp; omega, trivial⟩ fun ρ w' hf _ => ⟨by rw [same_len l m hne]; rfl, hf.below⟩
end
theorem equal_short (a a2 : Option Addr) (n m cap cap2 : Nat) (h : n = 0 ∨ m = 0) (w : World) : Calls Tryd.prog 44 #[.slice a n cap, .slice a2 m cap2] w fun e w' => e = .returned (.bool (decide (n = m))) ∧ w' = w := by
  by_cases hne : n = m
  · obtain rfl : n = 0 := by omega
    subst hne
    go_enter Tryd.func44, Tryd.ntmps44
    go_wp2_with fail
    go_loopw [13] (fun i wr => i = .int .i64 0 ∧ wr = w) (fun _ _ => 0)
    case atStart => exact ⟨rfl, rfl⟩
    case round =>
      obtain ⟨rfl, rfl⟩ := hrel
      go_wp2_with fail
      go_ret
      exact ⟨rfl, rfl⟩
  · have h2 : ¬ (n : Int) = (m : Int) := by omega
    rw [decide_eq_false hne]
    go_enter Tryd.func44, Tryd.ntmps44
    go_wp2_with fail
    go_ret
    exact ⟨rfl, rfl⟩
theorem equal_any (v v2 : Value) (l m : List Nd) (hl : l.length ≤ 1000000000000000) (hm : m.length ≤ 1000000000000000) (w : World) (h1 : NdV w v l) (h2 : NdV w v2 m) : Calls Tryd.prog 44 #[v, v2] w fun e w' => e = .returned (.bool (sameL l m)) ∧ Below w.heap.size w w' := by
  obtain ⟨a, cap, rfl, _, _, h3⟩ := h1
  obtain ⟨a2, cap2, rfl, _, _, h4⟩ := h2
  by_cases h : l.length = 0 ∨ m.length = 0
  · refine (equal_short a a2 l.length m.length cap cap2 h w).mono ?_
    rintro e w' ⟨rfl, rfl⟩
    refine ⟨?_, Below.refl _ _⟩
    by_cases hq : l.length = m.length
    · have e1 : l = [] := List.length_eq_zero_iff.1 (by omega)
      have e2 : m = [] := List.length_eq_zero_iff.1 (by omega)
      rw [e1, e2]; rfl
    · rw [same_len l m hq, decide_eq_false hq]
  · obtain ⟨b, o, rfl, hN⟩ := h3 (by omega)
    obtain ⟨b2, o2, rfl, hN2⟩ := h4 (by omega)
    have r1 := nodes_row hN (by omega) 0
    have r2 := nodes_row hN2 (by omega) 0
    exact psame_rows l m cap cap2 (by omega) (by omega) hl hm (fun i => if i = 0 then ⟨b, o, 0⟩ else ⟨b2, o2, 0⟩) w r1 r2
theorem psame_any (v v2 : Value) (l m : List Nd) (hl : l.length ≤ 1000000000000000) (hm : m.length ≤ 1000000000000000) (w : World) (h1 : NdV w v l) (h2 : NdV w v2 m) : Calls Tryd.prog 23 #[v, v2] w fun e w' => e = .returned (.bool (sameL l m)) ∧ Below w.heap.size w w' := by
  have H := Lib.hid (equal_any v v2 l m hl hm w h1 h2)
  clear h1 h2
  generalize sameL l m = b at *
  go_enter Tryd.func23, Tryd.ntmps23
  go_wp2_with fail
  with_reducible refine H.out.mono ?_
  rintro e w2 ⟨rfl, hb⟩
  go_wp2_with fail
  go_ret
  exact ⟨rfl, hb⟩
end Go.Proofs.YtgbaaiedpiiepaaDoor
/- Heavy of the laws: more than is gone through; text of the laws: one of some. Its condition: lengths that fit. -/
namespace Go.Proofs.YtgbaaiedpiiepaaDoor
open Go.RowKit Go.Shelf
set_option linter.unusedVariables false
set_option linter.unusedSimpArgs false
def heavyC (c : Nd) : Bool := decide (6000 < c.path.length) || decide (70000 < c.data.length)
def sumD (l : List Nd) : Nat := (l.map fun c => c.data.length).sum
def heavyL (l : List Nd) : Bool := (l.take 300).any heavyC || (decide (280 < l.length) || decide (150000 < sumD (l.take 300)))
theorem sumD_snoc (l : List Nd) (k : Nat) (h : k < l.length) : sumD (l.take (k + 1)) = sumD (l.take k) + l[k].data.length := by
  unfold sumD
  rw [List.take_add_one, List.getElem?_eq_getElem h, List.map_append, List.sum_append]
  simp
theorem any_snoc (l : List Nd) (k : Nat) (h : k < l.length) : (l.take (k + 1)).any heavyC = ((l.take k).any heavyC || heavyC l[k]) := by
  rw [List.take_add_one, List.getElem?_eq_getElem h, List.any_append]
  simp
theorem light_of {l : List Nd} (h : heavyL l = false) : l.length ≤ 280 ∧ ∀ c ∈ l, c.path.length ≤ 6000 ∧ c.data.length ≤ 70000 := by
  unfold heavyL at h
  rw [Bool.or_eq_false_iff, Bool.or_eq_false_iff, decide_eq_false_iff_not] at h
  obtain ⟨h1, h2, _⟩ := h
  refine ⟨by omega, fun c hc => ?_⟩
  rw [List.take_of_length_le (by omega), List.any_eq_false] at h1
  have := h1 c hc
  simp only [heavyC, Bool.or_eq_true, decide_eq_true_eq, not_or] at this
  omega
set_option maxRecDepth 100000 in
set_option maxHeartbeats 2000000 in
theorem heavy_any (b o cap : Nat) (l : List Nd) (hl : l.length ≤ 9223372036854775807) (hp : ∀ c ∈ l, c.path.length ≤ 9223372036854775807) (hd : ∀ c ∈ l, c.data.length ≤ 9223372036854775807) (w : World) (hN : Nodes w b o l) :
    Calls Tryd.prog 10 #[slV b o l.length cap] w fun e w' => e = .returned (.bool (heavyL l)) ∧ w' = w := by
  have HN := Lib.hid hN
  clear hN
  obtain ⟨B, hB⟩ : ∃ B, Hid (B = heavyL l) := ⟨_, Lib.hid rfl⟩
  rw [← hB.out]
  obtain ⟨n, hn⟩ : ∃ n, Hid (n = l.length) := ⟨_, Lib.hid rfl⟩
  rw [← hn.out] at hl ⊢
  unfold slV
  have HLp : Hid (∀ k (hk : k < l.length), l[k].path.length ≤ 9223372036854775807 ∧ l[k].data.length ≤ 9223372036854775807) := Lib.hid (fun k hk => ⟨hp _ (List.getElem_mem _), hd _ (List.getElem_mem _)⟩)
  clear hp hd
  go_enter Tryd.func10, Tryd.ntmps10
  go_wp2_with fail
  go_loopw [3, 4] (fun x y wr => ∃ k q : Nat, k ≤ n ∧ k ≤ 300 ∧ x = .int .i64 (q : Int) ∧ y = .int .i64 (k : Int) ∧ q ≤ k * 70000 ∧ sumD (l.take k) = q ∧ (l.take k).any heavyC = false ∧ wr = w) (fun x y _ => 300 - (intOf y).toNat)
  case atStart => exact ⟨0, 0, by omega, by omega, rfl, rfl, by omega, by simp [sumD], by simp, rfl⟩
  case round =>
    obtain ⟨k, q, hk, hk3, rfl, rfl, hq, hsum, hany, rfl⟩ := hrel
    have HS := Lib.hid hsum
    have HY := Lib.hid hany
    clear hsum hany
    have hend : Hid ((n ≤ k ∨ 300 ≤ k) → B = (decide ((n : Int) > 280) || decide ((q : Int) > 150000))) := Lib.hid (fun h => by
      have ht : l.take 300 = l.take k := by
        rcases h with h | h
        · have e := hn.out
          rw [List.take_of_length_le (by omega), List.take_of_length_le (by omega)]
        · rw [show k = 300 by omega]
      rw [hB.out]
      unfold heavyL
      rw [ht, HY.out, HS.out, Bool.false_or, ← hn.out]
      rw [show decide (280 < n) = decide ((n : Int) > 280) from decide_eq_decide.2 (by omega), show decide (150000 < q) = decide ((q : Int) > 150000) from decide_eq_decide.2 (by omega)])
    by_cases hlt : k < n
    · have hltI : (k : Int) < (n : Int) := by omega
      by_cases h3 : k < 300
      · have h3I : (k : Int) < 300 := by omega
        have hkl : k < l.length := by have := hn.out; omega
        have c0 := (HN.out.2 k hkl).1
        have c2 := (HN.out.2 k hkl).2.2
        have hcl := HLp.out k hkl
        have hst1 := Lib.hid (sumD_snoc l k hkl)
        have hst2 := Lib.hid (any_snoc l k hkl)
        rw [HS.out] at hst1
        rw [HY.out, Bool.false_or] at hst2
        have hbad : Hid (heavyC l[k] = true → B = true) := Lib.hid (fun h => by
          rw [hB.out]
          unfold heavyL
          have : (l.take 300).any heavyC = true := by
            rw [List.any_eq_true]
            exact ⟨l[k], List.mem_take_iff_getElem.2 ⟨k, by omega, rfl⟩, h⟩
          rw [this, Bool.true_or])
        obtain ⟨c, hc⟩ : ∃ c, Hid (c = l[k]) := ⟨_, Lib.hid rfl⟩
        rw [← hc.out] at c0 c2 hcl hst1 hst2 hbad
        obtain ⟨A, hA⟩ : ∃ x : ByteArray, Hid (x = ⟨c.path.toArray⟩) := ⟨_, Lib.hid rfl⟩
        obtain ⟨E, hE⟩ : ∃ x : ByteArray, Hid (x = ⟨c.data.toArray⟩) := ⟨_, Lib.hid rfl⟩
        rw [show strV c.path = .string A by rw [hA.out]; rfl] at c0
        rw [show strV c.data = .string E by rw [hE.out]; rfl] at c2
        have hAs : A.size = c.path.length := by rw [hA.out]; rfl
        have hEs : E.size = c.data.length := by rw [hE.out]; rfl
        rw [← hAs, ← hEs] at hcl
        rw [← hEs] at hst1
        have hHC : Hid (heavyC c = (decide (6000 < A.size) || decide (70000 < E.size))) := Lib.hid (by unfold heavyC; rw [hAs, hEs])
        clear hA hE hAs hEs hc hkl
        by_cases h6 : A.size ≤ 6000
        · have h6I : ¬ (A.size : Int) > 6000 := by omega
          by_cases h7 : E.size ≤ 70000
          · have h7I : ¬ (E.size : Int) > 70000 := by omega
            have hz : Hid (heavyC c = false) := Lib.hid (by rw [hHC.out, decide_eq_false (by omega), decide_eq_false (by omega)]; rfl)
            rw [hz.out] at hst2
            have f0 : (q : Int) + (E.size : Int) ≤ 9223372036854775807 := by omega
            have f1 : q + E.size ≤ (k + 1) * 70000 := by omega
            go_wp2_with fail
            go_roundw
            case rel => exact ⟨k + 1, q + E.size, by omega, by omega, by first | rfl | simp | go_num, by first | rfl | simp | go_num, f1, hst1.out, hst2.out, trivial⟩
            case measure => simp [intOf] <;> omega
          · have h7I : (E.size : Int) > 70000 := by omega
            have hz := Lib.hid (hbad.out (by rw [hHC.out, decide_eq_true (show 70000 < E.size by omega), Bool.or_true]))
            go_wp2_with fail
            go_ret
            exact ⟨by rw [hz.out]; rfl, rfl⟩
        · have h6I : (A.size : Int) > 6000 := by omega
          have hz := Lib.hid (hbad.out (by rw [hHC.out, decide_eq_true (show 6000 < A.size by omega), Bool.true_or]))
          go_wp2_with fail
          go_ret
          exact ⟨by rw [hz.out]; rfl, rfl⟩
      · have h3I : ¬ (k : Int) < 300 := by omega
        have hz := Lib.hid (hend.out (Or.inr (by omega)))
        by_cases g : (n : Int) > 280
        · rw [decide_eq_true g, Bool.true_or] at hz
          go_wp2_with fail
          go_ret
          exact ⟨by rw [hz.out]; rfl, rfl⟩
        · rw [decide_eq_false g, Bool.false_or] at hz
          go_wp2_with fail
          go_ret
          exact ⟨by rw [hz.out]; rfl, rfl⟩
    · have hltI : ¬ (k : Int) < (n : Int) := by omega
      have hz := Lib.hid (hend.out (Or.inl (by omega)))
      by_cases g : (n : Int) > 280
      · rw [decide_eq_true g, Bool.true_or] at hz
        go_wp2_with fail
        go_ret
        exact ⟨by rw [hz.out]; rfl, rfl⟩
      · rw [decide_eq_false g, Bool.false_or] at hz
        go_wp2_with fail
        go_ret
        exact ⟨by rw [hz.out]; rfl, rfl⟩
end Go.Proofs.YtgbaaiedpiiepaaDoor
/- text of the laws: one of some texts. No condition but that what is asked for is not below nought. -/
namespace Go.Proofs.YtgbaaiedpiiepaaDoor
open Go.RowKit Go.Shelf
set_option linter.unusedVariables false
set_option linter.unusedSimpArgs false
/-- Texts as cells of memory, from a place on. -/
def Txts (W : World) (b o : Nat) (l : List (List UInt8)) : Prop := b < W.heap.size ∧ ∀ i (h : i < l.length), W.cell? ⟨b, o + i, none⟩ = some (strV l[i])
theorem Txts.below {W W2 : World} {b o : Nat} {l : List (List UInt8)} (h : Txts W b o l) (hb : Below W.heap.size W W2) : Txts W2 b o l :=
  ⟨Nat.lt_of_lt_of_le h.1 hb.size, fun i hi => (hb.cell h.1).trans (h.2 i hi)⟩
set_option maxRecDepth 100000 in
set_option maxHeartbeats 1000000 in
theorem text_nil (a : Option Addr) (cap : Nat) (i : Int) (w : World) : Calls Tryd.prog 45 #[.slice a 0 cap, .int .i64 i] w fun e w' => e = .returned (strV []) ∧ w' = w := by
  go_enter Tryd.func45, Tryd.ntmps45
  go_wp2_with fail
  go_ret
  exact ⟨rfl, rfl⟩
set_option maxRecDepth 100000 in
set_option maxHeartbeats 1000000 in
theorem text_pos (b o cap : Nat) (l : List (List UInt8)) (hl : l.length ≤ 9223372036854775807) (h0 : 0 < l.length) (i : Nat) (hi : i ≤ 9223372036854775807) (w : World) (hN : Txts w b o l) :
    Calls Tryd.prog 45 #[slV b o l.length cap, .int .i64 (i : Int)] w fun e w' => e = .returned (strV (textL l i)) ∧ w' = w := by
  obtain ⟨k, hk⟩ : ∃ k, k = i % l.length := ⟨_, rfl⟩
  have hkl : k < l.length := by rw [hk]; exact Nat.mod_lt _ h0
  have hc := hN.2 k hkl
  have hz : Hid (textL l i = l[k]) := Lib.hid (by
    unfold textL
    rw [if_neg (by intro e; rw [e] at h0; exact absurd h0 (by decide)), List.getD_eq_getElem?_getD, ← hk, List.getElem?_eq_getElem hkl]
    rfl)
  rw [hz.out]
  obtain ⟨X, hX⟩ : ∃ x : ByteArray, Hid (x = ⟨l[k].toArray⟩) := ⟨_, Lib.hid rfl⟩
  rw [show strV l[k] = .string X by rw [hX.out]; rfl] at hc ⊢
  have hm : (i : Int).tmod (l.length : Int) = (k : Int) := by rw [Int.tmod_eq_emod_of_nonneg (by omega), hk]; rfl
  have hm2 : (i : Int) % (l.length : Int) = (k : Int) := by rw [hk]; rfl
  have hnz : ¬ (l.length : Int) = 0 := by omega
  have hkI : (k : Int) < (l.length : Int) := by omega
  obtain ⟨n, hn⟩ : ∃ n, Hid (n = l.length) := ⟨_, Lib.hid rfl⟩
  rw [← hn.out] at hm hm2 hnz hkI hl ⊢
  clear hz hX hk h0 hN hkl
  unfold slV
  go_enter Tryd.func45, Tryd.ntmps45
  go_wp2_with fail
  go_ret
  exact ⟨rfl, rfl⟩
end Go.Proofs.YtgbaaiedpiiepaaDoor
/- Nodes in a row of the call's own, and one more behind them; texts and numbers handed in. Its conditions: lengths that fit. -/
namespace Go.Proofs.YtgbaaiedpiiepaaDoor
open Go.RowKit Go.Shelf
set_option linter.unusedVariables false
set_option linter.unusedSimpArgs false
/-- The cells of some nodes. -/
def ndsV (l : List Nd) : List Value := l.flatMap fun c => [strV c.path, .int .i64 c.kind, strV c.data]
theorem ndsV_app (l m : List Nd) : ndsV (l ++ m) = ndsV l ++ ndsV m := by simp [ndsV]
theorem ndsV_len (l : List Nd) : (ndsV l).length = l.length * 3 := by
  induction l with
  | nil => rfl
  | cons c l ih => rw [show ndsV (c :: l) = [strV c.path, .int .i64 c.kind, strV c.data] ++ ndsV l from rfl, List.length_append, ih, List.length_cons]; simp; omega
theorem ndsV_at : ∀ (l : List Nd) (i : Nat) (h : i < l.length), (ndsV l)[i * 3]? = some (strV l[i].path) ∧ (ndsV l)[i * 3 + 1]? = some (.int .i64 l[i].kind) ∧ (ndsV l)[i * 3 + 2]? = some (strV l[i].data)
  | [], i, h => absurd h (Nat.not_lt_zero _)
  | c :: l, 0, h => ⟨rfl, rfl, rfl⟩
  | c :: l, i + 1, h => by
    have ih := ndsV_at l i (by simpa using h)
    have e : ∀ j, (ndsV (c :: l))[(i + 1) * 3 + j]? = (ndsV l)[i * 3 + j]? := fun j => by
      rw [show ndsV (c :: l) = [strV c.path, .int .i64 c.kind, strV c.data] ++ ndsV l from rfl, List.getElem?_append_right (by simp; omega)]
      congr 1
      simp
      omega
    have e0 := e 0
    simp only [Nat.add_zero] at e0
    rw [e0, e 1, e 2]
    simpa using ih
/-- A slice of texts. -/
def TxtV (W : World) (v : Value) (l : List (List UInt8)) : Prop := l.length ≤ 9223372036854775807 ∧ ∃ a cap, v = .slice a l.length cap ∧ (0 < l.length → ∃ b o, a = some ⟨b, o, none⟩ ∧ Txts W b o l)
theorem TxtV.below {W W2 : World} {v : Value} {l : List (List UInt8)} (h : TxtV W v l) (hb : Below W.heap.size W W2) : TxtV W2 v l := by
  obtain ⟨h1, a, cap, rfl, h2⟩ := h
  refine ⟨h1, a, cap, rfl, fun h0 => ?_⟩
  obtain ⟨b, o, rfl, h3⟩ := h2 h0
  exact ⟨b, o, rfl, h3.below hb⟩
theorem text_one {w : World} {v : Value} {l : List (List UInt8)} (h : TxtV w v l) (i : Nat) (hi : i ≤ 9223372036854775807) :
    Calls Tryd.prog 45 #[v, .int .i64 (i : Int)] w fun e w' => e = .returned (strV (textL l i)) ∧ w' = w := by
  obtain ⟨h1, a, cap, rfl, h2⟩ := h
  by_cases h0 : 0 < l.length
  · obtain ⟨b, o, rfl, h3⟩ := h2 h0
    exact text_pos b o cap l h1 h0 i hi w h3
  · have e : l = [] := List.eq_nil_of_length_eq_zero (by omega)
    subst e
    exact text_nil a cap _ w
/-- A slice of numbers. -/
def NumV (W : World) (b o cap : Nat) (l : List UInt8) : Prop := l.length ≤ cap ∧ cap ≤ 9223372036854775807 ∧ b < W.heap.size ∧ ∀ i (h : i < l.length), W.cell? ⟨b, o + i, none⟩ = some (.int .u8 (l[i].toNat : Int))
theorem NumV.below {W W2 : World} {b o cap : Nat} {l : List UInt8} (h : NumV W b o cap l) (hb : Below W.heap.size W W2) : NumV W2 b o cap l :=
  ⟨h.1, h.2.1, Nat.lt_of_lt_of_le h.2.2.1 hb.size, fun i hi => (hb.cell h.2.2.1).trans (h.2.2.2 i hi)⟩
theorem info42 : (Tryd.prog.info? 42).map (fun i => (i.zero, i.size, i.bytes)) = some (some (.agg #[.string { data := #[] }, .int .i64 0, .string { data := #[] }]), 3, 40) := by kernel_rfl
theorem own_shape {w : World} {B : Nat} {e : TypeId} {size : Nat} {v : Value} {n : Nat} {xs : List Value} (h : w.ownsRow B e size v n xs) : ∃ a c, v = .slice a n c := by
  rcases h.2 with ⟨rfl, rfl⟩ | ⟨g, cap, cur, rfl, _⟩
  · exact ⟨none, 0, rfl⟩
  · exact ⟨_, cap, rfl⟩
theorem parts42 : ∃ i, Tryd.prog.info? 42 = some i ∧ i.zero = some (.agg #[.string { data := #[] }, .int .i64 0, .string { data := #[] }]) ∧ i.size = 3 ∧ i.bytes = 40 := by
  have h := info42
  cases hq : Tryd.prog.info? 42 with
  | none => rw [hq] at h; cases h
  | some i =>
    rw [hq] at h
    simp only [Option.map_some, Option.some.injEq, Prod.mk.injEq] at h
    exact ⟨i, rfl, h.1, h.2.1, h.2.2⟩
/-- One more node behind a row of the call's own. -/
theorem nodes_app {W wr : World} {B : Nat} {v : Value} {l : List Nd} (hown : wr.ownsRow B 42 3 v l.length (ndsV l)) (hb : Below B W wr) (hB : B ≤ wr.heap.size) (c : Nd) (arr : Array Value) (harr : arr = (ndsV [c]).toArray) (hlt : l.length ≤ 1000000) :
    ∃ p cp W3, (∀ (ρ : Operand → Value) (o : Oper) (s y : Operand), o.op = Op.call { callee := Callee.builtin Builtin.append, args := #[s, y], argTypes := #[22, 22] } → ρ s = v → ρ y = .slice (some ⟨wr.heap.size, 0, none⟩) 1 1 → (execOp ρ o).run Tryd.prog (wr.alloc (.cells arr 42)) = .ok (.value (.slice p (l.length + 1) cp)) W3) ∧
      W3.ownsRow B 42 3 (.slice p (l.length + 1) cp) (l ++ [c]).length (ndsV (l ++ [c])) ∧ Below B W W3 ∧ (wr.alloc (.cells arr 42)).grownBy W3 v.ownBlock ∧ ((Value.slice p (l.length + 1) cp).ownBlock = v.ownBlock ∨ (Value.slice p (l.length + 1) cp).ownBlock = some (wr.heap.size + 1)) := by
  obtain ⟨i3, hi3, hz3, hs3, hb3⟩ := parts42
  subst harr
  obtain ⟨v', W3, happ, hown', hgrow, hat⟩ := R.exec_append_own (P := Tryd.prog) (wr.alloc (.cells (ndsV [c]).toArray 42)) B 22 42 i3 _ 3 40 Tryd.underlying22 hi3 hz3 hs3 hb3 rfl (by decide) v l.length _ (hown.alloc _) ⟨wr.heap.size, 0, none⟩ 1 1 (ndsV [c]) (by rw [ndsV_len]; rfl) (by
      intro j u hu
      rw [R.addr_add, cell_of_row _ wr.heap.size (0 + j) (ndsV [c]).toArray 42 (0, 0) (row_new wr _ 42), Nat.zero_add, List.getElem?_toArray]
      exact hu) (by intro u hu; simp [ndsV] at hu; rcases hu with rfl | rfl | rfl <;> rfl) (by unfold maxLen; omega) (by omega) (by simp; omega)
  obtain ⟨p, cp, rfl⟩ := own_shape hown'
  refine ⟨p, cp, W3, happ, ?_, (hb.alloc hB _).grown hgrow (by simp; omega) (fun j hj => (hown.lt j hj).1), hgrow, ?_⟩
  · rw [List.length_append, List.length_singleton, ndsV_app]; exact hown'
  · rcases hat with h | h
    · exact .inl h
    · refine .inr ?_
      rw [h]
      simp
def namesA : Array Value := #[.string { data := #[97] }, .string { data := #[98, 46, 99] }, .string { data := #[98, 105, 110] }, .string { data := #[108, 105, 98] }, .string { data := #[120, 32, 121] }, .string { data := #[122] }]
theorem names_at : ∀ k, k < 6 → namesA[k]? = some (strV (nmL k)) := by
  intro k h
  have : k = 0 ∨ k = 1 ∨ k = 2 ∨ k = 3 ∨ k = 4 ∨ k = 5 := by omega
  rcases this with rfl | rfl | rfl | rfl | rfl | rfl <;> rfl
/-- What a walk over rows of its own keeps: the row, the names, all that was there before. -/
def Mk (w0 : World) (gN : Nat) (v : Value) (m : List Nd) (W : World) : Prop :=
  Below w0.heap.size w0 W ∧ W.ownsRow w0.heap.size 42 3 v m.length (ndsV m) ∧ W.heap[gN]? = some (.cells namesA 9 (0, 0)) ∧ v.ownBlock ≠ some gN ∧ w0.heap.size ≤ gN
theorem own_below {W W2 : World} {B : Nat} {e : TypeId} {size : Nat} {v : Value} {n : Nat} {xs : List Value} (h : W.ownsRow B e size v n xs) (hb : Below W.heap.size W W2) : W2.ownsRow B e size v n xs := by
  refine ⟨h.1, ?_⟩
  rcases h.2 with h | ⟨g, c, cur, h1, h2, h3, h4⟩
  · exact Or.inl h
  · exact Or.inr ⟨g, c, cur, h1, h2, row_below h3 hb, h4⟩
theorem Mk.below {w0 W W2 : World} {gN : Nat} {v : Value} {m : List Nd} (h : Mk w0 gN v m W) (hb : Below W.heap.size W W2) : Mk w0 gN v m W2 :=
  ⟨h.1.trans (hb.mono h.1.size), own_below h.2.1 hb, row_below h.2.2.1 hb, h.2.2.2.1, h.2.2.2.2⟩
theorem Mk.alloc {w0 W : World} {gN : Nat} {v : Value} {m : List Nd} (h : Mk w0 gN v m W) (o : Obj) : Mk w0 gN v m (W.alloc o) := h.below ((Below.refl _ W).alloc (Nat.le_refl _) o)
theorem Mk.drewN {w0 W : World} {gN : Nat} {v : Value} {m : List Nd} (h : Mk w0 gN v m W) (n : Nat) : Mk w0 gN v m (W.drewN n) := h.below (Below.drewN (Below.refl _ W) n)
theorem Mk.name {w0 W : World} {gN : Nat} {v : Value} {m : List Nd} (h : Mk w0 gN v m W) (k : Nat) (hk : k < 6) : W.cell? ⟨gN, k, none⟩ = some (strV (nmL k)) := (cell_of_row W gN k namesA 9 (0, 0) h.2.2.1).trans (names_at k hk)
theorem Mk.set {w0 W : World} {gN g : Nat} {v : Value} {m : List Nd} (h : Mk w0 gN v m W) (hg : w0.heap.size ≤ g) (hN : g ≠ gN) (hv : v.ownBlock ≠ some g) (D : Array Value) : Mk w0 gN v m (W.setRow g D) := by
  refine ⟨h.1.trans ⟨rfl, rfl, rfl, by simp, fun k hk => setRow_other _ _ _ _ (by omega)⟩, ⟨h.2.1.1, ?_⟩, (setRow_other _ _ _ _ hN.symm).trans h.2.2.1, h.2.2.2.1, h.2.2.2.2⟩
  rcases h.2.1.2 with h | ⟨g2, c, cur, h1, h2, h3, h4⟩
  · exact Or.inl h
  · refine Or.inr ⟨g2, c, cur, h1, h2, (setRow_other _ _ _ _ ?_).trans h3, h4⟩
    intro e
    subst e
    rw [h1] at hv
    exact hv rfl
/-- And a box that holds a node. -/
def Mg (w0 : World) (gN : Nat) (v : Value) (m : List Nd) (g : Nat) (D : Array Value) (W : World) : Prop := Mk w0 gN v m W ∧ W.heap[g]? = some (.cells D 42 (0, 0)) ∧ w0.heap.size ≤ g ∧ g ≠ gN ∧ v.ownBlock ≠ some g
theorem Mg.below {w0 W W2 : World} {gN g : Nat} {v : Value} {m : List Nd} {D : Array Value} (h : Mg w0 gN v m g D W) (hb : Below W.heap.size W W2) : Mg w0 gN v m g D W2 := ⟨h.1.below hb, row_below h.2.1 hb, h.2.2⟩
theorem Mg.new {w0 W : World} {gN : Nat} {v : Value} {m : List Nd} (h : Mk w0 gN v m W) (D : Array Value) : Mg w0 gN v m W.heap.size D (W.alloc (.cells D 42)) :=
  ⟨h.alloc _, row_new W D 42, h.1.size, fun e => absurd (Array.getElem?_eq_some_iff.1 h.2.2.1).1 (by rw [e]; exact Nat.lt_irrefl _), fun e => absurd (h.2.1.lt _ e).2 (Nat.lt_irrefl _)⟩
theorem Mg.set {w0 W : World} {gN g : Nat} {v : Value} {m : List Nd} {D : Array Value} (h : Mg w0 gN v m g D W) (D2 : Array Value) : Mg w0 gN v m g D2 (W.setRow g D2) :=
  ⟨h.1.set h.2.2.1 h.2.2.2.1 h.2.2.2.2 D2, setRow_heap _ _ _ _ _ _ h.2.1, h.2.2⟩
theorem Mg.cell {w0 W : World} {gN g : Nat} {v : Value} {m : List Nd} {D : Array Value} (h : Mg w0 gN v m g D W) (j : Nat) (x : Value) (hx : D[j]? = some x) : W.cell? ⟨g, j, none⟩ = some x := (cell_of_row W g j D 42 (0, 0) h.2.1).trans hx
def ndA (a c : ByteArray) (k : Int) : Array Value := #[.string a, .int .i64 k, .string c]
theorem bd3 (a c : ByteArray) (k : Int) (w : World) : (Instr.build 42 #[(0, .string a), (1, .int .i64 k), (2, .string c)]).run Tryd.prog w = .ok (.agg (ndA a c k)) w := by kernel_rfl
theorem bd2 (a : ByteArray) (k : Int) (w : World) : (Instr.build 42 #[(0, .string a), (1, .int .i64 k)]).run Tryd.prog w = .ok (.agg (ndA a { data := #[] } k)) w := by kernel_rfl
theorem exec_bd3 {ρ : Operand → Value} {o : Oper} (x y z : Operand) (ho : o.op = .build 42 #[(0, x), (1, y), (2, z)]) (a c : ByteArray) (k : Int) (hx : ρ x = .string a) (hy : ρ y = .int .i64 k) (hz : ρ z = .string c) (w : World) : (execOp ρ o).run Tryd.prog w = .ok (.value (.agg (ndA a c k))) w := by
  have h := bd3 a c k w
  unfold execOp
  rw [ho]
  simp [hx, hy, hz, Sem.run_bind, h]
theorem exec_bd2 {ρ : Operand → Value} {o : Oper} (x y : Operand) (ho : o.op = .build 42 #[(0, x), (1, y)]) (a : ByteArray) (k : Int) (hx : ρ x = .string a) (hy : ρ y = .int .i64 k) (w : World) : (execOp ρ o).run Tryd.prog w = .ok (.value (.agg (ndA a { data := #[] } k))) w := by
  have h := bd2 a k w
  unfold execOp
  rw [ho]
  simp [hx, hy, Sem.run_bind, h]
theorem ndOne (a c : ByteArray) (k : Int) : ∀ v ∈ [Value.string a, Value.int .i64 k, Value.string c], v.oneCell' = true := by
  intro v hv
  simp at hv
  rcases hv with rfl | rfl | rfl <;> rfl
theorem size42 (a c : ByteArray) (k : Int) : (Tryd.prog.info? 42).map (·.size) = some [Value.string a, Value.int .i64 k, Value.string c].length := by kernel_rfl
theorem exec_store42 {ρ : Operand → Value} {o : Oper} (w : World) (x y : Operand) (ho : o.op = .store 42 x y) (g : Nat) (hx : ρ x = .pointer (some ⟨g, 0, none⟩)) (a c : ByteArray) (k : Int) (hy : ρ y = .agg (ndA a c k)) (cur : Array Value) (t : TypeId)
    (hg : w.heap[g]? = some (.cells cur t (0, 0))) (h3 : cur.size = 3) : (execOp ρ o).run Tryd.prog w = .ok .skip (w.setRow g (ndA a c k)) := by
  have h := R.exec_store_seg (P := Tryd.prog) (ρ := ρ) (o := o) w 42 x y ho g 0 hx [.string a, .int .i64 k, .string c] hy cur t hg (by simp; omega) (ndOne a c k) (size42 a c k)
  rwa [R.splice_all _ _ (by simp; exact h3)] at h
theorem load42 {W : World} {g : Nat} (a c : ByteArray) (k : Int) {t : TypeId} (hg : W.heap[g]? = some (.cells (ndA a c k) t (0, 0))) : (loadVar 42 ⟨g, 0, none⟩).run Tryd.prog W = .ok (.agg (ndA a c k)) W :=
  R.run_loadVar_seg W 42 g 0 [.string a, .int .i64 k, .string c] _ (fun j v hv => by rw [Nat.zero_add, cell_of_row W g j _ t (0, 0) hg, show ndA a c k = [Value.string a, Value.int .i64 k, Value.string c].toArray from rfl, List.getElem?_toArray, hv]) Tryd.underlying42 rfl (size42 a c k)
theorem exec_load42 {ρ : Operand → Value} {o : Oper} (w : World) (x : Operand) (ho : o.op = .load 42 x) (g : Nat) (hx : ρ x = .pointer (some ⟨g, 0, none⟩)) (a c : ByteArray) (k : Int) {t : TypeId} (hg : w.heap[g]? = some (.cells (ndA a c k) t (0, 0))) : (execOp ρ o).run Tryd.prog w = .ok (.value (.agg (ndA a c k))) w := by
  have h := load42 a c k hg
  unfold execOp
  rw [ho]
  simp [hx, Sem.run_bind, Instr.loadAt, Instr.sureAddr, h]
theorem bs22 (a c : ByteArray) (k : Int) (w : World) : (Instr.buildSlice 22 1 #[(0, .agg (ndA a c k))]).run Tryd.prog w = .ok (.slice (some ⟨w.heap.size, 0, none⟩) 1 1) (w.alloc (.cells (ndA a c k) 42)) := by kernel_rfl
theorem exec_bs22 {ρ : Operand → Value} {o : Oper} (w : World) (x : Operand) (ho : o.op = .buildSlice 22 1 #[(0, x)]) (a c : ByteArray) (k : Int) (hx : ρ x = .agg (ndA a c k)) : (execOp ρ o).run Tryd.prog w = .ok (.value (.slice (some ⟨w.heap.size, 0, none⟩) 1 1)) (w.alloc (.cells (ndA a c k) 42)) := by
  have h := bs22 a c k w
  unfold execOp
  rw [ho]
  simp [hx, Sem.run_bind, h]
theorem dir2_cons (texts : List (List UInt8)) (p : List UInt8) {k : Nat} {m : Nat} (a : UInt8) (ns : List UInt8) (h : k < 6) (h2 : m < 16) : dir2L texts p (a :: ns) k m = ⟨joinL p (nmL k), 1, textL texts a.toNat⟩ :: dir2L texts p ns (k + 1) (m + 1) := by
  rw [dir2L, if_pos ⟨h, h2⟩]
theorem mk_grown {w0 W W3 : World} {gN : Nat} {v v3 : Value} {m m3 : List Nd} {o : Obj} (h : Mk w0 gN v m W) (hown : W3.ownsRow w0.heap.size 42 3 v3 m3.length (ndsV m3)) (hb : Below w0.heap.size w0 W3) (hg : (W.alloc o).grownBy W3 v.ownBlock) (hat : v3.ownBlock = v.ownBlock ∨ v3.ownBlock = some (W.heap.size + 1)) : Mk w0 gN v3 m3 W3 := by
  have hlt : gN < W.heap.size := (Array.getElem?_eq_some_iff.1 h.2.2.1).1
  refine ⟨hb, hown, ?_, ?_, h.2.2.2.2⟩
  · rw [hg.block gN (by simp; omega) (fun e => h.2.2.2.1 e.symm)]
    exact (h.alloc o).2.2.1
  · rcases hat with e | e
    · rw [e]; exact h.2.2.2.1
    · rw [e]; intro e2; cases e2; omega
theorem exec_storeS {ρ : Operand → Value} {o : Oper} (w : World) (x y : Operand) (ho : o.op = .store 9 x y) (g j : Nat) (hx : ρ x = .pointer (some ⟨g, j, none⟩)) (S : ByteArray) (hy : ρ y = .string S) (D : Array Value) (t : TypeId) (hg : w.heap[g]? = some (.cells D t (0, 0))) (hj : j < D.size) (D2 : Array Value) (hD : D.setIfInBounds j (.string S) = D2) :
    (execOp ρ o).run Tryd.prog w = .ok .skip (w.setRow g D2) := by
  subst hD
  rw [← setCell_eq_setRow w g j D t (0, 0) _ hg]
  have hi : (Tryd.prog.info? 9).map (·.size) = some 1 := by kernel_rfl
  cases hq : Tryd.prog.info? 9 with
  | none => simp [hq] at hi
  | some i =>
    have hs : i.size = 1 := by simpa [hq] using hi
    have hc : w.cell? ⟨g, j, none⟩ = some D[j] := (cell_of_row w g j D t (0, 0) hg).trans (Array.getElem?_eq_getElem hj)
    have hf : w.frozen? ⟨g, j, none⟩ = false := by unfold World.frozen?; simp [hg]
    have hst : (store ⟨g, j, none⟩ (.string S)).run Tryd.prog w = .ok () (w.setCell ⟨g, j, none⟩ (.string S)) := by rw [run_store Tryd.prog w _ _ .plain rfl]; simp [hc, hf]
    unfold execOp
    simp [ho, hx, hy, Instr.storeAt, Instr.sureAddr, storeVar, sizeOf, typeInfo, hq, hs, show (Value.string S).cells = #[.string S] from rfl, storeCells]
    rw [Addr.add_zero', hst]; rfl
theorem en45 : ∀ args w, (callFunc 45 args).run Tryd.prog w = .ok (.enter 45 args) w := enters_of Tryd.func45 (by kernel_rfl) rfl
end Go.Proofs.YtgbaaiedpiiepaaDoor
/- What the laws call, as told to a run: Pack of nodes that lie in memory, Str, Word, Err; awake. Its conditions: lengths that fit. -/
namespace Go.Proofs.YtgbaaiedpiiepaaDoor
open Go.RowKit Go.Shelf
set_option linter.unusedVariables false
set_option linter.unusedSimpArgs false
def packS (l : List Nd) : List UInt8 := if mayL l then treeL l else []
def packE (l : List Nd) : Int := if mayL l then 0 else 1
theorem ppackV_eq (l : List Nd) : ppackV l = .tuple #[strV (packS l), .int .i64 (packE l)] := by
  unfold ppackV packS packE packL
  cases mayL l <;> rfl
theorem ppack_nil (a : Option Addr) (cap : Nat) (w : World) : Calls Tryd.prog 12 #[.slice a 0 cap] w fun e w' => e = .returned (ppackV []) ∧ Below w.heap.size w w' := by
  have H := Lib.hid (pmay_nil a cap w)
  go_enter Tryd.func12, Tryd.ntmps12
  go_wp2_with fail
  refine H.out.mono ?_
  rintro e w1 ⟨rfl, rfl⟩
  go_wp2_with fail
  go_ret2
  exact ⟨rfl, Below.refl _ _⟩
theorem ppack_any (v : Value) (l : List Nd) (hl : l.length ≤ 1000000) (hp : ∀ c ∈ l, c.path.length ≤ 10000) (hd : ∀ c ∈ l, c.data.length ≤ 100000) (w : World) (h : NdV w v l) : Calls Tryd.prog 12 #[v] w fun e w' => e = .returned (.tuple #[strV (packS l), .int .i64 (packE l)]) ∧ Below w.heap.size w w' := by
  rw [← ppackV_eq]
  obtain ⟨a, cap, rfl, h1, h2, h3⟩ := h
  cases l with
  | nil => exact ppack_nil a cap w
  | cons d r =>
    obtain ⟨b, o, rfl, hN⟩ := h3 (by simp)
    exact ppack_pos b o cap d r hl h1 hp hd w hN
theorem pmay_v (v : Value) (l : List Nd) (hl : l.length ≤ 1000000) (hp : ∀ c ∈ l, c.path.length ≤ 1000000) (hd : ∀ c ∈ l, c.data.length ≤ 1000000) (w : World) (h : NdV w v l) : Calls Tryd.prog 14 #[v] w fun e w' => e = .returned (.bool (mayL l)) ∧ Below w.heap.size w w' := by
  obtain ⟨a, cap, rfl, h1, h2, h3⟩ := h
  cases l with
  | nil => exact (pmay_nil a cap w).mono (by rintro e w' ⟨rfl, rfl⟩; exact ⟨rfl, Below.refl _ _⟩)
  | cons d r =>
    obtain ⟨b, o, rfl, hN⟩ := h3 (by simp)
    exact pmay_any b o cap d r hl hp hd w hN
theorem err_any (n : Int) (w : World) : Calls Tryd.prog 16 #[.int .i64 n] w fun e w' => e = .returned (.int .i64 n) ∧ w' = w := by
  go_enter Tryd.func16, Tryd.ntmps16
  go_wp2_with fail
  go_ret
  exact ⟨rfl, rfl⟩
section
open E
theorem ent12 : Enters Tryd.prog 12 := enters_of Tryd.func12 (by kernel_rfl) rfl
theorem ent11 : Enters Tryd.prog 11 := enters_of Tryd.func11 (by kernel_rfl) rfl
theorem ent14 : Enters Tryd.prog 14 := enters_of Tryd.func14 (by kernel_rfl) rfl
theorem ent16 : Enters Tryd.prog 16 := enters_of Tryd.func16 (by kernel_rfl) rfl
abbrev hStr (p : List UInt8) : Hint := pc 21 #[stv p] (.v (stv (strL p)))
abbrev hErr (n : Int) : Hint := pc 16 #[.int .i64 n] (.int .i64 n)
abbrev hWord (n : Int) (q : List UInt8) : Hint := pc 19 #[.int .i64 n] (.v (stv q))
theorem hStr_ok (id : Nat) (p : List UInt8) (hp : p.length ≤ 1000000) : HintOk Tryd.prog id (hStr p) := pc_ok ent21 (v := stv (strL p)) rfl (fun _ => rfl) fun w => pstr_any p hp w
theorem hErr_ok (id : Nat) (n : Int) : HintOk Tryd.prog id (hErr n) := pc_ok ent16 (v := .int .i64 n) rfl (fun _ => rfl) fun w => (err_any n w).mono (by rintro e w' ⟨rfl, rfl⟩; exact ⟨rfl, Below.refl _ _⟩)
theorem hWord_ok (id : Nat) (n : Int) (q : List UInt8) (h1 : -9223372036854775808 ≤ n) (h2 : n ≤ 9223372036854775807) (hq : wordL n.toNat = q) : HintOk Tryd.prog id (hWord n q) := pc_ok ent19 (v := stv q) rfl (fun _ => rfl) fun w => by rw [← hq]; exact pword_any n h1 h2 w
/-- Nodes that lie in a row. -/
theorem row_nodes {W : World} {ρ : Env} {r n : Nat} {f : Nat → List Value} {wr : Bool} {cp : Option (Nat × Nat)} {l : List Nd} (h : RowAt ρ r ⟨[.fnc f 3 n], wr, cp⟩ W) (hn : l.length ≤ n) (hlen : ∀ i, i < n → (f i).length = 3) (hf : ∀ i (hi : i < l.length), f i = [strV l[i].path, .int .i64 l[i].kind, strV l[i].data]) : Nodes W (ρ r).1 (ρ r).2 l := by
  refine ⟨h.1, fun i hi => ?_⟩
  have key : ∀ q, q < 3 → ∀ v, (f i)[q]? = some v → W.cell? ⟨(ρ r).1, (ρ r).2 + (i * 3 + q), none⟩ = some v := fun q hq v hv => by
    refine (h.2.1 (i * 3 + q) v ?_).1
    have e : lst ρ [Pc.fnc f 3 n] = (List.range n).flatMap f := by simp [lst, Pc.arrV]
    show (lst ρ [Pc.fnc f 3 n])[i * 3 + q]? = some v
    rw [e, flat_get (by omega) n hlen (i * 3 + q) (by omega), show (i * 3 + q) / 3 = i by omega, show (i * 3 + q) % 3 = q by omega, hv]
  rw [hf i hi] at key
  exact ⟨key 0 (by omega) _ rfl, key 1 (by omega) _ rfl, key 2 (by omega) _ rfl⟩
abbrev rowB (cs : List Value) (n : Nat) : Row := ⟨[.fnc (chunkF cs 3 n) 3 n], true, some (42, 3)⟩
theorem chunk_nd (l : List Nd) (i : Nat) (hi : i < l.length) : chunkF (ndsV l) 3 l.length i = [strV l[i].path, .int .i64 l[i].kind, strV l[i].data] := by
  obtain ⟨h1, _, h3⟩ := chunk_ok (l := ndsV l) (k := 3) (n := l.length) (ndsV_len l) (by omega) i hi
  obtain ⟨q1, q2, q3⟩ := ndsV_at l i hi
  apply List.ext_getElem?
  intro q
  by_cases hq : q < 3
  · rw [h3 q hq]
    have : q = 0 ∨ q = 1 ∨ q = 2 := by omega
    rcases this with rfl | rfl | rfl
    · exact q1
    · exact q2
    · exact q3
  · rw [List.getElem?_eq_none (by omega), List.getElem?_eq_none (by simp; omega)]
/-- A list of nodes that a run has built. -/
theorem built_ndv {W : World} {ρ : Env} {r : Nat} {l : List Nd} (h : RowAt ρ r (rowB (ndsV l) l.length) W) (h0 : 0 < l.length) : NdV W (.slice (some ⟨(ρ r).1, (ρ r).2 + (0 + 0 * 3), none⟩) l.length ((ρ r).3 - 0)) l := by
  obtain ⟨_, _, h3, _⟩ := id h
  obtain ⟨q1, q2, q3, _⟩ := h3 42 3 rfl
  have e : lst ρ (rowB (ndsV l) l.length).ps = (List.range l.length).flatMap (chunkF (ndsV l) 3 l.length) := by simp [lst, Pc.arrV]
  have hlen := flat_len (f := chunkF (ndsV l) 3 l.length) (k := 3) l.length (fun q hq => by rw [chunk_nd l q hq]; rfl)
  rw [e, hlen] at q3
  refine ⟨_, _, rfl, by omega, by unfold maxLen at q2; omega, fun _ => ⟨_, _, rfl, ?_⟩⟩
  exact row_nodes h (Nat.le_refl _) (fun i hi => by rw [chunk_nd l i hi]; rfl) (fun i hi => chunk_nd l i hi)
abbrev hPackB (r : Nat) (l : List Nd) (n : Nat) (s : List UInt8) (e : Int) : Hint := pr 12 (fun ρ => #[(TV.s (.lf (.sl r 0 0 3 n none))).val ρ]) (.tup [.lf (.v (stv s)), .lf (.v (.int .i64 e))]) [(r, rowB (ndsV l) n)]
theorem hPackB_ok (id r n : Nat) (l : List Nd) (s : List UInt8) (e : Int) (hn : n = l.length) (hs : packS l = s) (he : packE l = e) (h0 : 0 < l.length) (hl : l.length ≤ 1000000) (hp : ∀ c ∈ l, c.path.length ≤ 10000) (hd : ∀ c ∈ l, c.data.length ≤ 100000) : HintOk Tryd.prog id (hPackB r l n s e) := by
  subst hn
  refine pr_ok ent12 (v := .tuple #[strV (packS l), .int .i64 (packE l)]) (ok2 rfl rfl) (fun _ => by rw [hs, he]; rfl) fun ρ w h => ?_
  exact ppack_any _ l hl hp hd w (built_ndv (h (r, rowB (ndsV l) l.length) (by simp)) h0)
def ndX : Nd := ⟨[], 1, [120]⟩
theorem packS_X : packS [ndX] = treeL [ndX] := by decide +kernel
theorem packE_X : packE [ndX] = 0 := by decide +kernel
set_option maxRecDepth 100000 in
theorem awake_ok (w : World) : Calls Tryd.prog 11 #[] w fun e w' => e = .returned (.bool true) ∧ Below w.heap.size w w' := by
  refine straight [] [(2002, hPackB 2001 [ndX] 1 (treeL [ndX]) 0), (3000, hStr tOpen), (3005, hErr 0), (3016, hStr tMagic)] [] Tryd.func11 rfl mixed ⟨hPackB_ok _ _ _ [ndX] _ _ rfl packS_X packE_X (by decide) (by decide) (by decide) (by decide), hStr_ok _ _ (by decide), hErr_ok _ _, hStr_ok _ _ (by decide), trivial⟩ trivial rfl rfl rfl (ρ0 := fun _ => ⟨0, 0, 0⟩)
    (ob := qL (hPackB 2001 [ndX] 1 (treeL [ndX]) 0) ++ qL (hStr tOpen) ++ qL (hErr 0) ++ [0 ≤ (24 : Int) ∧ (24 : Int) ≤ ((treeL [ndX]).length : Int)] ++ qL (hStr tMagic)) (x := .v (.bool true)) (by kernel_rfl) ?_ (fun _ => rfl)
  refine all_append.2 ⟨all_append.2 ⟨all_append.2 ⟨all_append.2 ⟨all_qL _, all_qL _⟩, all_qL _⟩, ⟨by decide +kernel, trivial⟩⟩, all_qL _⟩
end
end Go.Proofs.YtgbaaiedpiiepaaDoor
