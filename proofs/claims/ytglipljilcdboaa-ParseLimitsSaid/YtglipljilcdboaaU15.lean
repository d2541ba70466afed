/- Several texts, one behind the other; each says by itself what it proves, and on what conditions. -/
import Derived.Test.YtglipljilcdboaaU14
/- Of the program: end. Its conditions: lengths that fit. -/
namespace Go.Proofs.Ytglipljilcdboaa
open Go.RowKit
set_option linter.unusedVariables false
set_option linter.unusedSimpArgs false
section
open E
/-- A row in a block that nobody wrote. -/
theorem rowAt_keep {ρ : Env} {r : Nat} {row : Row} {w w' : World} (h : RowAt ρ r row w) (hs : w.heap.size ≤ w'.heap.size) (hb : w'.heap[(ρ r).1]? = w.heap[(ρ r).1]?) : RowAt ρ r row w' := by
  obtain ⟨h1, h2, h3, h4⟩ := h
  have hc : ∀ x, w'.cell? ⟨(ρ r).1, x, none⟩ = w.cell? ⟨(ρ r).1, x, none⟩ := fun x => World.cell?_of_block (w := w) (a := ⟨(ρ r).1, x, none⟩) hb
  have hf : ∀ x, w'.frozen? ⟨(ρ r).1, x, none⟩ = w.frozen? ⟨(ρ r).1, x, none⟩ := fun x => by unfold World.frozen?; simp only [hb]
  refine ⟨Nat.lt_of_lt_of_le h1 hs, fun j v hv => by rw [hc, hf]; exact h2 j v hv, fun e k hk => ?_, by rw [hb]; exact h4⟩
  obtain ⟨g1, g2, g3, g4⟩ := h3 e k hk
  exact ⟨g1, g2, g3, by rw [hb]; exact g4⟩
theorem bs_cap {ρ : Env} {r : Nat} {bs : List UInt8} {w : World} (h : RowAt ρ r (byR bs) w) : bs.length ≤ (ρ r).3 ∧ (ρ r).3 ≤ 9223372036854775807 := by
  obtain ⟨_, g2, g3, _⟩ := h.2.2.1 5 1 rfl
  rw [lst_fnc, flat_byteF, List.length_map] at g3
  unfold maxLen at g2
  omega
/-- What end tells of a text of n bytes that is begun and whole. -/
def endL (bs : List UInt8) (n : Nat) : List UInt8 × Bool := if ((bs.drop (8 + n)).all (· == 0)) = true then ((bs.drop 8).take n, true) else ([], false)
abbrev slC (r n c : Nat) : Lf := .sl r 0 0 1 n (some c)
abbrev rwE (c : Nat) (vn vo : Value) (pl : Nat) (pa : List UInt8) (b : Bool) (bs : List UInt8) : List (Nat × Row) := [(0, rdP (slC 1 bs.length c) (.v vn) (.v vo) pl pa b), (1, ⟨(byR bs).ps, false, none⟩)]
abbrev tmE50 (n z c m i : Nat) (s : List UInt8) : List (Nat × TV) := [(0, ptrTo 0), (1, .int .i64 (n : Int)), (6, .v (stv s)), (23, .s (.lf (.sl 1 0 z 1 m (some c)))), (24, .int .i64 (m : Int)), (25, .int .i64 (i : Int))]
theorem text_val (bs : List UInt8) (n z : Nat) (hz : n = 0 ∨ z = 8) (h : 8 + n ≤ bs.length) : ((List.range n).map fun q => ubyte (byteF bs (addN z q))) = (bs.drop 8).take n := by
  apply List.ext_getElem
  · rw [List.length_map, List.length_range, List.length_take, List.length_drop]; omega
  · intro i h1 h2
    rw [List.length_map, List.length_range] at h1
    rw [List.getElem_map, List.getElem_range, List.getElem_take, List.getElem_drop, addN_eq]
    have hz8 : z = 8 := hz.resolve_left (by omega)
    subst hz8
    simp only [byteF, ubyte]
    rw [List.getD_eq_getElem?_getD, List.getElem?_eq_getElem (by omega), Option.getD_some, Int.toNat_natCast, u8_le]
set_option maxRecDepth 100000 in
theorem end_any (bs : List UInt8) (n : Nat) (hn : bs.length = 8 + padN n) (hbs : bs.length ≤ 1000000000000) (vn vo : Value) (hvn : vn.oneCell' = true) (hvo : vo.oneCell' = true) (pl : Nat) (pa : List UInt8) (b : Bool) (ρ : Env) (w : World) (h0 : RowAt ρ 0 (rdP (slB 1 bs.length) (.v vn) (.v vo) pl pa b) w) (h1 : RowAt ρ 1 (byR bs) w) (hne : (ρ 0).1 ≠ (ρ 1).1) :
    Calls Try.prog 50 #[(ptrTo 0).val ρ, .int .i64 (n : Int)] w fun e w' => e = .returned (.tuple #[stv (endL bs n).1, .bool (endL bs n).2]) ∧ Fr w [(ρ 0).1] w' ∧ RowAt ρ 0 (rdP (slB 1 (if (endL bs n).2 then 0 else bs.length)) (.v vn) (.v vo) pl pa b) w' ∧ RowAt ρ 1 (byR bs) w' := by
  obtain ⟨c, hc⟩ : ∃ c, c = (ρ 1).3 := ⟨_, rfl⟩
  have hcap := bs_cap h1
  rw [← hc] at hcap
  have hpl := pad_le n
  have hsc : ∀ m, (slC 1 m c).val ρ = (slB 1 m).val ρ := fun m => by simp only [Lf.val, capOf, ← hc]; simp
  have h0' : RowAt ρ 0 (rdP (slC 1 bs.length c) (.v vn) (.v vo) pl pa b) w := rdP_mv h0 rfl (hsc _) rfl rfl
  have h1' : RowAt ρ 1 ⟨(byR bs).ps, false, none⟩ w := ⟨h1.1, fun j v hv => ⟨(h1.2.1 j v hv).1, fun h => by cases h⟩, (fun e k h => by cases h), h1.2.2.2⟩
  have fin : ∀ (m : Nat) (v : Value) (ρ' : Env) (w' : World), Fr w [(ρ 0).1] w' → (∀ r, r < 1000 → ρ' r = ρ r) → RowAt ρ' 0 (rdP (slC 1 m c) (.v vn) (.v vo) pl pa b) w' → Fr w [(ρ 0).1] w' ∧ RowAt ρ 0 (rdP (slB 1 m) (.v vn) (.v vo) pl pa b) w' ∧ RowAt ρ 1 (byR bs) w' := fun m v ρ' w' hf he hr => by
    refine ⟨hf, rdP_mv hr (he 0 (by decide)).symm ?_ rfl rfl, rowAt_keep h1 hf.size (hf.block _ h1.1 (by simp; exact hne.symm))⟩
    rw [← hsc]
    simp only [Lf.val, he 1 (by decide)]
  refine At.calls (args := [ptrTo 0, .int .i64 (n : Int)]) (rows := rwE c vn vo pl pa b bs) (gl := []) (wr := [(ρ 0).1]) (ρ := ρ) Try.func50 rfl rfl ?_ rfl ?_
  · refine init_rw ⟨trivial, rfl, trivial⟩ rfl rfl rfl (fun a ha => ?_) (fun a ha hw => ?_) (fun a ha r hr hn hw => ?_)
    · simp only [List.mem_cons, List.not_mem_nil, or_false] at ha
      rcases ha with rfl | rfl
      · exact ⟨h0', rdP_ok _ _ _ trivial hvn hvo⟩
      · exact ⟨h1', by_ok bs⟩
    · simp only [List.mem_cons, List.not_mem_nil, or_false] at ha
      rcases ha with rfl | rfl
      · simp
      · cases hw
    · simp only [List.mem_cons, List.not_mem_nil, or_false] at ha hr
      rcases ha with rfl | rfl <;> rcases hr with rfl | rfl
      · exact absurd rfl hn
      · exact hne
      · cases hw
      · cases hw
  have h8n : (8 + (n : Int)).toNat = 8 + n := by omega
  obtain ⟨z1, hz1⟩ : ∃ z1, z1 = (bif c.beq ((8 : Int)).toNat then 0 else 0 + ((8 : Int)).toNat) := ⟨_, rfl⟩
  obtain ⟨z2, hz2⟩ : ∃ z2, z2 = (bif c.beq (8 + (n : Int)).toNat then 0 else 0 + (8 + (n : Int)).toNat) := ⟨_, rfl⟩
  have hz1v : n = 0 ∨ z1 = 8 := by
    rw [hz1]
    cases hb : c.beq ((8 : Int)).toNat with
    | true => exact .inl (by have := Nat.eq_of_beq_eq_true hb; have e : ((8 : Int)).toNat = 8 := rfl; omega)
    | false => exact .inr rfl
  have hz1le : z1 ≤ 8 := by
    rw [hz1]
    cases c.beq ((8 : Int)).toNat with
    | true => exact Nat.zero_le _
    | false => exact Nat.le_refl _
  have hz2v : bs.length - (8 + n) = 0 ∨ z2 = 8 + n := by
    rw [hz2]
    cases hb : c.beq (8 + (n : Int)).toNat with
    | true => exact .inl (by have := Nat.eq_of_beq_eq_true hb; omega)
    | false => exact .inr (by rw [h8n]; show 0 + (8 + n) = 8 + n; omega)
  obtain ⟨s, hs⟩ : ∃ s, s = (bs.drop 8).take n := ⟨_, rfl⟩
  obtain ⟨m, hm⟩ : ∃ m, m = bs.length - (8 + n) := ⟨_, rfl⟩
  have hn8 : (8 + (n : Int)).toNat - ((8 : Int)).toNat = n := by rw [h8n]; show 8 + n - 8 = n; omega
  have hloop : ∀ i : Nat, (i ≤ m ∧ ∀ j, j < i → bs.getD (8 + n + j) 0 = 0) → At Try.prog w ⟨[(ρ 0).1], ρ, []⟩ Try.f50.ntmps [] (lp Try.f50 0) (EndX Try.prog Try.f50 fun e w' => e = .returned (.tuple #[stv (endL bs n).1, .bool (endL bs n).2]) ∧ Fr w [(ρ 0).1] w' ∧ RowAt ρ 0 (rdP (slB 1 (if (endL bs n).2 then 0 else bs.length)) (.v vn) (.v vo) pl pa b) w' ∧ RowAt ρ 1 (byR bs) w') (tmE50 n z2 (c - (8 + (n : Int)).toNat) m i s) (rwE c vn vo pl pa b bs) := by
    refine At.loop (fun i : Nat => tmE50 n z2 (c - (8 + (n : Int)).toNat) m i s) (fun _ => rwE c vn vo pl pa b bs) (fun i => i ≤ m ∧ ∀ j, j < i → bs.getD (8 + n + j) 0 = 0) (fun i => m - i) fun i hi ih => ?_
    obtain ⟨hi1, hi2⟩ := hi
    by_cases h : i < m
    · have hz : z2 = 8 + n := hz2v.resolve_left (by omega)
      have ha : addN z2 ((i : Int)).toNat = 8 + n + i := by rw [addN_eq, hz]; omega
      by_cases h5 : bs.getD (8 + n + i) 0 = 0
      · have h9 := ih (i + 1) ⟨h, fun j hj => by
          by_cases e : j < i
          · exact hi2 j e
          · obtain rfl : j = i := by omega
            exact h5⟩ (by omega)
        exact At.run rfl [] trivial [.y, .n] (tm2 := tmE50 n z2 (c - (8 + (n : Int)).toNat) m (i + 1) s) (rows2 := rwE c vn vo pl pa b bs) (ob := [decide ((i : Int) < (m : Int)) = true, 0 ≤ (i : Int) ∧ (i : Int) < (m : Int), addN z2 ((i : Int)).toNat < bs.length, (((bs.getD (addN z2 ((i : Int)).toNat) 0).toNat : Int) != 0) = false, inI ((i : Int) + 1)]) (td := lp Try.f50 0) (by kernel_rfl) ⟨decide_eq_true (by omega), ⟨by omega, by omega⟩, by rw [ha]; omega, by rw [ha, h5]; rfl, ⟨by omega, by omega⟩, trivial⟩ rfl rfl (by intro h; cases h) h9
      · have e1 : endL bs n = ([], false) := by
          unfold endL
          rw [if_neg]
          intro hall
          apply h5
          have hk : i < (bs.drop (8 + n)).length := by rw [List.length_drop]; omega
          have := List.all_eq_true.1 hall _ (List.getElem_mem hk)
          rw [List.getElem_drop] at this
          rw [List.getD_eq_getElem?_getD, List.getElem?_eq_getElem (by omega)]
          simpa using this
        rw [e1]
        refine At.finR rfl [] trivial [.y, .y] (rows2 := [(0, rdP (slC 1 bs.length c) (.v vn) (.v vo) pl pa b)]) (x := .tup [.lf (.v (stv [])), .lf (.v (.bool false))]) (ob := [decide ((i : Int) < (m : Int)) = true, 0 ≤ (i : Int) ∧ (i : Int) < (m : Int), addN z2 ((i : Int)).toNat < bs.length, (((bs.getD (addN z2 ((i : Int)).toNat) 0).toNat : Int) != 0) = true]) (by kernel_rfl) ⟨decide_eq_true (by omega), ⟨by omega, by omega⟩, by rw [ha]; omega, by
          rw [ha]
          have : (bs.getD (8 + n + i) 0).toNat ≠ 0 := fun h => h5 (UInt8.toNat_inj.1 h)
          simpa using this, trivial⟩ fun ρ' w' hf he _ hq => ⟨rfl, fin bs.length (stv []) ρ' w' hf he (hq _ (List.mem_singleton.2 rfl)).1⟩
    · obtain rfl : i = m := by omega
      have e1 : endL bs n = (s, true) := by
        unfold endL
        rw [if_pos, hs]
        refine List.all_eq_true.2 fun x hx => ?_
        obtain ⟨k, hk, rfl⟩ := List.getElem_of_mem hx
        rw [List.length_drop] at hk
        have h5 := hi2 k (by omega)
        rw [List.getD_eq_getElem?_getD, List.getElem?_eq_getElem (by omega)] at h5
        rw [List.getElem_drop]
        simpa using h5
      rw [e1]
      exact At.finR rfl [] trivial [.n] (rows2 := [(0, rdP (slC 1 0 c) (.v vn) (.v vo) pl pa b)]) (x := .tup [.lf (.v (stv s)), .lf (.v (.bool true))]) (ob := [decide ((i : Int) < (i : Int)) = false, (0 : Int) ≤ 0 ∧ (0 : Int) ≤ (c : Int)]) (by kernel_rfl) ⟨decide_eq_false (by omega), ⟨by omega, by omega⟩, trivial⟩ fun ρ' w' hf he _ hq => ⟨rfl, fin 0 (stv s) ρ' w' hf he (hq _ (List.mem_singleton.2 rfl)).1⟩
  have htx := text_val bs n z1 hz1v (by omega)
  refine At.run rfl [(2002007, .val (.v (stv s)))] ⟨trivial, trivial⟩ [] (tm2 := tmE50 n (bif c.beq (8 + (n : Int)).toNat then 0 else 0 + (8 + (n : Int)).toNat) (c - (8 + (n : Int)).toNat) (bs.length - (8 + (n : Int)).toNat) 0 s) (rows2 := rwE c vn vo pl pa b bs) (ob := [inI (8 + (n : Int)), 0 ≤ 8 + (n : Int) ∧ 8 + (n : Int) ≤ (c : Int), (0 : Int) ≤ 8 ∧ (8 : Int) ≤ 8 + (n : Int), TV.v (.string (bl ((List.range ((8 + (n : Int)).toNat - ((8 : Int)).toNat)).map fun q => ubyte (byteF bs (addN (bif c.beq ((8 : Int)).toNat then 0 else 0 + ((8 : Int)).toNat) q))))) = TV.v (stv s), (bif c.beq ((8 : Int)).toNat then 0 else 0 + ((8 : Int)).toNat) + ((8 + (n : Int)).toNat - ((8 : Int)).toNat) ≤ bs.length, ∀ (q : Nat), q < (8 + (n : Int)).toNat - ((8 : Int)).toNat → ∃ c_1 : UInt8, byteF bs (addN (bif c.beq ((8 : Int)).toNat then 0 else 0 + ((8 : Int)).toNat) q) = [Value.int .u8 (c_1.toNat : Int)], inI (8 + (n : Int)), 0 ≤ 8 + (n : Int) ∧ 8 + (n : Int) ≤ (bs.length : Int), bs.length ≤ c]) (td := lp Try.f50 0) (by kernel_rfl) ?_ rfl rfl (by intro h; cases h) ?_
  · rw [← hz1, hn8]
    exact ⟨⟨by omega, by omega⟩, ⟨by omega, by omega⟩, ⟨by omega, by omega⟩, by rw [htx, hs]; rfl, by omega, fun q _ => ⟨_, rfl⟩, ⟨by omega, by omega⟩, ⟨by omega, by omega⟩, hcap.1, trivial⟩
  · have := hloop 0 ⟨Nat.zero_le _, fun j hj => absurd hj (Nat.not_lt_zero j)⟩
    rw [hz2, hm, ← h8n] at this
    exact this
end
end Go.Proofs.Ytglipljilcdboaa
/- Of the program: words that may come, how long the next text may be. No condition but what each names. -/
namespace Go.Proofs.Ytglipljilcdboaa
open Go.RowKit
set_option linter.unusedVariables false
set_option linter.unusedSimpArgs false
section
open E
abbrev wy0 : List UInt8 × Nat × Int := ([], 0, 0)
abbrev wyF (l : List (List UInt8 × Nat × Int)) : Nat → List Value := fun i => [stv (l.getD i wy0).1, .int .i64 ((l.getD i wy0).2.1 : Int), .int .i64 (l.getD i wy0).2.2]
abbrev wyR (l : List (List UInt8 × Nat × Int)) : Row := ⟨[.fnc (wyF l) 3 l.length], true, some (98, 3)⟩
theorem wy_ok (l : List (List UInt8 × Nat × Int)) : pok (wyR l).ps := pok1 fun i => ⟨rfl, fun v hv => by simp at hv; rcases hv with rfl | rfl | rfl <;> rfl⟩
def WyQ (w : World) (l : List (List UInt8 × Nat × Int)) : Ending → World → Prop := fun e w' => ∃ B : Blk, e = .returned (.slice (some ⟨B.1, 0, none⟩) l.length B.3) ∧ B.2 = 0 ∧ Fr w [] w' ∧ w.heap.size ≤ B.1 ∧ RowAt (fun _ => B) 0 (wyR l) w'
theorem wy_fin {w w' : World} {ρ : Env} {X : Nat} {l : List (List UInt8 × Nat × Int)} {n : Nat} {f : Nat → List Value} (hn : n = l.length) (hfl : ∀ i, i < n → f i = wyF l i) (hf : Fr w [] w') (hq : ∀ p ∈ [(X, (⟨[.fnc f 3 n], true, some (98, 3)⟩ : Row))], RowAt ρ p.1 p.2 w' ∧ pok p.2.ps ∧ (p.2.w = true → w.heap.size ≤ (ρ p.1).1 ∨ (ρ p.1).1 ∈ ([] : List Nat))) : WyQ w l (.returned ((TV.s (.lf (.sl X 0 0 3 n none))).val ρ)) w' := by
  subst hn
  obtain ⟨g1, _, g3⟩ := hq _ (List.mem_singleton.2 rfl)
  have h0 : (ρ X).2 = 0 := (g1.2.2.1 98 3 rfl).1
  have e : lst ρ [Pc.fnc f 3 l.length] = lst ρ (wyR l).ps := by
    rw [lst_fnc, lst_fnc]
    exact flatMap_congr' fun i hi => hfl i (List.mem_range.1 hi)
  refine ⟨ρ X, ?_, h0, hf, (g3 rfl).resolve_right (by simp), ?_⟩
  · show Ending.returned (.slice (some ⟨(ρ X).1, (ρ X).2 + (0 + 0 * 3), none⟩) l.length ((ρ X).3 - 0)) = _
    rw [h0]; rfl
  · refine rowAt_mv (f := wyF l) (ρ := ρ) (r := X) ?_ rfl
    have g2 : RowAt ρ X ⟨[.fnc f 3 l.length], true, some (98, 3)⟩ w' := g1
    unfold RowAt at g2 ⊢
    rw [← e]
    exact g2
theorem ent51 : Enters Try.prog 51 := enters_of Try.func51 (by kernel_rfl) rfl
theorem ent33 : Enters Try.prog 33 := enters_of Try.func33 (by kernel_rfl) rfl
set_option maxRecDepth 100000 in
theorem ways_0 (w : World) : Calls Try.prog 51 #[.int .i64 0] w (WyQ w (waysL 0)) := by
  refine At.calls (args := [.int .i64 0]) (rows := []) (gl := []) (wr := []) (ρ := fun _ => ⟨0, 0, 0⟩) Try.func51 rfl rfl (init_rw ⟨rfl, trivial⟩ rfl rfl rfl (fun p hp => by cases hp) (fun p hp => by cases hp) (fun p hp => by cases hp)) rfl ?_
  exact At.finR rfl [] trivial [.d] (rows2 := [(4001, ⟨[.fnc (chunkF [stv tMagic, .int .i64 1, .int .i64 0] 3 1) 3 1], true, some (98, 3)⟩)]) (x := .s (.lf (.sl 4001 0 0 3 1 none))) (ob := []) (by kernel_rfl) trivial fun ρ w' hf _ _ hq => wy_fin (l := waysL 0) rfl (fun i hi => by
    obtain rfl : i = 0 := by omega
    rfl) hf hq
set_option maxRecDepth 100000 in
theorem ways_1 (w : World) : Calls Try.prog 51 #[.int .i64 1] w (WyQ w (waysL 1)) := by
  refine At.calls (args := [.int .i64 1]) (rows := []) (gl := []) (wr := []) (ρ := fun _ => ⟨0, 0, 0⟩) Try.func51 rfl rfl (init_rw ⟨rfl, trivial⟩ rfl rfl rfl (fun p hp => by cases hp) (fun p hp => by cases hp) (fun p hp => by cases hp)) rfl ?_
  exact At.finR rfl [] trivial [.d, .d] (rows2 := [(6001, ⟨[.fnc (chunkF [stv tOpen, .int .i64 2, .int .i64 0] 3 1) 3 1], true, some (98, 3)⟩)]) (x := .s (.lf (.sl 6001 0 0 3 1 none))) (ob := []) (by kernel_rfl) trivial fun ρ w' hf _ _ hq => wy_fin (l := waysL 1) rfl (fun i hi => by
    obtain rfl : i = 0 := by omega
    rfl) hf hq
set_option maxRecDepth 100000 in
theorem ways_2 (w : World) : Calls Try.prog 51 #[.int .i64 2] w (WyQ w (waysL 2)) := by
  refine At.calls (args := [.int .i64 2]) (rows := []) (gl := []) (wr := []) (ρ := fun _ => ⟨0, 0, 0⟩) Try.func51 rfl rfl (init_rw ⟨rfl, trivial⟩ rfl rfl rfl (fun p hp => by cases hp) (fun p hp => by cases hp) (fun p hp => by cases hp)) rfl ?_
  exact At.finR rfl [] trivial [.d, .d, .d] (rows2 := [(8001, ⟨[.fnc (chunkF [stv tType, .int .i64 3, .int .i64 0] 3 1) 3 1], true, some (98, 3)⟩)]) (x := .s (.lf (.sl 8001 0 0 3 1 none))) (ob := []) (by kernel_rfl) trivial fun ρ w' hf _ _ hq => wy_fin (l := waysL 2) rfl (fun i hi => by
    obtain rfl : i = 0 := by omega
    rfl) hf hq
set_option maxRecDepth 100000 in
theorem ways_3 (w : World) : Calls Try.prog 51 #[.int .i64 3] w (WyQ w (waysL 3)) := by
  refine At.calls (args := [.int .i64 3]) (rows := []) (gl := []) (wr := []) (ρ := fun _ => ⟨0, 0, 0⟩) Try.func51 rfl rfl (init_rw ⟨rfl, trivial⟩ rfl rfl rfl (fun p hp => by cases hp) (fun p hp => by cases hp) (fun p hp => by cases hp)) rfl ?_
  exact At.finR rfl [] trivial [.d, .d, .d, .d] (rows2 := [(10003, ⟨[.fnc (chunkF [stv tReg, .int .i64 4, .int .i64 1, stv tSym, .int .i64 8, .int .i64 3, stv tDir, .int .i64 11, .int .i64 4] 3 3) 3 3], true, some (98, 3)⟩)]) (x := .s (.lf (.sl 10003 0 0 3 3 none))) (ob := []) (by kernel_rfl) trivial fun ρ w' hf _ _ hq => wy_fin (l := waysL 3) rfl (fun i hi => by
    have : i = 0 ∨ i = 1 ∨ i = 2 := by omega
    rcases this with rfl | rfl | rfl <;> rfl) hf hq
set_option maxRecDepth 100000 in
theorem ways_4 (w : World) : Calls Try.prog 51 #[.int .i64 4] w (WyQ w (waysL 4)) := by
  refine At.calls (args := [.int .i64 4]) (rows := []) (gl := []) (wr := []) (ρ := fun _ => ⟨0, 0, 0⟩) Try.func51 rfl rfl (init_rw ⟨rfl, trivial⟩ rfl rfl rfl (fun p hp => by cases hp) (fun p hp => by cases hp) (fun p hp => by cases hp)) rfl ?_
  exact At.finR rfl [] trivial [.d, .d, .d, .d, .d] (rows2 := [(12002, ⟨[.fnc (chunkF [stv tExec, .int .i64 5, .int .i64 2, stv tCont, .int .i64 7, .int .i64 0] 3 2) 3 2], true, some (98, 3)⟩)]) (x := .s (.lf (.sl 12002 0 0 3 2 none))) (ob := []) (by kernel_rfl) trivial fun ρ w' hf _ _ hq => wy_fin (l := waysL 4) rfl (fun i hi => by
    have : i = 0 ∨ i = 1 := by omega
    rcases this with rfl | rfl <;> rfl) hf hq
set_option maxRecDepth 100000 in
theorem ways_5 (w : World) : Calls Try.prog 51 #[.int .i64 5] w (WyQ w (waysL 5)) := by
  refine At.calls (args := [.int .i64 5]) (rows := []) (gl := []) (wr := []) (ρ := fun _ => ⟨0, 0, 0⟩) Try.func51 rfl rfl (init_rw ⟨rfl, trivial⟩ rfl rfl rfl (fun p hp => by cases hp) (fun p hp => by cases hp) (fun p hp => by cases hp)) rfl ?_
  exact At.finR rfl [] trivial [.d, .d, .d, .d, .d, .d] (rows2 := [(14001, ⟨[.fnc (chunkF [stv [], .int .i64 6, .int .i64 0] 3 1) 3 1], true, some (98, 3)⟩)]) (x := .s (.lf (.sl 14001 0 0 3 1 none))) (ob := []) (by kernel_rfl) trivial fun ρ w' hf _ _ hq => wy_fin (l := waysL 5) rfl (fun i hi => by
    obtain rfl : i = 0 := by omega
    rfl) hf hq
set_option maxRecDepth 100000 in
theorem ways_6 (w : World) : Calls Try.prog 51 #[.int .i64 6] w (WyQ w (waysL 6)) := by
  refine At.calls (args := [.int .i64 6]) (rows := []) (gl := []) (wr := []) (ρ := fun _ => ⟨0, 0, 0⟩) Try.func51 rfl rfl (init_rw ⟨rfl, trivial⟩ rfl rfl rfl (fun p hp => by cases hp) (fun p hp => by cases hp) (fun p hp => by cases hp)) rfl ?_
  exact At.finR rfl [] trivial [.d, .d, .d, .d, .d, .d, .d] (rows2 := [(16001, ⟨[.fnc (chunkF [stv tCont, .int .i64 7, .int .i64 0] 3 1) 3 1], true, some (98, 3)⟩)]) (x := .s (.lf (.sl 16001 0 0 3 1 none))) (ob := []) (by kernel_rfl) trivial fun ρ w' hf _ _ hq => wy_fin (l := waysL 6) rfl (fun i hi => by
    obtain rfl : i = 0 := by omega
    rfl) hf hq
set_option maxRecDepth 100000 in
theorem ways_8 (w : World) : Calls Try.prog 51 #[.int .i64 8] w (WyQ w (waysL 8)) := by
  refine At.calls (args := [.int .i64 8]) (rows := []) (gl := []) (wr := []) (ρ := fun _ => ⟨0, 0, 0⟩) Try.func51 rfl rfl (init_rw ⟨rfl, trivial⟩ rfl rfl rfl (fun p hp => by cases hp) (fun p hp => by cases hp) (fun p hp => by cases hp)) rfl ?_
  exact At.finR rfl [] trivial [.d, .d, .d, .d, .d, .d, .d, .d] (rows2 := [(18001, ⟨[.fnc (chunkF [stv tTarg, .int .i64 9, .int .i64 0] 3 1) 3 1], true, some (98, 3)⟩)]) (x := .s (.lf (.sl 18001 0 0 3 1 none))) (ob := []) (by kernel_rfl) trivial fun ρ w' hf _ _ hq => wy_fin (l := waysL 8) rfl (fun i hi => by
    obtain rfl : i = 0 := by omega
    rfl) hf hq
set_option maxRecDepth 100000 in
theorem ways_10 (w : World) : Calls Try.prog 51 #[.int .i64 10] w (WyQ w (waysL 10)) := by
  refine At.calls (args := [.int .i64 10]) (rows := []) (gl := []) (wr := []) (ρ := fun _ => ⟨0, 0, 0⟩) Try.func51 rfl rfl (init_rw ⟨rfl, trivial⟩ rfl rfl rfl (fun p hp => by cases hp) (fun p hp => by cases hp) (fun p hp => by cases hp)) rfl ?_
  exact At.finR rfl [] trivial [.d, .d, .d, .d, .d, .d, .d, .d, .d] (rows2 := [(20001, ⟨[.fnc (chunkF [stv tClose, .int .i64 16, .int .i64 0] 3 1) 3 1], true, some (98, 3)⟩)]) (x := .s (.lf (.sl 20001 0 0 3 1 none))) (ob := []) (by kernel_rfl) trivial fun ρ w' hf _ _ hq => wy_fin (l := waysL 10) rfl (fun i hi => by
    obtain rfl : i = 0 := by omega
    rfl) hf hq
set_option maxRecDepth 100000 in
theorem ways_11 (w : World) : Calls Try.prog 51 #[.int .i64 11] w (WyQ w (waysL 11)) := by
  refine At.calls (args := [.int .i64 11]) (rows := []) (gl := []) (wr := []) (ρ := fun _ => ⟨0, 0, 0⟩) Try.func51 rfl rfl (init_rw ⟨rfl, trivial⟩ rfl rfl rfl (fun p hp => by cases hp) (fun p hp => by cases hp) (fun p hp => by cases hp)) rfl ?_
  exact At.finR rfl [] trivial [.d, .d, .d, .d, .d, .d, .d, .d, .d, .d] (rows2 := [(22002, ⟨[.fnc (chunkF [stv tEntry, .int .i64 12, .int .i64 0, stv tClose, .int .i64 16, .int .i64 0] 3 2) 3 2], true, some (98, 3)⟩)]) (x := .s (.lf (.sl 22002 0 0 3 2 none))) (ob := []) (by kernel_rfl) trivial fun ρ w' hf _ _ hq => wy_fin (l := waysL 11) rfl (fun i hi => by
    have : i = 0 ∨ i = 1 := by omega
    rcases this with rfl | rfl <;> rfl) hf hq
set_option maxRecDepth 100000 in
theorem ways_12 (w : World) : Calls Try.prog 51 #[.int .i64 12] w (WyQ w (waysL 12)) := by
  refine At.calls (args := [.int .i64 12]) (rows := []) (gl := []) (wr := []) (ρ := fun _ => ⟨0, 0, 0⟩) Try.func51 rfl rfl (init_rw ⟨rfl, trivial⟩ rfl rfl rfl (fun p hp => by cases hp) (fun p hp => by cases hp) (fun p hp => by cases hp)) rfl ?_
  exact At.finR rfl [] trivial [.d, .d, .d, .d, .d, .d, .d, .d, .d, .d, .d] (rows2 := [(24001, ⟨[.fnc (chunkF [stv tOpen, .int .i64 13, .int .i64 0] 3 1) 3 1], true, some (98, 3)⟩)]) (x := .s (.lf (.sl 24001 0 0 3 1 none))) (ob := []) (by kernel_rfl) trivial fun ρ w' hf _ _ hq => wy_fin (l := waysL 12) rfl (fun i hi => by
    obtain rfl : i = 0 := by omega
    rfl) hf hq
set_option maxRecDepth 100000 in
theorem ways_13 (w : World) : Calls Try.prog 51 #[.int .i64 13] w (WyQ w (waysL 13)) := by
  refine At.calls (args := [.int .i64 13]) (rows := []) (gl := []) (wr := []) (ρ := fun _ => ⟨0, 0, 0⟩) Try.func51 rfl rfl (init_rw ⟨rfl, trivial⟩ rfl rfl rfl (fun p hp => by cases hp) (fun p hp => by cases hp) (fun p hp => by cases hp)) rfl ?_
  exact At.finR rfl [] trivial [.d, .d, .d, .d, .d, .d, .d, .d, .d, .d, .d, .d] (rows2 := [(26001, ⟨[.fnc (chunkF [stv tName, .int .i64 14, .int .i64 0] 3 1) 3 1], true, some (98, 3)⟩)]) (x := .s (.lf (.sl 26001 0 0 3 1 none))) (ob := []) (by kernel_rfl) trivial fun ρ w' hf _ _ hq => wy_fin (l := waysL 13) rfl (fun i hi => by
    obtain rfl : i = 0 := by omega
    rfl) hf hq
set_option maxRecDepth 100000 in
theorem ways_15 (w : World) : Calls Try.prog 51 #[.int .i64 15] w (WyQ w (waysL 15)) := by
  refine At.calls (args := [.int .i64 15]) (rows := []) (gl := []) (wr := []) (ρ := fun _ => ⟨0, 0, 0⟩) Try.func51 rfl rfl (init_rw ⟨rfl, trivial⟩ rfl rfl rfl (fun p hp => by cases hp) (fun p hp => by cases hp) (fun p hp => by cases hp)) rfl ?_
  exact At.finR rfl [] trivial [.d, .d, .d, .d, .d, .d, .d, .d, .d, .d, .d, .d, .d] (rows2 := [(28001, ⟨[.fnc (chunkF [stv tNode, .int .i64 1, .int .i64 0] 3 1) 3 1], true, some (98, 3)⟩)]) (x := .s (.lf (.sl 28001 0 0 3 1 none))) (ob := []) (by kernel_rfl) trivial fun ρ w' hf _ _ hq => wy_fin (l := waysL 15) rfl (fun i hi => by
    obtain rfl : i = 0 := by omega
    rfl) hf hq
set_option maxRecDepth 100000 in
theorem ways_16 (w : World) : Calls Try.prog 51 #[.int .i64 16] w (WyQ w (waysL 16)) := by
  refine At.calls (args := [.int .i64 16]) (rows := []) (gl := []) (wr := []) (ρ := fun _ => ⟨0, 0, 0⟩) Try.func51 rfl rfl (init_rw ⟨rfl, trivial⟩ rfl rfl rfl (fun p hp => by cases hp) (fun p hp => by cases hp) (fun p hp => by cases hp)) rfl ?_
  exact At.finR rfl [] trivial [.d, .d, .d, .d, .d, .d, .d, .d, .d, .d, .d, .d, .d, .d] (rows2 := [(30001, ⟨[.fnc (chunkF [stv tClose, .int .i64 11, .int .i64 0] 3 1) 3 1], true, some (98, 3)⟩)]) (x := .s (.lf (.sl 30001 0 0 3 1 none))) (ob := []) (by kernel_rfl) trivial fun ρ w' hf _ _ hq => wy_fin (l := waysL 16) rfl (fun i hi => by
    obtain rfl : i = 0 := by omega
    rfl) hf hq
set_option maxRecDepth 100000 in
theorem ways_17 (w : World) : Calls Try.prog 51 #[.int .i64 17] w fun e w' => e = .returned (.slice none 0 0) ∧ Below w.heap.size w w' := by
  refine At.calls (args := [.int .i64 17]) (rows := []) (gl := []) (wr := []) (ρ := fun _ => ⟨0, 0, 0⟩) Try.func51 rfl rfl (init_rw ⟨rfl, trivial⟩ rfl rfl rfl (fun p hp => by cases hp) (fun p hp => by cases hp) (fun p hp => by cases hp)) rfl ?_
  exact At.fin rfl [] trivial [.d, .d, .d, .d, .d, .d, .d, .d, .d, .d, .d, .d, .d, .d] (x := .v (.slice none 0 0)) (ob := []) (by kernel_rfl) trivial fun ρ w' hf _ => ⟨rfl, hf.below⟩
/-- Places at which words lead on. -/
def wordP (p : Nat) : Prop := p < 17 ∧ p ≠ 7 ∧ p ≠ 9 ∧ p ≠ 14
theorem ways_any (p : Nat) (hp : wordP p) (w : World) : Calls Try.prog 51 #[.int .i64 (p : Int)] w (WyQ w (waysL p)) := by
  obtain ⟨h1, h2, h3, h4⟩ := hp
  have : p = 0 ∨ p = 1 ∨ p = 2 ∨ p = 3 ∨ p = 4 ∨ p = 5 ∨ p = 6 ∨ p = 8 ∨ p = 10 ∨ p = 11 ∨ p = 12 ∨ p = 13 ∨ p = 15 ∨ p = 16 := by omega
  rcases this with rfl | rfl | rfl | rfl | rfl | rfl | rfl | rfl | rfl | rfl | rfl | rfl | rfl | rfl
  · exact ways_0 w
  · exact ways_1 w
  · exact ways_2 w
  · exact ways_3 w
  · exact ways_4 w
  · exact ways_5 w
  · exact ways_6 w
  · exact ways_8 w
  · exact ways_10 w
  · exact ways_11 w
  · exact ways_12 w
  · exact ways_13 w
  · exact ways_15 w
  · exact ways_16 w
abbrev hWy (id p : Nat) : Hint := .call ⟨51, fun _ => #[.int .i64 (p : Int)], .s (.lf (.sl id 0 0 3 (waysL p).length none)), [], [], some (wyR (waysL p)), []⟩
theorem hWy_ok (id p : Nat) (hp : wordP p) : HintOk Try.prog id (hWy id p) := by
  refine call_ok ent51 trivial (fun p hp => by cases hp) fun ρ w hr => (ways_any p hp w).mono ?_
  rintro e w' ⟨B, rfl, h0, hf, hb, hrow⟩
  refine ⟨B, ?_, hf, (fun p hp => by cases hp), fun row hrw => ?_⟩
  · show _ = Ending.returned (.slice (some ⟨(setE ρ id B id).1, (setE ρ id B id).2 + (0 + 0 * 3), none⟩) (waysL p).length ((setE ρ id B id).3 - 0))
    rw [setE_same, h0]
    rfl
  · cases hrw
    exact ⟨hb, rowAt_mv hrow (setE_same ρ id B), wy_ok _⟩
theorem ways_ne (p : Nat) (hp : wordP p) : waysL p ≠ [] := by
  obtain ⟨h1, h2, h3, h4⟩ := hp
  have : p = 0 ∨ p = 1 ∨ p = 2 ∨ p = 3 ∨ p = 4 ∨ p = 5 ∨ p = 6 ∨ p = 8 ∨ p = 10 ∨ p = 11 ∨ p = 12 ∨ p = 13 ∨ p = 15 ∨ p = 16 := by omega
  rcases this with rfl | rfl | rfl | rfl | rfl | rfl | rfl | rfl | rfl | rfl | rfl | rfl | rfl | rfl <;> exact List.cons_ne_nil _ _
theorem ways_len (p : Nat) : (waysL p).length ≤ 3 ∧ ∀ x ∈ waysL p, x.1.length ≤ 13 := by
  unfold waysL
  split <;> decide
/-- How long the next text may be; below nought: none may come. -/
def mostI (p : Nat) : Int := match mostM p with
  | none => -1
  | some m => (m : Int)
def mxI (l : List (List UInt8 × Nat × Int)) : Int := l.foldl (fun m x => max m (x.1.length : Int)) (-1)
theorem mx_snoc (l : List (List UInt8 × Nat × Int)) (i : Nat) (h : i < l.length) : mxI (l.take (i + 1)) = max (mxI (l.take i)) ((l.getD i wy0).1.length : Int) := by
  unfold mxI
  rw [List.take_add_one, List.getElem?_eq_getElem h, List.foldl_append, List.getD_eq_getElem?_getD, List.getElem?_eq_getElem h]
  rfl
theorem mx_most (p : Nat) (hp : wordP p) : mxI (waysL p) = mostI p := by
  obtain ⟨h1, h2, h3, h4⟩ := hp
  have : p = 0 ∨ p = 1 ∨ p = 2 ∨ p = 3 ∨ p = 4 ∨ p = 5 ∨ p = 6 ∨ p = 8 ∨ p = 10 ∨ p = 11 ∨ p = 12 ∨ p = 13 ∨ p = 15 ∨ p = 16 := by omega
  rcases this with rfl | rfl | rfl | rfl | rfl | rfl | rfl | rfl | rfl | rfl | rfl | rfl | rfl | rfl <;> rfl
set_option maxRecDepth 100000 in
theorem most_any (p : Nat) (hp : p ≤ 17) (vb vn vo : Value) (hvb : vb.oneCell' = true) (hvn : vn.oneCell' = true) (hvo : vo.oneCell' = true) (pa : List UInt8) (b : Bool) (ρ : Env) (w : World) (h0 : RowAt ρ 0 (rdP (.v vb) (.v vn) (.v vo) p pa b) w) :
    Calls Try.prog 33 #[(TV.s (.lf (.ptr 0 1 0 0 0))).val ρ] w fun e w' => e = .returned (.int .i64 (mostI p)) ∧ Below w.heap.size w w' := by
  have h0' : RowAt ρ 0 ⟨(rdP (.v vb) (.v vn) (.v vo) p pa b).ps, false, none⟩ w := ⟨h0.1, fun j v hv => ⟨(h0.2.1 j v hv).1, fun h => by cases h⟩, (fun e k h => by cases h), h0.2.2.2⟩
  refine At.calls (args := [.s (.lf (.ptr 0 1 0 0 0))]) (rows := [(0, ⟨(rdP (.v vb) (.v vn) (.v vo) p pa b).ps, false, none⟩)]) (gl := []) (wr := []) (ρ := ρ) Try.func33 rfl rfl (init_ro1 ⟨trivial, trivial⟩ rfl rfl ⟨⟨h0', rdP_ok _ _ _ hvb hvn hvo⟩, trivial⟩) rfl ?_
  by_cases h14 : p = 14
  · subst h14
    exact At.fin rfl [] trivial [.d] (x := .int .i64 255) (ob := []) (by kernel_rfl) trivial fun ρ w' hf _ => ⟨rfl, hf.below⟩
  by_cases h9 : p = 9
  · subst h9
    exact At.fin rfl [] trivial [.d, .d] (x := .int .i64 4096) (ob := []) (by kernel_rfl) trivial fun ρ w' hf _ => ⟨rfl, hf.below⟩
  by_cases h7 : p = 7
  · subst h7
    exact At.fin rfl [] trivial [.d, .d, .d] (x := .int .i64 65536) (ob := []) (by kernel_rfl) trivial fun ρ w' hf _ => ⟨rfl, hf.below⟩
  by_cases h17 : p = 17
  · subst h17
    exact At.fin rfl [(10004, pc 51 #[.int .i64 17] (.v (.slice none 0 0)))] ⟨pc_ok ent51 (v := .slice none 0 0) rfl (fun _ => rfl) fun w => ways_17 w, trivial⟩ [.d, .d, .d, .u, .d] (x := .int .i64 (-1)) (ob := [qL (pc 51 #[.int .i64 17] (.v (.slice none 0 0)))].flatten) (by kernel_rfl) (all_flat ⟨all_qL _, trivial⟩) fun ρ w' hf _ => ⟨rfl, hf.below⟩
  have hw : wordP p := ⟨by omega, h7, h9, h14⟩
  have kW := hWy_ok 10004 p hw
  obtain ⟨l, hl⟩ : ∃ l, l = waysL p := ⟨_, rfl⟩
  obtain ⟨hl3, hl13⟩ := ways_len p
  have hmx := mx_most p hw
  rw [← hl] at hl3 hl13 hmx
  have kW' : HintOk Try.prog 10004 (.call ⟨51, fun _ => #[.int .i64 (p : Int)], .s (.lf (.sl 10004 0 0 3 l.length none)), [], [], some (wyR l), []⟩) := by rw [hl]; exact kW
  have hloop : ∀ i : Nat, i ≤ l.length → At Try.prog w ⟨[], ρ, []⟩ Try.f33.ntmps [] (lp Try.f33 0) (EndX Try.prog Try.f33 fun e w' => e = .returned (.int .i64 (mostI p)) ∧ Below w.heap.size w w') [(3, .int .i64 (mxI (l.take i))), (20, .s (.lf (.sl 10004 0 0 3 l.length none))), (21, .int .i64 (l.length : Int)), (22, .int .i64 (i : Int))] [(10004, wyR l)] := by
    refine At.loop (fun i : Nat => [(3, .int .i64 (mxI (l.take i))), (20, .s (.lf (.sl 10004 0 0 3 l.length none))), (21, .int .i64 (l.length : Int)), (22, .int .i64 (i : Int))]) (fun _ => [(10004, wyR l)]) (fun i => i ≤ l.length) (fun i => l.length - i) fun i hi ih => ?_
    by_cases h : i < l.length
    · have h9 := ih (i + 1) h (by omega)
      have ha : addN 0 ((i : Int)).toNat = i := by rw [addN_eq]; omega
      refine At.run rfl [(2013004, .val (.int .i64 (mxI (l.take (i + 1)))))] ⟨trivial, trivial⟩ [.y] (tm2 := [(3, .int .i64 (mxI (l.take (i + 1)))), (20, .s (.lf (.sl 10004 0 0 3 l.length none))), (21, .int .i64 (l.length : Int)), (22, .int .i64 ((i + 1 : Nat) : Int))]) (rows2 := [(10004, wyR l)]) (ob := [decide ((i : Int) < (l.length : Int)) = true, 0 ≤ (i : Int) ∧ (i : Int) < (l.length : Int), addN 0 ((i : Int)).toNat < l.length, TV.int .i64 (bif true then (if ((l.getD (addN 0 ((i : Int)).toNat) wy0).1.length : Int) > mxI (l.take i) then ((l.getD (addN 0 ((i : Int)).toNat) wy0).1.length : Int) else mxI (l.take i)) else (if ((l.getD (addN 0 ((i : Int)).toNat) wy0).1.length : Int) < mxI (l.take i) then ((l.getD (addN 0 ((i : Int)).toNat) wy0).1.length : Int) else mxI (l.take i))) = TV.int .i64 (mxI (l.take (i + 1))), inI ((i : Int) + 1)]) (td := lp Try.f33 0) (by kernel_rfl) ⟨decide_eq_true (by omega), ⟨by omega, by omega⟩, by rw [ha]; exact h, ?_, ⟨by omega, by omega⟩, trivial⟩ rfl rfl (by intro h; cases h) h9
      rw [ha, mx_snoc l i h, cond_true]
      refine tv_int ?_
      split <;> omega
    · obtain rfl : i = l.length := by omega
      rw [List.take_length, hmx]
      exact At.fin rfl [] trivial [.n] (x := .int .i64 (mostI p)) (ob := [decide ((l.length : Int) < (l.length : Int)) = false]) (by kernel_rfl) ⟨decide_eq_false (by omega), trivial⟩ fun ρ w' hf _ => ⟨rfl, hf.below⟩
  have e14 : ((p : Int) == 14) = false := by simpa using (by omega : ¬ (p : Int) = 14)
  have e9 : ((p : Int) == 9) = false := by simpa using (by omega : ¬ (p : Int) = 9)
  have e7 : ((p : Int) == 7) = false := by simpa using (by omega : ¬ (p : Int) = 7)
  exact At.run rfl [(10004, .call ⟨51, fun _ => #[.int .i64 (p : Int)], .s (.lf (.sl 10004 0 0 3 l.length none)), [], [], some (wyR l), []⟩)] ⟨kW', trivial⟩ [.n, .n, .n] (tm2 := [(3, .int .i64 (-1)), (20, .s (.lf (.sl 10004 0 0 3 l.length none))), (21, .int .i64 (l.length : Int)), (22, .int .i64 ((0 : Nat) : Int))]) (rows2 := [(10004, wyR l)]) (ob := [[((p : Int) == 14) = false, ((p : Int) == 9) = false, ((p : Int) == 7) = false], qL (.call ⟨51, fun _ => #[.int .i64 (p : Int)], .s (.lf (.sl 10004 0 0 3 l.length none)), [], [], some (wyR l), []⟩)].flatten) (td := lp Try.f33 0) (by kernel_rfl) (all_flat ⟨⟨e14, e9, e7, trivial⟩, all_qL _, trivial⟩) rfl rfl (by intro h; cases h) (hloop 0 (Nat.zero_le _))
end
end Go.Proofs.Ytglipljilcdboaa
/- A tree that takes texts: what it keeps whatever comes: how many nodes there are, how many directories are open, how long their paths are. No condition but what each names. -/
namespace Go.Proofs.Ytglipljilcdboaa
set_option linter.unusedVariables false
set_option linter.unusedSimpArgs false
/-- What a tree keeps. -/
structure Good (t : TS) : Prop where
  pl : t.pl ≤ 17
  fresh : t.nodes = [] → t.opens = [] ∧ (t.pl = 0 ∨ t.pl = 1) ∧ t.path = []
  some' : t.nodes ≠ [] → t.pl ≠ 0 ∧ (t.opens = [] → t.pl = 17)
  n : t.nodes.length ≤ 256
  o : t.opens.length ≤ 65
  next : t.pl = 15 ∨ t.pl = 1 → t.nodes.length < 256 ∧ t.opens.length ≤ 64 ∧ t.path.length ≤ 256 * t.opens.length
  len : ∀ i (h : i < t.opens.length), t.opens[i].1.length ≤ 256 * i
theorem good0 : Good t0 := ⟨by decide, fun _ => ⟨rfl, .inl rfl, rfl⟩, fun h => absurd rfl h, by decide, by decide, (fun h => by rcases h with h | h <;> cases h), fun i h => absurd h (Nat.not_lt_zero i)⟩
theorem setKind_len (l : List Nd) (k : Int) : (setKind l k).length = l.length := by
  unfold setKind
  split
  · rename_i c h
    have : l ≠ [] := by rintro rfl; cases h
    have := List.length_pos_iff.2 this
    rw [List.length_append, List.length_dropLast, List.length_singleton]; omega
  · rfl
theorem setData_len (l : List Nd) (d : List UInt8) : (setData l d).length = l.length := by
  unfold setData
  split
  · rename_i c h
    have : l ≠ [] := by rintro rfl; cases h
    have := List.length_pos_iff.2 this
    rw [List.length_append, List.length_dropLast, List.length_singleton]; omega
  · rfl
theorem len_ne {l m : List Nd} (h : l.length = m.length) : l = [] ↔ m = [] := by
  constructor
  · rintro rfl; exact List.length_eq_zero_iff.1 h.symm
  · rintro rfl; exact List.length_eq_zero_iff.1 h
/-- A step that leaves the open directories as they are, and as many nodes. -/
theorem good_same {t : TS} {p : Nat} {l : List Nd} (h : Good t) (hp : p ≤ 17 ∧ p ≠ 0 ∧ p ≠ 15) (h1 : p = 1 → (t.pl = 15 ∨ t.pl = 0 ∧ t.nodes = [])) (hl : l.length = t.nodes.length) (hne : l = [] → p = 1) (h17 : t.pl ≠ 17) : Good { t with pl := p, nodes := l } := by
  refine ⟨hp.1, fun h0 => ?_, fun h0 => ⟨hp.2.1, fun ho => ?_⟩, by show l.length ≤ 256; rw [hl]; exact h.n, h.o, fun h2 => ?_, h.len⟩
  · have h0' : l = [] := h0
    have e : t.nodes = [] := (len_ne hl).1 h0'
    have := h.fresh e
    exact ⟨this.1, .inr (hne h0'), this.2.2⟩
  · have h0' : l ≠ [] := h0
    have e : t.nodes ≠ [] := fun e => h0' ((len_ne hl).2 e)
    exact absurd ((h.some' e).2 ho) h17
  · have hp1 : p = 1 := by
      rcases h2 with h2 | h2
      · exact absurd h2 hp.2.2
      · exact h2
    show l.length < 256 ∧ t.opens.length ≤ 64 ∧ t.path.length ≤ 256 * t.opens.length
    rw [hl]
    rcases h1 hp1 with h3 | ⟨h3, h4⟩
    · exact h.next (.inl h3)
    · have := h.fresh h4
      rw [h4, this.1, this.2.2]
      simp
theorem good_open {t : TS} (h : Good t) (hp : t.pl = 1) : Good { t with pl := 2, nodes := t.nodes ++ [⟨t.path, 0, []⟩], opens := t.opens ++ [(t.path, [])] } := by
  obtain ⟨h1, h2, h3⟩ := h.next (.inr hp)
  refine ⟨(show 2 ≤ 17 by decide), (fun h0 => by simp at h0), fun _ => ⟨(show 2 ≠ 0 by decide), (fun h0 => by simp at h0)⟩, by simp; omega, by simp; omega, (fun h => by rcases h with h | h <;> cases h), fun i hi => ?_⟩
  simp only [List.length_append, List.length_singleton] at hi
  by_cases hlt : i < t.opens.length
  · simp only [List.getElem_append_left hlt]
    exact h.len i hlt
  · obtain rfl : i = t.opens.length := by omega
    simp only [List.getElem_concat_length]
    exact h3
theorem good_close {t : TS} (h : Good t) (hne : t.nodes ≠ []) : Good { t with opens := t.opens.dropLast, pl := if t.opens.dropLast = [] then 17 else 16 } := by
  refine ⟨by show (if _ then _ else _) ≤ 17; split <;> decide, fun h0 => absurd h0 hne, fun _ => ⟨?_, fun h0 => ?_⟩, h.n, ?_, fun h2 => ?_, fun i hi => ?_⟩
  · show (if t.opens.dropLast = [] then 17 else 16) ≠ 0
    split <;> decide
  · show (if t.opens.dropLast = [] then 17 else 16) = 17
    rw [if_pos h0]
  · show t.opens.dropLast.length ≤ 65
    rw [List.length_dropLast]; have := h.o; omega
  · exfalso
    have h2' : (if t.opens.dropLast = [] then 17 else 16) = 15 ∨ (if t.opens.dropLast = [] then 17 else 16) = 1 := h2
    split at h2' <;> omega
  · have hi' : i < t.opens.dropLast.length := hi
    rw [List.length_dropLast] at hi'
    show (t.opens.dropLast[i]'hi).1.length ≤ 256 * i
    rw [List.getElem_dropLast]
    exact h.len i (by omega)
theorem good_enter {t t' : TS} {n : List UInt8} (h : Good t) (hp : t.pl = 14) (hn : n.length ≤ 255) (he : enterM t n = some t') : Good t' := by
  unfold enterM at he
  split at he
  · cases he
  · rename_i d hd
    split at he
    · cases he
    · rename_i h1
      split at he
      · cases he
      · cases he
        have hne : t.opens ≠ [] := by rintro e; rw [e] at hd; cases hd
        have hpos := List.length_pos_iff.2 hne
        have hlast : t.opens[t.opens.length - 1] = d := by
          rw [List.getLast?_eq_getElem?, List.getElem?_eq_getElem (by omega)] at hd
          exact Option.some.inj hd
        have hnn : t.nodes ≠ [] := fun e => by
          have := (h.fresh e).2.1
          omega
        have hdl : d.1.length ≤ 256 * (t.opens.length - 1) := by rw [← hlast]; exact h.len _ (by omega)
        have hlen : (t.opens.dropLast ++ [(d.1, n)]).length = t.opens.length := by rw [List.length_append, List.length_dropLast, List.length_singleton]; omega
        have hn2 := h.n
        refine ⟨(show 15 ≤ 17 by decide), fun h0 => absurd h0 hnn, fun _ => ⟨(show 15 ≠ 0 by decide), (fun h0 => by simp at h0)⟩, h.n, by show (t.opens.dropLast ++ [(d.1, n)]).length ≤ 65; rw [hlen]; exact h.o, fun _ => ⟨by show t.nodes.length < 256; omega, by show (t.opens.dropLast ++ [(d.1, n)]).length ≤ 64; rw [hlen]; omega, ?_⟩, fun i hi => ?_⟩
        · show (joinL d.1 n).length ≤ 256 * (t.opens.dropLast ++ [(d.1, n)]).length
          rw [hlen]
          unfold joinL
          split
          · omega
          · rw [List.length_append, List.length_cons]; omega
        · have hi' : i < (t.opens.dropLast ++ [(d.1, n)]).length := hi
          rw [hlen] at hi'
          show ((t.opens.dropLast ++ [(d.1, n)])[i]'hi).1.length ≤ 256 * i
          by_cases hlt : i < t.opens.length - 1
          · rw [List.getElem_append_left (by rw [List.length_dropLast]; exact hlt), List.getElem_dropLast]
            exact h.len i (by omega)
          · obtain rfl : i = t.opens.length - 1 := by omega
            rw [List.getElem_append_right (by rw [List.length_dropLast]; omega)]
            simp only [List.length_dropLast, Nat.sub_self, List.getElem_cons_zero]
            exact hdl
theorem way_find {t : TS} {s : List UInt8} {w : List UInt8 × Nat × Int} (h : (waysL t.pl).find? (fun w => w.1 == s) = some w) : w ∈ waysL t.pl ∧ w.1 = s := ⟨List.mem_of_find?_eq_some h, by simpa using List.find?_some h⟩
theorem good_follow {t : TS} {w : List UInt8 × Nat × Int} (h : Good t) (hw : w ∈ waysL t.pl) : Good (followM t w) := by
  have hne : t.pl ≠ 0 → t.pl ≠ 1 → t.nodes ≠ [] := fun h0 h1 e => by have := (h.fresh e).2.1; omega
  obtain ⟨pl, path, nodes, opens⟩ := t
  simp only at hw hne
  have key : ∀ (p q : Nat) (k : Int) (x : List UInt8), pl = p → (p ≠ 0 ∧ p ≠ 1 ∧ p ≠ 17) → q ≤ 17 ∧ q ≠ 0 ∧ q ≠ 15 ∧ q ≠ 1 ∧ q ≠ 2 ∧ q ≠ 16 → Good (followM ⟨pl, path, nodes, opens⟩ (x, q, k)) := by
    intro p q k x hp hp2 hq
    subst hp
    have hn := hne hp2.1 hp2.2.1
    unfold followM
    simp only
    rw [if_neg hq.2.2.2.2.1, if_neg hq.2.2.2.2.2]
    split
    · exact good_same h ⟨hq.1, hq.2.1, hq.2.2.1⟩ (fun e => absurd e hq.2.2.2.1) rfl (fun e => absurd e hn) hp2.2.2
    · exact good_same h ⟨hq.1, hq.2.1, hq.2.2.1⟩ (fun e => absurd e hq.2.2.2.1) (setKind_len _ _) (fun e => absurd ((len_ne (setKind_len nodes k)).1 e) hn) hp2.2.2
  have close : ∀ (p : Nat) (x : List UInt8), pl = p → (p ≠ 0 ∧ p ≠ 1) → Good (followM ⟨pl, path, nodes, opens⟩ (x, 16, 0)) := by
    intro p x hp hp2
    subst hp
    have e : followM ⟨pl, path, nodes, opens⟩ (x, 16, 0) = ⟨if opens.dropLast = [] then 17 else 16, path, nodes, opens.dropLast⟩ := rfl
    rw [e]
    exact good_close h (hne hp2.1 hp2.2)
  unfold waysL at hw
  split at hw
  · simp only [List.mem_singleton] at hw; subst hw
    have h0 : nodes = [] := Classical.byContradiction fun e => (h.some' e).1 rfl
    exact good_same h ⟨by decide, by decide, by decide⟩ (fun _ => .inr ⟨rfl, h0⟩) rfl (fun _ => rfl) (show (0 : Nat) ≠ 17 by decide)
  · simp only [List.mem_singleton] at hw; subst hw
    have e : followM ⟨1, path, nodes, opens⟩ (tOpen, 2, 0) = ⟨2, path, nodes ++ [⟨path, 0, []⟩], opens ++ [(path, [])]⟩ := rfl
    rw [e]
    exact good_open h rfl
  · simp only [List.mem_singleton] at hw; subst hw; exact key 2 3 0 _ rfl (by decide) (by decide)
  · simp only [List.mem_cons, List.not_mem_nil, or_false] at hw
    rcases hw with rfl | rfl | rfl
    · exact key 3 4 1 _ rfl (by decide) (by decide)
    · exact key 3 8 3 _ rfl (by decide) (by decide)
    · exact key 3 11 4 _ rfl (by decide) (by decide)
  · simp only [List.mem_cons, List.not_mem_nil, or_false] at hw
    rcases hw with rfl | rfl
    · exact key 4 5 2 _ rfl (by decide) (by decide)
    · exact key 4 7 0 _ rfl (by decide) (by decide)
  · simp only [List.mem_singleton] at hw; subst hw; exact key 5 6 0 _ rfl (by decide) (by decide)
  · simp only [List.mem_singleton] at hw; subst hw; exact key 6 7 0 _ rfl (by decide) (by decide)
  · simp only [List.mem_singleton] at hw; subst hw; exact key 8 9 0 _ rfl (by decide) (by decide)
  · simp only [List.mem_singleton] at hw; subst hw; exact close 10 _ rfl (by decide)
  · simp only [List.mem_cons, List.not_mem_nil, or_false] at hw
    rcases hw with rfl | rfl
    · exact key 11 12 0 _ rfl (by decide) (by decide)
    · exact close 11 _ rfl (by decide)
  · simp only [List.mem_singleton] at hw; subst hw; exact key 12 13 0 _ rfl (by decide) (by decide)
  · simp only [List.mem_singleton] at hw; subst hw; exact key 13 14 0 _ rfl (by decide) (by decide)
  · simp only [List.mem_singleton] at hw; subst hw
    exact good_same h ⟨by decide, by decide, by decide⟩ (fun _ => .inl rfl) rfl (fun _ => rfl) (show (15 : Nat) ≠ 17 by decide)
  · simp only [List.mem_singleton] at hw; subst hw; exact key 16 11 0 _ rfl (by decide) (by decide)
  · cases hw
theorem good_take {t t' : TS} {s : List UInt8} (h : Good t) (hs : t.pl = 14 → s.length ≤ 255) (ht : takeM t s = some t') : Good t' := by
  unfold takeM at ht
  split at ht
  · rename_i h14
    exact good_enter h h14 (hs h14) ht
  · split at ht
    · rename_i h97
      unfold holdM at ht
      split at ht
      · cases ht
      · cases ht
        have hne : t.nodes ≠ [] := fun e => by have := (h.fresh e).2.1; omega
        exact good_same h ⟨by decide, by decide, by decide⟩ (fun e => by cases e) (setData_len _ _) (fun e => absurd ((len_ne (setData_len t.nodes s)).1 e) hne) (by omega)
    · split at ht
      · rename_i w hw
        cases ht
        exact good_follow h (way_find hw).1
      · cases ht
end Go.Proofs.Ytglipljilcdboaa
/- Of the program: the tree in memory; a word followed. Its conditions: what a tree keeps. -/
namespace Go.Proofs.Ytglipljilcdboaa
open Go.RowKit
set_option linter.unusedVariables false
set_option linter.unusedSimpArgs false
section
open E
abbrev o0 : List UInt8 × List UInt8 := ([], [])
abbrev oF (l : List (List UInt8 × List UInt8)) : Nat → List Value := fun i => [stv (l.getD i o0).1, stv (l.getD i o0).2]
abbrev oR (l : List (List UInt8 × List UInt8)) : Row := ⟨[.fnc (oF l) 2 l.length], true, some (103, 2)⟩
abbrev slO (r n : Nat) : Lf := .sl r 0 0 2 n none
theorem o_ok (l : List (List UInt8 × List UInt8)) : pok (oR l).ps := pok1 fun i => ⟨rfl, fun v hv => by simp at hv; rcases hv with rfl | rfl <;> rfl⟩
/-- Rows said by functions that agree. -/
theorem row_eq {ρ : Env} {r : Nat} {f g : Nat → List Value} {k n m : Nat} {cp : Option (TypeId × Nat)} {b : Bool} {w : World} (h : RowAt ρ r ⟨[.fnc f k n], b, cp⟩ w) (hn : n = m) (hfg : ∀ i, i < n → f i = g i) : RowAt ρ r ⟨[.fnc g k m], b, cp⟩ w := by
  subst hn
  have e : lst ρ [Pc.fnc f k n] = lst ρ [Pc.fnc g k n] := by
    rw [lst_fnc, lst_fnc]
    exact flatMap_congr' fun i hi => hfg i (List.mem_range.1 hi)
  unfold RowAt at h ⊢
  rw [← e]
  exact h
/-- A longer row of opens said by its beginning. -/
theorem oR_short {ρ : Env} {r : Nat} {l : List (List UInt8 × List UInt8)} {w : World} (h : RowAt ρ r (oR l) w) : RowAt ρ r (oR l.dropLast) w := by
  rcases Nat.eq_zero_or_pos l.length with h0 | h0
  · have : l = [] := List.length_eq_zero_iff.1 h0
    subst this
    exact h
  obtain ⟨h1, h2, h3, h4⟩ := h
  have hlen : ∀ m, m ≤ l.length → (lst ρ [Pc.fnc (oF l) 2 m]) = (lst ρ [Pc.fnc (oF l) 2 l.length]).take (m * 2) := by
    intro m hm
    rw [lst_fnc, lst_fnc]
    apply List.ext_getElem?
    intro j
    by_cases hj : j < m * 2
    · rw [List.getElem?_take, if_pos hj, flat_get (f := oF l) (k := 2) (by decide) m (fun _ _ => rfl) j hj, flat_get (f := oF l) (k := 2) (by decide) l.length (fun _ _ => rfl) j (by omega)]
    · rw [List.getElem?_take, if_neg hj, List.getElem?_eq_none]
      rw [flat_len (f := oF l) (k := 2) m (fun _ _ => rfl)]; omega
  have e : lst ρ (oR l.dropLast).ps = (lst ρ (oR l).ps).take ((l.length - 1) * 2) := by
    rw [← hlen (l.length - 1) (by omega), lst_fnc, lst_fnc, List.length_dropLast]
    refine flatMap_congr' fun i hi => ?_
    have hi2 := List.mem_range.1 hi
    show [stv (l.dropLast.getD i o0).1, stv (l.dropLast.getD i o0).2] = [stv (l.getD i o0).1, stv (l.getD i o0).2]
    have : l.dropLast.getD i o0 = l.getD i o0 := by
      rw [List.getD_eq_getElem?_getD, List.getD_eq_getElem?_getD, List.getElem?_dropLast, if_pos hi2]
    rw [this]
  refine ⟨h1, fun j v hv => h2 j v ?_, fun t k hk => ?_, h4⟩
  · rw [e, List.getElem?_take] at hv
    split at hv
    · exact hv
    · cases hv
  · obtain ⟨g1, g2, g3, g4⟩ := h3 t k hk
    refine ⟨g1, g2, Nat.le_trans ?_ g3, g4⟩
    rw [e, List.length_take]
    exact Nat.min_le_right _ _
/-- The tree's lists in memory; D: their blocks. -/
def TrV (W : World) (vn vo : Value) (t : TS) (D : List Nat) : Prop :=
  (t.nodes = [] ∧ vn = .slice none 0 0 ∧ vo = .slice none 0 0 ∧ D = []) ∨
  (t.nodes ≠ [] ∧ ∃ Bn Bo : Blk, vn = .slice (some ⟨Bn.1, 0, none⟩) t.nodes.length Bn.3 ∧ vo = .slice (some ⟨Bo.1, 0, none⟩) t.opens.length Bo.3 ∧ RowAt (fun _ => Bn) 0 (rowN t.nodes t.nodes.length) W ∧ RowAt (fun _ => Bo) 0 (oR t.opens) W ∧ D = [Bn.1, Bo.1])
/-- The reader, but for what is begun. -/
def TkPre (W : World) (b : Nat) (vb : Value) (t : TS) (D : List Nat) : Prop :=
  ∃ vn vo, RowAt (fun _ => ⟨b, 0, 0⟩) 0 (rdP (.v vb) (.v vn) (.v vo) t.pl t.path false) W ∧ TrV W vn vo t D ∧ (b :: D).Nodup
def TkPost (W : World) (b : Nat) (vb : Value) (D : List Nat) (t : TS) (W' : World) : Prop :=
  ∃ D', TkPre W' b vb t D' ∧ Fr W (b :: D) W' ∧ ∀ x ∈ D', x ∈ D ∨ W.heap.size ≤ x
theorem rowAt_fr {ρ : Env} {r : Nat} {row : Row} {w w' : World} {l : List Nat} (h : RowAt ρ r row w) (hf : Fr w l w') (hn : (ρ r).1 ∉ l) : RowAt ρ r row w' := rowAt_keep h hf.size (hf.block _ h.1 hn)
theorem TrV.fr {W W' : World} {vn vo : Value} {t : TS} {D l : List Nat} (h : TrV W vn vo t D) (hf : Fr W l W') (hd : ∀ x ∈ D, x ∉ l) : TrV W' vn vo t D := by
  rcases h with h | ⟨h1, Bn, Bo, h2, h3, h4, h5, rfl⟩
  · exact .inl h
  · exact .inr ⟨h1, Bn, Bo, h2, h3, rowAt_fr h4 hf (hd _ (by simp)), rowAt_fr h5 hf (hd _ (by simp)), rfl⟩
theorem TrV.lt {W : World} {vn vo : Value} {t : TS} {D : List Nat} (h : TrV W vn vo t D) : ∀ x ∈ D, x < W.heap.size := by
  rcases h with ⟨_, _, _, rfl⟩ | ⟨_, Bn, Bo, _, _, h4, h5, rfl⟩
  · intro x hx; cases hx
  · intro x hx
    simp only [List.mem_cons, List.not_mem_nil, or_false] at hx
    rcases hx with rfl | rfl
    · exact h4.1
    · exact h5.1
theorem TkPre.below {W W' : World} {b : Nat} {vb : Value} {t : TS} {D : List Nat} (h : TkPre W b vb t D) (hf : Fr W [] W') : TkPre W' b vb t D := by
  obtain ⟨vn, vo, h1, h2, h3⟩ := h
  exact ⟨vn, vo, rowAt_fr h1 hf (by simp), h2.fr hf (fun x _ => by simp), h3⟩
theorem E.Fr.widen {W W' : World} {l m : List Nat} (h : Fr W l W') (hs : ∀ x ∈ l, x ∈ m) : Fr W m W' := ⟨h.os, h.tape, h.output, h.size, fun k hk hn => h.block k hk fun hm => hn (hs k hm)⟩
theorem E.Fr.comp {W W1 W2 : World} {l m : List Nat} (h : Fr W l W1) (k : Fr W1 m W2) (hm : ∀ x ∈ m, x ∈ l ∨ W.heap.size ≤ x) : Fr W l W2 :=
  ⟨k.os.trans h.os, k.tape.trans h.tape, k.output.trans h.output, Nat.le_trans h.size k.size, fun q hq hn => (k.block q (Nat.lt_of_lt_of_le hq h.size) fun hqm => by
    rcases hm q hqm with h2 | h2
    · exact hn h2
    · omega).trans (h.block q hq hn)⟩
theorem TkPost.after {W W1 W2 : World} {b : Nat} {vb : Value} {D : List Nat} {t : TS} (h : TkPost W b vb D t W1) (k : Fr W1 [] W2) : TkPost W b vb D t W2 := by
  obtain ⟨D', h1, h2, h3⟩ := h
  exact ⟨D', h1.below k, h2.comp k (fun x hx => by cases hx), h3⟩
theorem TkPost.before {W W1 W2 : World} {b : Nat} {vb : Value} {D : List Nat} {t : TS} (h : Fr W [] W1) (k : TkPost W1 b vb D t W2) : TkPost W b vb D t W2 := by
  obtain ⟨D', h1, h2, h3⟩ := k
  refine ⟨D', h1, (h.widen (fun x hx => by cases hx)).comp h2 (fun x hx => .inl hx), fun x hx => (h3 x hx).imp id fun h4 => Nat.le_trans h.size h4⟩
/-- The lists' values as the engine has them. -/
theorem slN_val {ρ : Env} {r n : Nat} {B : Blk} (e : ρ r = B) (h0 : B.2 = 0) : (slN r n).val ρ = .slice (some ⟨B.1, 0, none⟩) n B.3 := by
  show Value.slice (some ⟨(ρ r).1, (ρ r).2 + (0 + 0 * 3), none⟩) n ((ρ r).3 - 0) = _
  rw [e, h0]; rfl
theorem slO_val {ρ : Env} {r n : Nat} {B : Blk} (e : ρ r = B) (h0 : B.2 = 0) : (slO r n).val ρ = .slice (some ⟨B.1, 0, none⟩) n B.3 := by
  show Value.slice (some ⟨(ρ r).1, (ρ r).2 + (0 + 0 * 2), none⟩) n ((ρ r).3 - 0) = _
  rw [e, h0]; rfl
theorem rowN_z {ρ : Env} {r n : Nat} {L : List Nd} {w : World} (h : RowAt ρ r (rowN L n) w) : (ρ r).2 = 0 := (h.2.2.1 55 3 rfl).1
theorem oR_z {ρ : Env} {r : Nat} {l : List (List UInt8 × List UInt8)} {w : World} (h : RowAt ρ r (oR l) w) : (ρ r).2 = 0 := (h.2.2.1 103 2 rfl).1
abbrev ptT : TV := .s (.lf (.ptr 0 1 0 0 0))
theorem ptT_val {ρ : Env} {b : Nat} (e : ρ 0 = ⟨b, 0, 0⟩) : ptT.val ρ = .pointer (some ⟨b, 1, none⟩) := by
  show Value.pointer (some ⟨(ρ 0).1, (ρ 0).2 + (1 + 0 * 0 + 0), none⟩) = _
  rw [e]
abbrev wyV (w : List UInt8 × Nat × Int) : Value := .agg #[stv w.1, .int .i64 (w.2.1 : Int), .int .i64 w.2.2]
abbrev wyT (w : List UInt8 × Nat × Int) : TV := .s (.agg [.one (.v (stv w.1)), .one (.v (.int .i64 (w.2.1 : Int))), .one (.v (.int .i64 w.2.2))])
theorem wyT_ok (w : List UInt8 × Nat × Int) : (wyT w).ok := fun p hp => by
  simp only [List.mem_cons, List.not_mem_nil, or_false] at hp
  rcases hp with rfl | rfl | rfl <;> rfl
theorem ent54 : Enters Try.prog 54 := enters_of Try.func54 (by kernel_rfl) rfl
/-- Only the reader's own cells turned. -/
theorem tk_own {W W' : World} {b : Nat} {vb vn vo : Value} {t t' : TS} {D : List Nat} (hv : TrV W vn vo t D) (hd : (b :: D).Nodup) (hf : Fr W [b] W') (hr : RowAt (fun _ => ⟨b, 0, 0⟩) 0 (rdP (.v vb) (.v vn) (.v vo) t'.pl t'.path false) W') (hn : t'.nodes = t.nodes) (ho : t'.opens = t.opens) : TkPost W b vb D t' W' := by
  have hnb := (List.nodup_cons.1 hd).1
  refine ⟨D, ⟨vn, vo, hr, ?_, hd⟩, hf.widen (by simp), fun x hx => .inl hx⟩
  have := hv.fr hf (fun x hx h => by simp at h; subst h; exact hnb hx)
  unfold TrV at this ⊢
  rw [hn, ho]
  exact this
set_option maxRecDepth 100000 in
/-- A word that tells no kind, and opens and ends nothing. -/
theorem follow_n (W : World) (b : Nat) (vb : Value) (hvb : vb.oneCell' = true) (t : TS) (D : List Nat) (h : TkPre W b vb t D) (wd : List UInt8) (nx : Nat) (h2 : nx ≠ 2) (h16 : nx ≠ 16) : Calls Try.prog 54 #[.pointer (some ⟨b, 1, none⟩), wyV (wd, nx, 0)] W fun e W' => (∃ v, e = .returned v) ∧ TkPost W b vb D (followM t (wd, nx, 0)) W' := by
  obtain ⟨vn, vo, h1, hv, hd⟩ := h
  have hvn : vn.oneCell' = true := by rcases hv with ⟨_, rfl, _⟩ | ⟨_, Bn, Bo, rfl, _⟩ <;> rfl
  have hvo : vo.oneCell' = true := by rcases hv with ⟨_, _, rfl, _⟩ | ⟨_, Bn, Bo, _, rfl, _⟩ <;> rfl
  have hfm : followM t (wd, nx, 0) = { t with pl := nx } := by unfold followM; simp only; rw [if_neg h2, if_neg h16]; rfl
  rw [hfm, ← ptT_val (ρ := fun _ => (⟨b, 0, 0⟩ : Blk)) rfl]
  refine At.calls (args := [ptT, wyT (wd, nx, 0)]) (rows := [(0, rdP (.v vb) (.v vn) (.v vo) t.pl t.path false)]) (gl := []) (wr := [b]) (ρ := fun _ => (⟨b, 0, 0⟩ : Blk)) Try.func54 rfl rfl ?_ rfl ?_
  · refine init_rw ⟨trivial, wyT_ok _, trivial⟩ rfl rfl rfl (fun a ha => ?_) (fun a ha hw => ?_) (fun a ha r hr hn hw => ?_)
    · obtain rfl := List.mem_singleton.1 ha; exact ⟨h1, rdP_ok _ _ _ hvb hvn hvo⟩
    · obtain rfl := List.mem_singleton.1 ha; simp
    · obtain rfl := List.mem_singleton.1 ha; obtain rfl := List.mem_singleton.1 hr; exact absurd rfl hn
  refine At.finR rfl [] trivial [.d, .n, .n] (rows2 := [(0, rdP (.v vb) (.v vn) (.v vo) nx t.path false)]) (x := .tup []) (ob := [((nx : Int) == 2) = false, ((nx : Int) == 16) = false]) (by kernel_rfl) ⟨by simpa using (by omega : ¬ (nx : Int) = 2), by simpa using (by omega : ¬ (nx : Int) = 16), trivial⟩ fun ρ' w' hf he _ hq => ⟨⟨_, rfl⟩, ?_⟩
  exact tk_own hv hd hf (rdP_mv (hq _ (List.mem_singleton.2 rfl)).1 (he 0 (by decide)).symm rfl rfl rfl) rfl rfl
end
end Go.Proofs.Ytglipljilcdboaa
