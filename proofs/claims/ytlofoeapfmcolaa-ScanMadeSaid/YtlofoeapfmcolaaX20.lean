/- Several texts, one behind the other; each says by itself what it proves, and on what conditions. -/
import Derived.Test.YtlofoeapfmcolaaX19
/- A part of one letter in rows of that letter: where it stands. No condition. -/
namespace Go.Proofs.Ytlofoeapfmcolaa
set_option linter.unusedVariables false
set_option linter.unusedSimpArgs false
/-- Behind a text and a letter the places are those of what follows. -/
theorem pl_shift (a b p : List UInt8) (c : UInt8) (hp : 0 < p.length) : ∀ (n j : Nat), b.length - j ≤ n → pl (a ++ c :: b) p (a.length + 1 + j) = (pl b p j).map (· + (a.length + 1))
  | n, j, hn => by
    have hd : ∀ k, (a ++ c :: b).drop (a.length + 1 + k) = b.drop k := fun k => by
      rw [List.drop_append, List.drop_of_length_le (by omega), List.nil_append, show a.length + 1 + k - a.length = k + 1 by omega, List.drop_succ_cons]
    have hl : (a ++ c :: b).length = a.length + 1 + b.length := by rw [List.length_append, List.length_cons]; omega
    by_cases h : j + p.length ≤ b.length
    · cases n with
      | zero => omega
      | succ n =>
        by_cases hw : (b.drop j).take p.length = p
        · rw [pl_yes hp h hw, pl_yes hp (by rw [hl]; omega) (by rw [hd]; exact hw), List.map_cons, show a.length + 1 + j + p.length = a.length + 1 + (j + p.length) by omega, pl_shift a b p c hp n (j + p.length) (by omega)]
          congr 1
          omega
        · rw [pl_no hp h hw, pl_no hp (by rw [hl]; omega) (by rw [hd]; exact hw), show a.length + 1 + j + 1 = a.length + 1 + (j + 1) by omega, pl_shift a b p c hp n (j + 1) (by omega)]
    · rw [pl_end h, pl_end (by rw [hl]; omega)]; rfl
/-- A letter that a part has not ends what may be one. -/
theorem pl_cut (a b p : List UInt8) (c : UInt8) (hp : 0 < p.length) (hc : c ∉ p) : ∀ (n i : Nat), a.length + 1 - i ≤ n → i ≤ a.length + 1 → pl (a ++ c :: b) p i = pl a p i ++ (pl b p 0).map (· + (a.length + 1))
  | 0, i, hn, hi => by
    obtain rfl : i = a.length + 1 := by omega
    have := pl_shift a b p c hp b.length 0 (by omega)
    rw [Nat.add_zero] at this
    rw [this, pl_end (show ¬ a.length + 1 + p.length ≤ a.length by omega), List.nil_append]
  | n + 1, i, hn, hi => by
    by_cases hie : i = a.length + 1
    · subst hie
      have := pl_shift a b p c hp b.length 0 (by omega)
      rw [Nat.add_zero] at this
      rw [this, pl_end (show ¬ a.length + 1 + p.length ≤ a.length by omega), List.nil_append]
    · have hl : (a ++ c :: b).length = a.length + 1 + b.length := by rw [List.length_append, List.length_cons]; omega
      have hd : (a ++ c :: b).drop i = a.drop i ++ c :: b := by rw [List.drop_append, show i - a.length = 0 by omega, List.drop_zero]
      by_cases h : i + p.length ≤ a.length
      · have hw : ((a ++ c :: b).drop i).take p.length = (a.drop i).take p.length := by
          rw [hd, List.take_append, show p.length - (a.drop i).length = 0 by rw [List.length_drop]; omega]; simp
        by_cases hx : (a.drop i).take p.length = p
        · rw [pl_yes hp h hx, pl_yes hp (by rw [hl]; omega) (by rw [hw]; exact hx), pl_cut a b p c hp hc n (i + p.length) (by omega) (by omega)]; rfl
        · rw [pl_no hp h hx, pl_no hp (by rw [hl]; omega) (by rw [hw]; exact hx), pl_cut a b p c hp hc n (i + 1) (by omega) (by omega)]
      · rw [pl_end h, List.nil_append]
        by_cases h2 : i + p.length ≤ (a ++ c :: b).length
        · have hx : ((a ++ c :: b).drop i).take p.length ≠ p := fun he => by
            apply hc
            rw [← he, hd, List.take_append]
            refine List.mem_append.2 (.inr ?_)
            have : p.length - (a.drop i).length = (p.length - (a.drop i).length - 1) + 1 := by rw [List.length_drop]; omega
            rw [this, List.take_succ_cons]
            exact List.mem_cons_self ..
          rw [pl_no hp h2 hx, pl_cut a b p c hp hc n (i + 1) (by omega) (by omega), pl_end (show ¬ i + 1 + p.length ≤ a.length by omega), List.nil_append]
        · have hb : pl b p 0 = [] := pl_end (by omega)
          rw [pl_end h2, hb]; rfl
theorem pl_row (x : UInt8) (n m : Nat) (hm : 0 < m) : ∀ (f j : Nat), n - j ≤ f → pl (List.replicate n x) (List.replicate m x) j = (List.range ((n - j) / m)).map fun i => j + m * i
  | f, j, hf => by
    have hp : 0 < (List.replicate m x).length := by rw [List.length_replicate]; exact hm
    by_cases h : j + m ≤ n
    · cases f with
      | zero => omega
      | succ f =>
        rw [pl_yes hp (by rw [List.length_replicate, List.length_replicate]; exact h) (by rw [List.length_replicate, List.drop_replicate, List.take_replicate, show min m (n - j) = m by omega]), List.length_replicate, pl_row x n m hm f (j + m) (by omega)]
        have e : (n - j) / m = (n - (j + m)) / m + 1 := by
          rw [show n - j = n - (j + m) + m by omega, Nat.add_div_right _ hm]
        rw [e, List.range_succ_eq_map, List.map_cons, List.map_map]
        congr 1
        apply List.map_congr_left
        intro i _
        show j + m + m * i = j + m * (i + 1)
        rw [Nat.mul_add]; omega
    · rw [pl_end (by rw [List.length_replicate, List.length_replicate]; exact h), Nat.div_eq_of_lt (by omega)]; rfl
theorem part0 : partL 0 = List.replicate 32 48 := by decide +kernel
theorem part0_may : mayP (List.replicate 32 48) = true := by decide +kernel
theorem places_row (n : Nat) : placesL (List.replicate n 48) (List.replicate 32 48) = (List.range (n / 32)).map fun i => 32 * i := by
  unfold placesL
  rw [if_pos part0_may, pl_row 48 n 32 (by decide) n 0 (by omega), Nat.sub_zero]
  apply List.map_congr_left
  intro i _
  omega
theorem places_cut (a : List UInt8) (c : UInt8) (b : List UInt8) (hc : c ≠ 48) : placesL (a ++ c :: b) (List.replicate 32 48) = placesL a (List.replicate 32 48) ++ (placesL b (List.replicate 32 48)).map (· + (a.length + 1)) := by
  unfold placesL
  rw [if_pos part0_may, if_pos part0_may, if_pos part0_may]
  exact pl_cut a b _ c (by decide) (by rw [List.mem_replicate]; exact fun h => hc h.2) (a.length + 1) 0 (by omega) (by omega)
/-- l: behind what stands ahead, each 32. -/
theorem rows_l (a : List UInt8) (n : Nat) : placesL (a ++ [45] ++ List.replicate n 48) (List.replicate 32 48) = placesL a (List.replicate 32 48) ++ (List.range (n / 32)).map fun i => 32 * i + (a.length + 1) := by
  rw [List.append_assoc, show [45] ++ List.replicate n (48 : UInt8) = 45 :: List.replicate n 48 by rfl, places_cut a 45 _ (by decide), places_row, List.map_map]; rfl
theorem rows_m (n : Nat) : (placesL ([45] ++ List.replicate n 48 ++ [101] ++ List.replicate n 48) (List.replicate 32 48)).length = 2 * (n / 32) := by
  rw [List.append_assoc, show [101] ++ List.replicate n (48 : UInt8) = 101 :: List.replicate n 48 by rfl, places_cut _ 101 _ (by decide), places_row, show [45] ++ List.replicate n (48 : UInt8) = [] ++ 45 :: List.replicate n 48 by rfl, places_cut [] 45 _ (by decide), places_row]
  simp [placesL, pl_end]
  omega
/-- Where the part of one letter, another one, and it again, stand in a row. -/
theorem rows_f (n : Nat) : findL (List.replicate n 48) [List.replicate 32 48, partL 1, List.replicate 32 48] = if n / 32 = 0 then [] else [0, 2] := by
  have h1 : placesL (List.replicate n 48) (partL 1) = [] := by
    have h : ¬ (placesL (List.replicate n 48) (partL 1)).isEmpty = false := fun h => by
      obtain ⟨_, j, h2, h3⟩ := (find_iff _ _).1 h
      have h4 : (49 : UInt8) ∈ partL 1 := by decide +kernel
      rw [← h3] at h4
      have := List.mem_of_mem_drop (List.mem_of_mem_take h4)
      rw [List.mem_replicate] at this
      exact absurd this.2 (by decide)
    rw [Bool.not_eq_false, List.isEmpty_iff] at h
    exact h
  unfold findL
  show List.filter (fun i => !(placesL (List.replicate n 48) ([List.replicate 32 48, partL 1, List.replicate 32 48].getD i [])).isEmpty) [0, 1, 2] = _
  rw [List.filter_cons, List.filter_cons, List.filter_cons]
  show (if (!(placesL (List.replicate n 48) (List.replicate 32 48)).isEmpty) = true then _ else _) = _
  have e1 : (!(placesL (List.replicate n 48) ([List.replicate 32 48, partL 1, List.replicate 32 48].getD 1 [])).isEmpty) = false := by
    show (!(placesL (List.replicate n 48) (partL 1)).isEmpty) = false
    rw [h1]; rfl
  have e2 : (!(placesL (List.replicate n 48) ([List.replicate 32 48, partL 1, List.replicate 32 48].getD 2 [])).isEmpty) = (!(placesL (List.replicate n 48) (List.replicate 32 48)).isEmpty) := rfl
  rw [e1, e2, places_row]
  by_cases h : n / 32 = 0
  · rw [if_pos h, h]; rfl
  · rw [if_neg h]
    have : (List.map (fun i => 32 * i) (List.range (n / 32))).isEmpty = false := by
      rw [List.isEmpty_eq_false_iff]
      intro he
      have := congrArg List.length he
      rw [List.length_map, List.length_range] at this
      exact h this
    rw [this]
    rfl
end Go.Proofs.Ytlofoeapfmcolaa
/- ScanRows' law: a part of one letter in a row of it. Its condition: lengths that fit. -/
namespace Go.Proofs.Ytlofoeapfmcolaa
open Go Go.RowKit
set_option linter.unusedVariables false
set_option linter.unusedSimpArgs false
section
open E
/-- A row said by other cells. -/
theorem rowAt_fn {ρ : Env} {r : Nat} {f g : Nat → List Value} {k n : Nat} {wr : Bool} {cp : Option (TypeId × Nat)} {w : World} (h : RowAt ρ r ⟨[.fnc f k n], wr, cp⟩ w) (e : ∀ q, q < n → f q = g q) : RowAt ρ r ⟨[.fnc g k n], wr, cp⟩ w := by
  have hl : lst ρ [.fnc f k n] = lst ρ [.fnc g k n] := by
    have : ∀ m, m ≤ n → (List.range m).flatMap f = (List.range m).flatMap g := by
      intro m
      induction m with
      | zero => intro _; rfl
      | succ m ih =>
        intro hm
        rw [List.range_succ, List.flatMap_append, List.flatMap_append, ih (by omega), List.flatMap_cons, List.flatMap_cons, e m (by omega)]
        simp
    simp only [lst, List.flatMap_cons, List.flatMap_nil, Pc.arrV]
    rw [this n (Nat.le_refl n)]
  unfold RowAt at h ⊢
  simp only [hl] at h
  exact h
theorem rowAt_ro {ρ : Env} {r : Nat} {ps : List Pc} {wr : Bool} {cp : Option (TypeId × Nat)} {w : World} (h : RowAt ρ r ⟨ps, wr, cp⟩ w) : RowAt ρ r ⟨ps, false, none⟩ w := by
  obtain ⟨k1, k2, _, k4⟩ := h
  exact ⟨k1, fun j v hv => ⟨(k2 j v hv).1, fun h => by cases h⟩, (fun e k he => by cases he), k4⟩
theorem ent7 : Enters Try.prog 7 := enters_of Try.func7 (by kernel_rfl) rfl
abbrev row3 (p q : List UInt8) : Row := ⟨[.fnc (chunkF [stv p, stv q, stv p] 1 3) 1 3], true, some (9, 1)⟩
theorem row3_is {p q : List UInt8} {ρ : Env} {r : Nat} {w : World} (h : RowAt ρ r (row3 p q) w) : RowAt (fun _ => ρ r) 1 (strR [p, q, p]) w := by
  have h1 : RowAt ρ r ⟨[.fnc (strF [p, q, p]) 1 3], true, some (9, 1)⟩ w := rowAt_fn h fun i hi => by
    match i, hi with
    | 0, _ => rfl
    | 1, _ => rfl
    | 2, _ => rfl
  exact rowAt_ro (rowAt_mv h1 rfl)
abbrev hF30 (s p q : List UInt8) : Hint := hI0 12 (fun ρ => #[stv s, (TV.s (.lf (.sl 12004 0 0 1 3 none))).val ρ]) [(12004, row3 p q)]
abbrev hF3 (s p q : List UInt8) (l : List Nat) : Hint := hI1 12 (fun ρ => #[stv s, (TV.s (.lf (.sl 12004 0 0 1 3 none))).val ρ]) [(12004, row3 p q)] 12005 l
theorem f3_any (s p q : List UInt8) (hs : s.length ≤ 1000000) (hp : p.length ≤ 1000000) (hq : q.length ≤ 1000000) (ρ : Env) (w : World) (h : RowAt ρ 12004 (row3 p q) w) : Calls Try.prog 12 #[stv s, (TV.s (.lf (.sl 12004 0 0 1 3 none))).val ρ] w (IOut w (findL s [p, q, p])) :=
  find_pos s [p, q, p] hs (by show 3 ≤ _; decide) (fun x hx => by
    simp only [List.mem_cons, List.not_mem_nil, or_false] at hx
    rcases hx with rfl | rfl | rfl <;> assumption) w (fun _ => ρ 12004) (row3_is h)
theorem hF30_ok (s p q : List UInt8) (hs : s.length ≤ 1000000) (hp : p.length ≤ 1000000) (hq : q.length ≤ 1000000) (h : findL s [p, q, p] = []) : HintOk Try.prog 12005 (hF30 s p q) := hI0_of ent12 fun ρ w hr => by
  have := f3_any s p q hs hp hq ρ w (hr _ (List.mem_singleton.2 rfl))
  rw [h] at this
  exact this
theorem hF3_ok (s p q : List UInt8) (l : List Nat) (hl : l ≠ []) (hs : s.length ≤ 1000000) (hp : p.length ≤ 1000000) (hq : q.length ≤ 1000000) (h : findL s [p, q, p] = l) : HintOk Try.prog 12005 (hF3 s p q l) := hI1_of hl ent12 fun ρ w hr => by
  have := f3_any s p q hs hp hq ρ w (hr _ (List.mem_singleton.2 rfl))
  rw [h] at this
  exact this
abbrev row02 : Row := ⟨[.fnc (chunkF [.int .i64 0, .int .i64 2] 1 2) 1 2], true, some (3, 1)⟩
abbrev hS2 : Hint := .call ⟨11, fun ρ => #[(TV.s (.lf (.sl 12005 0 0 1 2 none))).val ρ, (TV.s (.lf (.sl 25001 0 0 1 2 none))).val ρ], .v (.bool true), [(12005, inR [0, 2] 2), (25001, row02)], [], none, []⟩
theorem hS2_ok (id : Nat) : HintOk Try.prog id hS2 := by
  refine call_ok ent11 rfl (fun p hp => by cases hp) fun ρ w hr => ?_
  have h0 := hr _ (List.mem_cons_self ..)
  have h1 := hr _ (List.mem_cons_of_mem _ (List.mem_cons_self ..))
  have h2 : RowAt ρ 25001 (inR [0, 2] 2) w := rowAt_fn h1 fun i hi => by
    match i, hi with
    | 0, _ => rfl
    | 1, _ => rfl
  have hc := same_pos [0, 2] [0, 2] (by decide) (by decide) w (fun x => if x = 0 then ρ 12005 else ρ 25001) (inO_of h0 rfl) (inO_of h2 rfl)
  refine hc.mono ?_
  rintro e w' ⟨rfl, hf⟩
  exact ⟨⟨0, 0, 0⟩, by rfl, Fr.of_below hf _, (fun p hp => by cases hp), fun row hrw => by cases hrw⟩
theorem w64 {n : Int} (h : inI n) : IntKind.i64.wrap n = n := IntWalk.i64_in n h
theorem nat_list (l : List Nat) : l = [] ∨ l ≠ [] := by cases l <;> simp
theorem tv_b {a b : Bool} (h : a = b) : TV.v (.bool a) = TV.v (.bool b) := by rw [h]
abbrev rwS (l : List Nat) (k f e i : Nat) : List (Nat × TV) := [(8, .s (.lf (.sl 10005 0 0 1 l.length none))), (10, .s (.lf (.sl 12005 0 0 1 2 none))), (11, .int .i64 (k : Int)), (12, .int .i64 (f : Int)), (13, .int .i64 (e : Int)), (14, .int .i64 (i : Int))]
abbrev rwR (l : List Nat) : List (Nat × Row) := [(10005, inR l l.length), (12005, inR [0, 2] 2)]
set_option maxRecDepth 100000 in
/-- The second loop: each place is where it should be. -/
theorem rows_loop (w : World) (ρ : Env) (l : List Nat) (k f e : Nat) (hk : 0 < k) (hkb : k ≤ 1000) (hf : f ≤ 1000) (he : e ≤ 1000) (hl : l.length = k + e) (hg : ∀ i, i < k → l.getD (e + i) 0 = f + 32 * i) :
    At Try.prog w ⟨[], ρ, []⟩ Try.f7.ntmps [] (lp Try.f7 1) (EndX Try.prog Try.f7 (FrQ w)) (rwS l k f e 0) (rwR l) := by
  refine At.loop (fun i : Nat => rwS l k f e i) (fun _ => rwR l) (fun i => i ≤ k) (fun i => k - i) (fun i hi ih => ?_) 0 (Nat.zero_le _)
  by_cases h : i < k
  · have e1 : ((e : Int) + (i : Int)).toNat = e + i := by omega
    have hv : TV.int .i64 ((l.getD (addN 0 ((e : Int) + (i : Int)).toNat) 0 : Nat) : Int) = TV.int .i64 ((f : Int) + 32 * (i : Int)) := tv_int (by rw [addN_eq, Nat.zero_add, e1, hg i h]; omega)
    exact At.run rfl [(2021005, .val (.int .i64 ((f : Int) + 32 * (i : Int))))] ⟨trivial, trivial⟩ [.y, .n] (tm2 := rwS l k f e (i + 1)) (rows2 := rwR l) (ob := [decide ((i : Int) < (k : Int)) = true, inI ((e : Int) + (i : Int)), 0 ≤ (e : Int) + (i : Int) ∧ (e : Int) + (i : Int) < (l.length : Int), TV.int .i64 ((l.getD (addN 0 ((e : Int) + (i : Int)).toNat) 0 : Nat) : Int) = TV.int .i64 ((f : Int) + 32 * (i : Int)), addN 0 ((e : Int) + (i : Int)).toNat < l.length, inI (32 * (i : Int)), inI ((f : Int) + 32 * (i : Int)), ((f : Int) + 32 * (i : Int) != (f : Int) + 32 * (i : Int)) = false, inI ((i : Int) + 1)]) (td := lp Try.f7 1) (by kernel_rfl)
      ⟨decide_eq_true (by omega), ⟨by omega, by omega⟩, ⟨by omega, by omega⟩, hv, by rw [addN_eq]; omega, ⟨by omega, by omega⟩, ⟨by omega, by omega⟩, by simp, ⟨by omega, by omega⟩, trivial⟩ rfl rfl (by intro h; cases h) (ih (i + 1) h (by show k - (i + 1) < k - i; omega))
  · obtain rfl : i = k := by omega
    exact At.fin rfl [(25002, hS2), (25004, hAw)] ⟨hS2_ok _, hAw_ok _, trivial⟩ [.n, .n] (x := .v (.bool true)) (ob := [[decide ((i : Int) < (i : Int)) = false, ((i : Int) == 0) = false], qL hS2, qL hAw].flatten) (by kernel_rfl) (all_flat ⟨⟨decide_eq_false (by omega), by simp only [beq_eq_false_iff_ne]; omega, trivial⟩, all_qL _, all_qL _, trivial⟩) fun ρ' w' hf _ => ⟨rfl, hf⟩
theorem inner_get (x : List Nat) (k f : Nat) : ∀ i, i < k → (x ++ (List.range k).map fun i => 32 * i + f).getD (x.length + i) 0 = f + 32 * i := fun i hi => by
  rw [List.getD_eq_getElem?_getD, List.getElem?_append_right (by omega), Nat.add_sub_cancel_left, List.getElem?_map, List.getElem?_range hi]
  show 32 * i + f = _
  omega
set_option maxRecDepth 100000 in
/-- Behind the first loop. -/
theorem rows_tail (w : World) (ρ : Env) (n : Nat) (hn : n < 256) (a : List UInt8) (ha : a.length ≤ 50) (s : List UInt8) (hs : s = List.replicate n 48) :
    At Try.prog w ⟨[], ρ, []⟩ Try.f7.ntmps [] (lp Try.f7 0) (EndX Try.prog Try.f7 (FrQ w)) [(0, .int .u8 (n : Int)), (1, .v (stv a)), (5, .v (stv s)), (6, .int .i64 (n : Int))] [] := by
  have hsl : s.length = n := by rw [hs, List.length_replicate]
  obtain ⟨L1, hL1⟩ : ∃ L1, L1 = a ++ [45] ++ s := ⟨_, rfl⟩
  obtain ⟨L2, hL2⟩ : ∃ L2, L2 = [45] ++ s ++ [101] ++ s := ⟨_, rfl⟩
  have hll1 : L1.length ≤ 1000000 := by rw [hL1]; simp only [List.length_append, List.length_singleton]; omega
  have hll2 : L2.length ≤ 1000000 := by rw [hL2]; simp only [List.length_append, List.length_singleton]; omega
  have hp : (partL 0).length ≤ 1000000 := by rw [partL_len]; decide
  have hq : (partL 1).length ≤ 1000000 := by rw [partL_len]; decide
  have ha6 : a.length ≤ 1000000 := by omega
  have hs6 : s.length ≤ 1000000 := by omega
  obtain ⟨k, hk⟩ : ∃ k, k = n / 32 := ⟨_, rfl⟩
  have e1 : placesL L1 (partL 0) = placesL a (partL 0) ++ (List.range k).map fun i => 32 * i + (a.length + 1) := by rw [hL1, hs, part0, rows_l, hk]
  have e2 : (placesL L2 (partL 0)).length = 2 * k := by rw [hL2, hs, part0, rows_m, hk]
  have e3 : findL s [partL 0, partL 1, partL 0] = if k = 0 then [] else [0, 2] := by rw [hs, part0, rows_f, hk]
  have hxl := places_len a (partL 0) ha6
  have hx50 : (placesL a (partL 0)).length ≤ 50 := by
    unfold placesL
    rw [if_pos (part_may 0)]
    exact Nat.le_trans (pl_len a (partL 0) (by rw [partL_len]; decide) 0) ha
  have hl1 : (placesL L1 (partL 0)).length = k + (placesL a (partL 0)).length := by rw [e1, List.length_append, List.length_map, List.length_range]; omega
  have hg : ∀ i, i < k → (placesL L1 (partL 0)).getD ((placesL a (partL 0)).length + i) 0 = a.length + 1 + 32 * i := by rw [e1]; exact inner_get _ _ _
  have hk8 : k ≤ 8 := by omega
  by_cases hk0 : k = 0
  · rw [if_pos hk0] at e3
    have hkm := hI_pro0 (id := 11006) hll2 hp (List.length_eq_zero_iff.1 (by rw [e2]; omega))
    have hkf := hF30_ok s (partL 0) (partL 1) hs6 hp hq e3
    by_cases hx : placesL a (partL 0) = []
    · have hkx := hI_pro0 (id := 15002) ha6 hp hx
      have hkl := hI_pro0 (id := 10005) hll1 hp (List.length_eq_zero_iff.1 (by rw [hl1, hx]; simp; omega))
      exact At.fin rfl [(9000, hPt 0), (2010001, .val (.v (stv (a ++ [45])))), (10005, hI0 14 (fun _ => #[stv L1, stv (partL 0)]) []), (2010003, .val (.v (stv L1))), (2011004, .val (.v (stv L2))), (11006, hI0 14 (fun _ => #[stv L2, stv (partL 0)]) []), (12002, hPt 1), (12005, hF30 s (partL 0) (partL 1)), (2013002, .val (.int .i64 (0 : Int))), (15002, hI0 14 (fun _ => #[stv a, stv (partL 0)]) []), (2016005, .val (.v (.bool false))), (2016011, .val (.v (.bool false))), (24004, hAw)] ⟨hPt_ok _ _ (by decide), trivial, hkl, trivial, trivial, hkm, hPt_ok _ _ (by decide), hkf, trivial, hkx, trivial, trivial, hAw_ok _, trivial⟩ [.n, .d, .u, .d, .d] (x := .v (.bool true)) (ob := [[IntKind.i64.wrap (n : Int) = (n : Int), decide ((n : Int) < (n : Int)) = false], qL (hPt 0), [TV.v (stv (a ++ [45])) = TV.v (stv (a ++ [45])), (a.length : Int) + ((1 : Nat) : Int) ≤ 9223372036854775807, TV.v (stv (a ++ [45] ++ s)) = TV.v (stv L1), ((a ++ [45]).length : Int) + (s.length : Int) ≤ 9223372036854775807], qL (hI0 14 (fun _ => #[stv L1, stv (partL 0)]) []), [((1 : Nat) : Int) + (s.length : Int) ≤ 9223372036854775807, (([45] ++ s).length : Int) + ((1 : Nat) : Int) ≤ 9223372036854775807, TV.v (stv ([45] ++ s ++ [101] ++ s)) = TV.v (stv L2), (([45] ++ s ++ [101]).length : Int) + (s.length : Int) ≤ 9223372036854775807], qL (hI0 14 (fun _ => #[stv L2, stv (partL 0)]) []), qL (hPt 1), qL (hF30 s (partL 0) (partL 1)), [IntKind.i64.wrap (n : Int) = (n : Int), TV.int .i64 ((n : Int) / 32) = TV.int .i64 (0 : Int), 0 ≤ (n : Int) ∧ (0 : Int) < 32, IntKind.i64.wrap ((n : Int) / 32) = (n : Int) / 32, inI ((a.length : Int) + 1)], qL (hI0 14 (fun _ => #[stv a, stv (partL 0)]) []), [inI ((0 : Int) + ((0 : Nat) : Int)), TV.v (.bool false) = TV.v (.bool false), inI (2 * (0 : Int)), TV.v (.bool false) = TV.v (.bool false)], qL hAw].flatten) (by kernel_rfl) (all_flat ⟨⟨w64 ⟨by omega, by omega⟩, decide_eq_false (by omega), trivial⟩, all_qL _, ⟨rfl, by omega, tv_str hL1.symm, by rw [List.length_append, List.length_singleton]; omega, trivial⟩, all_qL _, ⟨by omega, by rw [List.length_append, List.length_singleton]; omega, tv_str hL2.symm, by rw [List.length_append, List.length_append, List.length_singleton, List.length_singleton]; omega, trivial⟩, all_qL _, all_qL _, all_qL _, ⟨w64 ⟨by omega, by omega⟩, tv_int (by omega), ⟨by omega, by decide⟩, w64 ⟨by omega, by omega⟩, ⟨by omega, by omega⟩, trivial⟩, all_qL _, ⟨⟨by omega, by omega⟩, rfl, ⟨by omega, by omega⟩, rfl, trivial⟩, all_qL _, trivial⟩) fun ρ' w' hf _ => ⟨rfl, hf⟩
    · have hkx := hI_pro1 (id := 15002) ha6 hp hx
      have hkl := hI_pro1 (id := 10005) hll1 hp (fun h => hx (by rw [h] at hl1; exact List.length_eq_zero_iff.1 (by simp at hl1; omega)))
      generalize placesL L1 (partL 0) = l at hkl hl1
      generalize placesL a (partL 0) = x at hkx hl1 hx50
      exact At.fin rfl [(9000, hPt 0), (2010001, .val (.v (stv (a ++ [45])))), (10005, hI1 14 (fun _ => #[stv L1, stv (partL 0)]) [] 10005 l), (2010003, .val (.v (stv L1))), (2011004, .val (.v (stv L2))), (11006, hI0 14 (fun _ => #[stv L2, stv (partL 0)]) []), (12002, hPt 1), (12005, hF30 s (partL 0) (partL 1)), (2013002, .val (.int .i64 (0 : Int))), (15002, hI1 14 (fun _ => #[stv a, stv (partL 0)]) [] 15002 x), (2016005, .val (.v (.bool false))), (2016011, .val (.v (.bool false))), (24004, hAw)] ⟨hPt_ok _ _ (by decide), trivial, hkl, trivial, trivial, hkm, hPt_ok _ _ (by decide), hkf, trivial, hkx, trivial, trivial, hAw_ok _, trivial⟩ [.n, .d, .u, .d, .d] (x := .v (.bool true)) (ob := [[IntKind.i64.wrap (n : Int) = (n : Int), decide ((n : Int) < (n : Int)) = false], qL (hPt 0), [TV.v (stv (a ++ [45])) = TV.v (stv (a ++ [45])), (a.length : Int) + ((1 : Nat) : Int) ≤ 9223372036854775807, TV.v (stv (a ++ [45] ++ s)) = TV.v (stv L1), ((a ++ [45]).length : Int) + (s.length : Int) ≤ 9223372036854775807], qL (hI1 14 (fun _ => #[stv L1, stv (partL 0)]) [] 10005 l), [((1 : Nat) : Int) + (s.length : Int) ≤ 9223372036854775807, (([45] ++ s).length : Int) + ((1 : Nat) : Int) ≤ 9223372036854775807, TV.v (stv ([45] ++ s ++ [101] ++ s)) = TV.v (stv L2), (([45] ++ s ++ [101]).length : Int) + (s.length : Int) ≤ 9223372036854775807], qL (hI0 14 (fun _ => #[stv L2, stv (partL 0)]) []), qL (hPt 1), qL (hF30 s (partL 0) (partL 1)), [IntKind.i64.wrap (n : Int) = (n : Int), TV.int .i64 ((n : Int) / 32) = TV.int .i64 (0 : Int), 0 ≤ (n : Int) ∧ (0 : Int) < 32, IntKind.i64.wrap ((n : Int) / 32) = (n : Int) / 32, inI ((a.length : Int) + 1)], qL (hI1 14 (fun _ => #[stv a, stv (partL 0)]) [] 15002 x), [inI ((0 : Int) + (x.length : Int)), TV.v (.bool ((l.length : Int) != (0 : Int) + (x.length : Int))) = TV.v (.bool false), inI (2 * (0 : Int)), TV.v (.bool false) = TV.v (.bool false)], qL hAw].flatten) (by kernel_rfl) (all_flat ⟨⟨w64 ⟨by omega, by omega⟩, decide_eq_false (by omega), trivial⟩, all_qL _, ⟨rfl, by omega, tv_str hL1.symm, by rw [List.length_append, List.length_singleton]; omega, trivial⟩, all_qL _, ⟨by omega, by rw [List.length_append, List.length_singleton]; omega, tv_str hL2.symm, by rw [List.length_append, List.length_append, List.length_singleton, List.length_singleton]; omega, trivial⟩, all_qL _, all_qL _, all_qL _, ⟨w64 ⟨by omega, by omega⟩, tv_int (by omega), ⟨by omega, by decide⟩, w64 ⟨by omega, by omega⟩, ⟨by omega, by omega⟩, trivial⟩, all_qL _, ⟨⟨by omega, by omega⟩, tv_b (by simp only [bne_eq_false_iff_eq]; omega), ⟨by omega, by omega⟩, rfl, trivial⟩, all_qL _, trivial⟩) fun ρ' w' hf _ => ⟨rfl, hf⟩
  · rw [if_neg hk0] at e3
    have hkm := hI_pro1 (id := 11006) hll2 hp (fun h => by rw [h] at e2; simp at e2; omega)
    have hkf := hF3_ok s (partL 0) (partL 1) [0, 2] (by simp) hs6 hp hq e3
    have hkl := hI_pro1 (id := 10005) hll1 hp (fun h => by rw [h] at hl1; simp at hl1; omega)
    have hlp := rows_loop w ρ (placesL L1 (partL 0)) k (a.length + 1) (placesL a (partL 0)).length (by omega) (by omega) (by omega) (by omega) hl1 hg
    generalize placesL L2 (partL 0) = m at hkm e2
    by_cases hx : placesL a (partL 0) = []
    · have hkx := hI_pro0 (id := 15002) ha6 hp hx
      rw [hx] at hlp hl1
      generalize placesL L1 (partL 0) = l at hkl hl1 hlp
      have hl1 : l.length = k + 0 := hl1
      exact At.run rfl [(9000, hPt 0), (2010001, .val (.v (stv (a ++ [45])))), (10005, hI1 14 (fun _ => #[stv L1, stv (partL 0)]) [] 10005 l), (2010003, .val (.v (stv L1))), (2011004, .val (.v (stv L2))), (11006, hI1 14 (fun _ => #[stv L2, stv (partL 0)]) [] 11006 m), (12002, hPt 1), (12005, hF3 s (partL 0) (partL 1) [0, 2]), (2013002, .val (.int .i64 (k : Int))), (15002, hI0 14 (fun _ => #[stv a, stv (partL 0)]) []), (2016005, .val (.v (.bool false))), (2016011, .val (.v (.bool false)))] ⟨hPt_ok _ _ (by decide), trivial, hkl, trivial, trivial, hkm, hPt_ok _ _ (by decide), hkf, trivial, hkx, trivial, trivial, trivial⟩ [.n, .d] (tm2 := rwS l k (a.length + 1) 0 0) (rows2 := rwR l) (ob := [[IntKind.i64.wrap (n : Int) = (n : Int), decide ((n : Int) < (n : Int)) = false], qL (hPt 0), [TV.v (stv (a ++ [45])) = TV.v (stv (a ++ [45])), (a.length : Int) + ((1 : Nat) : Int) ≤ 9223372036854775807, TV.v (stv (a ++ [45] ++ s)) = TV.v (stv L1), ((a ++ [45]).length : Int) + (s.length : Int) ≤ 9223372036854775807], qL (hI1 14 (fun _ => #[stv L1, stv (partL 0)]) [] 10005 l), [((1 : Nat) : Int) + (s.length : Int) ≤ 9223372036854775807, (([45] ++ s).length : Int) + ((1 : Nat) : Int) ≤ 9223372036854775807, TV.v (stv ([45] ++ s ++ [101] ++ s)) = TV.v (stv L2), (([45] ++ s ++ [101]).length : Int) + (s.length : Int) ≤ 9223372036854775807], qL (hI1 14 (fun _ => #[stv L2, stv (partL 0)]) [] 11006 m), qL (hPt 1), qL (hF3 s (partL 0) (partL 1) [0, 2]), [IntKind.i64.wrap (n : Int) = (n : Int), TV.int .i64 ((n : Int) / 32) = TV.int .i64 (k : Int), 0 ≤ (n : Int) ∧ (0 : Int) < 32, IntKind.i64.wrap ((n : Int) / 32) = (n : Int) / 32, inI ((a.length : Int) + 1)], qL (hI0 14 (fun _ => #[stv a, stv (partL 0)]) []), [inI ((k : Int) + ((0 : Nat) : Int)), TV.v (.bool ((l.length : Int) != (k : Int) + ((0 : Nat) : Int))) = TV.v (.bool false), inI (2 * (k : Int)), TV.v (.bool ((m.length : Int) != 2 * (k : Int))) = TV.v (.bool false)]].flatten) (td := lp Try.f7 1) (by kernel_rfl) (all_flat ⟨⟨w64 ⟨by omega, by omega⟩, decide_eq_false (by omega), trivial⟩, all_qL _, ⟨rfl, by omega, tv_str hL1.symm, by rw [List.length_append, List.length_singleton]; omega, trivial⟩, all_qL _, ⟨by omega, by rw [List.length_append, List.length_singleton]; omega, tv_str hL2.symm, by rw [List.length_append, List.length_append, List.length_singleton, List.length_singleton]; omega, trivial⟩, all_qL _, all_qL _, all_qL _, ⟨w64 ⟨by omega, by omega⟩, tv_int (by omega), ⟨by omega, by decide⟩, w64 ⟨by omega, by omega⟩, ⟨by omega, by omega⟩, trivial⟩, all_qL _, ⟨⟨by omega, by omega⟩, tv_b (by simp only [bne_eq_false_iff_eq]; omega), ⟨by omega, by omega⟩, tv_b (by simp only [bne_eq_false_iff_eq]; omega), trivial⟩, trivial⟩) rfl rfl (by intro h; cases h) hlp
    · have hkx := hI_pro1 (id := 15002) ha6 hp hx
      generalize placesL L1 (partL 0) = l at hkl hl1 hlp
      generalize placesL a (partL 0) = x at hkx hl1 hx50 hlp
      exact At.run rfl [(9000, hPt 0), (2010001, .val (.v (stv (a ++ [45])))), (10005, hI1 14 (fun _ => #[stv L1, stv (partL 0)]) [] 10005 l), (2010003, .val (.v (stv L1))), (2011004, .val (.v (stv L2))), (11006, hI1 14 (fun _ => #[stv L2, stv (partL 0)]) [] 11006 m), (12002, hPt 1), (12005, hF3 s (partL 0) (partL 1) [0, 2]), (2013002, .val (.int .i64 (k : Int))), (15002, hI1 14 (fun _ => #[stv a, stv (partL 0)]) [] 15002 x), (2016005, .val (.v (.bool false))), (2016011, .val (.v (.bool false)))] ⟨hPt_ok _ _ (by decide), trivial, hkl, trivial, trivial, hkm, hPt_ok _ _ (by decide), hkf, trivial, hkx, trivial, trivial, trivial⟩ [.n, .d] (tm2 := rwS l k (a.length + 1) x.length 0) (rows2 := rwR l) (ob := [[IntKind.i64.wrap (n : Int) = (n : Int), decide ((n : Int) < (n : Int)) = false], qL (hPt 0), [TV.v (stv (a ++ [45])) = TV.v (stv (a ++ [45])), (a.length : Int) + ((1 : Nat) : Int) ≤ 9223372036854775807, TV.v (stv (a ++ [45] ++ s)) = TV.v (stv L1), ((a ++ [45]).length : Int) + (s.length : Int) ≤ 9223372036854775807], qL (hI1 14 (fun _ => #[stv L1, stv (partL 0)]) [] 10005 l), [((1 : Nat) : Int) + (s.length : Int) ≤ 9223372036854775807, (([45] ++ s).length : Int) + ((1 : Nat) : Int) ≤ 9223372036854775807, TV.v (stv ([45] ++ s ++ [101] ++ s)) = TV.v (stv L2), (([45] ++ s ++ [101]).length : Int) + (s.length : Int) ≤ 9223372036854775807], qL (hI1 14 (fun _ => #[stv L2, stv (partL 0)]) [] 11006 m), qL (hPt 1), qL (hF3 s (partL 0) (partL 1) [0, 2]), [IntKind.i64.wrap (n : Int) = (n : Int), TV.int .i64 ((n : Int) / 32) = TV.int .i64 (k : Int), 0 ≤ (n : Int) ∧ (0 : Int) < 32, IntKind.i64.wrap ((n : Int) / 32) = (n : Int) / 32, inI ((a.length : Int) + 1)], qL (hI1 14 (fun _ => #[stv a, stv (partL 0)]) [] 15002 x), [inI ((k : Int) + (x.length : Int)), TV.v (.bool ((l.length : Int) != (k : Int) + (x.length : Int))) = TV.v (.bool false), inI (2 * (k : Int)), TV.v (.bool ((m.length : Int) != 2 * (k : Int))) = TV.v (.bool false)]].flatten) (td := lp Try.f7 1) (by kernel_rfl) (all_flat ⟨⟨w64 ⟨by omega, by omega⟩, decide_eq_false (by omega), trivial⟩, all_qL _, ⟨rfl, by omega, tv_str hL1.symm, by rw [List.length_append, List.length_singleton]; omega, trivial⟩, all_qL _, ⟨by omega, by rw [List.length_append, List.length_singleton]; omega, tv_str hL2.symm, by rw [List.length_append, List.length_append, List.length_singleton, List.length_singleton]; omega, trivial⟩, all_qL _, all_qL _, all_qL _, ⟨w64 ⟨by omega, by omega⟩, tv_int (by omega), ⟨by omega, by decide⟩, w64 ⟨by omega, by omega⟩, ⟨by omega, by omega⟩, trivial⟩, all_qL _, ⟨⟨by omega, by omega⟩, tv_b (by simp only [bne_eq_false_iff_eq]; omega), ⟨by omega, by omega⟩, tv_b (by simp only [bne_eq_false_iff_eq]; omega), trivial⟩, trivial⟩) rfl rfl (by intro h; cases h) hlp
set_option maxRecDepth 100000 in
theorem rows_any (n : Nat) (hn : n < 256) (a : List UInt8) (w : World) : Calls Try.prog 7 #[.int .u8 (n : Int), stv a] w (FrQ w) := by
  refine At.calls (args := [.int .u8 (n : Int), .v (stv a)]) (rows := []) (gl := []) (wr := []) (ρ := fun _ => (⟨0, 0, 0⟩ : Blk)) Try.func7 rfl rfl (init_rw ⟨rfl, rfl, trivial⟩ rfl rfl rfl (fun p hp => by cases hp) (fun p hp => by cases hp) (fun p hp => by cases hp)) rfl ?_
  by_cases h : a.length ≤ 50
  · have hloop : ∀ i : Nat, i ≤ n → At Try.prog w nB Try.f7.ntmps [] (lp Try.f7 0) (EndX Try.prog Try.f7 (FrQ w)) [(0, .int .u8 (n : Int)), (1, .v (stv a)), (5, .v (stv (List.replicate i 48))), (6, .int .i64 (i : Int))] [] := by
      refine At.loop (fun i : Nat => [(0, .int .u8 (n : Int)), (1, .v (stv a)), (5, .v (stv (List.replicate i 48))), (6, .int .i64 (i : Int))]) (fun _ => []) (fun i => i ≤ n) (fun i => n - i) fun i hi ih => ?_
      by_cases hlt : i < n
      · have hv : TV.v (stv (List.replicate i 48 ++ [48])) = TV.v (stv (List.replicate (i + 1) 48)) := tv_str (by rw [List.replicate_succ'])
        obtain ⟨s, hs⟩ : ∃ s, s = List.replicate i (48 : UInt8) := ⟨_, rfl⟩
        have hsl : s.length = i := by rw [hs, List.length_replicate]
        have h9 := ih (i + 1) hlt (by show n - (i + 1) < n - i; omega)
        obtain ⟨s2, hs2⟩ : ∃ s2, s2 = List.replicate (i + 1) (48 : UInt8) := ⟨_, rfl⟩
        rw [← hs, ← hs2] at hv
        rw [← hs2] at h9
        rw [← hs]
        exact At.run rfl [(2008001, .val (.v (stv s2)))] ⟨trivial, trivial⟩ [.y] (tm2 := [(0, .int .u8 (n : Int)), (1, .v (stv a)), (5, .v (stv s2)), (6, .int .i64 ((i + 1 : Nat) : Int))]) (rows2 := []) (ob := [IntKind.i64.wrap (n : Int) = (n : Int), decide ((i : Int) < (n : Int)) = true, TV.v (stv (s ++ [48])) = TV.v (stv s2), (s.length : Int) + ((1 : Nat) : Int) ≤ 9223372036854775807, inI ((i : Int) + 1)]) (td := lp Try.f7 0) (by kernel_rfl) ⟨w64 ⟨by omega, by omega⟩, decide_eq_true (by omega), hv, by omega, ⟨by omega, by omega⟩, trivial⟩ rfl rfl (by intro h; cases h) h9
      · obtain rfl : i = n := by omega
        exact rows_tail w _ i hn a h _ rfl
    exact At.run rfl [] trivial [.n] (tm2 := [(0, .int .u8 (n : Int)), (1, .v (stv a)), (5, .v (stv [])), (6, .int .i64 ((0 : Nat) : Int))]) (rows2 := []) (ob := [decide ((a.length : Int) > 50) = false]) (td := lp Try.f7 0) (by kernel_rfl) ⟨decide_eq_false (by omega), trivial⟩ rfl rfl (by intro h; cases h) (hloop 0 (Nat.zero_le _))
  · exact At.fin rfl [(3000, hAw)] ⟨hAw_ok _, trivial⟩ [.y] (x := .v (.bool true)) (ob := [[decide ((a.length : Int) > 50) = true], qL hAw].flatten) (by kernel_rfl) (all_flat ⟨⟨decide_eq_true (by omega), trivial⟩, all_qL _, trivial⟩) fun ρ' w' hf _ => ⟨rfl, hf⟩
theorem rows_all (w : World) (a : Int) (h0 : 0 ≤ a) (h1 : a < 256) (s : ByteArray) : Calls Try.prog 7 #[.int .u8 a, .string s] w (FrQ w) := by
  obtain ⟨n, rfl⟩ := Int.eq_ofNat_of_zero_le h0
  exact rows_any n (by omega) s.data.toList w
end
end Go.Proofs.Ytlofoeapfmcolaa
/- ScanAll's law: the program's functions tell what the document's tell. Its condition: lengths that fit. -/
namespace Go.Proofs.Ytlofoeapfmcolaa
open Go Go.RowKit
set_option linter.unusedVariables false
set_option linter.unusedSimpArgs false
section
open E
theorem ent3 : Enters Try.prog 3 := enters_of Try.func3 (by kernel_rfl) rfl
/-- Find of texts in a row of the caller's. -/
theorem hFp_any (r : Nat) (s : List UInt8) (ps : List (List UInt8)) (hs : s.length ≤ 1000000) (hps : ps.length ≤ 1000000) (hp : ∀ p ∈ ps, p.length ≤ 1000000) (ρ : Env) (w : World) (h : RowAt ρ r (strR ps) w) : Calls Try.prog 12 #[stv s, (TV.s (.lf (.sl r 0 0 1 ps.length none))).val ρ] w (IOut w (findL s ps)) ∧ Calls Try.prog 13 #[stv s, (TV.s (.lf (.sl r 0 0 1 ps.length none))).val ρ] w (IOut w (findL s ps)) :=
  ⟨find_pos s ps hs hps hp w (fun _ => ρ r) (rowAt_mv h rfl), rfind_pos s ps hs hps hp w (fun _ => ρ r) (rowAt_mv h rfl)⟩
abbrev fArg (r : Nat) (s : List UInt8) (ps : List (List UInt8)) : Env → Array Value := fun ρ => #[stv s, (TV.s (.lf (.sl r 0 0 1 ps.length none))).val ρ]
theorem hFp0 {id r : Nat} {s : List UInt8} {ps : List (List UInt8)} (hs : s.length ≤ 1000000) (hps : ps.length ≤ 1000000) (hp : ∀ p ∈ ps, p.length ≤ 1000000) (h : findL s ps = []) : HintOk Try.prog id (hI0 12 (fArg r s ps) [(r, strR ps)]) := hI0_of ent12 fun ρ w hr => by
  have := (hFp_any r s ps hs hps hp ρ w (hr _ (List.mem_singleton.2 rfl))).1
  rw [h] at this
  exact this
theorem hFp1 {id r : Nat} {s : List UInt8} {ps : List (List UInt8)} (hs : s.length ≤ 1000000) (hps : ps.length ≤ 1000000) (hp : ∀ p ∈ ps, p.length ≤ 1000000) (h : findL s ps ≠ []) : HintOk Try.prog id (hI1 12 (fArg r s ps) [(r, strR ps)] id (findL s ps)) := hI1_of h ent12 fun ρ w hr => (hFp_any r s ps hs hps hp ρ w (hr _ (List.mem_singleton.2 rfl))).1
theorem hFd0 {id r : Nat} {s : List UInt8} {ps : List (List UInt8)} (hs : s.length ≤ 1000000) (hps : ps.length ≤ 1000000) (hp : ∀ p ∈ ps, p.length ≤ 1000000) (h : findL s ps = []) : HintOk Try.prog id (hI0 13 (fArg r s ps) [(r, strR ps)]) := hI0_of ent13 fun ρ w hr => by
  have := (hFp_any r s ps hs hps hp ρ w (hr _ (List.mem_singleton.2 rfl))).2
  rw [h] at this
  exact this
theorem hFd1 {id r : Nat} {s : List UInt8} {ps : List (List UInt8)} (hs : s.length ≤ 1000000) (hps : ps.length ≤ 1000000) (hp : ∀ p ∈ ps, p.length ≤ 1000000) (h : findL s ps ≠ []) : HintOk Try.prog id (hI1 13 (fArg r s ps) [(r, strR ps)] id (findL s ps)) := hI1_of h ent13 fun ρ w hr => (hFp_any r s ps hs hps hp ρ w (hr _ (List.mem_singleton.2 rfl))).2
theorem hFn {id : Nat} {s : List UInt8} (pa : Option Addr) (ca : Nat) (hs : s.length ≤ 1000000) : HintOk Try.prog id (hI0 12 (fun _ => #[stv s, .slice pa 0 ca]) []) := hI0_of ent12 fun ρ w _ => find_nil s pa ca hs w
theorem hFdn {id : Nat} {s : List UInt8} (pa : Option Addr) (ca : Nat) : HintOk Try.prog id (hI0 13 (fun _ => #[stv s, .slice pa 0 ca]) []) := hI0_of ent13 fun ρ w _ => rfind_nil s pa ca w
theorem find_len (s : List UInt8) (ps : List (List UInt8)) : (findL s ps).length ≤ ps.length := by
  unfold findL
  exact Nat.le_trans (List.length_filter_le _ _) (by rw [List.length_range]; exact Nat.le_refl _)
set_option maxRecDepth 100000 in
theorem all_tail_nil (s o p : List UInt8) (pa : Option Addr) (ca : Nat) (w : World) (ρ : Env) (hs : s.length ≤ 1000) (ho : o.length ≤ 60) (hp : p.length ≤ 60) :
    At Try.prog w ⟨[], ρ, []⟩ Try.f3.ntmps [] (lp Try.f3 0) (EndX Try.prog Try.f3 (FrQ w)) [(0, .v (stv s)), (1, .v (.slice pa 0 ca)), (2, .v (stv o)), (3, .v (stv p)), (9, .int .i64 (0 : Int))] [] := by
  have hs6 : s.length ≤ 1000000 := by omega
  have hp6' : p.length ≤ 1000000 := by omega
  have ho6 : o.length ≤ 1000000 := by omega
  have k5 := hCh_at 9027 s o p hs6 ho6 hp6'
  have k6 : HintOk Try.prog 9031 (hCd s o p (changeL s o p)) := hCd_ok _ _ _ _ _ hs6 ho6 hp6' rfl
  have hm9 := places_len s p hs6
  have k1 := hFn (id := 9008) (s := s) pa ca hs6
  have k2 := hFdn (id := 9011) (s := s) pa ca
  generalize changeL s o p = t at k5 k6
  by_cases hm : placesL s p = []
  · have k3 := hI_pro0 (id := 9017) hs6 hp6' hm
    have k4 := hI_doc0 (id := 9020) hs6 hp6' hm
    exact At.fin rfl [(9001, hMy p (mayP p)), (9003, hMp p (mayP p)), (2009004, .val (.v (.bool true))), (9008, hI0 12 (fun _ => #[stv s, .slice pa 0 ca]) []), (9011, hI0 13 (fun _ => #[stv s, .slice pa 0 ca]) []), (9012, hSm0), (9017, hI0 14 (fun _ => #[stv s, stv p]) []), (9020, hI0 15 (fun _ => #[stv s, stv p]) []), (9021, hSm0), (9027, hCh s o p t), (9031, hCd s o p t), (2009032, .val (.v (.bool true))), (9035, hAw)] ⟨hMy_ok _ _ _ (by omega) rfl, hMp_ok _ _ _ (by omega) rfl, trivial, k1, k2, hSm0_ok _, k3, k4, hSm0_ok _, k5, k6, trivial, hAw_ok _, trivial⟩ [.u, .d] (x := .v (.bool true)) (ob := [[], qL (hMy p (mayP p)), qL (hMp p (mayP p)), [TV.v (.bool (mayP p == mayP p)) = TV.v (.bool true)], qL (hI0 12 (fun _ => #[stv s, .slice pa 0 ca]) []), qL (hI0 13 (fun _ => #[stv s, .slice pa 0 ca]) []), qL (hSm0), qL (hI0 14 (fun _ => #[stv s, stv p]) []), qL (hI0 15 (fun _ => #[stv s, stv p]) []), qL (hSm0), qL (hCh s o p t), qL (hCd s o p t), [TV.v (.bool (t == t)) = TV.v (.bool true)], qL hAw].flatten) (by kernel_rfl) (all_flat ⟨trivial, all_qL _, all_qL _, ⟨tv_b (by simp), trivial⟩, all_qL _, all_qL _, all_qL _, all_qL _, all_qL _, all_qL _, all_qL _, all_qL _, ⟨tv_b (by simp), trivial⟩, all_qL _, trivial⟩) fun ρ' w' hf _ => ⟨rfl, hf⟩
  · have k3 := hI_pro1 (id := 9017) hs6 hp6' hm
    have k4 := hI_doc1 (id := 9020) hs6 hp6' hm
    have hm9 : (placesL s p).length ≤ 1000000000 := by omega
    generalize placesL s p = m at k3 k4 hm9 hm
    exact At.fin rfl [(9001, hMy p (mayP p)), (9003, hMp p (mayP p)), (2009004, .val (.v (.bool true))), (9008, hI0 12 (fun _ => #[stv s, .slice pa 0 ca]) []), (9011, hI0 13 (fun _ => #[stv s, .slice pa 0 ca]) []), (9012, hSm0), (9017, hI1 14 (fun _ => #[stv s, stv p]) [] 9017 m), (9020, hI1 15 (fun _ => #[stv s, stv p]) [] 9020 m), (9021, hSm 9017 9020 m m true), (9027, hCh s o p t), (9031, hCd s o p t), (2009032, .val (.v (.bool true))), (9035, hAw)] ⟨hMy_ok _ _ _ (by omega) rfl, hMp_ok _ _ _ (by omega) rfl, trivial, k1, k2, hSm0_ok _, k3, k4, hSm_ok _ _ _ _ _ _ hm9 hm9 (decide_eq_true rfl), k5, k6, trivial, hAw_ok _, trivial⟩ [.u, .d] (x := .v (.bool true)) (ob := [[], qL (hMy p (mayP p)), qL (hMp p (mayP p)), [TV.v (.bool (mayP p == mayP p)) = TV.v (.bool true)], qL (hI0 12 (fun _ => #[stv s, .slice pa 0 ca]) []), qL (hI0 13 (fun _ => #[stv s, .slice pa 0 ca]) []), qL (hSm0), qL (hI1 14 (fun _ => #[stv s, stv p]) [] 9017 m), qL (hI1 15 (fun _ => #[stv s, stv p]) [] 9020 m), qL (hSm 9017 9020 m m true), qL (hCh s o p t), qL (hCd s o p t), [TV.v (.bool (t == t)) = TV.v (.bool true)], qL hAw].flatten) (by kernel_rfl) (all_flat ⟨trivial, all_qL _, all_qL _, ⟨tv_b (by simp), trivial⟩, all_qL _, all_qL _, all_qL _, all_qL _, all_qL _, all_qL _, all_qL _, all_qL _, ⟨tv_b (by simp), trivial⟩, all_qL _, trivial⟩) fun ρ' w' hf _ => ⟨rfl, hf⟩
set_option maxRecDepth 100000 in
theorem all_nil (s o p : List UInt8) (pa : Option Addr) (ca : Nat) (w : World) : Calls Try.prog 3 #[stv s, .slice pa 0 ca, stv o, stv p] w (FrQ w) := by
  refine At.calls (args := [.v (stv s), .v (.slice pa 0 ca), .v (stv o), .v (stv p)]) (rows := []) (gl := []) (wr := []) (ρ := (fun _ => (⟨0, 0, 0⟩ : Blk))) Try.func3 rfl rfl (init_rw ⟨rfl, rfl, rfl, rfl, trivial⟩ rfl rfl rfl (fun p hp => by cases hp) (fun p hp => by cases hp) (fun p hp => by cases hp)) rfl ?_
  by_cases c0 : ¬ (s.length ≤ 1000)
  · exact At.fin rfl [(2002002, .val (.v (.bool true))), (3000, hAw)] ⟨trivial, hAw_ok _, trivial⟩ [.d] (x := .v (.bool true)) (ob := [[TV.v (.bool (decide ((s.length : Int) > 1000))) = TV.v (.bool true)], qL hAw].flatten) (by kernel_rfl) (all_flat ⟨⟨tv_b (decide_eq_true (by omega)), trivial⟩, all_qL _, trivial⟩) fun ρ' w' hf _ => ⟨rfl, hf⟩
  by_cases c2 : ¬ (o.length ≤ 60)
  · exact At.fin rfl [(2002002, .val (.v (.bool false))), (2002006, .val (.v (.bool false))), (2002011, .val (.v (.bool true))), (3000, hAw)] ⟨trivial, trivial, trivial, hAw_ok _, trivial⟩ [.d] (x := .v (.bool true)) (ob := [[TV.v (.bool (decide ((s.length : Int) > 1000))) = TV.v (.bool false), TV.v (.bool (decide ((0 : Int) > 20))) = TV.v (.bool false), TV.v (.bool (decide ((o.length : Int) > 60))) = TV.v (.bool true)], qL hAw].flatten) (by kernel_rfl) (all_flat ⟨⟨tv_b (decide_eq_false (by omega)), tv_b (decide_eq_false (by omega)), tv_b (decide_eq_true (by omega)), trivial⟩, all_qL _, trivial⟩) fun ρ' w' hf _ => ⟨rfl, hf⟩
  by_cases c3 : ¬ (p.length ≤ 60)
  · exact At.fin rfl [(2002002, .val (.v (.bool false))), (2002006, .val (.v (.bool false))), (2002011, .val (.v (.bool false))), (2002016, .val (.v (.bool true))), (3000, hAw)] ⟨trivial, trivial, trivial, trivial, hAw_ok _, trivial⟩ [.d] (x := .v (.bool true)) (ob := [[TV.v (.bool (decide ((s.length : Int) > 1000))) = TV.v (.bool false), TV.v (.bool (decide ((0 : Int) > 20))) = TV.v (.bool false), TV.v (.bool (decide ((o.length : Int) > 60))) = TV.v (.bool false), TV.v (.bool (decide ((p.length : Int) > 60))) = TV.v (.bool true)], qL hAw].flatten) (by kernel_rfl) (all_flat ⟨⟨tv_b (decide_eq_false (by omega)), tv_b (decide_eq_false (by omega)), tv_b (decide_eq_false (by omega)), tv_b (decide_eq_true (by omega)), trivial⟩, all_qL _, trivial⟩) fun ρ' w' hf _ => ⟨rfl, hf⟩
  exact At.run rfl [(2002002, .val (.v (.bool false))), (2002006, .val (.v (.bool false))), (2002011, .val (.v (.bool false))), (2002016, .val (.v (.bool false)))] ⟨trivial, trivial, trivial, trivial, trivial⟩ [.d] (tm2 := [(0, .v (stv s)), (1, .v (.slice pa 0 ca)), (2, .v (stv o)), (3, .v (stv p)), (9, .int .i64 (0 : Int))]) (rows2 := []) (ob := [TV.v (.bool (decide ((s.length : Int) > 1000))) = TV.v (.bool false), TV.v (.bool (decide ((0 : Int) > 20))) = TV.v (.bool false), TV.v (.bool (decide ((o.length : Int) > 60))) = TV.v (.bool false), TV.v (.bool (decide ((p.length : Int) > 60))) = TV.v (.bool false)]) (td := lp Try.f3 0) (by kernel_rfl) ⟨tv_b (decide_eq_false (by omega)), tv_b (decide_eq_false (by omega)), tv_b (decide_eq_false (by omega)), tv_b (decide_eq_false (by omega)), trivial⟩ rfl rfl (by intro h; cases h) (all_tail_nil s o p pa ca w _ (by omega) (by omega) (by omega))
set_option maxRecDepth 100000 in
theorem all_tail_pos (s o p : List UInt8) (ps : List (List UInt8)) (w : World) (ρ : Env) (hps : ps.length ≤ 20) (hp6 : ∀ p ∈ ps, p.length ≤ 60) (hs : s.length ≤ 1000) (ho : o.length ≤ 60) (hp : p.length ≤ 60) :
    At Try.prog w ⟨[], ρ, []⟩ Try.f3.ntmps [] (lp Try.f3 0) (EndX Try.prog Try.f3 (FrQ w)) [(0, .v (stv s)), (1, .s (.lf (.sl 1 0 0 1 ps.length none))), (2, .v (stv o)), (3, .v (stv p)), (9, .int .i64 (ps.length : Int))] [(1, strR ps)] := by
  have hs6 : s.length ≤ 1000000 := by omega
  have hp6' : p.length ≤ 1000000 := by omega
  have ho6 : o.length ≤ 1000000 := by omega
  have k5 := hCh_at 9027 s o p hs6 ho6 hp6'
  have k6 : HintOk Try.prog 9031 (hCd s o p (changeL s o p)) := hCd_ok _ _ _ _ _ hs6 ho6 hp6' rfl
  have hm9 := places_len s p hs6
  have hps6 : ps.length ≤ 1000000 := by omega
  have hpp : ∀ q ∈ ps, q.length ≤ 1000000 := fun q hq => by have := hp6 q hq; omega
  have hl9 : (findL s ps).length ≤ 1000000000 := by have := find_len s ps; omega
  generalize changeL s o p = t at k5 k6
  by_cases hl : findL s ps = []
  · have k1 := hFp0 (id := 9008) (r := 1) hs6 hps6 hpp hl
    have k2 := hFd0 (id := 9011) (r := 1) hs6 hps6 hpp hl
    by_cases hm : placesL s p = []
    · have k3 := hI_pro0 (id := 9017) hs6 hp6' hm
      have k4 := hI_doc0 (id := 9020) hs6 hp6' hm
      exact At.fin rfl [(9001, hMy p (mayP p)), (9003, hMp p (mayP p)), (2009004, .val (.v (.bool true))), (9008, hI0 12 (fArg 1 s ps) [(1, strR ps)]), (9011, hI0 13 (fArg 1 s ps) [(1, strR ps)]), (9012, hSm0), (9017, hI0 14 (fun _ => #[stv s, stv p]) []), (9020, hI0 15 (fun _ => #[stv s, stv p]) []), (9021, hSm0), (9027, hCh s o p t), (9031, hCd s o p t), (2009032, .val (.v (.bool true))), (9035, hAw)] ⟨hMy_ok _ _ _ (by omega) rfl, hMp_ok _ _ _ (by omega) rfl, trivial, k1, k2, hSm0_ok _, k3, k4, hSm0_ok _, k5, k6, trivial, hAw_ok _, trivial⟩ [.n] (x := .v (.bool true)) (ob := [[decide ((ps.length : Int) < (ps.length : Int)) = false], qL (hMy p (mayP p)), qL (hMp p (mayP p)), [TV.v (.bool (mayP p == mayP p)) = TV.v (.bool true)], qL (hI0 12 (fArg 1 s ps) [(1, strR ps)]), qL (hI0 13 (fArg 1 s ps) [(1, strR ps)]), qL (hSm0), qL (hI0 14 (fun _ => #[stv s, stv p]) []), qL (hI0 15 (fun _ => #[stv s, stv p]) []), qL (hSm0), qL (hCh s o p t), qL (hCd s o p t), [TV.v (.bool (t == t)) = TV.v (.bool true)], qL hAw].flatten) (by kernel_rfl) (all_flat ⟨⟨decide_eq_false (by omega), trivial⟩, all_qL _, all_qL _, ⟨tv_b (by simp), trivial⟩, all_qL _, all_qL _, all_qL _, all_qL _, all_qL _, all_qL _, all_qL _, all_qL _, ⟨tv_b (by simp), trivial⟩, all_qL _, trivial⟩) fun ρ' w' hf _ => ⟨rfl, hf⟩
    · have k3 := hI_pro1 (id := 9017) hs6 hp6' hm
      have k4 := hI_doc1 (id := 9020) hs6 hp6' hm
      have hm9 : (placesL s p).length ≤ 1000000000 := by omega
      generalize placesL s p = m at k3 k4 hm9 hm
      exact At.fin rfl [(9001, hMy p (mayP p)), (9003, hMp p (mayP p)), (2009004, .val (.v (.bool true))), (9008, hI0 12 (fArg 1 s ps) [(1, strR ps)]), (9011, hI0 13 (fArg 1 s ps) [(1, strR ps)]), (9012, hSm0), (9017, hI1 14 (fun _ => #[stv s, stv p]) [] 9017 m), (9020, hI1 15 (fun _ => #[stv s, stv p]) [] 9020 m), (9021, hSm 9017 9020 m m true), (9027, hCh s o p t), (9031, hCd s o p t), (2009032, .val (.v (.bool true))), (9035, hAw)] ⟨hMy_ok _ _ _ (by omega) rfl, hMp_ok _ _ _ (by omega) rfl, trivial, k1, k2, hSm0_ok _, k3, k4, hSm_ok _ _ _ _ _ _ hm9 hm9 (decide_eq_true rfl), k5, k6, trivial, hAw_ok _, trivial⟩ [.n] (x := .v (.bool true)) (ob := [[decide ((ps.length : Int) < (ps.length : Int)) = false], qL (hMy p (mayP p)), qL (hMp p (mayP p)), [TV.v (.bool (mayP p == mayP p)) = TV.v (.bool true)], qL (hI0 12 (fArg 1 s ps) [(1, strR ps)]), qL (hI0 13 (fArg 1 s ps) [(1, strR ps)]), qL (hSm0), qL (hI1 14 (fun _ => #[stv s, stv p]) [] 9017 m), qL (hI1 15 (fun _ => #[stv s, stv p]) [] 9020 m), qL (hSm 9017 9020 m m true), qL (hCh s o p t), qL (hCd s o p t), [TV.v (.bool (t == t)) = TV.v (.bool true)], qL hAw].flatten) (by kernel_rfl) (all_flat ⟨⟨decide_eq_false (by omega), trivial⟩, all_qL _, all_qL _, ⟨tv_b (by simp), trivial⟩, all_qL _, all_qL _, all_qL _, all_qL _, all_qL _, all_qL _, all_qL _, all_qL _, ⟨tv_b (by simp), trivial⟩, all_qL _, trivial⟩) fun ρ' w' hf _ => ⟨rfl, hf⟩
  · have k1 := hFp1 (id := 9008) (r := 1) hs6 hps6 hpp hl
    have k2 := hFd1 (id := 9011) (r := 1) hs6 hps6 hpp hl
    generalize findL s ps = l at k1 k2 hl9 hl
    by_cases hm : placesL s p = []
    · have k3 := hI_pro0 (id := 9017) hs6 hp6' hm
      have k4 := hI_doc0 (id := 9020) hs6 hp6' hm
      exact At.fin rfl [(9001, hMy p (mayP p)), (9003, hMp p (mayP p)), (2009004, .val (.v (.bool true))), (9008, hI1 12 (fArg 1 s ps) [(1, strR ps)] 9008 l), (9011, hI1 13 (fArg 1 s ps) [(1, strR ps)] 9011 l), (9012, hSm 9008 9011 l l true), (9017, hI0 14 (fun _ => #[stv s, stv p]) []), (9020, hI0 15 (fun _ => #[stv s, stv p]) []), (9021, hSm0), (9027, hCh s o p t), (9031, hCd s o p t), (2009032, .val (.v (.bool true))), (9035, hAw)] ⟨hMy_ok _ _ _ (by omega) rfl, hMp_ok _ _ _ (by omega) rfl, trivial, k1, k2, hSm_ok _ _ _ _ _ _ hl9 hl9 (decide_eq_true rfl), k3, k4, hSm0_ok _, k5, k6, trivial, hAw_ok _, trivial⟩ [.n] (x := .v (.bool true)) (ob := [[decide ((ps.length : Int) < (ps.length : Int)) = false], qL (hMy p (mayP p)), qL (hMp p (mayP p)), [TV.v (.bool (mayP p == mayP p)) = TV.v (.bool true)], qL (hI1 12 (fArg 1 s ps) [(1, strR ps)] 9008 l), qL (hI1 13 (fArg 1 s ps) [(1, strR ps)] 9011 l), qL (hSm 9008 9011 l l true), qL (hI0 14 (fun _ => #[stv s, stv p]) []), qL (hI0 15 (fun _ => #[stv s, stv p]) []), qL (hSm0), qL (hCh s o p t), qL (hCd s o p t), [TV.v (.bool (t == t)) = TV.v (.bool true)], qL hAw].flatten) (by kernel_rfl) (all_flat ⟨⟨decide_eq_false (by omega), trivial⟩, all_qL _, all_qL _, ⟨tv_b (by simp), trivial⟩, all_qL _, all_qL _, all_qL _, all_qL _, all_qL _, all_qL _, all_qL _, all_qL _, ⟨tv_b (by simp), trivial⟩, all_qL _, trivial⟩) fun ρ' w' hf _ => ⟨rfl, hf⟩
    · have k3 := hI_pro1 (id := 9017) hs6 hp6' hm
      have k4 := hI_doc1 (id := 9020) hs6 hp6' hm
      have hm9 : (placesL s p).length ≤ 1000000000 := by omega
      generalize placesL s p = m at k3 k4 hm9 hm
      exact At.fin rfl [(9001, hMy p (mayP p)), (9003, hMp p (mayP p)), (2009004, .val (.v (.bool true))), (9008, hI1 12 (fArg 1 s ps) [(1, strR ps)] 9008 l), (9011, hI1 13 (fArg 1 s ps) [(1, strR ps)] 9011 l), (9012, hSm 9008 9011 l l true), (9017, hI1 14 (fun _ => #[stv s, stv p]) [] 9017 m), (9020, hI1 15 (fun _ => #[stv s, stv p]) [] 9020 m), (9021, hSm 9017 9020 m m true), (9027, hCh s o p t), (9031, hCd s o p t), (2009032, .val (.v (.bool true))), (9035, hAw)] ⟨hMy_ok _ _ _ (by omega) rfl, hMp_ok _ _ _ (by omega) rfl, trivial, k1, k2, hSm_ok _ _ _ _ _ _ hl9 hl9 (decide_eq_true rfl), k3, k4, hSm_ok _ _ _ _ _ _ hm9 hm9 (decide_eq_true rfl), k5, k6, trivial, hAw_ok _, trivial⟩ [.n] (x := .v (.bool true)) (ob := [[decide ((ps.length : Int) < (ps.length : Int)) = false], qL (hMy p (mayP p)), qL (hMp p (mayP p)), [TV.v (.bool (mayP p == mayP p)) = TV.v (.bool true)], qL (hI1 12 (fArg 1 s ps) [(1, strR ps)] 9008 l), qL (hI1 13 (fArg 1 s ps) [(1, strR ps)] 9011 l), qL (hSm 9008 9011 l l true), qL (hI1 14 (fun _ => #[stv s, stv p]) [] 9017 m), qL (hI1 15 (fun _ => #[stv s, stv p]) [] 9020 m), qL (hSm 9017 9020 m m true), qL (hCh s o p t), qL (hCd s o p t), [TV.v (.bool (t == t)) = TV.v (.bool true)], qL hAw].flatten) (by kernel_rfl) (all_flat ⟨⟨decide_eq_false (by omega), trivial⟩, all_qL _, all_qL _, ⟨tv_b (by simp), trivial⟩, all_qL _, all_qL _, all_qL _, all_qL _, all_qL _, all_qL _, all_qL _, all_qL _, ⟨tv_b (by simp), trivial⟩, all_qL _, trivial⟩) fun ρ' w' hf _ => ⟨rfl, hf⟩
set_option maxRecDepth 100000 in
theorem all_pos (s o p : List UInt8) (ps : List (List UInt8)) (w : World) (ρ : Env) (h1 : RowAt ρ 1 (strR ps) w) : Calls Try.prog 3 #[stv s, (TV.s (.lf (.sl 1 0 0 1 ps.length none))).val ρ, stv o, stv p] w (FrQ w) := by
  refine At.calls (args := [.v (stv s), .s (.lf (.sl 1 0 0 1 ps.length none)), .v (stv o), .v (stv p)]) (rows := [(1, strR ps)]) (gl := []) (wr := []) (ρ := ρ) Try.func3 rfl rfl (init_rw ⟨rfl, trivial, rfl, rfl, trivial⟩ rfl rfl rfl (fun p hp => by obtain rfl := List.mem_singleton.1 hp; exact ⟨h1, strR_ok ps⟩) (fun p hp hw => by obtain rfl := List.mem_singleton.1 hp; cases hw) (fun p hp q hq hpq hw => by obtain rfl := List.mem_singleton.1 hp; cases hw)) rfl ?_
  by_cases c0 : ¬ (s.length ≤ 1000)
  · exact At.fin rfl [(2002002, .val (.v (.bool true))), (3000, hAw)] ⟨trivial, hAw_ok _, trivial⟩ [.d] (x := .v (.bool true)) (ob := [[TV.v (.bool (decide ((s.length : Int) > 1000))) = TV.v (.bool true)], qL hAw].flatten) (by kernel_rfl) (all_flat ⟨⟨tv_b (decide_eq_true (by omega)), trivial⟩, all_qL _, trivial⟩) fun ρ' w' hf _ => ⟨rfl, hf⟩
  by_cases c1 : ¬ (ps.length ≤ 20)
  · exact At.fin rfl [(2002002, .val (.v (.bool false))), (2002006, .val (.v (.bool true))), (3000, hAw)] ⟨trivial, trivial, hAw_ok _, trivial⟩ [.d] (x := .v (.bool true)) (ob := [[TV.v (.bool (decide ((s.length : Int) > 1000))) = TV.v (.bool false), TV.v (.bool (decide ((ps.length : Int) > 20))) = TV.v (.bool true)], qL hAw].flatten) (by kernel_rfl) (all_flat ⟨⟨tv_b (decide_eq_false (by omega)), tv_b (decide_eq_true (by omega)), trivial⟩, all_qL _, trivial⟩) fun ρ' w' hf _ => ⟨rfl, hf⟩
  by_cases c2 : ¬ (o.length ≤ 60)
  · exact At.fin rfl [(2002002, .val (.v (.bool false))), (2002006, .val (.v (.bool false))), (2002011, .val (.v (.bool true))), (3000, hAw)] ⟨trivial, trivial, trivial, hAw_ok _, trivial⟩ [.d] (x := .v (.bool true)) (ob := [[TV.v (.bool (decide ((s.length : Int) > 1000))) = TV.v (.bool false), TV.v (.bool (decide ((ps.length : Int) > 20))) = TV.v (.bool false), TV.v (.bool (decide ((o.length : Int) > 60))) = TV.v (.bool true)], qL hAw].flatten) (by kernel_rfl) (all_flat ⟨⟨tv_b (decide_eq_false (by omega)), tv_b (decide_eq_false (by omega)), tv_b (decide_eq_true (by omega)), trivial⟩, all_qL _, trivial⟩) fun ρ' w' hf _ => ⟨rfl, hf⟩
  by_cases c3 : ¬ (p.length ≤ 60)
  · exact At.fin rfl [(2002002, .val (.v (.bool false))), (2002006, .val (.v (.bool false))), (2002011, .val (.v (.bool false))), (2002016, .val (.v (.bool true))), (3000, hAw)] ⟨trivial, trivial, trivial, trivial, hAw_ok _, trivial⟩ [.d] (x := .v (.bool true)) (ob := [[TV.v (.bool (decide ((s.length : Int) > 1000))) = TV.v (.bool false), TV.v (.bool (decide ((ps.length : Int) > 20))) = TV.v (.bool false), TV.v (.bool (decide ((o.length : Int) > 60))) = TV.v (.bool false), TV.v (.bool (decide ((p.length : Int) > 60))) = TV.v (.bool true)], qL hAw].flatten) (by kernel_rfl) (all_flat ⟨⟨tv_b (decide_eq_false (by omega)), tv_b (decide_eq_false (by omega)), tv_b (decide_eq_false (by omega)), tv_b (decide_eq_true (by omega)), trivial⟩, all_qL _, trivial⟩) fun ρ' w' hf _ => ⟨rfl, hf⟩
  refine At.run rfl [(2002002, .val (.v (.bool false))), (2002006, .val (.v (.bool false))), (2002011, .val (.v (.bool false))), (2002016, .val (.v (.bool false)))] ⟨trivial, trivial, trivial, trivial, trivial⟩ [.d] (tm2 := [(0, .v (stv s)), (1, .s (.lf (.sl 1 0 0 1 ps.length none))), (2, .v (stv o)), (3, .v (stv p)), (9, .int .i64 ((0 : Nat) : Int))]) (rows2 := [(1, strR ps)]) (ob := [TV.v (.bool (decide ((s.length : Int) > 1000))) = TV.v (.bool false), TV.v (.bool (decide ((ps.length : Int) > 20))) = TV.v (.bool false), TV.v (.bool (decide ((o.length : Int) > 60))) = TV.v (.bool false), TV.v (.bool (decide ((p.length : Int) > 60))) = TV.v (.bool false)]) (td := lp Try.f3 0) (by kernel_rfl) ⟨tv_b (decide_eq_false (by omega)), tv_b (decide_eq_false (by omega)), tv_b (decide_eq_false (by omega)), tv_b (decide_eq_false (by omega)), trivial⟩ rfl rfl (by intro h; cases h) ?_
  refine At.loop (fun i : Nat => [(0, .v (stv s)), (1, .s (.lf (.sl 1 0 0 1 ps.length none))), (2, .v (stv o)), (3, .v (stv p)), (9, .int .i64 (i : Int))]) (fun _ => [(1, strR ps)]) (fun i => i ≤ ps.length ∧ ∀ j, j < i → (ps.getD j []).length ≤ 60) (fun i => ps.length - i) (fun i hI ih => ?_) 0 ⟨Nat.zero_le _, fun j hj => absurd hj (Nat.not_lt_zero j)⟩
  obtain ⟨hi, h60⟩ := hI
  by_cases h : i < ps.length
  · obtain ⟨q, hq⟩ : ∃ q, q = ps.getD i [] := ⟨_, rfl⟩
    have hv : TV.v (stv (ps.getD (addN 0 (i : Int).toNat) [])) = TV.v (stv q) := by rw [hq, addN_eq, Nat.zero_add, Int.toNat_natCast]
    have hidx : addN 0 (i : Int).toNat < ps.length := by rw [addN_eq]; omega
    by_cases hc : q.length ≤ 60
    · exact At.run rfl [(2007003, .val (.v (stv q)))] ⟨trivial, trivial⟩ [.y, .n] (tm2 := [(0, .v (stv s)), (1, .s (.lf (.sl 1 0 0 1 ps.length none))), (2, .v (stv o)), (3, .v (stv p)), (9, .int .i64 ((i + 1 : Nat) : Int))]) (rows2 := [(1, strR ps)]) (ob := [decide ((i : Int) < (ps.length : Int)) = true, 0 ≤ (i : Int) ∧ (i : Int) < (ps.length : Int), TV.v (stv (ps.getD (addN 0 (i : Int).toNat) [])) = TV.v (stv q), addN 0 (i : Int).toNat < ps.length, decide ((q.length : Int) > 60) = false, inI ((i : Int) + 1)]) (td := lp Try.f3 0) (by kernel_rfl) ⟨decide_eq_true (by omega), ⟨by omega, by omega⟩, hv, hidx, decide_eq_false (by omega), ⟨by omega, by omega⟩, trivial⟩ rfl rfl (by intro h; cases h) (ih (i + 1) ⟨h, fun j hj => (Nat.lt_or_eq_of_le (Nat.le_of_lt_succ hj)).elim (h60 j) fun e => by rw [e, ← hq]; exact hc⟩ (by show ps.length - (i + 1) < ps.length - i; omega))
    · exact At.fin rfl [(2007003, .val (.v (stv q))), (8000, hAw)] ⟨trivial, hAw_ok _, trivial⟩ [.y, .y] (x := .v (.bool true)) (ob := [[decide ((i : Int) < (ps.length : Int)) = true, 0 ≤ (i : Int) ∧ (i : Int) < (ps.length : Int), TV.v (stv (ps.getD (addN 0 (i : Int).toNat) [])) = TV.v (stv q), addN 0 (i : Int).toNat < ps.length, decide ((q.length : Int) > 60) = true], qL hAw].flatten) (by kernel_rfl) (all_flat ⟨⟨decide_eq_true (by omega), ⟨by omega, by omega⟩, hv, hidx, decide_eq_true (by omega), trivial⟩, all_qL _, trivial⟩) fun ρ' w' hf _ => ⟨rfl, hf⟩
  · obtain rfl : i = ps.length := by omega
    exact all_tail_pos s o p ps w ρ (by omega) (fun q hq => by
      obtain ⟨j, hj, rfl⟩ := List.getElem_of_mem hq
      have := h60 j hj
      rw [List.getD_eq_getElem?_getD, List.getElem?_eq_getElem hj] at this
      exact this) (by omega) (by omega) (by omega)
end
end Go.Proofs.Ytlofoeapfmcolaa
