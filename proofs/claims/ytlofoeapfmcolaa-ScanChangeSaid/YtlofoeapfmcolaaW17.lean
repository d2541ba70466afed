/- Several texts, one behind the other; each says by itself what it proves, and on what conditions. -/
import Derived.Test.YtlofoeapfmcolaaW16
/- The statements' Text: a text of parts by numbers. Its condition: lengths that fit. -/
namespace Go.Proofs.Ytlofoeapfmcolaa
open Go.RowKit Go.Shelf
set_option linter.unusedVariables false
set_option linter.unusedSimpArgs false
section
open E
/-- What a number stands for. -/
def pieceL (c : UInt8) : List UInt8 :=
  if c.toNat / 16 % 4 = 0 then partL (c.toNat % 16) else if c.toNat / 16 % 4 = 1 then partL (c.toNat % 16) ++ [45] else if c.toNat / 16 % 4 = 2 then (partL (c.toNat % 16)).take 31 else (partL (c.toNat % 16)).drop 1
theorem pieceL_len (c : UInt8) : (pieceL c).length ≤ 33 := by
  have := partL_len (c.toNat % 16)
  unfold pieceL
  split
  · omega
  · split
    · simp [this]
    · split <;> simp [this]
/-- The text of the first numbers. -/
def textN (A : List UInt8) (i : Nat) : List UInt8 := (A.take i).flatMap pieceL
def textL (A : List UInt8) : List UInt8 := textN A 12
theorem textN_step {A : List UInt8} {i : Nat} (h : i < A.length) : textN A (i + 1) = textN A i ++ pieceL (A.getD i 0) := by
  unfold textN
  rw [List.take_add_one, List.getElem?_eq_getElem h, List.flatMap_append, List.getD_eq_getElem?_getD, List.getElem?_eq_getElem h]
  simp
theorem textN_len (A : List UInt8) : ∀ i, (textN A i).length ≤ 33 * i
  | 0 => by simp [textN]
  | i + 1 => by
    have ih := textN_len A i
    by_cases h : i < A.length
    · rw [textN_step h, List.length_append]
      have := pieceL_len (A.getD i 0)
      omega
    · have : textN A (i + 1) = textN A i := by unfold textN; rw [List.take_of_length_le (by omega), List.take_of_length_le (by omega)]
      rw [this]; omega
theorem textN_end {A : List UInt8} {i : Nat} (hi : i ≤ 12) (h : A.length ≤ i) : textN A i = textL A := by
  unfold textL textN
  rw [List.take_of_length_le h, List.take_of_length_le (by omega)]
theorem textL_len (A : List UInt8) : (textL A).length ≤ 396 := textN_len A 12
abbrev nuR (A : List UInt8) : Row := ⟨[.fnc (byteF A) 1 A.length], false, none⟩
theorem nuR_ok (A : List UInt8) : pok (nuR A).ps := pok1 fun i => ⟨rfl, fun v hv => by obtain rfl := List.mem_singleton.1 hv; rfl⟩
theorem ent18 : Enters Try.prog 18 := enters_of Try.func18 (by kernel_rfl) rfl
abbrev nuS (A : List UInt8) : TV := .s (.lf (.sl 0 0 0 1 A.length none))
abbrev txT (A X : List UInt8) (i : Nat) : List (Nat × TV) := [(0, nuS A), (3, .v (stv X)), (4, .int .i64 (i : Int))]
set_option maxRecDepth 100000 in
theorem text_pos (A : List UInt8) (hA : A.length ≤ 140737488355328) (w : World) (ρ : Env) (h : RowAt ρ 0 (nuR A) w) : Calls Try.prog 18 #[(nuS A).val ρ] w fun e w' => e = .returned (stv (textL A)) ∧ Below w.heap.size w w' := by
  refine At.calls (args := [nuS A]) (rows := [(0, nuR A)]) (gl := []) (wr := []) (ρ := ρ) Try.func18 rfl rfl (init_rw ⟨trivial, trivial⟩ rfl rfl rfl (fun p hp => by obtain rfl := List.mem_singleton.1 hp; exact ⟨h, nuR_ok A⟩) (fun p hp hw => by obtain rfl := List.mem_singleton.1 hp; cases hw) (fun p hp q hq hpq hw => by obtain rfl := List.mem_singleton.1 hp; cases hw)) rfl ?_
  have hloop : ∀ i : Nat, (i ≤ 12 ∧ i ≤ A.length) → At Try.prog w ⟨[], ρ, []⟩ Try.f18.ntmps [] (lp Try.f18 0) (EndX Try.prog Try.f18 fun e w' => e = .returned (stv (textL A)) ∧ Below w.heap.size w w') (txT A (textN A i) i) [(0, nuR A)] := by
    refine At.loop (fun i : Nat => txT A (textN A i) i) (fun _ => [(0, nuR A)]) (fun i => i ≤ 12 ∧ i ≤ A.length) (fun i => 12 - i) fun i ⟨h12, hi⟩ ih => ?_
    by_cases hlt : i < A.length
    · have hb : TV.v (.bool (decide ((i : Int) < (A.length : Int)))) = TV.v (.bool true) := by rw [decide_eq_true (by omega)]
      by_cases h2 : i < 12
      · obtain ⟨c, hc⟩ : ∃ c, c = A.getD i 0 := ⟨_, rfl⟩
        have hg : A.getD (addN 0 (i : Int).toNat) 0 = c := by rw [hc, addN_eq, Nat.zero_add, Int.toNat_natCast]
        have hst := textN_step hlt
        rw [← hc] at hst
        obtain ⟨X, hX⟩ : ∃ X, X = textN A i := ⟨_, rfl⟩
        have hXl : X.length ≤ 396 := by rw [hX]; have := textN_len A i; omega
        have hnext := ih (i + 1) ⟨by omega, by omega⟩ (by omega)
        rw [hst, ← hX] at hnext
        rw [← hX]
        obtain ⟨m, hm⟩ : ∃ m, m = c.toNat % 16 := ⟨_, rfl⟩
        have hml : (partL m).length = 32 := partL_len m
        have hc256 := c.toNat_lt
        have g1 : TV.int .u8 (((A.getD (addN 0 (i : Int).toNat) 0).toNat : Int) % 16) = TV.int .u8 ((m : Nat) : Int) := by rw [hg, hm]; rfl
        have g2 : ∀ k : Nat, c.toNat / 16 % 4 = k → TV.int .u8 (((A.getD (addN 0 (i : Int).toNat) 0).toNat : Int) / 16 % 4) = TV.int .u8 ((k : Nat) : Int) := fun k hk => by rw [hg, ← hk]; rfl
        have gw : IntKind.u8.wrap (((A.getD (addN 0 (i : Int).toNat) 0).toNat : Int) / 16) = ((A.getD (addN 0 (i : Int).toNat) 0).toNat : Int) / 16 := by
          rw [hg]
          have : ((c.toNat : Int) / 16) = ((c.toNat / 16 : Nat) : Int) := rfl
          rw [this]
          simp [IntKind.wrap, IntKind.bits, IntKind.signed]
          omega
        have hidx : addN 0 (i : Int).toNat < A.length := by rw [addN_eq]; omega
        have hpc : pieceL c = if c.toNat / 16 % 4 = 0 then partL m else if c.toNat / 16 % 4 = 1 then partL m ++ [45] else if c.toNat / 16 % 4 = 2 then (partL m).take 31 else (partL m).drop 1 := by rw [hm]; rfl
        have h0' : (0 : Int) ≤ ((A.getD (addN 0 (i : Int).toNat) 0).toNat : Int) := by omega
        have h0'' : (0 : Int) ≤ ((A.getD (addN 0 (i : Int).toNat) 0).toNat : Int) / 16 := by omega
        have hk4 : c.toNat / 16 % 4 < 4 := Nat.mod_lt _ (by decide)
        have kPt := hPt_ok 6005 m (by omega)
        have hpre : all [TV.v (.bool (decide ((i : Int) < (A.length : Int)))) = TV.v (.bool true), decide ((i : Int) < 12) = true, 0 ≤ (i : Int) ∧ (i : Int) < (A.length : Int), addN 0 (i : Int).toNat < A.length, TV.int .u8 (((A.getD (addN 0 (i : Int).toNat) 0).toNat : Int) % 16) = TV.int .u8 ((m : Nat) : Int), 0 ≤ ((A.getD (addN 0 (i : Int).toNat) 0).toNat : Int) ∧ (0 : Int) < 16] := ⟨hb, decide_eq_true (by omega), ⟨by omega, by omega⟩, hidx, g1, ⟨h0', by decide⟩, trivial⟩
        have hmid : ∀ k : Nat, c.toNat / 16 % 4 = k → all [0 ≤ (i : Int) ∧ (i : Int) < (A.length : Int), addN 0 (i : Int).toNat < A.length, 0 ≤ ((A.getD (addN 0 (i : Int).toNat) 0).toNat : Int) ∧ (0 : Int) < 16, IntKind.u8.wrap (((A.getD (addN 0 (i : Int).toNat) 0).toNat : Int) / 16) = ((A.getD (addN 0 (i : Int).toNat) 0).toNat : Int) / 16, TV.int .u8 (((A.getD (addN 0 (i : Int).toNat) 0).toNat : Int) / 16 % 4) = TV.int .u8 ((k : Nat) : Int), 0 ≤ ((A.getD (addN 0 (i : Int).toNat) 0).toNat : Int) / 16 ∧ (0 : Int) < 4] := fun k hk => ⟨⟨by omega, by omega⟩, hidx, ⟨h0', by decide⟩, gw, g2 k hk, ⟨h0'', by decide⟩, trivial⟩
        have hin : inI ((i : Int) + 1) := ⟨by omega, by omega⟩
        have arm0 : c.toNat / 16 % 4 = 0 → At Try.prog w ⟨[], ρ, []⟩ Try.f18.ntmps [] (lp Try.f18 0) (EndX Try.prog Try.f18 fun e w' => e = .returned (stv (textL A)) ∧ Below w.heap.size w w') (txT A X i) [(0, nuR A)] := fun hk => by
          have he : X ++ pieceL c = X ++ partL m := by rw [hpc, if_pos hk]
          rw [he] at hnext
          exact At.run rfl [(2004004, .val (.v (.bool true))), (2006004, .val (.int .u8 ((m : Nat) : Int))), (6005, hPt m), (2007005, .val (.int .u8 0))] ⟨trivial, trivial, kPt, trivial, trivial⟩ [.y, .d] (tm2 := txT A (X ++ partL m) (i + 1)) (rows2 := [(0, nuR A)]) (ob := [[TV.v (.bool (decide ((i : Int) < (A.length : Int)))) = TV.v (.bool true), decide ((i : Int) < 12) = true, 0 ≤ (i : Int) ∧ (i : Int) < (A.length : Int), addN 0 (i : Int).toNat < A.length, TV.int .u8 (((A.getD (addN 0 (i : Int).toNat) 0).toNat : Int) % 16) = TV.int .u8 ((m : Nat) : Int), 0 ≤ ((A.getD (addN 0 (i : Int).toNat) 0).toNat : Int) ∧ (0 : Int) < 16], qL (hPt m), [0 ≤ (i : Int) ∧ (i : Int) < (A.length : Int), addN 0 (i : Int).toNat < A.length, 0 ≤ ((A.getD (addN 0 (i : Int).toNat) 0).toNat : Int) ∧ (0 : Int) < 16, IntKind.u8.wrap (((A.getD (addN 0 (i : Int).toNat) 0).toNat : Int) / 16) = ((A.getD (addN 0 (i : Int).toNat) 0).toNat : Int) / 16, TV.int .u8 (((A.getD (addN 0 (i : Int).toNat) 0).toNat : Int) / 16 % 4) = TV.int .u8 ((0 : Nat) : Int), 0 ≤ ((A.getD (addN 0 (i : Int).toNat) 0).toNat : Int) / 16 ∧ (0 : Int) < 4], [(X.length : Int) + ((partL m).length : Int) ≤ 9223372036854775807], [inI ((i : Int) + 1)]].flatten) (td := lp Try.f18 0) (by kernel_rfl) (all_flat ⟨hpre, all_qL _, hmid 0 hk, ⟨by rw [hml]; omega, trivial⟩, ⟨hin, trivial⟩, trivial⟩) rfl rfl (by intro h; cases h) hnext
        have arm1 : c.toNat / 16 % 4 = 1 → At Try.prog w ⟨[], ρ, []⟩ Try.f18.ntmps [] (lp Try.f18 0) (EndX Try.prog Try.f18 fun e w' => e = .returned (stv (textL A)) ∧ Below w.heap.size w w') (txT A X i) [(0, nuR A)] := fun hk => by
          have he : X ++ pieceL c = (X ++ partL m) ++ [45] := by rw [hpc, if_neg (by omega), if_pos hk, ← List.append_assoc]
          rw [he] at hnext
          exact At.run rfl [(2004004, .val (.v (.bool true))), (2006004, .val (.int .u8 ((m : Nat) : Int))), (6005, hPt m), (2007005, .val (.int .u8 1))] ⟨trivial, trivial, kPt, trivial, trivial⟩ [.y, .d, .d] (tm2 := txT A ((X ++ partL m) ++ [45]) (i + 1)) (rows2 := [(0, nuR A)]) (ob := [[TV.v (.bool (decide ((i : Int) < (A.length : Int)))) = TV.v (.bool true), decide ((i : Int) < 12) = true, 0 ≤ (i : Int) ∧ (i : Int) < (A.length : Int), addN 0 (i : Int).toNat < A.length, TV.int .u8 (((A.getD (addN 0 (i : Int).toNat) 0).toNat : Int) % 16) = TV.int .u8 ((m : Nat) : Int), 0 ≤ ((A.getD (addN 0 (i : Int).toNat) 0).toNat : Int) ∧ (0 : Int) < 16], qL (hPt m), [0 ≤ (i : Int) ∧ (i : Int) < (A.length : Int), addN 0 (i : Int).toNat < A.length, 0 ≤ ((A.getD (addN 0 (i : Int).toNat) 0).toNat : Int) ∧ (0 : Int) < 16, IntKind.u8.wrap (((A.getD (addN 0 (i : Int).toNat) 0).toNat : Int) / 16) = ((A.getD (addN 0 (i : Int).toNat) 0).toNat : Int) / 16, TV.int .u8 (((A.getD (addN 0 (i : Int).toNat) 0).toNat : Int) / 16 % 4) = TV.int .u8 ((1 : Nat) : Int), 0 ≤ ((A.getD (addN 0 (i : Int).toNat) 0).toNat : Int) / 16 ∧ (0 : Int) < 4], [(X.length : Int) + ((partL m).length : Int) ≤ 9223372036854775807, ((X ++ partL m).length : Int) + (([45] : List UInt8).length : Int) ≤ 9223372036854775807], [inI ((i : Int) + 1)]].flatten) (td := lp Try.f18 0) (by kernel_rfl) (all_flat ⟨hpre, all_qL _, hmid 1 hk, ⟨by rw [hml]; omega, by rw [List.length_append, hml]; simp only [List.length_cons, List.length_nil]; omega, trivial⟩, ⟨hin, trivial⟩, trivial⟩) rfl rfl (by intro h; cases h) hnext
        have arm2 : c.toNat / 16 % 4 = 2 → At Try.prog w ⟨[], ρ, []⟩ Try.f18.ntmps [] (lp Try.f18 0) (EndX Try.prog Try.f18 fun e w' => e = .returned (stv (textL A)) ∧ Below w.heap.size w w') (txT A X i) [(0, nuR A)] := fun hk => by
          have he : X ++ pieceL c = X ++ (partL m).take 31 := by rw [hpc, if_neg (by omega), if_neg (by omega), if_pos hk]
          rw [he] at hnext
          exact At.run rfl [(2004004, .val (.v (.bool true))), (2006004, .val (.int .u8 ((m : Nat) : Int))), (6005, hPt m), (2007005, .val (.int .u8 2))] ⟨trivial, trivial, kPt, trivial, trivial⟩ [.y, .d, .d, .d] (tm2 := txT A (X ++ (partL m).take 31) (i + 1)) (rows2 := [(0, nuR A)]) (ob := [[TV.v (.bool (decide ((i : Int) < (A.length : Int)))) = TV.v (.bool true), decide ((i : Int) < 12) = true, 0 ≤ (i : Int) ∧ (i : Int) < (A.length : Int), addN 0 (i : Int).toNat < A.length, TV.int .u8 (((A.getD (addN 0 (i : Int).toNat) 0).toNat : Int) % 16) = TV.int .u8 ((m : Nat) : Int), 0 ≤ ((A.getD (addN 0 (i : Int).toNat) 0).toNat : Int) ∧ (0 : Int) < 16], qL (hPt m), [0 ≤ (i : Int) ∧ (i : Int) < (A.length : Int), addN 0 (i : Int).toNat < A.length, 0 ≤ ((A.getD (addN 0 (i : Int).toNat) 0).toNat : Int) ∧ (0 : Int) < 16, IntKind.u8.wrap (((A.getD (addN 0 (i : Int).toNat) 0).toNat : Int) / 16) = ((A.getD (addN 0 (i : Int).toNat) 0).toNat : Int) / 16, TV.int .u8 (((A.getD (addN 0 (i : Int).toNat) 0).toNat : Int) / 16 % 4) = TV.int .u8 ((2 : Nat) : Int), 0 ≤ ((A.getD (addN 0 (i : Int).toNat) 0).toNat : Int) / 16 ∧ (0 : Int) < 4], [(0 : Int) ≤ 31 ∧ (31 : Int) ≤ ((partL m).length : Int), (X.length : Int) + (((partL m).take 31).length : Int) ≤ 9223372036854775807], [inI ((i : Int) + 1)]].flatten) (td := lp Try.f18 0) (by kernel_rfl) (all_flat ⟨hpre, all_qL _, hmid 2 hk, ⟨⟨by decide, by rw [hml]; decide⟩, by rw [List.length_take, hml]; omega, trivial⟩, ⟨hin, trivial⟩, trivial⟩) rfl rfl (by intro h; cases h) hnext
        have arm3 : c.toNat / 16 % 4 = 3 → At Try.prog w ⟨[], ρ, []⟩ Try.f18.ntmps [] (lp Try.f18 0) (EndX Try.prog Try.f18 fun e w' => e = .returned (stv (textL A)) ∧ Below w.heap.size w w') (txT A X i) [(0, nuR A)] := fun hk => by
          have he : X ++ pieceL c = X ++ (partL m).drop 1 := by rw [hpc, if_neg (by omega), if_neg (by omega), if_neg (by omega)]
          rw [he] at hnext
          exact At.run rfl [(2004004, .val (.v (.bool true))), (2006004, .val (.int .u8 ((m : Nat) : Int))), (6005, hPt m), (2007005, .val (.int .u8 3))] ⟨trivial, trivial, kPt, trivial, trivial⟩ [.y, .d, .d, .d] (tm2 := txT A (X ++ (partL m).drop 1) (i + 1)) (rows2 := [(0, nuR A)]) (ob := [[TV.v (.bool (decide ((i : Int) < (A.length : Int)))) = TV.v (.bool true), decide ((i : Int) < 12) = true, 0 ≤ (i : Int) ∧ (i : Int) < (A.length : Int), addN 0 (i : Int).toNat < A.length, TV.int .u8 (((A.getD (addN 0 (i : Int).toNat) 0).toNat : Int) % 16) = TV.int .u8 ((m : Nat) : Int), 0 ≤ ((A.getD (addN 0 (i : Int).toNat) 0).toNat : Int) ∧ (0 : Int) < 16], qL (hPt m), [0 ≤ (i : Int) ∧ (i : Int) < (A.length : Int), addN 0 (i : Int).toNat < A.length, 0 ≤ ((A.getD (addN 0 (i : Int).toNat) 0).toNat : Int) ∧ (0 : Int) < 16, IntKind.u8.wrap (((A.getD (addN 0 (i : Int).toNat) 0).toNat : Int) / 16) = ((A.getD (addN 0 (i : Int).toNat) 0).toNat : Int) / 16, TV.int .u8 (((A.getD (addN 0 (i : Int).toNat) 0).toNat : Int) / 16 % 4) = TV.int .u8 ((3 : Nat) : Int), 0 ≤ ((A.getD (addN 0 (i : Int).toNat) 0).toNat : Int) / 16 ∧ (0 : Int) < 4], [(0 : Int) ≤ 1 ∧ (1 : Int) ≤ ((partL m).length : Int), (X.length : Int) + (((partL m).drop 1).length : Int) ≤ 9223372036854775807], [inI ((i : Int) + 1)]].flatten) (td := lp Try.f18 0) (by kernel_rfl) (all_flat ⟨hpre, all_qL _, hmid 3 hk, ⟨⟨by decide, by rw [hml]; decide⟩, by rw [List.length_drop, hml]; omega, trivial⟩, ⟨hin, trivial⟩, trivial⟩) rfl rfl (by intro h; cases h) hnext
        rcases (show c.toNat / 16 % 4 = 0 ∨ c.toNat / 16 % 4 = 1 ∨ c.toNat / 16 % 4 = 2 ∨ c.toNat / 16 % 4 = 3 by omega) with hk | hk | hk | hk
        · exact arm0 hk
        · exact arm1 hk
        · exact arm2 hk
        · exact arm3 hk
      · obtain rfl : i = 12 := by omega
        exact At.fin rfl [(2004004, .val (.v (.bool true)))] ⟨trivial, trivial⟩ [.n] (x := .v (stv (textL A))) (ob := [TV.v (.bool (decide (((12 : Nat) : Int) < (A.length : Int)))) = TV.v (.bool true), decide (((12 : Nat) : Int) < 12) = false]) (by kernel_rfl) ⟨hb, rfl, trivial⟩ fun ρ' w' hf _ => ⟨rfl, hf.below⟩
    · have hb : TV.v (.bool (decide ((i : Int) < (A.length : Int)))) = TV.v (.bool false) := by rw [decide_eq_false (by omega)]
      rw [textN_end h12 (by omega)]
      exact At.fin rfl [(2004004, .val (.v (.bool false)))] ⟨trivial, trivial⟩ [.d] (x := .v (stv (textL A))) (ob := [TV.v (.bool (decide ((i : Int) < (A.length : Int)))) = TV.v (.bool false)]) (by kernel_rfl) ⟨hb, trivial⟩ fun ρ' w' hf _ => ⟨rfl, hf.below⟩
  exact At.run rfl [] trivial [] (tm2 := txT A (textN A 0) 0) (rows2 := [(0, nuR A)]) (ob := []) (td := lp Try.f18 0) (by kernel_rfl) trivial rfl rfl (by intro h; cases h) (hloop 0 ⟨by omega, Nat.zero_le _⟩)
set_option maxRecDepth 100000 in
theorem text_nil (pa : Option Addr) (ca : Nat) (w : World) : Calls Try.prog 18 #[.slice pa 0 ca] w fun e w' => e = .returned (stv (textL [])) ∧ Below w.heap.size w w' := by
  refine At.calls (args := [.v (.slice pa 0 ca)]) (rows := []) (gl := []) (wr := []) (ρ := fun _ => (⟨0, 0, 0⟩ : Blk)) Try.func18 rfl rfl (init_rw ⟨rfl, trivial⟩ rfl rfl rfl (fun p hp => by cases hp) (fun p hp => by cases hp) (fun p hp => by cases hp)) rfl ?_
  exact At.fin rfl [(2004004, .val (.v (.bool false)))] ⟨trivial, trivial⟩ [.u, .d] (x := .v (stv [])) (ob := [TV.v (.bool (decide ((0 : Int) < 0))) = TV.v (.bool false)]) (by kernel_rfl) ⟨rfl, trivial⟩ fun ρ' w' hf _ => ⟨rfl, hf.below⟩
abbrev hTx (A : List UInt8) : Hint := .call ⟨18, fun ρ => #[(nuS A).val ρ], .v (stv (textL A)), [(0, nuR A)], [], none, []⟩
theorem hTx_ok (id : Nat) (A : List UInt8) (hA : A.length ≤ 140737488355328) : HintOk Try.prog id (hTx A) := by
  refine call_ok ent18 rfl (fun p hp => by cases hp) fun ρ w hr => (text_pos A hA w ρ (hr _ (List.mem_singleton.2 rfl))).mono ?_
  rintro e w' ⟨rfl, hf⟩
  exact ⟨⟨0, 0, 0⟩, rfl, Fr.of_below hf _, (fun p hp => by cases hp), fun row hrw => by cases hrw⟩
abbrev hTx0 (pa : Option Addr) (ca : Nat) : Hint := pc 18 #[.slice pa 0 ca] (.v (stv (textL [])))
theorem hTx0_ok (id : Nat) (pa : Option Addr) (ca : Nat) : HintOk Try.prog id (hTx0 pa ca) := pc_ok ent18 (v := stv (textL [])) rfl (fun _ => rfl) fun w => text_nil pa ca w
end
end Go.Proofs.Ytlofoeapfmcolaa
/- awake; what a part changed for another one leaves. No condition but lengths that fit. -/
namespace Go.Proofs.Ytlofoeapfmcolaa
open Go.RowKit Go.Shelf
set_option linter.unusedVariables false
set_option linter.unusedSimpArgs false
theorem pl_win (s p : List UInt8) (hp : 0 < p.length) : ∀ (n i : Nat), s.length - i ≤ n → (∀ x ∈ pl s p i, (s.drop x).take p.length = p) ∧ (pl s p i).Pairwise (fun x y => x + p.length ≤ y)
  | n, i, hn => by
    by_cases h : i + p.length ≤ s.length
    · cases n with
      | zero => omega
      | succ n =>
        by_cases hw : (s.drop i).take p.length = p
        · rw [pl_yes hp h hw]
          obtain ⟨h1, h2⟩ := pl_win s p hp n (i + p.length) (by omega)
          refine ⟨fun x hx => ?_, List.pairwise_cons.2 ⟨fun x hx => ((pl_bnd s p hp n (i + p.length) (by omega)).2 x hx).1, h2⟩⟩
          rcases List.mem_cons.1 hx with rfl | hx
          · exact hw
          · exact h1 x hx
        · rw [pl_no hp h hw]
          exact pl_win s p hp n (i + 1) (by omega)
    · rw [pl_end h]
      exact ⟨(fun x hx => by cases hx), List.Pairwise.nil⟩
/-- Puts behind a place leave it. -/
theorem put_keep {p : List UInt8} {k : Nat} : ∀ {L : List Nat} {s : List UInt8}, (∀ x ∈ L, x + p.length ≤ s.length) → (∀ x ∈ L, k < x) → (L.foldl (fun b i => putL b p i) s).getD k 0 = s.getD k 0
  | [], _, _, _ => rfl
  | x :: L, s, h, hk => by
    have h1 := h x (List.mem_cons_self ..)
    have hl := putL_len h1
    show (L.foldl (fun b i => putL b p i) (putL s p x)).getD k 0 = _
    rw [put_keep (L := L) (s := putL s p x) (fun y hy => by rw [hl]; exact h y (List.mem_cons_of_mem _ hy)) (fun y hy => hk y (List.mem_cons_of_mem _ hy)), putL_getD h1, if_neg]
    have := hk x (List.mem_cons_self ..)
    omega
theorem put_at {p : List UInt8} : ∀ {L : List Nat} {s : List UInt8}, (∀ x ∈ L, x + p.length ≤ s.length) → L.Pairwise (fun x y => x + p.length ≤ y) → ∀ x ∈ L, ∀ k, x ≤ k → k < x + p.length → (L.foldl (fun b i => putL b p i) s).getD k 0 = p.getD (k - x) 0
  | x :: L, s, h, hw, y, hy, k, h1, h2 => by
    have hx := h x (List.mem_cons_self ..)
    have hl := putL_len hx
    have hb : ∀ z ∈ L, z + p.length ≤ (putL s p x).length := fun z hz => by rw [hl]; exact h z (List.mem_cons_of_mem _ hz)
    rw [List.pairwise_cons] at hw
    show (L.foldl (fun b i => putL b p i) (putL s p x)).getD k 0 = _
    rcases List.mem_cons.1 hy with rfl | hy
    · rw [put_keep hb (fun z hz => by have := hw.1 z hz; omega), putL_getD hx, if_pos ⟨h1, h2⟩]
    · exact put_at hb hw.2 y hy k h1 h2
theorem win_of {t q : List UInt8} {x : Nat} (hx : x + q.length ≤ t.length) (h : ∀ k, x ≤ k → k < x + q.length → t.getD k 0 = q.getD (k - x) 0) : (t.drop x).take q.length = q := by
  apply List.ext_getElem
  · rw [List.length_take, List.length_drop]; omega
  · intro i h1 h2
    have := h (x + i) (by omega) (by omega)
    rw [List.getD_eq_getElem?_getD, List.getElem?_eq_getElem (by omega), Nat.add_sub_cancel_left, List.getD_eq_getElem?_getD, List.getElem?_eq_getElem h2] at this
    simpa using this
theorem put_same {s p : List UInt8} {x : Nat} (hw : (s.drop x).take p.length = p) : putL s p x = s := by
  unfold putL
  have : p ++ s.drop (x + p.length) = s.drop x := by
    rw [← List.take_append_drop p.length (s.drop x), hw, List.drop_drop]
  rw [this, List.take_append_drop]
theorem puts_same {p s : List UInt8} : ∀ {L : List Nat}, (∀ x ∈ L, (s.drop x).take p.length = p) → L.foldl (fun b i => putL b p i) s = s
  | [], _ => rfl
  | x :: L, h => by
    show L.foldl (fun b i => putL b p i) (putL s p x) = s
    rw [put_same (h x (List.mem_cons_self ..))]
    exact puts_same fun y hy => h y (List.mem_cons_of_mem _ hy)
theorem change_len (s o p : List UInt8) : (changeL s o p).length = s.length := by
  rw [changeL_eq]
  by_cases hm : mayP p = true
  · rw [if_pos hm]
    exact putN_len fun x hx => by rw [may_len hm]; exact places_bnd x hx
  · rw [if_neg hm]
/-- Where a part stood stands the other one. -/
theorem change_win {s o p : List UInt8} (hp : mayP p = true) : ∀ x ∈ placesL s o, x + 32 ≤ s.length ∧ ((changeL s o p).drop x).take 32 = p := by
  intro x hx
  have hb := places_bnd x hx
  have hl := may_len hp
  refine ⟨hb, ?_⟩
  have ho : mayP o = true := by
    cases h : mayP o with
    | true => rfl
    | false => unfold placesL at hx; rw [h, if_neg (by simp)] at hx; cases hx
  have hol := may_len ho
  have hpw : (placesL s o).Pairwise (fun x y => x + p.length ≤ y) := by
    unfold placesL
    rw [if_pos ho, hl, ← hol]
    exact (pl_win s o (by omega) s.length 0 (by omega)).2
  have := win_of (t := changeL s o p) (q := p) (x := x) (by rw [change_len, hl]; exact hb) fun k h1 h2 => by
    rw [changeL_eq, if_pos hp]
    exact put_at (fun y hy => by rw [hl]; exact places_bnd y hy) hpw x hx k h1 h2
  rw [hl] at this
  exact this
theorem change_self (s p : List UInt8) : changeL s p p = s := by
  rw [changeL_eq]
  by_cases hm : mayP p = true
  · rw [if_pos hm]
    refine puts_same fun x hx => ?_
    unfold placesL at hx
    rw [if_pos hm] at hx
    exact (pl_win s p (by rw [may_len hm]; decide) s.length 0 (by omega)).1 x hx
  · rw [if_neg hm]
theorem change_no (s p : List UInt8) : changeL s [110, 111] p = s := by
  unfold changeL
  have : mayP [110, 111] = false := by decide +kernel
  rw [this]; rfl
theorem change_nil {s o p : List UInt8} (h : placesL s o = []) : changeL s o p = s := by
  rw [changeL_eq, h]; simp
section
open E
theorem pl_self {p : List UInt8} (hp : p.length = 32) : pl p p 0 = [0] := by
  rw [pl_yes (by omega) (by omega) (by rw [List.drop_zero, List.take_length]), pl_end (by omega)]
theorem ent8 : Enters Try.prog 8 := enters_of Try.func8 (by kernel_rfl) rfl
set_option maxRecDepth 100000 in
theorem awake_any (w : World) : Calls Try.prog 8 #[] w fun e w' => e = .returned (.bool true) ∧ Fr w [] w' := by
  refine At.calls (args := []) (rows := []) (gl := []) (wr := []) (ρ := fun _ => (⟨0, 0, 0⟩ : Blk)) Try.func8 rfl rfl (init_rw trivial rfl rfl rfl (fun p hp => by cases hp) (fun p hp => by cases hp) (fun p hp => by cases hp)) rfl ?_
  have hk : HintOk Try.prog 2002 (hI1 14 (fun _ => #[stv (partL 7), stv (partL 7)]) [] 2002 [0]) := hI1_of (by simp) ent14 fun ρ w _ => by
    have := gplaces_any (partL 7) (partL 7) (by rw [partL_len]; decide) (by rw [partL_len]; decide) w
    rw [show placesL (partL 7) (partL 7) = [0] by unfold placesL; rw [part_may, if_pos rfl]; exact pl_self (partL_len 7)] at this
    exact this
  exact At.fin rfl [(2000, hPt 7), (2001, hPt 7), (2002, hI1 14 (fun _ => #[stv (partL 7), stv (partL 7)]) [] 2002 [0]), (3010, hPt 3), (3011, hMy (partL 3) true), (3014, hMy [] false)] ⟨hPt_ok _ _ (by decide), hPt_ok _ _ (by decide), hk, hPt_ok _ _ (by decide), hMy_ok _ _ _ (by rw [partL_len]; decide) (part_may 3), hMy_ok _ _ _ (by decide) (by decide +kernel), trivial⟩ [] (x := .v (.bool true)) (ob := [qL (hPt 7), qL (hPt 7), qL (hI1 14 (fun _ => #[stv (partL 7), stv (partL 7)]) [] 2002 [0]), [0 ≤ (0 : Int) ∧ (0 : Int) < (([0] : List Nat).length : Int), 0 < 1], qL (hPt 3), qL (hMy (partL 3) true), qL (hMy [] false)].flatten) (by kernel_rfl) (all_flat ⟨all_qL _, all_qL _, all_qL _, ⟨⟨by decide, by decide⟩, by decide, trivial⟩, all_qL _, all_qL _, all_qL _, trivial⟩) fun ρ' w' hf _ => ⟨rfl, hf⟩
abbrev hAw : Hint := .call ⟨8, fun _ => #[], .v (.bool true), [], [], none, []⟩
theorem hAw_ok (id : Nat) : HintOk Try.prog id hAw := by
  refine call_ok ent8 rfl (fun p hp => by cases hp) fun ρ w _ => (awake_any w).mono ?_
  rintro e w' ⟨rfl, hf⟩
  exact ⟨⟨0, 0, 0⟩, rfl, hf, (fun p hp => by cases hp), fun row hrw => by cases hrw⟩
end
end Go.Proofs.Ytlofoeapfmcolaa
