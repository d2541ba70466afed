/- Several texts, one behind the other; each says by itself what it proves, and on what conditions. -/
import Derived.Test.YtlofoeapfmcolaaX16
/- The statements' Text: a text of parts by numbers. Its condition: lengths that fit. -/
namespace Go.Proofs.Ytlofoeapfmcolaa
open Go.RowKit Go.Shelf
set_option linter.unusedVariables false
set_option linter.unusedSimpArgs false
section
open E
/-- What a number stands for. -/
def pieceL (c : UInt8) : List UInt8 :=
  if c.toNat / 16 % 4 = 0 then partL (c.toNat % 16) else if c.toNat / 16 % 4 = 1 then partL (c.toNat % 16) ++ [45] else if c.toNat / 16 % 4 = 2 then (partL (c.toNat % 16)).take 31 else (partL (c.toNat % 16)).drop 1
theorem pieceL_len (c : UInt8) : (pieceL c).length ≤ 33 := by
  have := partL_len (c.toNat % 16)
  unfold pieceL
  split
  · omega
  · split
    · simp [this]
    · split <;> simp [this]
/-- The text of the first numbers. -/
def textN (A : List UInt8) (i : Nat) : List UInt8 := (A.take i).flatMap pieceL
def textL (A : List UInt8) : List UInt8 := textN A 12
theorem textN_step {A : List UInt8} {i : Nat} (h : i < A.length) : textN A (i + 1) = textN A i ++ pieceL (A.getD i 0) := by
  unfold textN
  rw [List.take_add_one, List.getElem?_eq_getElem h, List.flatMap_append, List.getD_eq_getElem?_getD, List.getElem?_eq_getElem h]
  simp
theorem textN_len (A : List UInt8) : ∀ i, (textN A i).length ≤ 33 * i
  | 0 => by simp [textN]
  | i + 1 => by
    have ih := textN_len A i
    by_cases h : i < A.length
    · rw [textN_step h, List.length_append]
      have := pieceL_len (A.getD i 0)
      omega
    · have : textN A (i + 1) = textN A i := by unfold textN; rw [List.take_of_length_le (by omega), List.take_of_length_le (by omega)]
      rw [this]; omega
theorem textN_end {A : List UInt8} {i : Nat} (hi : i ≤ 12) (h : A.length ≤ i) : textN A i = textL A := by
  unfold textL textN
  rw [List.take_of_length_le h, List.take_of_length_le (by omega)]
theorem textL_len (A : List UInt8) : (textL A).length ≤ 396 := textN_len A 12
abbrev nuR (A : List UInt8) : Row := ⟨[.fnc (byteF A) 1 A.length], false, none⟩
theorem nuR_ok (A : List UInt8) : pok (nuR A).ps := pok1 fun i => ⟨rfl, fun v hv => by obtain rfl := List.mem_singleton.1 hv; rfl⟩
theorem ent18 : Enters Try.prog 18 := enters_of Try.func18 (by kernel_rfl) rfl
abbrev nuS (A : List UInt8) : TV := .s (.lf (.sl 0 0 0 1 A.length none))
abbrev txT (A X : List UInt8) (i : Nat) : List (Nat × TV) := [(0, nuS A), (3, .v (stv X)), (4, .int .i64 (i : Int))]
set_option maxRecDepth 100000 in
theorem text_pos (A : List UInt8) (hA : A.length ≤ 140737488355328) (w : World) (ρ : Env) (h : RowAt ρ 0 (nuR A) w) : Calls Try.prog 18 #[(nuS A).val ρ] w fun e w' => e = .returned (stv (textL A)) ∧ Below w.heap.size w w' := by
  refine At.calls (args := [nuS A]) (rows := [(0, nuR A)]) (gl := []) (wr := []) (ρ := ρ) Try.func18 rfl rfl (init_rw ⟨trivial, trivial⟩ rfl rfl rfl (fun p hp => by obtain rfl := List.mem_singleton.1 hp; exact ⟨h, nuR_ok A⟩) (fun p hp hw => by obtain rfl := List.mem_singleton.1 hp; cases hw) (fun p hp q hq hpq hw => by obtain rfl := List.mem_singleton.1 hp; cases hw)) rfl ?_
  have hloop : ∀ i : Nat, (i ≤ 12 ∧ i ≤ A.length) → At Try.prog w ⟨[], ρ, []⟩ Try.f18.ntmps [] (lp Try.f18 0) (EndX Try.prog Try.f18 fun e w' => e = .returned (stv (textL A)) ∧ Below w.heap.size w w') (txT A (textN A i) i) [(0, nuR A)] := by
    refine At.loop (fun i : Nat => txT A (textN A i) i) (fun _ => [(0, nuR A)]) (fun i => i ≤ 12 ∧ i ≤ A.length) (fun i => 12 - i) fun i ⟨h12, hi⟩ ih => ?_
    by_cases hlt : i < A.length
    · have hb : TV.v (.bool (decide ((i : Int) < (A.length : Int)))) = TV.v (.bool true) := by rw [decide_eq_true (by omega)]
      by_cases h2 : i < 12
      · obtain ⟨c, hc⟩ : ∃ c, c = A.getD i 0 := ⟨_, rfl⟩
        have hg : A.getD (addN 0 (i : Int).toNat) 0 = c := by rw [hc, addN_eq, Nat.zero_add, Int.toNat_natCast]
        have hst := textN_step hlt
        rw [← hc] at hst
        obtain ⟨X, hX⟩ : ∃ X, X = textN A i := ⟨_, rfl⟩
        have hXl : X.length ≤ 396 := by rw [hX]; have := textN_len A i; omega
        have hnext := ih (i + 1) ⟨by omega, by omega⟩ (by omega)
        rw [hst, ← hX] at hnext
        rw [← hX]
        obtain ⟨m, hm⟩ : ∃ m, m = c.toNat % 16 := ⟨_, rfl⟩
        have hml : (partL m).length = 32 := partL_len m
        have hc256 := c.toNat_lt
        have g1 : TV.int .u8 (((A.getD (addN 0 (i : Int).toNat) 0).toNat : Int) % 16) = TV.int .u8 ((m : Nat) : Int) := by rw [hg, hm]; rfl
        have g2 : ∀ k : Nat, c.toNat / 16 % 4 = k → TV.int .u8 (((A.getD (addN 0 (i : Int).toNat) 0).toNat : Int) / 16 % 4) = TV.int .u8 ((k : Nat) : Int) := fun k hk => by rw [hg, ← hk]; rfl
        have gw : IntKind.u8.wrap (((A.getD (addN 0 (i : Int).toNat) 0).toNat : Int) / 16) = ((A.getD (addN 0 (i : Int).toNat) 0).toNat : Int) / 16 := by
          rw [hg]
          have : ((c.toNat : Int) / 16) = ((c.toNat / 16 : Nat) : Int) := rfl
          rw [this]
          simp [IntKind.wrap, IntKind.bits, IntKind.signed]
          omega
        have hidx : addN 0 (i : Int).toNat < A.length := by rw [addN_eq]; omega
        have hpc : pieceL c = if c.toNat / 16 % 4 = 0 then partL m else if c.toNat / 16 % 4 = 1 then partL m ++ [45] else if c.toNat / 16 % 4 = 2 then (partL m).take 31 else (partL m).drop 1 := by rw [hm]; rfl
        have h0' : (0 : Int) ≤ ((A.getD (addN 0 (i : Int).toNat) 0).toNat : Int) := by omega
        have h0'' : (0 : Int) ≤ ((A.getD (addN 0 (i : Int).toNat) 0).toNat : Int) / 16 := by omega
        have hk4 : c.toNat / 16 % 4 < 4 := Nat.mod_lt _ (by decide)
        have kPt := hPt_ok 6005 m (by omega)
        have hpre : all [TV.v (.bool (decide ((i : Int) < (A.length : Int)))) = TV.v (.bool true), decide ((i : Int) < 12) = true, 0 ≤ (i : Int) ∧ (i : Int) < (A.length : Int), addN 0 (i : Int).toNat < A.length, TV.int .u8 (((A.getD (addN 0 (i : Int).toNat) 0).toNat : Int) % 16) = TV.int .u8 ((m : Nat) : Int), 0 ≤ ((A.getD (addN 0 (i : Int).toNat) 0).toNat : Int) ∧ (0 : Int) < 16] := ⟨hb, decide_eq_true (by omega), ⟨by omega, by omega⟩, hidx, g1, ⟨h0', by decide⟩, trivial⟩
        have hmid : ∀ k : Nat, c.toNat / 16 % 4 = k → all [0 ≤ (i : Int) ∧ (i : Int) < (A.length : Int), addN 0 (i : Int).toNat < A.length, 0 ≤ ((A.getD (addN 0 (i : Int).toNat) 0).toNat : Int) ∧ (0 : Int) < 16, IntKind.u8.wrap (((A.getD (addN 0 (i : Int).toNat) 0).toNat : Int) / 16) = ((A.getD (addN 0 (i : Int).toNat) 0).toNat : Int) / 16, TV.int .u8 (((A.getD (addN 0 (i : Int).toNat) 0).toNat : Int) / 16 % 4) = TV.int .u8 ((k : Nat) : Int), 0 ≤ ((A.getD (addN 0 (i : Int).toNat) 0).toNat : Int) / 16 ∧ (0 : Int) < 4] := fun k hk => ⟨⟨by omega, by omega⟩, hidx, ⟨h0', by decide⟩, gw, g2 k hk, ⟨h0'', by decide⟩, trivial⟩
        have hin : inI ((i : Int) + 1) := ⟨by omega, by omega⟩
        have arm0 : c.toNat / 16 % 4 = 0 → At Try.prog w ⟨[], ρ, []⟩ Try.f18.ntmps [] (lp Try.f18 0) (EndX Try.prog Try.f18 fun e w' => e = .returned (stv (textL A)) ∧ Below w.heap.size w w') (txT A X i) [(0, nuR A)] := fun hk => by
          have he : X ++ pieceL c = X ++ partL m := by rw [hpc, if_pos hk]
          rw [he] at hnext
          exact At.run rfl [(2004004, .val (.v (.bool true))), (2006004, .val (.int .u8 ((m : Nat) : Int))), (6005, hPt m), (2007005, .val (.int .u8 0))] ⟨trivial, trivial, kPt, trivial, trivial⟩ [.y, .d] (tm2 := txT A (X ++ partL m) (i + 1)) (rows2 := [(0, nuR A)]) (ob := [[TV.v (.bool (decide ((i : Int) < (A.length : Int)))) = TV.v (.bool true), decide ((i : Int) < 12) = true, 0 ≤ (i : Int) ∧ (i : Int) < (A.length : Int), addN 0 (i : Int).toNat < A.length, TV.int .u8 (((A.getD (addN 0 (i : Int).toNat) 0).toNat : Int) % 16) = TV.int .u8 ((m : Nat) : Int), 0 ≤ ((A.getD (addN 0 (i : Int).toNat) 0).toNat : Int) ∧ (0 : Int) < 16], qL (hPt m), [0 ≤ (i : Int) ∧ (i : Int) < (A.length : Int), addN 0 (i : Int).toNat < A.length, 0 ≤ ((A.getD (addN 0 (i : Int).toNat) 0).toNat : Int) ∧ (0 : Int) < 16, IntKind.u8.wrap (((A.getD (addN 0 (i : Int).toNat) 0).toNat : Int) / 16) = ((A.getD (addN 0 (i : Int).toNat) 0).toNat : Int) / 16, TV.int .u8 (((A.getD (addN 0 (i : Int).toNat) 0).toNat : Int) / 16 % 4) = TV.int .u8 ((0 : Nat) : Int), 0 ≤ ((A.getD (addN 0 (i : Int).toNat) 0).toNat : Int) / 16 ∧ (0 : Int) < 4], [(X.length : Int) + ((partL m).length : Int) ≤ 9223372036854775807], [inI ((i : Int) + 1)]].flatten) (td := lp Try.f18 0) (by kernel_rfl) (all_flat ⟨hpre, all_qL _, hmid 0 hk, ⟨by rw [hml]; omega, trivial⟩, ⟨hin, trivial⟩, trivial⟩) rfl rfl (by intro h; cases h) hnext
        have arm1 : c.toNat / 16 % 4 = 1 → At Try.prog w ⟨[], ρ, []⟩ Try.f18.ntmps [] (lp Try.f18 0) (EndX Try.prog Try.f18 fun e w' => e = .returned (stv (textL A)) ∧ Below w.heap.size w w') (txT A X i) [(0, nuR A)] := fun hk => by
          have he : X ++ pieceL c = (X ++ partL m) ++ [45] := by rw [hpc, if_neg (by omega), if_pos hk, ← List.append_assoc]
          rw [he] at hnext
          exact At.run rfl [(2004004, .val (.v (.bool true))), (2006004, .val (.int .u8 ((m : Nat) : Int))), (6005, hPt m), (2007005, .val (.int .u8 1))] ⟨trivial, trivial, kPt, trivial, trivial⟩ [.y, .d, .d] (tm2 := txT A ((X ++ partL m) ++ [45]) (i + 1)) (rows2 := [(0, nuR A)]) (ob := [[TV.v (.bool (decide ((i : Int) < (A.length : Int)))) = TV.v (.bool true), decide ((i : Int) < 12) = true, 0 ≤ (i : Int) ∧ (i : Int) < (A.length : Int), addN 0 (i : Int).toNat < A.length, TV.int .u8 (((A.getD (addN 0 (i : Int).toNat) 0).toNat : Int) % 16) = TV.int .u8 ((m : Nat) : Int), 0 ≤ ((A.getD (addN 0 (i : Int).toNat) 0).toNat : Int) ∧ (0 : Int) < 16], qL (hPt m), [0 ≤ (i : Int) ∧ (i : Int) < (A.length : Int), addN 0 (i : Int).toNat < A.length, 0 ≤ ((A.getD (addN 0 (i : Int).toNat) 0).toNat : Int) ∧ (0 : Int) < 16, IntKind.u8.wrap (((A.getD (addN 0 (i : Int).toNat) 0).toNat : Int) / 16) = ((A.getD (addN 0 (i : Int).toNat) 0).toNat : Int) / 16, TV.int .u8 (((A.getD (addN 0 (i : Int).toNat) 0).toNat : Int) / 16 % 4) = TV.int .u8 ((1 : Nat) : Int), 0 ≤ ((A.getD (addN 0 (i : Int).toNat) 0).toNat : Int) / 16 ∧ (0 : Int) < 4], [(X.length : Int) + ((partL m).length : Int) ≤ 9223372036854775807, ((X ++ partL m).length : Int) + (([45] : List UInt8).length : Int) ≤ 9223372036854775807], [inI ((i : Int) + 1)]].flatten) (td := lp Try.f18 0) (by kernel_rfl) (all_flat ⟨hpre, all_qL _, hmid 1 hk, ⟨by rw [hml]; omega, by rw [List.length_append, hml]; simp only [List.length_cons, List.length_nil]; omega, trivial⟩, ⟨hin, trivial⟩, trivial⟩) rfl rfl (by intro h; cases h) hnext
        have arm2 : c.toNat / 16 % 4 = 2 → At Try.prog w ⟨[], ρ, []⟩ Try.f18.ntmps [] (lp Try.f18 0) (EndX Try.prog Try.f18 fun e w' => e = .returned (stv (textL A)) ∧ Below w.heap.size w w') (txT A X i) [(0, nuR A)] := fun hk => by
          have he : X ++ pieceL c = X ++ (partL m).take 31 := by rw [hpc, if_neg (by omega), if_neg (by omega), if_pos hk]
          rw [he] at hnext
          exact At.run rfl [(2004004, .val (.v (.bool true))), (2006004, .val (.int .u8 ((m : Nat) : Int))), (6005, hPt m), (2007005, .val (.int .u8 2))] ⟨trivial, trivial, kPt, trivial, trivial⟩ [.y, .d, .d, .d] (tm2 := txT A (X ++ (partL m).take 31) (i + 1)) (rows2 := [(0, nuR A)]) (ob := [[TV.v (.bool (decide ((i : Int) < (A.length : Int)))) = TV.v (.bool true), decide ((i : Int) < 12) = true, 0 ≤ (i : Int) ∧ (i : Int) < (A.length : Int), addN 0 (i : Int).toNat < A.length, TV.int .u8 (((A.getD (addN 0 (i : Int).toNat) 0).toNat : Int) % 16) = TV.int .u8 ((m : Nat) : Int), 0 ≤ ((A.getD (addN 0 (i : Int).toNat) 0).toNat : Int) ∧ (0 : Int) < 16], qL (hPt m), [0 ≤ (i : Int) ∧ (i : Int) < (A.length : Int), addN 0 (i : Int).toNat < A.length, 0 ≤ ((A.getD (addN 0 (i : Int).toNat) 0).toNat : Int) ∧ (0 : Int) < 16, IntKind.u8.wrap (((A.getD (addN 0 (i : Int).toNat) 0).toNat : Int) / 16) = ((A.getD (addN 0 (i : Int).toNat) 0).toNat : Int) / 16, TV.int .u8 (((A.getD (addN 0 (i : Int).toNat) 0).toNat : Int) / 16 % 4) = TV.int .u8 ((2 : Nat) : Int), 0 ≤ ((A.getD (addN 0 (i : Int).toNat) 0).toNat : Int) / 16 ∧ (0 : Int) < 4], [(0 : Int) ≤ 31 ∧ (31 : Int) ≤ ((partL m).length : Int), (X.length : Int) + (((partL m).take 31).length : Int) ≤ 9223372036854775807], [inI ((i : Int) + 1)]].flatten) (td := lp Try.f18 0) (by kernel_rfl) (all_flat ⟨hpre, all_qL _, hmid 2 hk, ⟨⟨by decide, by rw [hml]; decide⟩, by rw [List.length_take, hml]; omega, trivial⟩, ⟨hin, trivial⟩, trivial⟩) rfl rfl (by intro h; cases h) hnext
        have arm3 : c.toNat / 16 % 4 = 3 → At Try.prog w ⟨[], ρ, []⟩ Try.f18.ntmps [] (lp Try.f18 0) (EndX Try.prog Try.f18 fun e w' => e = .returned (stv (textL A)) ∧ Below w.heap.size w w') (txT A X i) [(0, nuR A)] := fun hk => by
          have he : X ++ pieceL c = X ++ (partL m).drop 1 := by rw [hpc, if_neg (by omega), if_neg (by omega), if_neg (by omega)]
          rw [he] at hnext
          exact At.run rfl [(2004004, .val (.v (.bool true))), (2006004, .val (.int .u8 ((m : Nat) : Int))), (6005, hPt m), (2007005, .val (.int .u8 3))] ⟨trivial, trivial, kPt, trivial, trivial⟩ [.y, .d, .d, .d] (tm2 := txT A (X ++ (partL m).drop 1) (i + 1)) (rows2 := [(0, nuR A)]) (ob := [[TV.v (.bool (decide ((i : Int) < (A.length : Int)))) = TV.v (.bool true), decide ((i : Int) < 12) = true, 0 ≤ (i : Int) ∧ (i : Int) < (A.length : Int), addN 0 (i : Int).toNat < A.length, TV.int .u8 (((A.getD (addN 0 (i : Int).toNat) 0).toNat : Int) % 16) = TV.int .u8 ((m : Nat) : Int), 0 ≤ ((A.getD (addN 0 (i : Int).toNat) 0).toNat : Int) ∧ (0 : Int) < 16], qL (hPt m), [0 ≤ (i : Int) ∧ (i : Int) < (A.length : Int), addN 0 (i : Int).toNat < A.length, 0 ≤ ((A.getD (addN 0 (i : Int).toNat) 0).toNat : Int) ∧ (0 : Int) < 16, IntKind.u8.wrap (((A.getD (addN 0 (i : Int).toNat) 0).toNat : Int) / 16) = ((A.getD (addN 0 (i : Int).toNat) 0).toNat : Int) / 16, TV.int .u8 (((A.getD (addN 0 (i : Int).toNat) 0).toNat : Int) / 16 % 4) = TV.int .u8 ((3 : Nat) : Int), 0 ≤ ((A.getD (addN 0 (i : Int).toNat) 0).toNat : Int) / 16 ∧ (0 : Int) < 4], [(0 : Int) ≤ 1 ∧ (1 : Int) ≤ ((partL m).length : Int), (X.length : Int) + (((partL m).drop 1).length : Int) ≤ 9223372036854775807], [inI ((i : Int) + 1)]].flatten) (td := lp Try.f18 0) (by kernel_rfl) (all_flat ⟨hpre, all_qL _, hmid 3 hk, ⟨⟨by decide, by rw [hml]; decide⟩, by rw [List.length_drop, hml]; omega, trivial⟩, ⟨hin, trivial⟩, trivial⟩) rfl rfl (by intro h; cases h) hnext
        rcases (show c.toNat / 16 % 4 = 0 ∨ c.toNat / 16 % 4 = 1 ∨ c.toNat / 16 % 4 = 2 ∨ c.toNat / 16 % 4 = 3 by omega) with hk | hk | hk | hk
        · exact arm0 hk
        · exact arm1 hk
        · exact arm2 hk
        · exact arm3 hk
      · obtain rfl : i = 12 := by omega
        exact At.fin rfl [(2004004, .val (.v (.bool true)))] ⟨trivial, trivial⟩ [.n] (x := .v (stv (textL A))) (ob := [TV.v (.bool (decide (((12 : Nat) : Int) < (A.length : Int)))) = TV.v (.bool true), decide (((12 : Nat) : Int) < 12) = false]) (by kernel_rfl) ⟨hb, rfl, trivial⟩ fun ρ' w' hf _ => ⟨rfl, hf.below⟩
    · have hb : TV.v (.bool (decide ((i : Int) < (A.length : Int)))) = TV.v (.bool false) := by rw [decide_eq_false (by omega)]
      rw [textN_end h12 (by omega)]
      exact At.fin rfl [(2004004, .val (.v (.bool false)))] ⟨trivial, trivial⟩ [.d] (x := .v (stv (textL A))) (ob := [TV.v (.bool (decide ((i : Int) < (A.length : Int)))) = TV.v (.bool false)]) (by kernel_rfl) ⟨hb, trivial⟩ fun ρ' w' hf _ => ⟨rfl, hf.below⟩
  exact At.run rfl [] trivial [] (tm2 := txT A (textN A 0) 0) (rows2 := [(0, nuR A)]) (ob := []) (td := lp Try.f18 0) (by kernel_rfl) trivial rfl rfl (by intro h; cases h) (hloop 0 ⟨by omega, Nat.zero_le _⟩)
set_option maxRecDepth 100000 in
theorem text_nil (pa : Option Addr) (ca : Nat) (w : World) : Calls Try.prog 18 #[.slice pa 0 ca] w fun e w' => e = .returned (stv (textL [])) ∧ Below w.heap.size w w' := by
  refine At.calls (args := [.v (.slice pa 0 ca)]) (rows := []) (gl := []) (wr := []) (ρ := fun _ => (⟨0, 0, 0⟩ : Blk)) Try.func18 rfl rfl (init_rw ⟨rfl, trivial⟩ rfl rfl rfl (fun p hp => by cases hp) (fun p hp => by cases hp) (fun p hp => by cases hp)) rfl ?_
  exact At.fin rfl [(2004004, .val (.v (.bool false)))] ⟨trivial, trivial⟩ [.u, .d] (x := .v (stv [])) (ob := [TV.v (.bool (decide ((0 : Int) < 0))) = TV.v (.bool false)]) (by kernel_rfl) ⟨rfl, trivial⟩ fun ρ' w' hf _ => ⟨rfl, hf.below⟩
abbrev hTx (A : List UInt8) : Hint := .call ⟨18, fun ρ => #[(nuS A).val ρ], .v (stv (textL A)), [(0, nuR A)], [], none, []⟩
theorem hTx_ok (id : Nat) (A : List UInt8) (hA : A.length ≤ 140737488355328) : HintOk Try.prog id (hTx A) := by
  refine call_ok ent18 rfl (fun p hp => by cases hp) fun ρ w hr => (text_pos A hA w ρ (hr _ (List.mem_singleton.2 rfl))).mono ?_
  rintro e w' ⟨rfl, hf⟩
  exact ⟨⟨0, 0, 0⟩, rfl, Fr.of_below hf _, (fun p hp => by cases hp), fun row hrw => by cases hrw⟩
abbrev hTx0 (pa : Option Addr) (ca : Nat) : Hint := pc 18 #[.slice pa 0 ca] (.v (stv (textL [])))
theorem hTx0_ok (id : Nat) (pa : Option Addr) (ca : Nat) : HintOk Try.prog id (hTx0 pa ca) := pc_ok ent18 (v := stv (textL [])) rfl (fun _ => rfl) fun w => text_nil pa ca w
end
end Go.Proofs.Ytlofoeapfmcolaa
/- awake; what a part changed for another one leaves. No condition but lengths that fit. -/
namespace Go.Proofs.Ytlofoeapfmcolaa
open Go.RowKit Go.Shelf
set_option linter.unusedVariables false
set_option linter.unusedSimpArgs false
theorem pl_win (s p : List UInt8) (hp : 0 < p.length) : ∀ (n i : Nat), s.length - i ≤ n → (∀ x ∈ pl s p i, (s.drop x).take p.length = p) ∧ (pl s p i).Pairwise (fun x y => x + p.length ≤ y)
  | n, i, hn => by
    by_cases h : i + p.length ≤ s.length
    · cases n with
      | zero => omega
      | succ n =>
        by_cases hw : (s.drop i).take p.length = p
        · rw [pl_yes hp h hw]
          obtain ⟨h1, h2⟩ := pl_win s p hp n (i + p.length) (by omega)
          refine ⟨fun x hx => ?_, List.pairwise_cons.2 ⟨fun x hx => ((pl_bnd s p hp n (i + p.length) (by omega)).2 x hx).1, h2⟩⟩
          rcases List.mem_cons.1 hx with rfl | hx
          · exact hw
          · exact h1 x hx
        · rw [pl_no hp h hw]
          exact pl_win s p hp n (i + 1) (by omega)
    · rw [pl_end h]
      exact ⟨(fun x hx => by cases hx), List.Pairwise.nil⟩
/-- Puts behind a place leave it. -/
theorem put_keep {p : List UInt8} {k : Nat} : ∀ {L : List Nat} {s : List UInt8}, (∀ x ∈ L, x + p.length ≤ s.length) → (∀ x ∈ L, k < x) → (L.foldl (fun b i => putL b p i) s).getD k 0 = s.getD k 0
  | [], _, _, _ => rfl
  | x :: L, s, h, hk => by
    have h1 := h x (List.mem_cons_self ..)
    have hl := putL_len h1
    show (L.foldl (fun b i => putL b p i) (putL s p x)).getD k 0 = _
    rw [put_keep (L := L) (s := putL s p x) (fun y hy => by rw [hl]; exact h y (List.mem_cons_of_mem _ hy)) (fun y hy => hk y (List.mem_cons_of_mem _ hy)), putL_getD h1, if_neg]
    have := hk x (List.mem_cons_self ..)
    omega
theorem put_at {p : List UInt8} : ∀ {L : List Nat} {s : List UInt8}, (∀ x ∈ L, x + p.length ≤ s.length) → L.Pairwise (fun x y => x + p.length ≤ y) → ∀ x ∈ L, ∀ k, x ≤ k → k < x + p.length → (L.foldl (fun b i => putL b p i) s).getD k 0 = p.getD (k - x) 0
  | x :: L, s, h, hw, y, hy, k, h1, h2 => by
    have hx := h x (List.mem_cons_self ..)
    have hl := putL_len hx
    have hb : ∀ z ∈ L, z + p.length ≤ (putL s p x).length := fun z hz => by rw [hl]; exact h z (List.mem_cons_of_mem _ hz)
    rw [List.pairwise_cons] at hw
    show (L.foldl (fun b i => putL b p i) (putL s p x)).getD k 0 = _
    rcases List.mem_cons.1 hy with rfl | hy
    · rw [put_keep hb (fun z hz => by have := hw.1 z hz; omega), putL_getD hx, if_pos ⟨h1, h2⟩]
    · exact put_at hb hw.2 y hy k h1 h2
theorem win_of {t q : List UInt8} {x : Nat} (hx : x + q.length ≤ t.length) (h : ∀ k, x ≤ k → k < x + q.length → t.getD k 0 = q.getD (k - x) 0) : (t.drop x).take q.length = q := by
  apply List.ext_getElem
  · rw [List.length_take, List.length_drop]; omega
  · intro i h1 h2
    have := h (x + i) (by omega) (by omega)
    rw [List.getD_eq_getElem?_getD, List.getElem?_eq_getElem (by omega), Nat.add_sub_cancel_left, List.getD_eq_getElem?_getD, List.getElem?_eq_getElem h2] at this
    simpa using this
theorem put_same {s p : List UInt8} {x : Nat} (hw : (s.drop x).take p.length = p) : putL s p x = s := by
  unfold putL
  have : p ++ s.drop (x + p.length) = s.drop x := by
    rw [← List.take_append_drop p.length (s.drop x), hw, List.drop_drop]
  rw [this, List.take_append_drop]
theorem puts_same {p s : List UInt8} : ∀ {L : List Nat}, (∀ x ∈ L, (s.drop x).take p.length = p) → L.foldl (fun b i => putL b p i) s = s
  | [], _ => rfl
  | x :: L, h => by
    show L.foldl (fun b i => putL b p i) (putL s p x) = s
    rw [put_same (h x (List.mem_cons_self ..))]
    exact puts_same fun y hy => h y (List.mem_cons_of_mem _ hy)
theorem change_len (s o p : List UInt8) : (changeL s o p).length = s.length := by
  rw [changeL_eq]
  by_cases hm : mayP p = true
  · rw [if_pos hm]
    exact putN_len fun x hx => by rw [may_len hm]; exact places_bnd x hx
  · rw [if_neg hm]
/-- Where a part stood stands the other one. -/
theorem change_win {s o p : List UInt8} (hp : mayP p = true) : ∀ x ∈ placesL s o, x + 32 ≤ s.length ∧ ((changeL s o p).drop x).take 32 = p := by
  intro x hx
  have hb := places_bnd x hx
  have hl := may_len hp
  refine ⟨hb, ?_⟩
  have ho : mayP o = true := by
    cases h : mayP o with
    | true => rfl
    | false => unfold placesL at hx; rw [h, if_neg (by simp)] at hx; cases hx
  have hol := may_len ho
  have hpw : (placesL s o).Pairwise (fun x y => x + p.length ≤ y) := by
    unfold placesL
    rw [if_pos ho, hl, ← hol]
    exact (pl_win s o (by omega) s.length 0 (by omega)).2
  have := win_of (t := changeL s o p) (q := p) (x := x) (by rw [change_len, hl]; exact hb) fun k h1 h2 => by
    rw [changeL_eq, if_pos hp]
    exact put_at (fun y hy => by rw [hl]; exact places_bnd y hy) hpw x hx k h1 h2
  rw [hl] at this
  exact this
theorem change_self (s p : List UInt8) : changeL s p p = s := by
  rw [changeL_eq]
  by_cases hm : mayP p = true
  · rw [if_pos hm]
    refine puts_same fun x hx => ?_
    unfold placesL at hx
    rw [if_pos hm] at hx
    exact (pl_win s p (by rw [may_len hm]; decide) s.length 0 (by omega)).1 x hx
  · rw [if_neg hm]
theorem change_no (s p : List UInt8) : changeL s [110, 111] p = s := by
  unfold changeL
  have : mayP [110, 111] = false := by decide +kernel
  rw [this]; rfl
theorem change_nil {s o p : List UInt8} (h : placesL s o = []) : changeL s o p = s := by
  rw [changeL_eq, h]; simp
section
open E
theorem pl_self {p : List UInt8} (hp : p.length = 32) : pl p p 0 = [0] := by
  rw [pl_yes (by omega) (by omega) (by rw [List.drop_zero, List.take_length]), pl_end (by omega)]
theorem ent8 : Enters Try.prog 8 := enters_of Try.func8 (by kernel_rfl) rfl
set_option maxRecDepth 100000 in
theorem awake_any (w : World) : Calls Try.prog 8 #[] w fun e w' => e = .returned (.bool true) ∧ Fr w [] w' := by
  refine At.calls (args := []) (rows := []) (gl := []) (wr := []) (ρ := fun _ => (⟨0, 0, 0⟩ : Blk)) Try.func8 rfl rfl (init_rw trivial rfl rfl rfl (fun p hp => by cases hp) (fun p hp => by cases hp) (fun p hp => by cases hp)) rfl ?_
  have hk : HintOk Try.prog 2002 (hI1 14 (fun _ => #[stv (partL 7), stv (partL 7)]) [] 2002 [0]) := hI1_of (by simp) ent14 fun ρ w _ => by
    have := gplaces_any (partL 7) (partL 7) (by rw [partL_len]; decide) (by rw [partL_len]; decide) w
    rw [show placesL (partL 7) (partL 7) = [0] by unfold placesL; rw [part_may, if_pos rfl]; exact pl_self (partL_len 7)] at this
    exact this
  exact At.fin rfl [(2000, hPt 7), (2001, hPt 7), (2002, hI1 14 (fun _ => #[stv (partL 7), stv (partL 7)]) [] 2002 [0]), (3010, hPt 3), (3011, hMy (partL 3) true), (3014, hMy [] false)] ⟨hPt_ok _ _ (by decide), hPt_ok _ _ (by decide), hk, hPt_ok _ _ (by decide), hMy_ok _ _ _ (by rw [partL_len]; decide) (part_may 3), hMy_ok _ _ _ (by decide) (by decide +kernel), trivial⟩ [] (x := .v (.bool true)) (ob := [qL (hPt 7), qL (hPt 7), qL (hI1 14 (fun _ => #[stv (partL 7), stv (partL 7)]) [] 2002 [0]), [0 ≤ (0 : Int) ∧ (0 : Int) < (([0] : List Nat).length : Int), 0 < 1], qL (hPt 3), qL (hMy (partL 3) true), qL (hMy [] false)].flatten) (by kernel_rfl) (all_flat ⟨all_qL _, all_qL _, all_qL _, ⟨⟨by decide, by decide⟩, by decide, trivial⟩, all_qL _, all_qL _, all_qL _, trivial⟩) fun ρ' w' hf _ => ⟨rfl, hf⟩
abbrev hAw : Hint := .call ⟨8, fun _ => #[], .v (.bool true), [], [], none, []⟩
theorem hAw_ok (id : Nat) : HintOk Try.prog id hAw := by
  refine call_ok ent8 rfl (fun p hp => by cases hp) fun ρ w _ => (awake_any w).mono ?_
  rintro e w' ⟨rfl, hf⟩
  exact ⟨⟨0, 0, 0⟩, rfl, hf, (fun p hp => by cases hp), fun row hrw => by cases hrw⟩
end
end Go.Proofs.Ytlofoeapfmcolaa
/- ScanChange's law: a part changed for another one. Its condition: lengths that fit. -/
namespace Go.Proofs.Ytlofoeapfmcolaa
open Go.RowKit Go.Shelf
set_option linter.unusedVariables false
set_option linter.unusedSimpArgs false
section
open E
theorem lb_eq (a b : List UInt8) : (a == b) = decide (a = b) := by
  by_cases h : a = b <;> simp [h]
theorem places_len (s p : List UInt8) (hs : s.length ≤ 1000000) : (placesL s p).length ≤ 1000000 := by
  unfold placesL
  split
  · rename_i hmo
    have := may_len hmo
    exact Nat.le_trans (pl_len s p (by omega) 0) hs
  · exact Nat.zero_le _
theorem hI_doc0 {id : Nat} {s p : List UInt8} (hs : s.length ≤ 1000000) (hp : p.length ≤ 1000000) (h : placesL s p = []) : HintOk Try.prog id (hI0 15 (fun _ => #[stv s, stv p]) []) := hI0_of ent15 fun ρ w _ => by
  have := rplaces_any s p hs hp w
  rw [h] at this
  exact this
theorem hI_doc1 {id : Nat} {s p : List UInt8} (hs : s.length ≤ 1000000) (hp : p.length ≤ 1000000) (h : placesL s p ≠ []) : HintOk Try.prog id (hI1 15 (fun _ => #[stv s, stv p]) [] id (placesL s p)) := hI1_of h ent15 fun ρ w _ => rplaces_any s p hs hp w
theorem hI_pro0 {id : Nat} {s p : List UInt8} (hs : s.length ≤ 1000000) (hp : p.length ≤ 1000000) (h : placesL s p = []) : HintOk Try.prog id (hI0 14 (fun _ => #[stv s, stv p]) []) := hI0_of ent14 fun ρ w _ => by
  have := gplaces_any s p hs hp w
  rw [h] at this
  exact this
theorem hI_pro1 {id : Nat} {s p : List UInt8} (hs : s.length ≤ 1000000) (hp : p.length ≤ 1000000) (h : placesL s p ≠ []) : HintOk Try.prog id (hI1 14 (fun _ => #[stv s, stv p]) [] id (placesL s p)) := hI1_of h ent14 fun ρ w _ => gplaces_any s p hs hp w
theorem ent6 : Enters Try.prog 6 := enters_of Try.func6 (by kernel_rfl) rfl
theorem hCh_at (id : Nat) (s o p : List UInt8) (hs : s.length ≤ 1000000) (ho : o.length ≤ 1000000) (hp : p.length ≤ 1000000) : HintOk Try.prog id (hCh s o p (changeL s o p)) := hCh_ok id s o p _ hs ho hp rfl
set_option maxRecDepth 100000 in
theorem chg_tail (w : World) (ρ : Env) (S p q : List UInt8) (hS : S.length ≤ 1000000) (hp : p.length = 32) (hq : q.length = 32) (mp : mayP p = true) (mq : mayP q = true) :
    At Try.prog w ⟨[], ρ, []⟩ Try.f6.ntmps [] (rp Try.f6 3) (EndX Try.prog Try.f6 (FrQ w)) [(7, .v (stv S)), (8, .v (stv p)), (9, .v (stv q))] [] := by
  have hp6 : p.length ≤ 1000000 := by omega
  have hq6 : q.length ≤ 1000000 := by omega
  by_cases hpq : p = q
  · have hd : TV.v (.bool (p == q)) = TV.v (.bool true) := by rw [lb_eq, decide_eq_true hpq]
    exact At.fin rfl [(2004003, .val (.v (.bool true))), (5000, hAw)] ⟨trivial, hAw_ok _, trivial⟩ [.d] (x := .v (.bool true)) (ob := [[TV.v (.bool (p == q)) = TV.v (.bool true)], qL hAw].flatten) (by kernel_rfl) (all_flat ⟨⟨hd, trivial⟩, all_qL _, trivial⟩) fun ρ' w' hf _ => ⟨rfl, hf⟩
  have hd : TV.v (.bool (p == q)) = TV.v (.bool false) := by rw [lb_eq, decide_eq_false hpq]
  by_cases hL : placesL S q = []
  case neg =>
    have hk := hI_doc1 (id := 4006) hS hq6 hL
    have hpos : 0 < (placesL S q).length := by
      rcases Nat.eq_zero_or_pos (placesL S q).length with h | h
      · exact absurd (List.length_eq_zero_iff.1 h) hL
      · exact h
    generalize placesL S q = L at hk hpos
    exact At.fin rfl [(2004003, .val (.v (.bool false))), (4006, hI1 15 (fun _ => #[stv S, stv q]) [] 4006 L), (5000, hAw)] ⟨trivial, hk, hAw_ok _, trivial⟩ [.y] (x := .v (.bool true)) (ob := [[TV.v (.bool (p == q)) = TV.v (.bool false)], qL (hI1 15 (fun _ => #[stv S, stv q]) [] 4006 L), [decide ((L.length : Int) > 0) = true], qL hAw].flatten) (by kernel_rfl) (all_flat ⟨⟨hd, trivial⟩, all_qL _, ⟨decide_eq_true (by omega), trivial⟩, all_qL _, trivial⟩) fun ρ' w' hf _ => ⟨rfl, hf⟩
  have hk := hI_doc0 (id := 4006) hS hq6 hL
  obtain ⟨t, ht⟩ : ∃ t, t = changeL S p q := ⟨_, rfl⟩
  have hch := hCh_at 6003 S p q hS hp6 hq6
  rw [← ht] at hch
  have htl : t.length = S.length := by rw [ht, change_len]
  have hne : ((t.length : Int) != (S.length : Int)) = false := by rw [htl]; simp
  have hSS : TV.v (.bool (S == S)) = TV.v (.bool true) := by rw [lb_eq, decide_eq_true rfl]
  have hc1 : HintOk Try.prog 15003 (hCh S p p S) := hCh_ok _ _ _ _ _ hS hp6 hp6 (change_self S p)
  have hc2 : HintOk Try.prog 15009 (hCh S [110, 111] q S) := hCh_ok _ _ _ _ _ hS (by decide) hq6 (change_no S q)
  by_cases hN : placesL S p = []
  · have hn := hI_pro0 (id := 7002) hS hp6 hN
    have htS : TV.v (.bool (t == S)) = TV.v (.bool true) := by rw [lb_eq, decide_eq_true (by rw [ht]; exact change_nil hN)]
    refine At.run rfl [(2004003, .val (.v (.bool false))), (4006, hI0 15 (fun _ => #[stv S, stv q]) []), (6003, hCh S p q t), (7002, hI0 14 (fun _ => #[stv S, stv p]) []), (2015000, .val (.tup []))] ⟨trivial, hk, hch, hn, trivial, trivial⟩ [.d, .n, .u, .d] (tm2 := [(7, .v (stv S)), (8, .v (stv p)), (9, .v (stv q)), (10, .v (stv t)), (11, .v nilS)]) (rows2 := []) (ob := [[TV.v (.bool (p == q)) = TV.v (.bool false)], qL (hI0 15 (fun _ => #[stv S, stv q]) []), qL (hCh S p q t), qL (hI0 14 (fun _ => #[stv S, stv p]) []), [((t.length : Int) != (S.length : Int)) = false]].flatten) (td := rp Try.f6 14) (by kernel_rfl) (all_flat ⟨⟨hd, trivial⟩, all_qL _, all_qL _, all_qL _, ⟨hne, trivial⟩, trivial⟩) rfl rfl (by intro h; cases h) ?_
    exact At.fin rfl [(15003, hCh S p p S), (2015006, .val (.v (.bool true))), (15009, hCh S [110, 111] q S), (2015013, .val (.v (.bool true))), (2015023, .val (.v (.bool true))), (15024, hAw)] ⟨hc1, trivial, hc2, trivial, trivial, hAw_ok _, trivial⟩ [] (x := .v (.bool true)) (ob := [qL (hCh S p p S), [TV.v (.bool (S == S)) = TV.v (.bool true)], qL (hCh S [110, 111] q S), [TV.v (.bool (S == S)) = TV.v (.bool true), TV.v (.bool (t == S)) = TV.v (.bool true)], qL hAw].flatten) (by kernel_rfl) (all_flat ⟨all_qL _, ⟨hSS, trivial⟩, all_qL _, ⟨hSS, htS, trivial⟩, all_qL _, trivial⟩) fun ρ' w' hf _ => ⟨rfl, hf⟩
  · have hn := hI_pro1 (id := 7002) hS hp6 hN
    have hwin := change_win (s := S) (o := p) mq
    have hLl := places_len S p hS
    rw [← ht] at hwin
    generalize placesL S p = L at hn hwin hN hLl
    have hpos : 0 < L.length := by
      rcases Nat.eq_zero_or_pos L.length with h | h
      · exact absurd (List.length_eq_zero_iff.1 h) hN
      · exact h
    have hloop : ∀ i : Nat, i ≤ L.length → At Try.prog w ⟨[], ρ, []⟩ Try.f6.ntmps [] (lp Try.f6 0) (EndX Try.prog Try.f6 (FrQ w)) [(7, .v (stv S)), (8, .v (stv p)), (9, .v (stv q)), (10, .v (stv t)), (11, .s (.lf (.sl 7002 0 0 1 L.length none))), (12, .int .i64 (i : Int))] [(7002, inR L L.length)] := by
      refine At.loop (fun i : Nat => [(7, .v (stv S)), (8, .v (stv p)), (9, .v (stv q)), (10, .v (stv t)), (11, .s (.lf (.sl 7002 0 0 1 L.length none))), (12, .int .i64 (i : Int))]) (fun _ => [(7002, inR L L.length)]) (fun i => i ≤ L.length) (fun i => L.length - i) fun i hi ih => ?_
      by_cases hlt : i < L.length
      · obtain ⟨x, hx⟩ : ∃ x, x = L.getD i 0 := ⟨_, rfl⟩
        have hxm : x ∈ L := by rw [hx, List.getD_eq_getElem?_getD, List.getElem?_eq_getElem hlt]; exact List.getElem_mem hlt
        obtain ⟨hb, hw⟩ := hwin x hxm
        have hv : TV.int .i64 ((L.getD (addN 0 (i : Int).toNat) 0 : Nat) : Int) = TV.int .i64 ((x : Nat) : Int) := by rw [hx, addN_eq, Nat.zero_add, Int.toNat_natCast]
        have hidx : addN 0 (i : Int).toNat < L.length := by rw [addN_eq]; omega
        have hib : 0 ≤ (i : Int) ∧ (i : Int) < (L.length : Int) := ⟨by omega, by omega⟩
        have h0 : TV.v (.bool (decide ((x : Int) < 0))) = TV.v (.bool false) := by rw [decide_eq_false (by omega)]
        have hgt : TV.v (.bool (decide ((x : Int) + 32 > (t.length : Int)))) = TV.v (.bool false) := by rw [decide_eq_false (by omega)]
        have hin : inI ((x : Int) + 32) := ⟨by omega, by omega⟩
        have hsl : TV.v (stv (List.drop (x : Int).toNat (List.take ((x : Int) + 32).toNat t))) = TV.v (stv q) := tv_str (by
          rw [List.drop_take, show ((x : Int) + 32).toNat - (x : Int).toNat = 32 by omega, Int.toNat_natCast]; exact hw)
        have hqq : (!(q == q)) = false := by simp
        exact At.run rfl [(2013003, .val (.int .i64 (x : Int))), (2013005, .val (.v (.bool false))), (2013009, .val (.int .i64 (x : Int))), (2013015, .val (.v (.bool false))), (2013020, .val (.int .i64 (x : Int))), (2013024, .val (.int .i64 (x : Int))), (2013026, .val (.v (stv q)))] ⟨trivial, trivial, trivial, trivial, trivial, trivial, trivial, trivial⟩ [.y, .n] (tm2 := [(7, .v (stv S)), (8, .v (stv p)), (9, .v (stv q)), (10, .v (stv t)), (11, .s (.lf (.sl 7002 0 0 1 L.length none))), (12, .int .i64 ((i + 1 : Nat) : Int))]) (rows2 := [(7002, inR L L.length)])
          (ob := [decide ((i : Int) < (L.length : Int)) = true, 0 ≤ (i : Int) ∧ (i : Int) < (L.length : Int), TV.int .i64 ((L.getD (addN 0 (i : Int).toNat) 0 : Nat) : Int) = TV.int .i64 ((x : Nat) : Int), addN 0 (i : Int).toNat < L.length, TV.v (.bool false) = TV.v (.bool false), 0 ≤ (i : Int) ∧ (i : Int) < (L.length : Int), TV.int .i64 ((L.getD (addN 0 (i : Int).toNat) 0 : Nat) : Int) = TV.int .i64 ((x : Nat) : Int), addN 0 (i : Int).toNat < L.length, inI ((x : Int) + 32), TV.v (.bool (decide ((x : Int) + 32 > (t.length : Int)))) = TV.v (.bool false), 0 ≤ (i : Int) ∧ (i : Int) < (L.length : Int), TV.int .i64 ((L.getD (addN 0 (i : Int).toNat) 0 : Nat) : Int) = TV.int .i64 ((x : Nat) : Int), addN 0 (i : Int).toNat < L.length, 0 ≤ (i : Int) ∧ (i : Int) < (L.length : Int), TV.int .i64 ((L.getD (addN 0 (i : Int).toNat) 0 : Nat) : Int) = TV.int .i64 ((x : Nat) : Int), addN 0 (i : Int).toNat < L.length, inI ((x : Int) + 32), TV.v (stv (List.drop (x : Int).toNat (List.take ((x : Int) + 32).toNat t))) = TV.v (stv q), 0 ≤ (x : Int) + 32 ∧ (x : Int) + 32 ≤ (t.length : Int), 0 ≤ (x : Int) ∧ (x : Int) ≤ (x : Int) + 32, (!(q == q)) = false, inI ((i : Int) + 1)]) (td := lp Try.f6 0) (by kernel_rfl)
          ⟨decide_eq_true (by omega), hib, hv, hidx, rfl, hib, hv, hidx, hin, hgt, hib, hv, hidx, hib, hv, hidx, hin, hsl, ⟨by omega, by omega⟩, ⟨by omega, by omega⟩, hqq, ⟨by omega, by omega⟩, trivial⟩ rfl rfl (by intro h; cases h) (ih (i + 1) hlt (by omega))
      · obtain rfl : i = L.length := by omega
        have hpb : TV.v (.bool (decide ((L.length : Int) > 0))) = TV.v (.bool true) := by rw [decide_eq_true (by omega)]
        exact At.fin rfl [(15003, hCh S p p S), (2015006, .val (.v (.bool true))), (15009, hCh S [110, 111] q S), (2015013, .val (.v (.bool true))), (2015017, .val (.v (.bool true))), (15024, hAw)] ⟨hc1, trivial, hc2, trivial, trivial, hAw_ok _, trivial⟩ [.n] (x := .v (.bool true)) (ob := [[decide ((L.length : Int) < (L.length : Int)) = false], qL (hCh S p p S), [TV.v (.bool (S == S)) = TV.v (.bool true)], qL (hCh S [110, 111] q S), [TV.v (.bool (S == S)) = TV.v (.bool true), TV.v (.bool (decide ((L.length : Int) > 0))) = TV.v (.bool true)], qL hAw].flatten) (by kernel_rfl) (all_flat ⟨⟨decide_eq_false (by omega), trivial⟩, all_qL _, ⟨hSS, trivial⟩, all_qL _, ⟨hSS, hpb, trivial⟩, all_qL _, trivial⟩) fun ρ' w' hf _ => ⟨rfl, hf⟩
    exact At.run rfl [(2004003, .val (.v (.bool false))), (4006, hI0 15 (fun _ => #[stv S, stv q]) []), (6003, hCh S p q t), (7002, hI1 14 (fun _ => #[stv S, stv p]) [] 7002 L)] ⟨trivial, hk, hch, hn, trivial⟩ [.d, .n] (tm2 := [(7, .v (stv S)), (8, .v (stv p)), (9, .v (stv q)), (10, .v (stv t)), (11, .s (.lf (.sl 7002 0 0 1 L.length none))), (12, .int .i64 ((0 : Nat) : Int))]) (rows2 := [(7002, inR L L.length)]) (ob := [[TV.v (.bool (p == q)) = TV.v (.bool false)], qL (hI0 15 (fun _ => #[stv S, stv q]) []), qL (hCh S p q t), qL (hI1 14 (fun _ => #[stv S, stv p]) [] 7002 L), [((t.length : Int) != (S.length : Int)) = false]].flatten) (td := lp Try.f6 0) (by kernel_rfl) (all_flat ⟨⟨hd, trivial⟩, all_qL _, all_qL _, all_qL _, ⟨hne, trivial⟩, trivial⟩) rfl rfl (by intro h; cases h) (hloop 0 (Nat.zero_le _))
set_option maxRecDepth 100000 in
theorem chg_head (w : World) (ρ : Env) (A : List UInt8) (a b : Nat) (ha : a < 256) (hb : b < 256) :
    At Try.prog w ⟨[], ρ, []⟩ Try.f6.ntmps [] (rp Try.f6 2) (EndX Try.prog Try.f6 (FrQ w)) [(1, .int .u8 (a : Int)), (2, .int .u8 (b : Int)), (7, .v (stv (textL A)))] [] := by
  obtain ⟨m, hm⟩ : ∃ m, m = a % 16 := ⟨_, rfl⟩
  obtain ⟨n, hn⟩ : ∃ n, n = 17 + b % 3 := ⟨_, rfl⟩
  have g1 : TV.int .u8 ((a : Int) % 16) = TV.int .u8 (m : Int) := by rw [hm]; rfl
  have g2 : TV.int .u8 (IntKind.u8.wrap (17 + (b : Int) % 3)) = TV.int .u8 (n : Int) := tv_int (by
    rw [hn]
    simp [IntKind.wrap, IntKind.bits, IntKind.signed]
    omega)
  refine At.run rfl [(2003001, .val (.int .u8 (m : Int))), (3002, hPt m), (2003005, .val (.int .u8 (n : Int))), (3006, hPt n), (2004000, .val (.tup []))] ⟨trivial, hPt_ok _ _ (by omega), trivial, hPt_ok _ _ (by omega), trivial, trivial⟩ [] (tm2 := [(7, .v (stv (textL A))), (8, .v (stv (partL m))), (9, .v (stv (partL n)))]) (rows2 := []) (ob := [[TV.int .u8 ((a : Int) % 16) = TV.int .u8 (m : Int), 0 ≤ (a : Int) ∧ (0 : Int) < 16], qL (hPt m), [0 ≤ (b : Int) ∧ (0 : Int) < 3, TV.int .u8 (IntKind.u8.wrap (17 + (b : Int) % 3)) = TV.int .u8 (n : Int)], qL (hPt n)].flatten) (td := rp Try.f6 3) (by kernel_rfl) (all_flat ⟨⟨g1, ⟨by omega, by decide⟩, trivial⟩, all_qL _, ⟨⟨by omega, by decide⟩, g2, trivial⟩, all_qL _, trivial⟩) rfl rfl (by intro h; cases h) ?_
  exact chg_tail w ρ (textL A) (partL m) (partL n) (by have := textL_len A; omega) (partL_len m) (partL_len n) (part_may m) (part_may n)
set_option maxRecDepth 100000 in
theorem change_pos (A : List UInt8) (hA : A.length ≤ 140737488355328) (a b : Nat) (ha : a < 256) (hb : b < 256) (w : World) (ρ : Env) (h : RowAt ρ 0 (nuR A) w) : Calls Try.prog 6 #[(nuS A).val ρ, .int .u8 (a : Int), .int .u8 (b : Int)] w (FrQ w) := by
  refine At.calls (args := [nuS A, .int .u8 (a : Int), .int .u8 (b : Int)]) (rows := [(0, nuR A)]) (gl := []) (wr := []) (ρ := ρ) Try.func6 rfl rfl (init_rw ⟨trivial, rfl, rfl, trivial⟩ rfl rfl rfl (fun p hp => by obtain rfl := List.mem_singleton.1 hp; exact ⟨h, nuR_ok A⟩) (fun p hp hw => by obtain rfl := List.mem_singleton.1 hp; cases hw) (fun p hp q hq hpq hw => by obtain rfl := List.mem_singleton.1 hp; cases hw)) rfl ?_
  exact At.run rfl [(2001, hTx A), (2003000, .val (.tup []))] ⟨hTx_ok _ _ hA, trivial, trivial⟩ [] (tm2 := [(1, .int .u8 (a : Int)), (2, .int .u8 (b : Int)), (7, .v (stv (textL A)))]) (rows2 := []) (ob := qL (hTx A)) (td := rp Try.f6 2) (by kernel_rfl) (all_qL _) rfl rfl (by intro h; cases h) (chg_head w ρ A a b ha hb)
set_option maxRecDepth 100000 in
theorem change_zero (pa : Option Addr) (ca : Nat) (a b : Nat) (ha : a < 256) (hb : b < 256) (w : World) : Calls Try.prog 6 #[.slice pa 0 ca, .int .u8 (a : Int), .int .u8 (b : Int)] w (FrQ w) := by
  refine At.calls (args := [.v (.slice pa 0 ca), .int .u8 (a : Int), .int .u8 (b : Int)]) (rows := []) (gl := []) (wr := []) (ρ := fun _ => (⟨0, 0, 0⟩ : Blk)) Try.func6 rfl rfl (init_rw ⟨rfl, rfl, rfl, trivial⟩ rfl rfl rfl (fun p hp => by cases hp) (fun p hp => by cases hp) (fun p hp => by cases hp)) rfl ?_
  exact At.run rfl [(2001, hTx0 pa ca), (2003000, .val (.tup []))] ⟨hTx0_ok _ _ _, trivial, trivial⟩ [] (tm2 := [(1, .int .u8 (a : Int)), (2, .int .u8 (b : Int)), (7, .v (stv (textL [])))]) (rows2 := []) (ob := qL (hTx0 pa ca)) (td := rp Try.f6 2) (by kernel_rfl) (all_qL _) rfl rfl (by intro h; cases h) (chg_head w (fun _ => (⟨0, 0, 0⟩ : Blk)) [] a b ha hb)
end
end Go.Proofs.Ytlofoeapfmcolaa
/- A range over a function whose rounds turn one block that is no row (a map): what holds of the world is handed on from round to round; behind it nothing is known but that. -/
namespace Go.Proofs.Ytlofoeapfmcolaa
open Go Go.RowKit
set_option linter.unusedVariables false
set_option linter.unusedSimpArgs false
section
open E
theorem den_anew {w0 : World} {wr : Bs} {ρ : Env} {n : Nat} {tm : List (Nat × TV)} {rows : List (Nat × Row)} {gl K : List Nat} {a : Act} {w W : World} (hd : Den w0 wr ρ (mkSt n tm rows gl []) a w) (hk : ∀ r ∈ K, hasN (rows.map (·.1) ++ gl.map (500 + ·)) r = true)
    (hR : ∀ r row, findR rows r = some row → RowAt ρ r row W) : Den W ⟨wlOf ρ rows, ρ, K⟩ ρ (mkSt n tm rows gl) { tmps := a.tmps, defers := [] } W :=
  ⟨hd.sz, rfl, ⟨List.nodup_nil, fun D hD => by cases hD⟩, KeepsOthers.refl _, hd.tm, fun r row hr => ⟨hR r row hr, (hd.rw r row hr).2.1, (hd.rw r row hr).2.2.1, (hd.rw r row hr).2.2.2.1, fun hw => .inr (mem_wlOf (findR_mem hr) hw)⟩, hd.ds, Fr.refl _ _, fun _ _ => rfl, hk, hd.gl, fun r B h => by cases h⟩
theorem E.At.rangeM {P : Program} {w0 : World} {e : Env} {kk : List Nat} {n : Nat} {gl : List Nat} {k : List Item} {Q : Exit → Act → World → Prop} {tm : List (Nat × TV)} {rows : List (Nat × Row)} {α : Type} {g : Operand} {ps : Array Tmp} {assign body : Code} {al : List (Tmp × Operand)} {gf : FuncId} {rs : List Nat}
    (mb : Nat) (K kr : List Nat) (X : List α → World → Prop) (vx : α → List TV) {S Sp : List α → Prop} {N : Nat} (tmB : α → List (Nat × TV))
    (hg : evalO (mkSt n tm rows gl) g = some (.s (.lf (.clo gf rs)))) (he : Enters P gf) (ha : asg assign = some al)
    (hseq : ∀ (ρ : Env) (w : World), (∀ r row, findR rows r = some row → RowAt ρ r row w) → SeqStopsK (FW none) 5 P gf (rs.map fun r => Value.pointer (some ⟨(ρ r).1, (ρ r).2, none⟩)).toArray (fun x => ((vx x).map (TV.val ρ)).toArray) (fun W W' => ∀ r ∈ kr, W'.heap[(ρ r).1]? = W.heap[(ρ r).1]?) S Sp N w)
    (hnd : nodupB (rows.map (·.1)) = true) (hK : rngOk tm rows gl kk K kr = true) (hkr : ronly rows kr = true) (hids : idsOk tm rows gl = true)
    (hvx : ∀ x, (vx x).length = ps.size ∧ okL (vx x) ∧ (vx x).all (fun v => v.ids.all (hasN K)) = true)
    (hB : ∀ x, beg ps al (vx x) (mkSt n tm rows gl) ((tmB x).map (·.1)) = some ((tmB x).map fun p => some p.2))
    (hX0 : ∀ w, Fr w0 [] w → X [] w) (hXm : ∀ s W, X s W → ∃ es c, W.heap[mb]? = some (.map es c)) (hXk : ∀ s W W', X s W → W'.heap[mb]? = W.heap[mb]? → X s W')
    (hbody : ∀ (l : Nat) (pre : List α) (x : α) (W : World) (ρ : Env), pre.length < N → X pre W → At P W ⟨wlOf ρ rows, ρ, K⟩ n gl [.code body] (fun e _ W' => e = .normal ∧ Fr W [mb] W' ∧ X (pre ++ [x]) W') (tmB x) rows (some l) [])
    (hdone : ∀ D xs a W, S xs → X xs W → Fr w0 [mb] W → w0.heap.size ≤ D → W.heap[D]? = some (.deferred (some [])) → a.defers = [{ target := .collected D, args := #[] }] → KX P none k Q a W) :
    At P w0 ⟨[], e, kk⟩ n gl (.code (.rangeFunc g ps assign body) :: k) Q tm rows none [] := by
  intro a w ρ hd
  have hx0 := hX0 w hd.fr
  obtain ⟨es0, c0, hmap⟩ := hXm _ _ hx0
  have hmlt : mb < w.heap.size := (Array.getElem?_eq_some_iff.1 hmap).1
  have hg' := (evalO_ok hd hg).1
  have hN := nodupB_ok hnd
  have hK2 := hK
  simp only [rngOk, Bool.and_eq_true, List.all_eq_true] at hK2
  obtain ⟨k1, k2, k3, k4⟩ := hK2
  have hne : ∀ r row, findR rows r = some row → (ρ r).1 ≠ mb := fun r row hr he => by
    obtain ⟨cur, t, fz, hcur⟩ := (hd.rw r row hr).1.2.2.2
    rw [he, hmap] at hcur; cases hcur
  have hrow : ∀ W, Fr w [mb] W → ∀ r row, findR rows r = some row → RowAt ρ r row W := fun W hW r row hr => rowAt_keep (hd.rw r row hr).1 hW.size (hW.block _ (hd.rw r row hr).1.1 fun h => hne r row hr (List.mem_singleton.1 h))
  refine KX.codeR (n := 6) ?_
  refine wpIn_rangeFunc_ownH (F := FW none) rfl (by omega) (gf := gf) (lb := (rs.map fun r => Value.pointer (some ⟨(ρ r).1, (ρ r).2, none⟩)).toArray) hg' trivial he (hseq ρ w fun r row hr => (hd.rw r row hr).1)
    (fun h1 h2 r hr => (h2 r hr).trans (h1 r hr)) (fun W l o o' hl ho _ _ r hr => World.putObj_heap_other fun e => ?_) (Below.refl _ _) (fun x => ?_)
    (fun pre W => Fr w [mb] W ∧ X pre W) (fun c pre W => False) (fun s W W' row hI hgr hr => ?_) (fun c s W W' row hI hgr hr => hI.elim) ⟨Fr.refl _ _, hx0⟩
    (fun x a' _ => a' = asgA al { tmps := (ps.zip ((vx x).map (TV.val ρ)).toArray).foldl (fun t (p, v) => t.setIfInBounds p v) a.tmps, defers := [] }) (fun x a' _ _ _ _ h _ _ => h) (fun l pre x W K' hi hK' => asg_ok ha (hK' _ _ (KeepsFrom.refl _ _) (fun _ _ => rfl) hi rfl)) ?_ ?_ ?_
  · have h1 := List.all_eq_true.1 hkr r hr
    cases hf : findR rows r with
    | none => rw [hf] at h1; cases h1
    | some row =>
      have := (hd.rw r row hf).1.1
      omega
  · simp [(hvx x).1]
  · obtain ⟨hF, hX⟩ := hI
    obtain ⟨g1, g2, g3, g4, g5⟩ := hgr
    have hnr : ∀ i, i < w.heap.size → some i ≠ row := fun i hi e => by
      have := (hr i e.symm).1
      omega
    exact ⟨⟨g1.trans hF.os, g2.trans hF.tape, g3.trans hF.output, Nat.le_trans hF.size g4, fun i hi hn => (g5 i (Nat.lt_of_lt_of_le hi hF.size) (hnr i hi)).trans (hF.block i hi hn)⟩, hXk _ _ _ hX (g5 mb (Nat.lt_of_lt_of_le hmlt hF.size) (hnr mb hmlt))⟩
  · rintro l pre x a2 W hlB hlr ⟨hF, hXp⟩ rfl hlen
    have hb := den_anew (K := K) hd k3 (hrow W hF)
    have hbeg := hB x
    unfold beg at hbeg
    split at hbeg
    · rename_i s1 hs1
      split at hbeg
      · rename_i t ht
        simp only [Option.some.injEq] at hbeg
        have hvK : ∀ v ∈ vx x, v.ok ∧ ∀ r ∈ v.ids, (mkSt n tm rows gl).used r = true := fun v hv => ⟨okL_mem (hvx x).2.1 v hv, fun r hr => hb.ku r (hasN_iff.1 (List.all_eq_true.1 (List.all_eq_true.1 (hvx x).2.2 v hv) r hr))⟩
        have hb1 := parS_ok hs1 hb hvK
        have hb2 := asgS_ok ht hb1
        obtain ⟨f1, rfl⟩ := parS_keep hs1
        obtain ⟨f2, rfl⟩ := asgS_keep ht
        have hfold : (ps.zip ((vx x).map (TV.val ρ)).toArray).foldl (fun t (p, v) => t.setIfInBounds p v) a.tmps = (ps.toList.zip ((vx x).map (TV.val ρ))).foldl (fun t (p : Tmp × Value) => t.setIfInBounds p.1 p.2) a.tmps := by
          rw [← Array.foldl_toList, Array.toList_zip]
        rw [hfold]
        have hin : Den W ⟨wlOf ρ rows, ρ, K⟩ ρ (mkSt n (tmB x) rows gl) (asgA al { tmps := (ps.toList.zip ((vx x).map (TV.val ρ))).foldl (fun t (p : Tmp × Value) => t.setIfInBounds p.1 p.2) a.tmps, defers := [] }) W := by
          refine ⟨hb2.sz, hb2.df, hb2.mf, hb2.ko, fun q y hy => hb2.tm q y ?_, hb2.rw, hb2.ds, hb2.fr, hb2.e0, hb2.ku, hb2.gl, hb2.kn⟩
          rw [List.map_map] at hbeg
          exact (List.map_inj_left.1 hbeg) _ (findT_mem hy)
        refine wpIn_mono ((hbody l pre x W ρ hlen hXp _ W ρ hin).wpIn (n := 6 - 1 - 1)) ?_
        rintro e2 a' W' ⟨rfl, hF2, hxn⟩
        refine ⟨?_, ?_, ?_, hxn⟩
        · exact ⟨hF2.size, fun i o hi h1 h2 => (hF2.block i (Array.getElem?_eq_some_iff.1 h1).1 fun hm => by
            have := List.mem_singleton.1 hm
            omega).trans h1⟩
        · intro r hr
          have h1 := List.all_eq_true.1 hkr r hr
          cases hf : findR rows r with
          | none => rw [hf] at h1; cases h1
          | some row => exact hF2.block _ (Nat.lt_of_lt_of_le (hd.rw r row hf).1.1 hF.size) fun hm => hne r row hf (List.mem_singleton.1 hm)
        · exact hF.comp hF2 fun y hy => .inl hy
      · cases hbeg
    · cases hbeg
  · rintro D xs W hD hS ⟨hF, hXs⟩ hDb
    have hf0 : Fr w0 [mb] w := hd.fr.widen fun y hy => by cases hy
    exact hdone D xs _ W hS hXs (hf0.comp hF fun y hy => .inl hy) (Nat.le_trans hd.fr.size hD) hDb (by simp [hd.df, mkSt])
  · intro D c pre W hD hS hI hDb
    exact hI.elim
theorem E.At.rangeMAt {P : Program} {w0 : World} {e : Env} {kk : List Nat} {n : Nat} {gl : List Nat} {todo : List Item} {Q : Exit → Act → World → Prop} {tm : List (Nat × TV)} {rows : List (Nat × Row)} {α : Type} {gf : FuncId} {rs : List Nat}
    (mb : Nat) (K kr : List Nat) (X : List α → World → Prop) (vx : α → List TV) {S Sp : List α → Prop} {N : Nat} (tmB : α → List (Nat × TV)) (hr : isRng todo = true)
    (hg : evalO (mkSt n tm rows gl) (hdG todo) = some (.s (.lf (.clo gf rs)))) (he : Enters P gf)
    (hseq : ∀ (ρ : Env) (w : World), (∀ r row, findR rows r = some row → RowAt ρ r row w) → SeqStopsK (FW none) 5 P gf (rs.map fun r => Value.pointer (some ⟨(ρ r).1, (ρ r).2, none⟩)).toArray (fun x => ((vx x).map (TV.val ρ)).toArray) (fun W W' => ∀ r ∈ kr, W'.heap[(ρ r).1]? = W.heap[(ρ r).1]?) S Sp N w)
    (hnd : nodupB (rows.map (·.1)) = true) (hK : rngOk tm rows gl kk K kr = true) (hkr : ronly rows kr = true) (hids : idsOk tm rows gl = true)
    (hvx : ∀ x, (vx x).length = (hdPs todo).size ∧ okL (vx x) ∧ (vx x).all (fun v => v.ids.all (hasN K)) = true)
    (hB : ∀ x, beg (hdPs todo) (alOf todo) (vx x) (mkSt n tm rows gl) ((tmB x).map (·.1)) = some ((tmB x).map fun p => some p.2))
    (hX0 : ∀ w, Fr w0 [] w → X [] w) (hXm : ∀ s W, X s W → ∃ es c, W.heap[mb]? = some (.map es c)) (hXk : ∀ s W W', X s W → W'.heap[mb]? = W.heap[mb]? → X s W')
    (hbody : ∀ (l : Nat) (pre : List α) (x : α) (W : World) (ρ : Env), pre.length < N → X pre W → At P W ⟨wlOf ρ rows, ρ, K⟩ n gl [.code (hdBody todo)] (fun e _ W' => e = .normal ∧ Fr W [mb] W' ∧ X (pre ++ [x]) W') (tmB x) rows (some l) [])
    (hdone : ∀ D xs a W, S xs → X xs W → Fr w0 [mb] W → w0.heap.size ≤ D → W.heap[D]? = some (.deferred (some [])) → a.defers = [{ target := .collected D, args := #[] }] → KX P none todo.tail Q a W) :
    At P w0 ⟨[], e, kk⟩ n gl todo Q tm rows none [] := by
  obtain ⟨e1, al, e2⟩ := isRng_ok hr
  have e3 : alOf todo = al := by unfold alOf; rw [e2]
  rw [e3] at hB
  rw [e1]
  exact E.At.rangeM mb K kr X vx tmB hg he e2 hseq hnd hK hkr hids hvx hB hX0 hXm hXk hbody hdone
/-- As At.opX; the operation may have no destination. -/
theorem E.At.opY {α : Type} {P : Program} {w0 : World} {wr : Bs} {n : Nat} {gl : List Nat} {todo : List Item} {Q : Exit → Act → World → Prop} {tm tm1 : List (Nat × TV)} {rows rows1 : List (Nat × Row)} {r : Option Nat} {mk : List Nat} {o1 : List Prop} {o2 : α → List Prop}
    (m : Nat) (d : Option Tmp) (cs : List (Nat × Hint)) (hC : allC P cs) (w0' : α → World) (wr' : α → Bs) (tm2 tm3 : α → List (Nat × TV)) (rows2 rows3 : α → List (Nat × Row)) (I : α → Prop) (hr : isReg todo = true)
    (h1 : op1 P (findC cs) (hdOps todo) (1000 + hdRid todo * 1000) m (mkSt n tm rows gl mk) (tm1.map (·.1)) (rows1.map (·.1)) = some (o1, tm1.map (fun p => some p.2), rows1.map fun p => some p.2)) (ho1 : all o1)
    (hs : (noDef (hdOps todo) && (Nat.ble (m + 1) (hdOps todo).size && (gl.all (fun g => Nat.ble (g + 1) 500) && (idsOk tm1 rows1 gl && wr.k.all (hasN (rows1.map (·.1) ++ gl.map (500 + ·))))))) = true)
    (hop : ∀ a w ρ (K : Act → World → Prop) (QQ : Exit → Act → World → Prop), Den w0 wr ρ (mkSt n tm1 rows1 gl mk) a w → (∀ x v w' ρ', I x → Den (w0' x) (wr' x) ρ' (mkSt n (tm2 x) (rows2 x) gl mk) (a.put d v) w' → K (a.put d v) w') → wpOpIn (FW r) 5 P (hdOps todo) QQ m K a w)
    (h2 : ∀ x, I x → call2 P (findC cs) (hdOps todo) (1000 + hdRid todo * 1000) m (mkSt n (tm2 x) (rows2 x) gl mk) ((tm3 x).map (·.1)) ((rows3 x).map (·.1)) = some (o2 x, (tm3 x).map (fun p => some p.2), (rows3 x).map fun p => some p.2))
    (ho2 : ∀ x, I x → all (o2 x)) (hs2 : ∀ x, (idsOk (tm3 x) (rows3 x) gl && (wr' x).k.all (hasN ((rows3 x).map (·.1) ++ gl.map (500 + ·)))) = true)
    (hK : ∀ x, I x → At P (w0' x) (wr' x) n gl todo.tail Q (tm3 x) (rows3 x) r mk) : At P w0 wr n gl todo Q tm rows r mk := by
  rw [isReg_ok hr]
  intro a w ρ hd
  generalize hdOps todo = ops at *
  generalize hdRid todo = rid at *
  simp only [Bool.and_eq_true] at hs
  obtain ⟨hnd, hms, hg, hi1, hk1⟩ := hs
  have hms := Nat.le_of_ble_eq_true hms
  have hC2 : ∀ {W : World} {wq : Bs}, ∀ id c, findC cs id = some c → HintAt P W wq id c := findC_at hC
  unfold op1 at h1
  split at h1
  · rename_i p1 s1 hr1
    simp only [Option.some.injEq, Prod.mk.injEq] at h1
    obtain ⟨rfl, e1, e2⟩ := h1
    obtain ⟨k1, k2⟩ := runL_keep hr1
    refine KX.code (n := 5) (K := fun a w => KX P r todo.tail Q a w) (wpIn_region ?_) fun a w h => h
    rw [show List.range ops.size = List.range' 0 m ++ (m :: List.range' (m + 1) (ops.size - (m + 1))) by
      rw [List.range_eq_range', ← List.range'_succ]
      have := List.range'_append_1 (s := 0) (m := m) (n := ops.size - (m + 1) + 1)
      rw [Nat.zero_add] at this
      rw [this]
      congr 1
      omega]
    refine wpOpsIn_append (K := fun a w => ∃ ρ, Den w0 wr ρ s1 a w) hnd (fun a w ⟨ρ, hd⟩ => ?_) _ a w (seq_ok hC2 (fun a w ρ hd => ⟨rfl, ρ, hd⟩) _ _ _ _ _ _ _ hr1 ho1 hd)
    rw [wpOpsIn_cons]
    have hd1 := den_mk (gl := gl) hd e1 e2 (fun g hgm => ⟨Nat.le_of_ble_eq_true (List.all_eq_true.1 hg g hgm), k2 _ (hasN_iff.2 (List.mem_append.2 (.inr (List.mem_map.2 ⟨g, hgm, rfl⟩))))⟩) hi1 hk1
    rw [k1.1, k1.2] at hd1
    refine hop a w ρ _ _ hd1 ?_
    intro x v w' ρ' hI hd2
    have h3 := h2 x hI
    unfold call2 at h3
    split at h3
    · rename_i p2 s2 hr2
      simp only [Option.some.injEq, Prod.mk.injEq] at h3
      obtain ⟨rfl, e3, e4⟩ := h3
      have hs3 := hs2 x
      rw [Bool.and_eq_true] at hs3
      refine rest_ok hnd hC2 hr2 (ho2 x hI) (fun a w ρ hd3 => ⟨rfl, ?_⟩) hd2
      obtain ⟨j1, j2⟩ := runL_keep hr2
      have := den_mk (gl := gl) hd3 e3 e4 (fun g hgm => ⟨Nat.le_of_ble_eq_true (List.all_eq_true.1 hg g hgm), j2 _ (hasN_iff.2 (List.mem_append.2 (.inr (List.mem_map.2 ⟨g, hgm, rfl⟩))))⟩) hs3.1 hs3.2
      rw [j1.1, j1.2] at this
      exact hK x hI a w ρ this
    · cases h3
  · cases h1

theorem E.xOp0_ok {P : Program} {ops : Array Oper} {r : Option Nat} {m : Nat} {K : Act → World → Prop} {QQ : Exit → Act → World → Prop} {a : Act} {w w' : World} {o : Oper} {v : Value} (hnd : noDef ops = true) (ho : ops[m]? = some o) (hg : o.guard = none)
    (h : (execOp a.eval o).run P w = .ok (.value v) w') (hK : K (a.put o.dst v) w') : wpOpIn (FW r) 5 P ops QQ m K a w := by
  unfold wpOpIn
  rw [ho]
  simp only
  rw [if_pos (by unfold Region.wanted; rw [hg])]
  exact wpIn_of_wp (noDef_ok hnd ho) (wp_val h hK)
def roR (rows : List (Nat × Row)) : List (Nat × Row) := rows.map fun p => (p.1, ⟨p.2.ps, false, p.2.cp⟩)
theorem roR_find : ∀ {rows : List (Nat × Row)} {r : Nat} {y : Row}, findR (roR rows) r = some y → ∃ x, findR rows r = some x ∧ y = ⟨x.ps, false, x.cp⟩
  | [], r, y, h => by cases h
  | p :: rows, r, y, h => by
    simp only [roR, List.map_cons, findR] at h ⊢
    cases hb : Nat.beq p.1 r with
    | true => rw [hb] at h; cases h; exact ⟨_, rfl, rfl⟩
    | false => rw [hb] at h; exact roR_find h
/-- From here on no row is written. -/
theorem E.At.ro {P : Program} {w0 : World} {wr : Bs} {n : Nat} {gl : List Nat} {todo : List Item} {Q : Exit → Act → World → Prop} {tm : List (Nat × TV)} {rows : List (Nat × Row)} {r : Option Nat} {mk : List Nat}
    (h : At P w0 wr n gl todo Q tm (roR rows) r mk) : At P w0 wr n gl todo Q tm rows r mk := by
  intro a w ρ hd
  have hkeys : (roR rows).map (·.1) = rows.map (·.1) := by simp [roR]
  have hu : ∀ s, (mkSt n tm (roR rows) gl mk).used s = (mkSt n tm rows gl mk).used s := fun s => by show hasN ((roR rows).map (·.1) ++ _) s = hasN (rows.map (·.1) ++ _) s; rw [hkeys]
  refine h a w ρ ⟨hd.sz, hd.df, hd.mf, hd.ko, fun t x hx => ?_, fun s y hs => ?_, fun s q y z hs hq hsq hw => ?_, hd.fr, hd.e0, fun s hs => by rw [hu]; exact hd.ku s hs, fun g hg hgu => hd.gl g hg (by rw [← hu]; exact hgu), fun s B hs => by cases hs⟩
  · obtain ⟨g1, g2, g3⟩ := hd.tm t x hx
    exact ⟨g1, g2, fun r hr => by rw [hu]; exact g3 r hr⟩
  · obtain ⟨x, hx, rfl⟩ := roR_find hs
    obtain ⟨g1, g2, g3, g4, _⟩ := hd.rw s x hx
    obtain ⟨k1, k2, k3, k4⟩ := g1
    exact ⟨⟨k1, fun j v hv => ⟨(k2 j v hv).1, fun h => by cases h⟩, k3, k4⟩, g2, by rw [hu]; exact g3, fun q hq => by rw [hu]; exact g4 q hq, fun hw => by cases hw⟩
  · obtain ⟨x, hx, rfl⟩ := roR_find hs
    cases hw
end
end Go.Proofs.Ytlofoeapfmcolaa
