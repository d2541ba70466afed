/- Several texts, one behind the other; each says by itself what it proves, and on what conditions. -/
import Derived.Test.YtglipljilcdboaaU09
import Derived.Test.YtglipljilcdboaaProg
import Derived.Laws.Bits64b
import Derived.WalkKit
import Derived.Lib.Hide
import Derived.Shelf.Abstract
import Derived.Deep.RegionLaw
import Derived.BigRegion
/- The document's reader in memory; its text and wrong: what they leave. Its conditions: lengths that fit. -/
namespace Go.Proofs.Ytglipljilcdboaa
open Go.RowKit
set_option linter.unusedVariables false
set_option linter.unusedSimpArgs false
/-- The number of the first bytes. -/
def gN (r : List UInt8) (j : Nat) : Nat := leN (r.take j)
theorem leN_snoc : ∀ (l : List UInt8) (b : UInt8), leN (l ++ [b]) = leN l + b.toNat * 256 ^ l.length
  | [], b => by simp [leN]
  | a :: l, b => by
    rw [List.cons_append, leN, leN, leN_snoc l b, List.length_cons, Nat.pow_succ, Nat.mul_add]
    rw [show 256 * (b.toNat * 256 ^ l.length) = b.toNat * (256 ^ l.length * 256) by rw [Nat.mul_left_comm, Nat.mul_comm 256, ← Nat.mul_assoc, Nat.mul_assoc]]
    omega
theorem gN_lt (r : List UInt8) (j : Nat) : gN r j < 256 ^ j := by
  refine Nat.lt_of_lt_of_le (le_lt _) (Nat.pow_le_pow_right (by decide) ?_)
  rw [List.length_take]; omega
theorem gN_succ (r : List UInt8) (j : Nat) (hj : j < r.length) : gN r (j + 1) = gN r j + (r.getD j 0).toNat * 256 ^ j := by
  unfold gN
  rw [List.take_add_one, List.getElem?_eq_getElem hj, List.getD_eq_getElem?_getD, List.getElem?_eq_getElem hj]
  show leN (r.take j ++ [r[j]]) = _
  rw [leN_snoc, List.length_take, Nat.min_eq_left (by omega)]
  rfl
theorem pow256 (j : Nat) : (256 : Nat) ^ j = 2 ^ (8 * j) := by
  rw [show (256 : Nat) = 2 ^ 8 from rfl, ← Nat.pow_mul]
theorem or_word (n b j : Nat) (hn : n < 256 ^ j) (hb : b < 256) (hj : j < 8) : bits .or .u64 (n : Int) (IntKind.u64.wrap ((b : Int) * 2 ^ (8 * (j : Int)).toNat)) = ((n + b * 256 ^ j : Nat) : Int) := by
  have hp : (256 : Nat) ^ j ≤ 256 ^ 7 := Nat.pow_le_pow_right (by decide) (by omega)
  have hbp : b * 256 ^ j ≤ 255 * 256 ^ 7 := Nat.mul_le_mul (by omega) hp
  have e1 : ((b : Int) * 2 ^ (8 * (j : Int)).toNat) = ((b * 256 ^ j : Nat) : Int) := by
    rw [show (8 * (j : Int)).toNat = 8 * j by omega, pow256]
    rw [Int.natCast_mul, Int.natCast_pow]; rfl
  rw [e1, IntKind.wrap_u64]
  have hlt : b * 256 ^ j < 18446744073709551616 := Nat.lt_of_le_of_lt hbp (by decide)
  have hn2 : n < 18446744073709551616 := Nat.lt_of_lt_of_le hn (Nat.le_trans hp (by decide))
  rw [show ((b * 256 ^ j : Nat) : Int) % 18446744073709551616 = ((b * 256 ^ j : Nat) : Int) by omega, bits_or_u64_nat _ _ hn2 hlt]
  congr 1
  have := Nat.two_pow_add_eq_or_of_lt (i := 8 * j) (b := n) (by rw [← pow256]; exact hn) b
  rw [Nat.or_comm, pow256, Nat.mul_comm b, ← this, Nat.add_comm]
section
open E
theorem tv_int {k : IntKind} {a b : Int} (h : a = b) : TV.int k a = TV.int k b := by rw [h]
abbrev stv (l : List UInt8) : Value := .string ⟨l.toArray⟩
theorem init_rw {w : World} {wr : List Nat} {ρ : Env} {args : List TV} {rows : List (Nat × Row)} (hok : okL args) (hi : args.all (fun x => x.ids.all (hasN (rows.map (·.1)))) = true) (hp : rows.all (fun p => (pids p.2.ps).all (hasN (rows.map (·.1)))) = true) (hl : rows.all (fun p => Nat.ble (p.1 + 1) 500) = true)
    (hr : ∀ p ∈ rows, RowAt ρ p.1 p.2 w ∧ pok p.2.ps) (hw : ∀ p ∈ rows, p.2.w = true → (ρ p.1).1 ∈ wr) (hd : PreDs ρ rows) : Init w wr ρ args rows [] := by
  have e : rows.map (·.1) ++ ([] : List Nat).map (500 + ·) = rows.map (·.1) := by simp
  refine ⟨fun x hx => ⟨okL_mem hok x hx, fun r hr2 => ?_⟩, fun p hpm => ⟨(hr p hpm).1, (hr p hpm).2, fun q hq => ?_, hw p hpm⟩, hd, fun g _ hg => ?_⟩
  · rw [e]; exact List.all_eq_true.1 (List.all_eq_true.1 hi x hx) r hr2
  · rw [e]; exact List.all_eq_true.1 (List.all_eq_true.1 hp p hpm) q hq
  · rw [e] at hg
    obtain ⟨p, hpm, hpe⟩ := List.mem_map.1 (hasN_iff.1 hg)
    have := Nat.le_of_ble_eq_true (List.all_eq_true.1 hl p hpm)
    omega
abbrev rdR (S : List UInt8) (q : RS) (x : Lf) : Row := ⟨[.one (.v (stv S)), .one (.v (.int .i64 (q.at' : Int))), .one x, .one (.v (.int .i64 q.e))], true, none⟩
theorem rd_ok (S : List UInt8) (q : RS) (x : Lf) (hx : x.ok) : pok (rdR S q x).ps := by
  intro p hp
  simp only [List.mem_cons, List.not_mem_nil, or_false] at hp
  rcases hp with rfl | rfl | rfl | rfl <;> first | rfl | exact hx
abbrev RdQ (S : List UInt8) (ρ : Env) (w : World) (xv : Value) (v : Value) (q' : RS) : Ending → World → Prop := fun e w' => e = .returned v ∧ Fr w [(ρ 0).1] w' ∧ RowAt ρ 0 (rdR S q' (.v xv)) w'
theorem mvA {ρ σ : Env} {r : Nat} {S : List UInt8} {q : RS} {xv : Value} {w : World} (h : RowAt σ r (rdR S q (.v xv)) w) (e : σ r = ρ r) : RowAt ρ r (rdR S q (.v xv)) w := by
  have hl : ∀ σ : Env, lst σ (rdR S q (.v xv)).ps = [stv S, .int .i64 (q.at' : Int), xv, .int .i64 q.e] := fun σ => rfl
  unfold RowAt at h ⊢
  rw [← e]
  exact h
theorem rd_fin {S : List UInt8} {w w' : World} {ρ ρ' : Env} {xv v : Value} {q' : RS} (hf : Fr w [(ρ 0).1] w') (he : ∀ r, r < 1000 → ρ' r = ρ r) (hq : ∀ p ∈ [(0, rdR S q' (.v xv))], RowAt ρ' p.1 p.2 w' ∧ pok p.2.ps ∧ (p.2.w = true → w.heap.size ≤ (ρ' p.1).1 ∨ (ρ' p.1).1 ∈ [(ρ 0).1])) : RdQ S ρ w xv v q' (.returned v) w' :=
  ⟨rfl, hf, mvA (hq _ (List.mem_singleton.2 rfl)).1 (he 0 (by decide))⟩
theorem rd_init {S : List UInt8} {w : World} {ρ : Env} {xv : Value} {q : RS} {tv : TV} (hx : xv.oneCell' = true) (h : RowAt ρ 0 (rdR S q (.v xv)) w) (ht : tv.ok) (hi : tv.ids = []) : Init w [(ρ 0).1] ρ [ptrTo 0, tv] [(0, rdR S q (.v xv))] [] := by
  refine init_rw ⟨trivial, ht, trivial⟩ ?_ rfl rfl (fun p hp => ?_) (fun p hp _ => ?_) (fun p hp q hq hne => ?_)
  · simp only [List.all_cons, hi, List.all_nil, Bool.and_true]; rfl
  · obtain rfl := List.mem_singleton.1 hp; exact ⟨h, rd_ok S q _ hx⟩
  · obtain rfl := List.mem_singleton.1 hp; simp
  · obtain rfl := List.mem_singleton.1 hp; obtain rfl := List.mem_singleton.1 hq; exact absurd rfl hne
/-- wrong. -/
theorem wrong_any (S : List UInt8) (q : RS) (b : Bool) (xv : Value) (hx : xv.oneCell' = true) (ρ : Env) (w : World) (h : RowAt ρ 0 (rdR S q (.v xv)) w) : Calls Try.prog 26 #[(ptrTo 0).val ρ, .bool b] w (RdQ S ρ w xv (.tuple #[]) (wrongD b q)) := by
  refine At.calls (args := [ptrTo 0, .v (.bool b)]) (rows := [(0, rdR S q (.v xv))]) (gl := []) (wr := [(ρ 0).1]) (ρ := ρ) Try.func26 rfl rfl (rd_init hx h rfl rfl) rfl ?_
  obtain ⟨a, l, e⟩ := q
  cases b with
  | false => exact At.finR rfl [] trivial [.n] (rows2 := [(0, rdR S ⟨a, l, e⟩ (.v xv))]) (x := .tup []) (ob := [false = false]) (by kernel_rfl) ⟨rfl, trivial⟩ fun ρ' w' hf he _ hq => rd_fin hf he hq
  | true =>
    by_cases h0 : e = 0
    · subst h0
      exact At.finR rfl [] trivial [.y] (rows2 := [(0, rdR S ⟨a, l, 4⟩ (.v xv))]) (x := .tup []) (ob := [true = true]) (by kernel_rfl) ⟨rfl, trivial⟩ fun ρ' w' hf he _ hq => rd_fin hf he hq
    · have ew : wrongD true (⟨a, l, e⟩ : RS) = ⟨a, l, e⟩ := wrong_err h0
      rw [ew]
      exact At.finR rfl [] trivial [.n] (rows2 := [(0, rdR S ⟨a, l, e⟩ (.v xv))]) (x := .tup []) (ob := [(e == 0) = false]) (by kernel_rfl) ⟨by simpa using h0, trivial⟩ fun ρ' w' hf he _ hq => rd_fin hf he hq
abbrev tmT (m : Nat) (n : Nat) (j : Nat) : List (Nat × TV) := [(0, ptrTo 0), (1, .int .i64 (m : Int)), (5, .int .u64 (n : Int)), (6, .int .i64 (j : Int))]
abbrev tmU (m n p f i : Nat) : List (Nat × TV) := [(0, ptrTo 0), (1, .int .i64 (m : Int)), (5, .int .u64 (n : Int)), (7, .int .i64 (p : Int)), (8, .int .i64 (f : Int)), (9, .int .i64 (i : Int))]
/-- text. -/
theorem text_any (S : List UInt8) (q : RS) (m : Nat) (xv : Value) (hx : xv.oneCell' = true) (hS : S.length ≤ 1000000000000) (hm : m ≤ 1000000000000) (ha : q.at' ≤ S.length) (ρ : Env) (w : World) (h : RowAt ρ 0 (rdR S q (.v xv)) w) : Calls Try.prog 37 #[(ptrTo 0).val ρ, .int .i64 (m : Int)] w (RdQ S ρ w xv (stv (textD S m q).1) (textD S m q).2) := by
  refine At.calls (args := [ptrTo 0, .int .i64 (m : Int)]) (rows := [(0, rdR S q (.v xv))]) (gl := []) (wr := [(ρ 0).1]) (ρ := ρ) Try.func37 rfl rfl (rd_init hx h rfl rfl) rfl ?_
  obtain ⟨a, l, e⟩ := q
  by_cases h0 : e ≠ 0
  · rw [text_err S (q := ⟨a, l, e⟩) h0]
    exact At.finR rfl [] trivial [.y] (rows2 := [(0, rdR S ⟨a, l, e⟩ (.v xv))]) (x := .v (stv [])) (ob := [(e != 0) = true]) (by kernel_rfl) ⟨by simpa using h0, trivial⟩ fun ρ' w' hf he _ hq => rd_fin hf he hq
  obtain rfl : e = 0 := by simpa using h0
  have ha2 : a ≤ S.length := ha
  obtain ⟨r, hr⟩ : ∃ r, r = S.drop a := ⟨_, rfl⟩
  have hrl : r.length = S.length - a := by rw [hr, List.length_drop]
  by_cases h8 : r.length < 8
  · have hc : cutT m (S.drop a) = .more := by rw [← hr]; unfold cutT; rw [if_pos h8]
    rw [text_more S (q := ⟨a, l, 0⟩) rfl hc]
    exact At.finR rfl [] trivial [.n, .y] (rows2 := [(0, rdR S ⟨a, l, 5⟩ (.v xv))]) (x := .v (stv [])) (ob := [false = false, inI ((S.length : Int) - (a : Int)), decide ((S.length : Int) - (a : Int) < 8) = true]) (by kernel_rfl) ⟨rfl, ⟨by omega, by omega⟩, decide_eq_true (by omega), trivial⟩ fun ρ' w' hf he _ hq => rd_fin hf he hq
  have hend : At Try.prog w ⟨[(ρ 0).1], ρ, []⟩ Try.f37.ntmps [] (lp Try.f37 0) (EndX Try.prog Try.f37 (RdQ S ρ w xv (stv (textD S m ⟨a, l, 0⟩).1) (textD S m ⟨a, l, 0⟩).2)) (tmT m (gN r 8) 8) [(0, rdR S ⟨a, l, 0⟩ (.v xv))] := by
    obtain ⟨n, hn⟩ : ∃ n, n = gN r 8 := ⟨_, rfl⟩
    have hnl : n < 18446744073709551616 := by rw [hn]; exact gN_lt r 8
    have hn8 : leN (r.take 8) = n := hn.symm
    have hwm : IntKind.u64.wrap (m : Int) = (m : Int) := by rw [IntKind.wrap_u64]; omega
    rw [← hn]
    by_cases h1 : m < n
    · have hc : cutT m (S.drop a) = .form := by rw [← hr]; unfold cutT; rw [if_neg h8, hn8, if_pos h1]
      rw [text_form S (q := ⟨a, l, 0⟩) rfl hc]
      exact At.finR rfl [(2012002, .val (.int .u64 (m : Int)))] ⟨trivial, trivial⟩ [.n, .y] (rows2 := [(0, rdR S ⟨a, l, 4⟩ (.v xv))]) (x := .v (stv [])) (ob := [decide ((8 : Int) < 8) = false, TV.int .u64 (IntKind.u64.wrap (m : Int)) = TV.int .u64 (m : Int), decide ((n : Int) > (m : Int)) = true]) (by kernel_rfl) ⟨rfl, by rw [hwm], decide_eq_true (by omega), trivial⟩ fun ρ' w' hf he _ hq => rd_fin hf he hq
    have hwn : IntKind.i64.wrap (n : Int) = (n : Int) := by rw [IntKind.wrap_i64]; omega
    have hp : ((n : Int) + 7) / 8 * 8 = ((padN n : Nat) : Int) := by unfold padN; omega
    have hpl := pad_le n
    have hp3 : padN n ≤ n + 7 := by unfold padN; omega
    have hp4 : IntKind.i64.wrap (((n : Int) + 7) / 8) = ((n : Int) + 7) / 8 := by rw [IntKind.wrap_i64]; omega
    have h7 : 0 ≤ (n : Int) + 7 ∧ (0 : Int) < 8 := ⟨by omega, by omega⟩
    by_cases h2 : r.length < 8 + padN n
    · have hc : cutT m (S.drop a) = .more := by rw [← hr]; unfold cutT; rw [if_neg h8, hn8, if_neg h1, if_pos h2]
      rw [text_more S (q := ⟨a, l, 0⟩) rfl hc]
      exact At.finR rfl [(2012002, .val (.int .u64 (m : Int))), (2015001, .val (.int .i64 (n : Int))), (2015004, .val (.int .i64 (padN n : Nat))), (2016004, .val (.int .i64 (a + 8 : Nat)))] ⟨trivial, trivial, trivial, trivial, trivial⟩ [.n, .n, .y] (rows2 := [(0, rdR S ⟨a, l, 5⟩ (.v xv))]) (x := .v (stv [])) (ob := [decide ((8 : Int) < 8) = false, TV.int .u64 (IntKind.u64.wrap (m : Int)) = TV.int .u64 (m : Int), decide ((n : Int) > (m : Int)) = false, TV.int .i64 (IntKind.i64.wrap (n : Int)) = TV.int .i64 (n : Int), inI ((n : Int) + 7), 0 ≤ (n : Int) + 7 ∧ (0 : Int) < 8, IntKind.i64.wrap (((n : Int) + 7) / 8) = ((n : Int) + 7) / 8, TV.int .i64 (((n : Int) + 7) / 8 * 8) = TV.int .i64 (padN n : Nat), inI (((n : Int) + 7) / 8 * 8), TV.int .i64 ((a : Int) + 8) = TV.int .i64 (a + 8 : Nat), inI ((a : Int) + 8), inI ((S.length : Int) - ((a + 8 : Nat) : Int)), decide ((S.length : Int) - ((a + 8 : Nat) : Int) < ((padN n : Nat) : Int)) = true]) (by kernel_rfl) ⟨rfl, by rw [hwm], decide_eq_false (by omega), by rw [hwn], ⟨by omega, by omega⟩, h7, hp4, by rw [hp], ⟨by omega, by omega⟩, rfl, ⟨by omega, by omega⟩, ⟨by omega, by omega⟩, decide_eq_true (by omega), trivial⟩ fun ρ' w' hf he _ hq => rd_fin hf he hq
    refine At.run rfl [(2012002, .val (.int .u64 (m : Int))), (2015001, .val (.int .i64 (n : Int))), (2015004, .val (.int .i64 (padN n : Nat))), (2016004, .val (.int .i64 (a + 8 : Nat))), (2020002, .val (.int .i64 (n : Int))), (2020003, .val (.int .i64 (a + 8 + n : Nat)))] ⟨trivial, trivial, trivial, trivial, trivial, trivial, trivial⟩ [.n, .n, .n] (tm2 := tmU m n (padN n) (a + 8) (a + 8 + n)) (rows2 := [(0, rdR S ⟨a, l, 0⟩ (.v xv))]) (ob := [decide ((8 : Int) < 8) = false, TV.int .u64 (IntKind.u64.wrap (m : Int)) = TV.int .u64 (m : Int), decide ((n : Int) > (m : Int)) = false, TV.int .i64 (IntKind.i64.wrap (n : Int)) = TV.int .i64 (n : Int), inI ((n : Int) + 7), 0 ≤ (n : Int) + 7 ∧ (0 : Int) < 8, IntKind.i64.wrap (((n : Int) + 7) / 8) = ((n : Int) + 7) / 8, TV.int .i64 (((n : Int) + 7) / 8 * 8) = TV.int .i64 (padN n : Nat), inI (((n : Int) + 7) / 8 * 8), TV.int .i64 ((a : Int) + 8) = TV.int .i64 (a + 8 : Nat), inI ((a : Int) + 8), inI ((S.length : Int) - ((a + 8 : Nat) : Int)), decide ((S.length : Int) - ((a + 8 : Nat) : Int) < ((padN n : Nat) : Int)) = false, TV.int .i64 (IntKind.i64.wrap (n : Int)) = TV.int .i64 (n : Int), TV.int .i64 (((a + 8 : Nat) : Int) + (n : Int)) = TV.int .i64 (a + 8 + n : Nat), inI (((a + 8 : Nat) : Int) + (n : Int))]) (td := lp Try.f37 1) (by kernel_rfl) ⟨rfl, by rw [hwm], decide_eq_false (by omega), by rw [hwn], ⟨by omega, by omega⟩, h7, hp4, by rw [hp], ⟨by omega, by omega⟩, rfl, ⟨by omega, by omega⟩, ⟨by omega, by omega⟩, decide_eq_false (by omega), by rw [hwn], rfl, ⟨by omega, by omega⟩, trivial⟩ rfl rfl (by intro h; cases h) ?_
    have hfill : ∀ i : Nat, (a + 8 + n ≤ i ∧ i ≤ a + 8 + padN n ∧ ∀ j, a + 8 + n ≤ j → j < i → S.getD j 0 = 0) → At Try.prog w ⟨[(ρ 0).1], ρ, []⟩ Try.f37.ntmps [] (lp Try.f37 1) (EndX Try.prog Try.f37 (RdQ S ρ w xv (stv (textD S m ⟨a, l, 0⟩).1) (textD S m ⟨a, l, 0⟩).2)) (tmU m n (padN n) (a + 8) i) [(0, rdR S ⟨a, l, 0⟩ (.v xv))] := by
      refine At.loop (fun i : Nat => tmU m n (padN n) (a + 8) i) (fun _ => [(0, rdR S ⟨a, l, 0⟩ (.v xv))]) (fun i => a + 8 + n ≤ i ∧ i ≤ a + 8 + padN n ∧ ∀ j, a + 8 + n ≤ j → j < i → S.getD j 0 = 0) (fun i => a + 8 + padN n - i) fun i hi ih => ?_
      obtain ⟨hi1, hi2, hi3⟩ := hi
      have hget : ∀ k, (r.drop (8 + n)).getD k 0 = S.getD (a + 8 + n + k) 0 := fun k => by
        rw [hr, List.drop_drop, List.getD_eq_getElem?_getD, List.getElem?_drop, List.getD_eq_getElem?_getD]
        congr 2; omega
      have hI8 : inI (((a + 8 : Nat) : Int) + ((padN n : Nat) : Int)) := ⟨by omega, by omega⟩
      by_cases hlt : i < a + 8 + padN n
      · by_cases hz : S.getD i 0 = 0
        · have h9 := ih (i + 1) ⟨by omega, by omega, fun j hj1 hj2 => by
            by_cases e : j < i
            · exact hi3 j hj1 e
            · obtain rfl : j = i := by omega
              exact hz⟩ (by omega)
          exact At.run rfl [] trivial [.y, .n] (tm2 := tmU m n (padN n) (a + 8) (i + 1)) (rows2 := [(0, rdR S ⟨a, l, 0⟩ (.v xv))]) (ob := [inI (((a + 8 : Nat) : Int) + ((padN n : Nat) : Int)), decide ((i : Int) < ((a + 8 : Nat) : Int) + ((padN n : Nat) : Int)) = true, 0 ≤ (i : Int) ∧ (i : Int) < (S.length : Int), (((S.getD ((i : Int)).toNat 0).toNat : Int) != 0) = false, inI ((i : Int) + 1)]) (td := lp Try.f37 1) (by kernel_rfl) ⟨hI8, decide_eq_true (by omega), ⟨by omega, by omega⟩, by rw [Int.toNat_natCast, hz]; rfl, ⟨by omega, by omega⟩, trivial⟩ rfl rfl (by intro h; cases h) h9
        · have hc : cutT m (S.drop a) = .form := by
            rw [← hr]; unfold cutT; rw [if_neg h8, hn8, if_neg h1, if_neg h2, if_neg]
            intro hall
            apply hz
            have hk : i - (a + 8 + n) < ((r.drop (8 + n)).take (padN n - n)).length := by rw [List.length_take, List.length_drop]; omega
            have := List.all_eq_true.1 hall _ (List.getElem_mem hk)
            rw [List.getElem_take] at this
            have h5 := hget (i - (a + 8 + n))
            rw [List.getD_eq_getElem?_getD, List.getElem?_eq_getElem (by rw [List.length_drop]; omega), show a + 8 + n + (i - (a + 8 + n)) = i by omega] at h5
            rw [← h5]
            simpa using this
          rw [text_form S (q := ⟨a, l, 0⟩) rfl hc]
          exact At.finR rfl [] trivial [.y, .y] (rows2 := [(0, rdR S ⟨a, l, 4⟩ (.v xv))]) (x := .v (stv [])) (ob := [inI (((a + 8 : Nat) : Int) + ((padN n : Nat) : Int)), decide ((i : Int) < ((a + 8 : Nat) : Int) + ((padN n : Nat) : Int)) = true, 0 ≤ (i : Int) ∧ (i : Int) < (S.length : Int), (((S.getD ((i : Int)).toNat 0).toNat : Int) != 0) = true]) (by kernel_rfl) ⟨hI8, decide_eq_true (by omega), ⟨by omega, by omega⟩, by
            rw [Int.toNat_natCast]
            have : (S.getD i 0).toNat ≠ 0 := fun h => hz (UInt8.toNat_inj.1 h)
            simpa using this, trivial⟩ fun ρ' w' hf he _ hq => rd_fin hf he hq
      · obtain rfl : i = a + 8 + padN n := by omega
        have hc : cutT m (S.drop a) = .ok ((r.drop 8).take n) (r.drop (8 + padN n)) := by
          rw [← hr]; unfold cutT; rw [if_neg h8, hn8, if_neg h1, if_neg h2, if_pos]
          refine List.all_eq_true.2 fun x hx => ?_
          obtain ⟨k, hk, rfl⟩ := List.getElem_of_mem hx
          rw [List.length_take, List.length_drop] at hk
          have h5 := hget k
          rw [List.getD_eq_getElem?_getD, List.getElem?_eq_getElem (by rw [List.length_drop]; omega), hi3 (a + 8 + n + k) (by omega) (by omega)] at h5
          rw [List.getElem_take]
          simpa using h5
        have hlen : ((r.drop 8).take n).length = n := by rw [List.length_take, List.length_drop]; omega
        rw [text_ok S (q := ⟨a, l, 0⟩) rfl hc, hlen]
        have hs : (S.take (((a + 8 : Nat) : Int) + (n : Int)).toNat).drop ((a + 8 : Nat) : Int).toNat = (r.drop 8).take n := by
          rw [Int.toNat_natCast, show (((a + 8 : Nat) : Int) + (n : Int)).toNat = a + 8 + n by omega, hr, List.drop_drop, List.drop_take, show a + 8 + n - (a + 8) = n by omega]
        refine At.finR rfl [(2027007, .val (.int .i64 (n : Int))), (2026003, .val (.int .i64 (a + (8 + padN n) : Nat)))] ⟨trivial, trivial, trivial⟩ [.n] (rows2 := [(0, rdR S ⟨a + (8 + padN n), l, 0⟩ (.v xv))]) (x := .v (stv ((S.take (((a + 8 : Nat) : Int) + (n : Int)).toNat).drop ((a + 8 : Nat) : Int).toNat))) (ob := [inI (((a + 8 : Nat) : Int) + ((padN n : Nat) : Int)), decide (((a + 8 + padN n : Nat) : Int) < ((a + 8 : Nat) : Int) + ((padN n : Nat) : Int)) = false, TV.int .i64 (((a + 8 : Nat) : Int) + ((padN n : Nat) : Int)) = TV.int .i64 (a + (8 + padN n) : Nat), inI (((a + 8 : Nat) : Int) + ((padN n : Nat) : Int)), TV.int .i64 (IntKind.i64.wrap (n : Int)) = TV.int .i64 (n : Int), inI (((a + 8 : Nat) : Int) + (n : Int)), 0 ≤ ((a + 8 : Nat) : Int) + (n : Int) ∧ ((a + 8 : Nat) : Int) + (n : Int) ≤ (S.length : Int), 0 ≤ ((a + 8 : Nat) : Int) ∧ ((a + 8 : Nat) : Int) ≤ ((a + 8 : Nat) : Int) + (n : Int)]) (by kernel_rfl) ⟨hI8, decide_eq_false (by omega), tv_int (by omega), hI8, by rw [hwn], ⟨by omega, by omega⟩, ⟨by omega, by omega⟩, ⟨by omega, by omega⟩, trivial⟩ fun ρ' w' hf he _ hq => ?_
        have h6 := rd_fin (v := stv ((r.drop 8).take n)) hf he hq
        rw [← hs] at h6 ⊢
        exact h6
    exact hfill (a + 8 + n) ⟨Nat.le_refl _, by omega, fun j h1 h2 => by omega⟩
  have hloop : ∀ j : Nat, j ≤ 8 → At Try.prog w ⟨[(ρ 0).1], ρ, []⟩ Try.f37.ntmps [] (lp Try.f37 0) (EndX Try.prog Try.f37 (RdQ S ρ w xv (stv (textD S m ⟨a, l, 0⟩).1) (textD S m ⟨a, l, 0⟩).2)) (tmT m (gN r j) j) [(0, rdR S ⟨a, l, 0⟩ (.v xv))] := by
    refine At.loop (fun j : Nat => tmT m (gN r j) j) (fun _ => [(0, rdR S ⟨a, l, 0⟩ (.v xv))]) (fun j => j ≤ 8) (fun j => 8 - j) fun j hj ih => ?_
    by_cases h : j < 8
    · have h9 := ih (j + 1) (by omega) (by omega)
      have hg : S.getD ((a : Int) + (j : Int)).toNat 0 = r.getD j 0 := by
        rw [hr, List.getD_eq_getElem?_getD, List.getD_eq_getElem?_getD, List.getElem?_drop, show ((a : Int) + (j : Int)).toNat = a + j by omega]
      have hb := (r.getD j 0).toNat_lt
      exact At.run rfl [(2011016, .val (.int .u64 (gN r (j + 1) : Nat)))] ⟨trivial, trivial⟩ [.y] (tm2 := tmT m (gN r (j + 1)) (j + 1)) (rows2 := [(0, rdR S ⟨a, l, 0⟩ (.v xv))]) (ob := [decide ((j : Int) < 8) = true, inI ((a : Int) + (j : Int)), 0 ≤ (a : Int) + (j : Int) ∧ (a : Int) + (j : Int) < (S.length : Int), IntKind.u64.wrap ((S.getD ((a : Int) + (j : Int)).toNat 0).toNat : Int) = ((S.getD ((a : Int) + (j : Int)).toNat 0).toNat : Int), inI (8 * (j : Int)), 0 ≤ 8 * (j : Int) ∧ 8 * (j : Int) ≤ 64, TV.int .u64 (bits .or .u64 (gN r j : Int) (IntKind.u64.wrap (((S.getD ((a : Int) + (j : Int)).toNat 0).toNat : Int) * 2 ^ (8 * (j : Int)).toNat))) = TV.int .u64 (gN r (j + 1) : Nat), inI ((j : Int) + 1)]) (td := lp Try.f37 0) (by kernel_rfl)
        ⟨decide_eq_true (by omega), ⟨by omega, by omega⟩, ⟨by omega, by omega⟩, by rw [hg, IntKind.wrap_u64]; omega, ⟨by omega, by omega⟩, ⟨by omega, by omega⟩, by rw [hg, or_word _ _ _ (gN_lt r j) (by omega) h, gN_succ r j (by omega)], ⟨by omega, by omega⟩, trivial⟩ rfl rfl (by intro h; cases h) h9
    · obtain rfl : j = 8 := by omega
      exact hend
  exact At.run rfl [] trivial [.n, .n] (tm2 := tmT m (gN r 0) 0) (rows2 := [(0, rdR S ⟨a, l, 0⟩ (.v xv))]) (ob := [false = false, inI ((S.length : Int) - (a : Int)), decide ((S.length : Int) - (a : Int) < 8) = false]) (td := lp Try.f37 0) (by kernel_rfl) ⟨rfl, ⟨by omega, by omega⟩, decide_eq_false (by omega), trivial⟩ rfl rfl (by intro h; cases h) (hloop 0 (by omega))
end
end Go.Proofs.Ytglipljilcdboaa
/- The engine: a slice's capacity, where a row tells it, as a letter; lists of duties. No condition of its own. -/
namespace Go.Proofs.Ytglipljilcdboaa.E
set_option linter.unusedSimpArgs false
open Go Go.RowKit
set_option linter.unusedVariables false
def allL : List (List Prop) → Prop
  | [] => True
  | l :: m => all l ∧ allL m
theorem all_flat : ∀ {ls : List (List Prop)}, allL ls → all ls.flatten
  | [], _ => trivial
  | _ :: _, h => by rw [List.flatten_cons]; exact all_append.2 ⟨h.1, all_flat h.2⟩
theorem findT_swap {t u : Nat} {x y z : TV} {post : List (Nat × TV)} : ∀ {pre : List (Nat × TV)}, findT (pre ++ (t, y) :: post) u = some z → findT (pre ++ (t, x) :: post) u = some z ∨ (z = y ∧ findT (pre ++ (t, x) :: post) u = some x)
  | [], h => by
    have h2 : (bif Nat.beq t u then some y else findT post u) = some z := h
    show (bif Nat.beq t u then some x else findT post u) = some z ∨ (z = y ∧ (bif Nat.beq t u then some x else findT post u) = some x)
    cases hb : Nat.beq t u with
    | true => rw [hb] at h2; exact .inr ⟨(Option.some.inj h2).symm, rfl⟩
    | false => rw [hb] at h2; exact .inl h2
  | p :: pre, h => by
    have h2 : (bif Nat.beq p.1 u then some p.2 else findT (pre ++ (t, y) :: post) u) = some z := h
    show (bif Nat.beq p.1 u then some p.2 else findT (pre ++ (t, x) :: post) u) = some z ∨ (z = y ∧ (bif Nat.beq p.1 u then some p.2 else findT (pre ++ (t, x) :: post) u) = some x)
    cases hb : Nat.beq p.1 u with
    | true => rw [hb] at h2; exact .inl h2
    | false => rw [hb] at h2; exact findT_swap h2
/-- A slice of a whole row: its capacity is some number that is great enough. -/
theorem At.cap {r : Option Nat} {mk : List Nat} {kn : List (Nat × Blk)} {P : Program} {w0 : World} {wr : Bs} {n : Nat} {gl : List Nat} {todo : List Item} {Q : Exit → Act → World → Prop} {rows : List (Nat × Row)} (pre post : List (Nat × TV)) (t q len k : Nat) (row : Row) {e : TypeId}
    (hk : 0 < k) (hr : findR rows q = some row) (hc : row.cp = some (e, k)) (hl : ∀ ρ, (lst ρ row.ps).length = len * k)
    (h : ∀ c, c + len ≤ maxLen → At P w0 wr n gl todo Q (pre ++ (t, .s (.lf (.sl q 0 0 k len (some (c + len))))) :: post) rows r mk kn) :
    At P w0 wr n gl todo Q (pre ++ (t, .s (.lf (.sl q 0 0 k len none))) :: post) rows r mk kn := by
  intro a w ρ hd
  obtain ⟨g1, _⟩ := hd.rw q row hr
  obtain ⟨g2, g3, g4, _⟩ := g1.2.2.1 e k hc
  rw [hl] at g4
  have hle : len ≤ (ρ q).3 := Nat.le_of_mul_le_mul_right g4 hk
  refine h ((ρ q).3 - len) (by omega) a w ρ ⟨hd.sz, hd.df, hd.mf, hd.ko, fun u x hx => ?_, hd.rw, hd.ds, hd.fr, hd.e0, hd.ku, hd.gl, hd.kn⟩
  rcases findT_swap (x := .s (.lf (.sl q 0 0 k len none))) hx with h1 | ⟨rfl, h1⟩
  · exact hd.tm u x h1
  · obtain ⟨q1, q2, q3⟩ := hd.tm u _ h1
    refine ⟨?_, trivial, q3⟩
    rw [q1]
    simp only [TV.val, SV.val, Lf.val, capOf]
    rw [show (ρ q).3 - len + len = (ρ q).3 by omega, Nat.sub_zero]
end Go.Proofs.Ytglipljilcdboaa.E
/- What the document asks of texts: whether one has a byte, how many names, the last name, a name in a directory, which names may be. Its condition: a length that fits. -/
namespace Go.Proofs.Ytglipljilcdboaa
open Go.RowKit Go.Shelf
set_option linter.unusedVariables false
set_option linter.unusedSimpArgs false
theorem take_snoc (s : ByteArray) (k : Nat) (h : k < s.size) : s.data.toList.take (k + 1) = s.data.toList.take k ++ [s[k]] := by
  have h2 : k < s.data.toList.length := h
  rw [List.take_add_one, List.getElem?_eq_getElem h2]
  rfl
theorem toNat_ne {a b : UInt8} (h : ¬ a = b) : ¬ (a.toNat : Int) = (b.toNat : Int) := fun e => h (UInt8.toNat_inj.1 (by omega))
set_option maxRecDepth 100000 in
set_option maxHeartbeats 1000000 in
theorem has_any (s : ByteArray) (c : UInt8) (hs : s.size ≤ 9223372036854775807) (w : World) : Calls Try.prog 56 #[.string s, .int .u8 (c.toNat : Int)] w fun e w' => e = .returned (.bool (decide (c ∈ s.data.toList))) ∧ w' = w := by
  obtain ⟨b, hb⟩ : ∃ b, Hid (b = decide (c ∈ s.data.toList)) := ⟨_, Lib.hid rfl⟩
  rw [← hb.out]
  have hsl : s.data.toList.length = s.size := rfl
  go_enter Try.func56, Try.ntmps56
  go_wp2
  go_loopw [5] (fun i wr => ∃ k : Nat, k ≤ s.size ∧ i = .int .i64 k ∧ c ∉ s.data.toList.take k ∧ wr = w) (fun i _ => s.size - (intOf i).toNat)
  case atStart => exact ⟨0, Nat.zero_le _, rfl, by simp, rfl⟩
  case round =>
    obtain ⟨k, hk, rfl, hno, rfl⟩ := hrel
    have HNO := Lib.hid hno
    clear hno
    by_cases hlt : k < s.size
    · have hltI : (k : Int) < (s.size : Int) := by omega
      by_cases he : s[k] = c
      · have heI : (s[k].toNat : Int) = (c.toNat : Int) := by rw [he]
        have hz : Hid (b = true) := Lib.hid (by
          rw [hb.out, decide_eq_true_eq, ← he]
          exact List.getElem_mem (l := s.data.toList) hlt)
        clear he
        go_wp2
        go_ret
        exact ⟨by rw [hz.out]; rfl, rfl⟩
      · have heI := toNat_ne he
        have hst : Hid (c ∉ s.data.toList.take (k + 1)) := Lib.hid (by
          rw [take_snoc s k hlt, List.mem_append]
          intro h
          rcases h with h | h
          · exact HNO.out h
          · exact he (List.mem_singleton.1 h).symm)
        clear he
        go_wp2
        go_roundw
        case rel => exact ⟨k + 1, by omega, by first | rfl | simp | go_num, hst.out, trivial⟩
        case measure => simp [intOf]; omega
    · have hltI : ¬ (k : Int) < (s.size : Int) := by omega
      have hz : Hid (b = false) := Lib.hid (by
        rw [hb.out]
        have h := HNO.out
        rw [List.take_of_length_le (by omega)] at h
        exact decide_eq_false h)
      go_wp2
      go_ret
      exact ⟨by rw [hz.out]; rfl, rfl⟩
set_option maxRecDepth 100000 in
set_option maxHeartbeats 1000000 in
theorem deep_any (s : ByteArray) (hs : s.size ≤ 1000000) (w : World) : Calls Try.prog 43 #[.string s] w fun e w' => e = .returned (.int .i64 (deepL s.data.toList : Int)) ∧ w' = w := by
  obtain ⟨b, hb⟩ : ∃ b, Hid (b = deepL s.data.toList) := ⟨_, Lib.hid rfl⟩
  rw [← hb.out]
  have hsl : s.data.toList.length = s.size := rfl
  go_enter Try.func43, Try.ntmps43
  go_wp2
  go_loopw [3, 4] (fun n i wr => ∃ k q : Nat, k ≤ s.size ∧ q ≤ k ∧ n = .int .i64 ((1 + q : Nat) : Int) ∧ i = .int .i64 k ∧ (s.data.toList.take k).count 47 = q ∧ wr = w) (fun n i _ => s.size - (intOf i).toNat)
  case atStart => exact ⟨0, 0, Nat.zero_le _, Nat.le_refl _, rfl, rfl, by simp, rfl⟩
  case round =>
    obtain ⟨k, q, hk, hq, rfl, rfl, hno, rfl⟩ := hrel
    have HNO := Lib.hid hno
    clear hno
    by_cases hlt : k < s.size
    · have hltI : (k : Int) < (s.size : Int) := by omega
      have hst : Hid ((s.data.toList.take (k + 1)).count 47 = q + if s[k] = 47 then 1 else 0) := Lib.hid (by
        rw [take_snoc s k hlt, List.count_append, HNO.out, List.count_cons, List.count_nil]
        by_cases h : s[k] = 47
        · rw [if_pos h, if_pos (by simpa using h)]
        · rw [if_neg h, if_neg (by simpa using h)])
      by_cases he : s[k] = 47
      · have heI : (s[k].toNat : Int) = 47 := by rw [he]; rfl
        rw [if_pos he] at hst
        clear he
        go_wp2
        go_roundw
        case rel => exact ⟨k + 1, q + 1, by omega, by omega, by first | rfl | simp | go_num | (congr 1; omega), by first | rfl | simp | go_num, hst.out, trivial⟩
        case measure => simp [intOf]; omega
      · have heI : ¬ (s[k].toNat : Int) = 47 := fun e => he (UInt8.toNat_inj.1 (by show _ = 47; omega))
        rw [if_neg he] at hst
        clear he
        go_wp2
        go_roundw
        case rel => exact ⟨k + 1, q, by omega, by omega, by first | rfl | simp | go_num, by first | rfl | simp | go_num, hst.out, trivial⟩
        case measure => simp [intOf]; omega
    · have hltI : ¬ (k : Int) < (s.size : Int) := by omega
      have hz : Hid (b = 1 + q) := Lib.hid (by
        rw [hb.out]
        have h := HNO.out
        rw [List.take_of_length_le (by omega)] at h
        unfold deepL
        rw [h])
      go_wp2
      go_ret
      exact ⟨by rw [hz.out]; rfl, rfl⟩
theorem cut_at (a n : List UInt8) (hn : 47 ∉ n) : cutL (a ++ 47 :: n) = (a, n) := by
  unfold cutL
  rw [if_pos (by simp)]
  have hr : (a ++ 47 :: n).reverse = n.reverse ++ 47 :: a.reverse := by simp
  rw [hr, tw_app _ (by simpa using hn), List.reverse_reverse]
  have hl : (a ++ 47 :: n).length - n.length - 1 = a.length := by rw [List.length_append, List.length_cons]; omega
  simp only [hl, List.take_left']
theorem cut_none (s : List UInt8) (h : 47 ∉ s) : cutL s = ([], s) := by
  unfold cutL
  rw [if_neg h]
theorem results_tmps {fn : Func} {a b : Tmp} (h : fn.results = #[.tmp a, .tmp b]) (tmps : Array Value) (P : Program) (w : World) : (results fn tmps).run P w = .ok (.tuple #[tmps.getD a undef, tmps.getD b undef]) w := by
  unfold results
  rw [h]
  simp [Array.mapM_eq_mapM_toList]
def strV (l : List UInt8) : Value := .string ⟨l.toArray⟩
theorem list_split (l : List UInt8) (k : Nat) (h : k < l.length) : l = l.take k ++ l[k] :: l.drop (k + 1) := by
  rw [← List.drop_eq_getElem_cons h, List.take_append_drop]
theorem bytes_eta (s : ByteArray) : s = ⟨s.data.toList.toArray⟩ := by cases s; rfl
theorem ext_take (s : ByteArray) (k : Nat) : s.extract 0 k = ⟨(s.data.toList.take k).toArray⟩ := by
  apply ByteArray.ext
  apply Array.toList_inj.1
  simp only [ByteArray.data_extract, Array.toList_extract, List.extract, List.drop_zero, Nat.sub_zero]
theorem ext_drop (s : ByteArray) (k n : Nat) (h : n = s.size) : s.extract k n = ⟨(s.data.toList.drop k).toArray⟩ := by
  apply ByteArray.ext
  apply Array.toList_inj.1
  have hl : s.data.toList.length = s.size := rfl
  simp only [ByteArray.data_extract, Array.toList_extract, List.extract]
  rw [List.take_of_length_le (by rw [List.length_drop]; omega)]
set_option maxRecDepth 100000 in
set_option maxHeartbeats 1000000 in
theorem cut_any (s : ByteArray) (hs : s.size ≤ 1000000) (w : World) : Calls Try.prog 41 #[.string s] w fun e w' => e = .returned (.tuple #[strV (cutL s.data.toList).1, strV (cutL s.data.toList).2]) ∧ Below w.heap.size w w' := by
  obtain ⟨b, hb⟩ : ∃ b, Hid (b = cutL s.data.toList) := ⟨_, Lib.hid rfl⟩
  rw [← hb.out]
  have hsl : s.data.toList.length = s.size := rfl
  go_enter Try.func41, Try.ntmps41
  go_wp2
  go_loopw [4] (fun i wr => ∃ k : Nat, k ≤ s.size ∧ i = .int .i64 ((k : Int) - 1) ∧ 47 ∉ s.data.toList.drop k ∧ wr = w) (fun i _ => (intOf i + 1).toNat)
  case atStart => exact ⟨s.size, Nat.le_refl _, by first | rfl | simp | go_num, by rw [List.drop_of_length_le (by omega)]; simp, rfl⟩
  case round =>
    obtain ⟨k, hk, rfl, hno, rfl⟩ := hrel
    have HNO := Lib.hid hno
    clear hno
    by_cases hlt : 0 < k
    · obtain ⟨j, rfl⟩ : ∃ j, k = j + 1 := ⟨k - 1, by omega⟩
      have hj : ((j + 1 : Nat) : Int) - 1 = (j : Int) := by omega
      rw [hj]
      have hltI : (j : Int) ≥ 0 := by omega
      have hjs : (j : Int) < (s.size : Int) := by omega
      have hjs2 : j < s.size := by omega
      by_cases he : s[j] = 47
      · have heI : (s[j].toNat : Int) = 47 := by rw [he]; rfl
        have hz : Hid (b = (s.data.toList.take j, s.data.toList.drop (j + 1))) := Lib.hid (by
          rw [hb.out]
          have h := list_split s.data.toList j hjs2
          rw [show s.data.toList[j] = 47 from he] at h
          conv => lhs; rw [h]
          exact cut_at _ _ HNO.out)
        clear he
        have h1 : ((j : Int) + 1) ≤ (s.size : Int) := by omega
        go_wp2
        go_region
        go_wp2
        exact ⟨rfl, _, results_tmps rfl _ _ _, by rw [hz.out]; show _ = Ending.returned (Value.tuple #[strV _, strV _]); unfold strV; rw [← ext_take, ← ext_drop s (j + 1) s.size rfl]; rfl, (Below.refl _ wr).drew⟩
      · have heI : ¬ (s[j].toNat : Int) = 47 := fun e => he (UInt8.toNat_inj.1 (by show _ = 47; omega))
        have hst : Hid (47 ∉ s.data.toList.drop j) := Lib.hid (by
          rw [List.drop_eq_getElem_cons (show j < s.data.toList.length from hjs2), List.mem_cons]
          intro h
          rcases h with h | h
          · exact he h.symm
          · exact HNO.out h)
        clear he
        go_wp2
        go_roundw
        case rel => exact ⟨j, by omega, by first | rfl | simp | go_num, hst.out, trivial⟩
        case measure => simp [intOf] <;> omega
    · obtain rfl : k = 0 := by omega
      have hz : Hid (b = ([], s.data.toList)) := Lib.hid (by
        rw [hb.out]
        exact cut_none _ HNO.out)
      go_wp2
      exact ⟨rfl, _, results_tmps rfl _ _ _, by rw [hz.out]; rfl, Below.refl _ wr⟩
end Go.Proofs.Ytglipljilcdboaa
/- The document's reader: one of some words; calls of it told as hints. Its conditions: lengths that fit. -/
namespace Go.Proofs.Ytglipljilcdboaa
open Go.RowKit
set_option linter.unusedVariables false
set_option linter.unusedSimpArgs false
section
open E
/-- A row in which another one stands, and its value in its place. -/
theorem rdAt_v {ρ σ : Env} {r0 r : Nat} {S : List UInt8} {q : RS} {x : Lf} {w : World} (h : RowAt ρ r (rdR S q x) w) (e : σ r0 = ρ r) : RowAt σ r0 (rdR S q (.v (x.val ρ))) w := by
  have hl : lst σ (rdR S q (.v (x.val ρ))).ps = lst ρ (rdR S q x).ps := rfl
  unfold RowAt at h ⊢
  rw [e, hl]
  exact h
theorem rdAt_x {ρ σ : Env} {r0 r : Nat} {S : List UInt8} {q : RS} {x : Lf} {w : World} (h : RowAt σ r0 (rdR S q (.v (x.val ρ))) w) (e : σ r0 = ρ r) : RowAt ρ r (rdR S q x) w := by
  have hl : lst σ (rdR S q (.v (x.val ρ))).ps = lst ρ (rdR S q x).ps := rfl
  unfold RowAt at h ⊢
  rw [← e, ← hl]
  exact h
theorem ent37 : Enters Try.prog 37 := enters_of Try.func37 (by kernel_rfl) rfl
theorem ent26 : Enters Try.prog 26 := enters_of Try.func26 (by kernel_rfl) rfl
theorem ent24 : Enters Try.prog 24 := enters_of Try.func24 (by kernel_rfl) rfl
/-- A call that leaves the reader otherwise: of any function that takes it, and a plain value. -/
abbrev hRd (f r : Nat) (S : List UInt8) (x : Lf) (v : Value) (res : TV) (q q' : RS) : Hint := .call ⟨f, fun ρ => #[(ptrTo r).val ρ, v], res, [(r, rdR S q x)], [(r, rdR S q' x)], none, []⟩
theorem hRd_ok {f r id : Nat} {S : List UInt8} {x : Lf} {v : Value} {res : TV} {q q' : RS} {rv : Value} (he : Enters Try.prog f) (hres : res.ok) (hrv : ∀ ρ, res.val ρ = rv) (hx : x.ok) (hid : r ≠ id ∧ id ∉ x.ids)
    (h : ∀ (xv : Value) (hx : xv.oneCell' = true) (ρ : Env) (w : World), RowAt ρ 0 (rdR S q (.v xv)) w → Calls Try.prog f #[(ptrTo 0).val ρ, v] w (RdQ S ρ w xv rv q')) : HintOk Try.prog id (hRd f r S x v res q q') := by
  refine call_ok he hres (fun p hp => ?_) fun ρ w hp => ?_
  · obtain rfl := List.mem_singleton.1 hp
    refine ⟨hid.1, ?_⟩
    simpa [pids, Pc.ids, Lf.ids] using hid.2
  · have h0 := hp _ (List.mem_singleton.2 rfl)
    have hv := rdAt_v (σ := fun _ => ρ r) (r0 := 0) h0 rfl
    refine (h (x.val ρ) (Lf.one_val hx) (fun _ => ρ r) w hv).mono ?_
    rintro e w' ⟨rfl, hf, hr⟩
    refine ⟨⟨0, 0, 0⟩, by rw [hrv], hf, fun p hp => ?_, fun row hrow => by cases hrow⟩
    obtain rfl := List.mem_singleton.1 hp
    exact ⟨rdAt_x (σ := fun _ => ρ r) hr rfl, rd_ok S q' x hx⟩
abbrev hTx (r : Nat) (S : List UInt8) (x : Lf) (m : Nat) (q : RS) : Hint := hRd 37 r S x (.int .i64 (m : Int)) (.v (stv (textD S m q).1)) q (textD S m q).2
theorem hTx_ok {r id : Nat} {S : List UInt8} {x : Lf} {m : Nat} {q : RS} (hx : x.ok) (hid : r ≠ id ∧ id ∉ x.ids) (hS : S.length ≤ 1000000000000) (hm : m ≤ 1000000000000) (ha : q.at' ≤ S.length) : HintOk Try.prog id (hTx r S x m q) :=
  hRd_ok ent37 rfl (fun _ => rfl) hx hid fun xv hx ρ w h => text_any S q m xv hx hS hm ha ρ w h
abbrev hWr (r : Nat) (S : List UInt8) (x : Lf) (b : Bool) (q : RS) : Hint := hRd 26 r S x (.bool b) (.tup []) q (wrongD b q)
theorem hWr_ok {r id : Nat} {S : List UInt8} {x : Lf} {b : Bool} {q : RS} (hx : x.ok) (hid : r ≠ id ∧ id ∉ x.ids) : HintOk Try.prog id (hWr r S x b q) :=
  hRd_ok ent26 (fun _ h => by cases h) (fun _ => rfl) hx hid fun xv hx ρ w h => wrong_any S q b xv hx ρ w h
abbrev wsR (l : List (List UInt8)) : Row := ⟨[.fnc (fun i => [stv (l.getD i [])]) 1 l.length], false, none⟩
theorem ws_ok (l : List (List UInt8)) : pok (wsR l).ps := by
  intro p hp
  obtain rfl := List.mem_singleton.1 hp
  exact fun i _ => ⟨rfl, fun v hv => by obtain rfl := List.mem_singleton.1 hv; rfl⟩
abbrev tm1 (n c M i : Nat) : List (Nat × TV) := [(0, ptrTo 0), (1, .s (.lf (.sl 1 0 0 1 n (some c)))), (5, .int .i64 (M : Int)), (6, .int .i64 (i : Int))]
abbrev tm2' (n c : Nat) (s : List UInt8) (i : Nat) : List (Nat × TV) := [(0, ptrTo 0), (1, .s (.lf (.sl 1 0 0 1 n (some c)))), (7, .v (stv s)), (8, .int .i64 (i : Int))]
theorem most_snoc (l : List (List UInt8)) (i : Nat) (h : i < l.length) : mostD (l.take (i + 1)) = max (mostD (l.take i)) (l.getD i []).length := by
  unfold mostD
  rw [List.take_add_one, List.getElem?_eq_getElem h, List.foldl_append, List.getD_eq_getElem?_getD, List.getElem?_eq_getElem h]
  rfl
theorem most_le (l : List (List UInt8)) (b : Nat) (h : ∀ s ∈ l, s.length ≤ b) : mostD l ≤ b := by
  unfold mostD
  have : ∀ (l : List (List UInt8)) (m : Nat), m ≤ b → (∀ s ∈ l, s.length ≤ b) → l.foldl (fun m w => max m w.length) m ≤ b := by
    intro l
    induction l with
    | nil => intro m hm _; exact hm
    | cons a l ih => intro m hm h; exact ih _ (Nat.max_le.2 ⟨hm, h a (by simp)⟩) (fun s hs => h s (by simp [hs]))
  exact this l 0 (Nat.zero_le _) h
set_option maxRecDepth 100000 in
theorem one_any (S : List UInt8) (l : List (List UInt8)) (q : RS) (c : Nat) (xv : Value) (hx : xv.oneCell' = true) (hS : S.length ≤ 1000000000000) (hl : l.length ≤ 1000) (hll : ∀ s ∈ l, s.length ≤ 1000) (ha : q.at' ≤ S.length) (ρ : Env) (w : World) (h : RowAt ρ 0 (rdR S q (.v xv)) w) (h1 : RowAt ρ 1 (wsR l) w) (hne : (ρ 0).1 ≠ (ρ 1).1) :
    Calls Try.prog 24 #[(ptrTo 0).val ρ, (TV.s (.lf (.sl 1 0 0 1 l.length (some c)))).val ρ] w (RdQ S ρ w xv (stv (oneD S l q).1) (oneD S l q).2) := by
  refine At.calls (args := [ptrTo 0, (TV.s (.lf (.sl 1 0 0 1 l.length (some c))))]) (rows := [(0, rdR S q (.v xv)), (1, wsR l)]) (gl := []) (wr := [(ρ 0).1]) (ρ := ρ) Try.func24 rfl rfl ?_ rfl ?_
  · refine init_rw ⟨trivial, trivial, trivial⟩ rfl rfl rfl (fun p hp => ?_) (fun p hp hw => ?_) (fun p hp r hr hn hw => ?_)
    · simp only [List.mem_cons, List.not_mem_nil, or_false] at hp
      rcases hp with rfl | rfl
      · exact ⟨h, rd_ok S q _ hx⟩
      · exact ⟨h1, ws_ok l⟩
    · simp only [List.mem_cons, List.not_mem_nil, or_false] at hp
      rcases hp with rfl | rfl
      · simp
      · cases hw
    · simp only [List.mem_cons, List.not_mem_nil, or_false] at hp hr
      rcases hp with rfl | rfl
      · rcases hr with rfl | rfl
        · exact absurd rfl hn
        · exact hne
      · cases hw
  obtain ⟨M, hM⟩ : ∃ M, M = mostD l := ⟨_, rfl⟩
  have hM1 : M ≤ 1000 := by rw [hM]; exact most_le l 1000 hll
  obtain ⟨s, hs⟩ : ∃ s, s = (textD S M q).1 := ⟨_, rfl⟩
  obtain ⟨q1, hq1⟩ : ∃ q1, q1 = (textD S M q).2 := ⟨_, rfl⟩
  have kT : HintOk Try.prog 7002 (hRd 37 0 S (.v xv) (.int .i64 (M : Int)) (.v (stv s)) q q1) := by
    rw [hs, hq1]; exact hTx_ok hx ⟨by decide, by simp [Lf.ids]⟩ hS (by omega) ha
  have kW : HintOk Try.prog 13001 (hWr 0 S (.v xv) true q1) := hWr_ok hx ⟨by decide, by simp [Lf.ids]⟩
  have hlen : ∀ i : Nat, i < l.length → (l.getD i []).length ≤ 1000 := fun i hi => by
    rw [List.getD_eq_getElem?_getD, List.getElem?_eq_getElem hi]; exact hll _ (List.getElem_mem hi)
  have hbad : ¬ (q1.e = 0 ∧ s ∈ l) → ∀ (i : Nat) (b : Bool), i ≤ l.length → b = decide ((i : Int) < (l.length : Int)) → (b = true → (q1.e == 0) = false) → At Try.prog w ⟨[(ρ 0).1], ρ, []⟩ Try.f24.ntmps [] (lp Try.f24 1) (EndX Try.prog Try.f24 (RdQ S ρ w xv (stv (oneD S l q).1) (oneD S l q).2)) (tm2' l.length c s i) [(0, rdR S q1 (.v xv)), (1, wsR l)] := by
    intro hno i b hi hb hz
    have e1 : oneD S l q = ([], wrongD true q1) := by
      unfold oneD
      rw [← hM, ← hs, ← hq1, if_neg hno]
    rw [e1]
    cases b with
    | true => exact At.finR rfl [(2009004, .val (.v (.bool true))), (13001, hWr 0 S (.v xv) true q1)] ⟨trivial, kW, trivial⟩ [.n] (rows2 := [(0, rdR S (wrongD true q1) (.v xv))]) (x := .v (stv [])) (ob := [[TV.v (.bool (decide ((i : Int) < (l.length : Int)))) = TV.v (.bool true), (q1.e == 0) = false], qL (hWr 0 S (.v xv) true q1)].flatten) (by kernel_rfl) (all_flat ⟨⟨by rw [← hb], hz rfl, trivial⟩, all_qL _, trivial⟩) fun ρ' w' hf he _ hq => rd_fin hf he hq
    | false => exact At.finR rfl [(2009004, .val (.v (.bool false))), (13001, hWr 0 S (.v xv) true q1)] ⟨trivial, kW, trivial⟩ [.n] (rows2 := [(0, rdR S (wrongD true q1) (.v xv))]) (x := .v (stv [])) (ob := [[TV.v (.bool (decide ((i : Int) < (l.length : Int)))) = TV.v (.bool false), false = false], qL (hWr 0 S (.v xv) true q1)].flatten) (by kernel_rfl) (all_flat ⟨⟨by rw [← hb], rfl, trivial⟩, all_qL _, trivial⟩) fun ρ' w' hf he _ hq => rd_fin hf he hq
  have hfind : At Try.prog w ⟨[(ρ 0).1], ρ, []⟩ Try.f24.ntmps [] (lp Try.f24 1) (EndX Try.prog Try.f24 (RdQ S ρ w xv (stv (oneD S l q).1) (oneD S l q).2)) (tm2' l.length c s 0) [(0, rdR S q1 (.v xv)), (1, wsR l)] := by
    by_cases he : q1.e = 0
    · have hz : (q1.e == 0) = true := by rw [he]; rfl
      have : ∀ i : Nat, (i ≤ l.length ∧ ∀ j, j < i → l.getD j [] ≠ s) → At Try.prog w ⟨[(ρ 0).1], ρ, []⟩ Try.f24.ntmps [] (lp Try.f24 1) (EndX Try.prog Try.f24 (RdQ S ρ w xv (stv (oneD S l q).1) (oneD S l q).2)) (tm2' l.length c s i) [(0, rdR S q1 (.v xv)), (1, wsR l)] := by
        refine At.loop (fun i : Nat => tm2' l.length c s i) (fun _ => [(0, rdR S q1 (.v xv)), (1, wsR l)]) (fun i => i ≤ l.length ∧ ∀ j, j < i → l.getD j [] ≠ s) (fun i => l.length - i) fun i hi ih => ?_
        obtain ⟨hi1, hi2⟩ := hi
        by_cases hlt : i < l.length
        · have ha1 : addN 0 ((i : Int)).toNat = i := by rw [addN_eq]; omega
          by_cases heq : l.getD i [] = s
          · have e1 : oneD S l q = (s, q1) := by
              unfold oneD
              rw [← hM, ← hs, ← hq1, if_pos ⟨he, by rw [← heq, List.getD_eq_getElem?_getD, List.getElem?_eq_getElem hlt]; exact List.getElem_mem hlt⟩]
              rw [hs, hq1]
            rw [e1]
            exact At.finR rfl [(2009004, .val (.v (.bool true)))] ⟨trivial, trivial⟩ [.y, .y] (rows2 := [(0, rdR S q1 (.v xv))]) (x := .v (stv s)) (ob := [TV.v (.bool (decide ((i : Int) < (l.length : Int)))) = TV.v (.bool true), (q1.e == 0) = true, 0 ≤ (i : Int) ∧ (i : Int) < (l.length : Int), addN 0 ((i : Int)).toNat < l.length, (l.getD (addN 0 ((i : Int)).toNat) [] == s) = true]) (by kernel_rfl) ⟨by rw [decide_eq_true (show (i : Int) < (l.length : Int) by omega)], hz, ⟨by omega, by omega⟩, by rw [ha1]; exact hlt, by rw [ha1]; simpa using heq, trivial⟩ fun ρ' w' hf he _ hq => rd_fin hf he hq
          · have h9 := ih (i + 1) ⟨hlt, fun j hj => by
              by_cases e : j < i
              · exact hi2 j e
              · obtain rfl : j = i := by omega
                exact heq⟩ (by omega)
            exact At.run rfl [(2009004, .val (.v (.bool true)))] ⟨trivial, trivial⟩ [.y, .n] (tm2 := tm2' l.length c s (i + 1)) (rows2 := [(0, rdR S q1 (.v xv)), (1, wsR l)]) (ob := [TV.v (.bool (decide ((i : Int) < (l.length : Int)))) = TV.v (.bool true), (q1.e == 0) = true, 0 ≤ (i : Int) ∧ (i : Int) < (l.length : Int), addN 0 ((i : Int)).toNat < l.length, (l.getD (addN 0 ((i : Int)).toNat) [] == s) = false, inI ((i : Int) + 1)]) (td := lp Try.f24 1) (by kernel_rfl) ⟨by rw [decide_eq_true (show (i : Int) < (l.length : Int) by omega)], hz, ⟨by omega, by omega⟩, by rw [ha1]; exact hlt, by rw [ha1]; simpa using heq, ⟨by omega, by omega⟩, trivial⟩ rfl rfl (by intro h; cases h) h9
        · refine hbad (fun hm => ?_) i false hi1 (decide_eq_false (by omega)).symm (fun h => by cases h)
          obtain ⟨j, hj, hj2⟩ := List.getElem_of_mem hm.2
          apply hi2 j (by omega)
          rw [List.getD_eq_getElem?_getD, List.getElem?_eq_getElem hj]
          exact hj2
      exact this 0 ⟨Nat.zero_le _, fun j hj => absurd hj (Nat.not_lt_zero j)⟩
    · exact hbad (fun h => he h.1) 0 (decide (((0 : Nat) : Int) < (l.length : Int))) (Nat.zero_le _) rfl (fun _ => by simpa using he)
  have hmax : ∀ i : Nat, i ≤ l.length → At Try.prog w ⟨[(ρ 0).1], ρ, []⟩ Try.f24.ntmps [] (lp Try.f24 0) (EndX Try.prog Try.f24 (RdQ S ρ w xv (stv (oneD S l q).1) (oneD S l q).2)) (tm1 l.length c (mostD (l.take i)) i) [(0, rdR S q (.v xv)), (1, wsR l)] := by
    refine At.loop (fun i : Nat => tm1 l.length c (mostD (l.take i)) i) (fun _ => [(0, rdR S q (.v xv)), (1, wsR l)]) (fun i => i ≤ l.length) (fun i => l.length - i) fun i hi ih => ?_
    by_cases hlt : i < l.length
    · have h9 := ih (i + 1) hlt (by omega)
      have ha1 : addN 0 ((i : Int)).toNat = i := by rw [addN_eq]; omega
      refine At.run rfl [(2006006, .val (.int .i64 (mostD (l.take (i + 1)) : Nat)))] ⟨trivial, trivial⟩ [.y] (tm2 := tm1 l.length c (mostD (l.take (i + 1))) (i + 1)) (rows2 := [(0, rdR S q (.v xv)), (1, wsR l)]) (ob := [decide ((i : Int) < (l.length : Int)) = true, 0 ≤ (i : Int) ∧ (i : Int) < (l.length : Int), addN 0 ((i : Int)).toNat < l.length, TV.int .i64 (bif true then (if ((l.getD (addN 0 ((i : Int)).toNat) []).length : Int) > (mostD (l.take i) : Int) then ((l.getD (addN 0 ((i : Int)).toNat) []).length : Int) else (mostD (l.take i) : Int)) else (if ((l.getD (addN 0 ((i : Int)).toNat) []).length : Int) < (mostD (l.take i) : Int) then ((l.getD (addN 0 ((i : Int)).toNat) []).length : Int) else (mostD (l.take i) : Int))) = TV.int .i64 (mostD (l.take (i + 1)) : Nat), inI ((i : Int) + 1)]) (td := lp Try.f24 0) (by kernel_rfl) ⟨decide_eq_true (by omega), ⟨by omega, by omega⟩, by rw [ha1]; exact hlt, ?_, ⟨by omega, by omega⟩, trivial⟩ rfl rfl (by intro h; cases h) h9
      rw [ha1, most_snoc l i hlt, cond_true]
      refine tv_int ?_
      split <;> omega
    · obtain rfl : i = l.length := by omega
      rw [List.take_length, ← hM]
      exact At.run rfl [(7002, hRd 37 0 S (.v xv) (.int .i64 (M : Int)) (.v (stv s)) q q1)] ⟨kT, trivial⟩ [.n] (tm2 := tm2' l.length c s 0) (rows2 := [(0, rdR S q1 (.v xv)), (1, wsR l)]) (ob := [[decide ((l.length : Int) < (l.length : Int)) = false], qL (hRd 37 0 S (.v xv) (.int .i64 (M : Int)) (.v (stv s)) q q1)].flatten) (td := lp Try.f24 1) (by kernel_rfl) (all_flat ⟨⟨decide_eq_false (by omega), trivial⟩, all_qL _, trivial⟩) rfl rfl (by intro h; cases h) hfind
  exact At.run rfl [] trivial [] (tm2 := tm1 l.length c 0 0) (rows2 := [(0, rdR S q (.v xv)), (1, wsR l)]) (ob := []) (td := lp Try.f24 0) (by kernel_rfl) trivial rfl rfl (by intro h; cases h) (hmax 0 (Nat.zero_le _))
end
end Go.Proofs.Ytglipljilcdboaa
/- The document's reader: places stay within the bytes, nodes are as many as they may be. No condition but what each names. -/
namespace Go.Proofs.Ytglipljilcdboaa
set_option linter.unusedSimpArgs false
set_option linter.unusedVariables false
section
variable (S : List UInt8)
/-- Within bounds. -/
def inB (q : RS) : Prop := q.at' ≤ S.length ∧ q.l.length ≤ 256
theorem text_b {m : Nat} {q : RS} (h : inB S q) : inB S (textD S m q).2 ∧ (textD S m q).2.l = q.l ∧ (textD S m q).1.length ≤ m := by
  unfold textD
  by_cases h0 : q.e ≠ 0
  · rw [if_pos h0]; exact ⟨h, rfl, Nat.zero_le _⟩
  · rw [if_neg h0]
    cases hc : cutT m (S.drop q.at') with
    | more => exact ⟨h, rfl, Nat.zero_le _⟩
    | form => exact ⟨h, rfl, Nat.zero_le _⟩
    | ok s x =>
      have := cut_ok_len hc
      have h3 := this.2.2
      rw [List.length_drop] at h3
      exact ⟨⟨by show q.at' + _ ≤ _; omega, h.2⟩, rfl, this.1⟩
theorem wrong_b {b : Bool} {q : RS} (h : inB S q) : inB S (wrongD b q) ∧ (wrongD b q).l = q.l := by
  unfold wrongD
  split
  · exact ⟨h, rfl⟩
  · exact ⟨h, rfl⟩
theorem one_b {l : List (List UInt8)} {q : RS} (h : inB S q) : inB S (oneD S l q).2 ∧ (oneD S l q).2.l = q.l := by
  unfold oneD
  have h1 := text_b S (m := mostD l) h
  split
  · exact ⟨h1.1, h1.2.1⟩
  · have h2 := wrong_b S (b := true) h1.1
    exact ⟨h2.1, h2.2.trans h1.2.1⟩
theorem push_b {q : RS} {c : Nd} (h : inB S q) (hl : q.l.length < 256) : inB S { q with l := q.l ++ [c] } := ⟨h.1, by show (q.l ++ [c]).length ≤ 256; rw [List.length_append, List.length_singleton]; omega⟩
theorem file2_b {p : List UInt8} {k : Int} {q : RS} (h : inB S q) (hl : q.l.length < 256) : inB S (file2D S p k q) := by
  have h1 := text_b S (m := 65536) h
  exact (one_b S (push_b S h1.1 (by rw [h1.2.1]; exact hl))).1
theorem file_b {p : List UInt8} {q : RS} (h : inB S q) (hl : q.l.length < 256) : inB S (fileD S p q) := by
  unfold fileD
  have h1 := one_b S (l := [tCont, tExec]) h
  split
  · have h2 := one_b S (l := [[]]) h1.1
    have h3 := one_b S (l := [tCont]) h2.1
    exact file2_b S h3.1 (by rw [h3.2, h2.2, h1.2]; exact hl)
  · exact file2_b S h1.1 (by rw [h1.2]; exact hl)
theorem link_b {p : List UInt8} {q : RS} (h : inB S q) (hl : q.l.length < 256) : inB S (linkD S p q) := by
  unfold linkD link2D
  have h1 := one_b S (l := [tTarg]) h
  have h2 := text_b S (m := 4096) h1.1
  have h3 := wrong_b S (b := !(mayDataL ⟨p, 3, (textD S 4096 (oneD S [tTarg] q).2).1⟩)) h2.1
  exact (one_b S (push_b S h3.1 (by rw [h3.2, h2.2.1, h1.2]; exact hl))).1
theorem head_b {q : RS} (h : inB S q) : inB S (headD S q).2 ∧ (headD S q).2.l = q.l := by
  unfold headD
  have h1 := one_b S (l := [tOpen]) h
  have h2 := one_b S (l := [tType]) h1.1
  have h3 := one_b S (l := [tReg, tSym, tDir]) h2.1
  exact ⟨h3.1, h3.2.trans (h2.2.trans h1.2)⟩
theorem name_b {q : RS} (h : inB S q) : inB S (nameD S q).2 ∧ (nameD S q).2.l = q.l ∧ (nameD S q).1.length ≤ 255 := by
  unfold nameD
  have h1 := one_b S (l := [tOpen]) h
  have h2 := one_b S (l := [tName]) h1.1
  have h3 := text_b S (m := 255) h2.1
  exact ⟨h3.1, h3.2.1.trans (h2.2.trans h1.2), h3.2.2⟩
theorem ent_b {p last n : List UInt8} {q : RS} (h : inB S q) : inB S (entD S p last n q) ∧ (entD S p last n q).l = q.l ∧ ((entD S p last n q).e = 0 → badN p last n q.l.length = false) := by
  unfold entD
  have h1 := wrong_b S (b := badN p last n q.l.length) h
  have h2 := one_b S (l := [tNode]) h1.1
  refine ⟨h2.1, h2.2.trans h1.2, fun he => ?_⟩
  cases hb : badN p last n q.l.length with
  | false => rfl
  | true =>
    exfalso
    rw [hb] at he
    have hne : (wrongD true q).e ≠ 0 := by
      unfold wrongD
      by_cases h0 : q.e = 0
      · rw [if_pos ⟨rfl, h0⟩]; exact n4
      · rw [if_neg (fun h => h0 h.2)]; exact h0
    rw [one_err S hne] at he
    exact hne he
theorem bad_no {p last n : List UInt8} {k : Nat} (h : badN p last n k = false) : k < 256 ∧ n ≠ [] ∧ (47 : UInt8) ∉ n ∧ deepL (joinL p n) ≤ 64 := by
  unfold badN at h
  simp at h
  obtain ⟨⟨⟨h1, h2⟩, h3⟩, h4⟩ := h
  unfold mayNameL at h1
  simp at h1
  refine ⟨h3, fun e => ?_, h1.1.1.2, h4⟩
  rw [e] at h1
  simp at h1
theorem node_dir_b : ∀ f : Nat, (∀ (p : List UInt8) (q : RS), inB S q → q.l.length < 256 → inB S (nodeD S f p q)) ∧ (∀ (p last : List UInt8) (q : RS), inB S q → inB S (dirD S f p last q))
  | 0 => ⟨fun p q h _ => by rw [nodeD]; exact h, fun p last q h => by rw [dirD]; exact h⟩
  | f + 1 => by
    obtain ⟨hN, hD⟩ := node_dir_b f
    constructor
    · intro p q h hl
      rw [nodeD]
      have h1 := head_b S h
      have hl1 : (headD S q).2.l.length < 256 := by rw [h1.2]; exact hl
      unfold kindD
      split
      · exact file_b S h1.1 hl1
      · split
        · exact link_b S h1.1 hl1
        · split
          · exact hD _ _ _ (push_b S h1.1 hl1)
          · exact (one_b S (push_b S h1.1 hl1)).1
    · intro p last q h
      rw [dirD]
      split
      · exact h
      · have h1 := one_b S (l := [tEntry, tClose]) h
        split
        · exact h1.1
        · have h2 := name_b S h1.1
          have h3 := ent_b S (p := p) (last := last) (n := (nameD S (oneD S [tEntry, tClose] q).2).1) h2.1
          refine hD _ _ _ (one_b S ?_).1
          split
          · rename_i he
            exact hN _ _ h3.1 (by rw [h3.2.1]; exact (bad_no (h3.2.2 he)).1)
          · exact h3.1
/-- A path's length, by how many names it has. -/
def lenB (p : List UInt8) : Prop := p.length ≤ 256 * depthL p ∧ depthL p ≤ 64
theorem len_join {p n : List UInt8} (h : lenB p) (hn : n.length ≤ 255) (h0 : n ≠ []) (h47 : (47 : UInt8) ∉ n) (hd : deepL (joinL p n) ≤ 64) : lenB (joinL p n) := by
  unfold lenB at h ⊢
  rw [depth_join p n h47 h0]
  rw [deep_join p n h47] at hd
  refine ⟨?_, hd⟩
  unfold joinL
  split
  · omega
  · rw [List.length_append, List.length_cons]; omega
theorem text_up (m : Nat) (q : RS) : q.at' ≤ (textD S m q).2.at' := by
  unfold textD
  split
  · exact Nat.le_refl _
  · split
    · exact Nat.le_refl _
    · exact Nat.le_refl _
    · exact Nat.le_add_right _ _
theorem wrong_up (b : Bool) (q : RS) : q.at' = (wrongD b q).at' := by
  unfold wrongD
  split <;> rfl
theorem one_up (l : List (List UInt8)) (q : RS) : q.at' ≤ (oneD S l q).2.at' := by
  unfold oneD
  split
  · exact text_up S _ q
  · rw [← wrong_up]; exact text_up S _ q
/-- A word that was found: no error, and on it went. -/
theorem one_adv {l : List (List UInt8)} {q : RS} (h : (oneD S l q).1 ≠ []) : q.e = 0 ∧ (oneD S l q).2.e = 0 ∧ q.at' < (oneD S l q).2.at' := by
  by_cases h0 : q.e = 0
  · refine ⟨h0, ?_⟩
    unfold oneD at h ⊢
    cases hc : cutT (mostD l) (S.drop q.at') with
    | more => rw [text_more S h0 hc, if_neg (by intro h; cases h.1)] at h; exact absurd rfl h
    | form => rw [text_form S h0 hc, if_neg (by intro h; cases h.1)] at h; exact absurd rfl h
    | ok s x =>
      rw [text_ok S h0 hc] at h ⊢
      by_cases hs : s ∈ l
      · rw [if_pos ⟨h0, hs⟩]; exact ⟨h0, by show q.at' < q.at' + _; omega⟩
      · rw [if_neg (fun h => hs h.2)] at h; exact absurd rfl h
  · rw [one_err S h0] at h; exact absurd rfl h
theorem head_up (q : RS) : q.at' ≤ (headD S q).2.at' := Nat.le_trans (one_up S [tOpen] q) (Nat.le_trans (one_up S [tType] _) (one_up S _ _))
theorem head_adv {q : RS} (h : (headD S q).1 ≠ []) : (headD S q).2.e = 0 ∧ q.at' < (headD S q).2.at' := by
  have h1 := one_adv S (l := [tReg, tSym, tDir]) (q := (oneD S [tType] (oneD S [tOpen] q).2).2) h
  exact ⟨h1.2.1, Nat.lt_of_le_of_lt (Nat.le_trans (one_up S [tOpen] q) (one_up S [tType] _)) h1.2.2⟩
theorem file2_up (p : List UInt8) (k : Int) (q : RS) : q.at' ≤ (file2D S p k q).at' := Nat.le_trans (text_up S 65536 q) (one_up S [tClose] { (textD S 65536 q).2 with l := (textD S 65536 q).2.l ++ [⟨p, k, (textD S 65536 q).1⟩] })
theorem file_up (p : List UInt8) (q : RS) : q.at' ≤ (fileD S p q).at' := by
  unfold fileD
  split
  · exact Nat.le_trans (one_up S [tCont, tExec] q) (Nat.le_trans (one_up S [[]] _) (Nat.le_trans (one_up S [tCont] _) (file2_up S p 2 _)))
  · exact Nat.le_trans (one_up S [tCont, tExec] q) (file2_up S p 1 _)
theorem link_up (p : List UInt8) (q : RS) : q.at' ≤ (linkD S p q).at' := by
  unfold linkD link2D
  have h1 := one_up S [tTarg] q
  have h2 := text_up S 4096 (oneD S [tTarg] q).2
  generalize textD S 4096 (oneD S [tTarg] q).2 = d at *
  have h3 := wrong_up (!(mayDataL ⟨p, 3, d.1⟩)) d.2
  generalize wrongD (!(mayDataL ⟨p, 3, d.1⟩)) d.2 = z at *
  have h4 : z.at' ≤ _ := one_up S [tClose] { z with l := z.l ++ [⟨p, 3, d.1⟩] }
  exact Nat.le_trans h1 (Nat.le_trans h2 (Nat.le_trans (Nat.le_of_eq h3) h4))
theorem name_up (q : RS) : q.at' ≤ (nameD S q).2.at' := Nat.le_trans (one_up S [tOpen] q) (Nat.le_trans (one_up S [tName] _) (text_up S 255 _))
theorem ent_up (p last n : List UInt8) (q : RS) : q.at' ≤ (entD S p last n q).at' := Nat.le_trans (Nat.le_of_eq (wrong_up (badN p last n q.l.length) q)) (one_up S [tNode] _)
theorem node_dir_up : ∀ f : Nat, (∀ (p : List UInt8) (q : RS), q.at' ≤ (nodeD S f p q).at') ∧ (∀ (p last : List UInt8) (q : RS), q.at' ≤ (dirD S f p last q).at')
  | 0 => ⟨fun p q => by rw [nodeD]; exact Nat.le_refl _, fun p last q => by rw [dirD]; exact Nat.le_refl _⟩
  | f + 1 => by
    obtain ⟨hN, hD⟩ := node_dir_up f
    constructor
    · intro p q
      rw [nodeD]
      unfold kindD
      refine Nat.le_trans (head_up S q) ?_
      split
      · exact file_up S p _
      · split
        · exact link_up S p _
        · split
          · exact hD p [] { (headD S q).2 with l := (headD S q).2.l ++ [⟨p, 4, []⟩] }
          · exact one_up S [tClose] { (headD S q).2 with l := (headD S q).2.l ++ [⟨p, 4, []⟩] }
    · intro p last q
      rw [dirD]
      split
      · exact Nat.le_refl _
      · split
        · exact one_up S _ q
        · refine Nat.le_trans (one_up S [tEntry, tClose] q) (Nat.le_trans (name_up S _) (Nat.le_trans (ent_up S p last (nameD S (oneD S [tEntry, tClose] q).2).1 _) ?_))
          dsimp only
          split
          · exact Nat.le_trans (hN _ _) (Nat.le_trans (one_up S [tClose] _) (hD _ _ _))
          · exact Nat.le_trans (one_up S [tClose] _) (hD _ _ _)
end
end Go.Proofs.Ytglipljilcdboaa
/- Nodes in memory as a row of the engine. No condition. -/
namespace Go.Proofs.Ytglipljilcdboaa
open Go.RowKit
set_option linter.unusedVariables false
set_option linter.unusedSimpArgs false
def nd0 : Nd := ⟨[], 0, []⟩
def ndf (l : List Nd) (i : Nat) : Nd := l.getD i nd0
theorem ndf_at (l : List Nd) (i : Nat) (h : i < l.length) : ndf l i = l[i] := by simp [ndf, h]
section
open E
abbrev ndc (l : List Nd) : Nat → List Value := fun i => [stv (ndf l i).path, .int .i64 (ndf l i).kind, stv (ndf l i).data]
abbrev rowN (l : List Nd) (n : Nat) : Row := ⟨[.fnc (ndc l) 3 n], true, some (55, 3)⟩
theorem pok1 {f : Nat → List Value} {k n : Nat} (h : ∀ i, (f i).length = k ∧ ∀ v ∈ f i, v.oneCell' = true) : pok [Pc.fnc f k n] := by
  intro p hp
  simp at hp
  subst hp
  exact fun i _ => h i
theorem rowN_ok (l : List Nd) (n : Nat) : pok (rowN l n).ps := pok1 fun i => ⟨rfl, fun v hv => by simp at hv; rcases hv with rfl | rfl | rfl <;> rfl⟩
theorem rowAt_mv {ρ σ : Env} {r q : Nat} {f : Nat → List Value} {k n : Nat} {wr : Bool} {cp : Option (TypeId × Nat)} {w : World} (h : RowAt ρ r ⟨[.fnc f k n], wr, cp⟩ w) (e : σ q = ρ r) : RowAt σ q ⟨[.fnc f k n], wr, cp⟩ w := by
  unfold RowAt at h ⊢
  rw [e]
  exact h
theorem row_step (L : List Nd) (c : Nd) (n : Nat) (hn : n = L.length) : ∀ i, i < n + 1 → appF (ndc L) n (fun q => chunkF [stv c.path, .int .i64 c.kind, stv c.data] 3 1 (addN 0 q)) i = ndc (L ++ [c]) i := by
  intro i hi
  subst hn
  by_cases h : i < L.length
  · rw [appF_lo h]
    have : ndf (L ++ [c]) i = ndf L i := by unfold ndf; rw [List.getD_eq_getElem?_getD, List.getElem?_append_left h, ← List.getD_eq_getElem?_getD]
    show _ = [stv (ndf (L ++ [c]) i).path, .int .i64 (ndf (L ++ [c]) i).kind, stv (ndf (L ++ [c]) i).data]
    rw [this]
  · obtain rfl : i = L.length := by omega
    rw [appF_hi (Nat.le_refl _), Nat.sub_self]
    have : ndf (L ++ [c]) L.length = c := by unfold ndf; simp
    show _ = [stv (ndf (L ++ [c]) L.length).path, .int .i64 (ndf (L ++ [c]) L.length).kind, stv (ndf (L ++ [c]) L.length).data]
    rw [this]
    rfl
/-! ### dir2 -/
theorem root_row (c : Nd) : ∀ i, i < 1 → chunkF [stv c.path, .int .i64 c.kind, stv c.data] 3 1 i = ndc [c] i := by
  intro i hi
  obtain rfl : i = 0 := by omega
  rfl
end
end Go.Proofs.Ytglipljilcdboaa
