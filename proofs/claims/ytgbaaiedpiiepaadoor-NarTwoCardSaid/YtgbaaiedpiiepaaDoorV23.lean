/- Several texts, one behind the other; each says by itself what it proves, and on what conditions. -/
import Derived.Test.YtgbaaiedpiiepaaDoorV22
/- Of the laws: a tree by numbers. Its conditions: texts of at most 300, numbers of at most 2^47. -/
namespace Go.Proofs.YtgbaaiedpiiepaaDoor
open Go.RowKit Go.Shelf
set_option linter.unusedVariables false
set_option linter.unusedSimpArgs false
section
open E
/-- What a call makes: a list of its own. -/
def TOut (w : World) (L : List Nd) (n : Nat) (e : Ending) (w' : World) : Prop := ∃ B : Blk, e = .returned (.slice (some ⟨B.1, 0, none⟩) n B.3) ∧ B.2 = 0 ∧ Fr w [] w' ∧ w.heap.size ≤ B.1 ∧ RowAt (fun _ => B) 0 (rowN L n) w'
theorem tout_fin {w w' : World} {ρ : Env} {r n : Nat} {L : List Nd} (hf : Fr w [] w') (h : RowAt ρ r (rowN L n) w') (hb : w.heap.size ≤ (ρ r).1 ∨ (ρ r).1 ∈ ([] : List Nat)) : TOut w L n (.returned ((TV.s (.lf (.sl r 0 0 3 n none))).val ρ)) w' := by
  have h0 : (ρ r).2 = 0 := (h.2.2.1 42 3 rfl).1
  refine ⟨ρ r, ?_, h0, hf, ?_, rowAt_mv h rfl⟩
  · show Ending.returned (.slice (some ⟨(ρ r).1, (ρ r).2 + (0 + 0 * 3), none⟩) n ((ρ r).3 - 0)) = _
    rw [h0]; rfl
  · rcases hb with hb | hb
    · exact hb
    · cases hb
theorem root_row (c : Nd) : ∀ i, i < 1 → chunkF [stv c.path, .int .i64 c.kind, stv c.data] 3 1 i = ndc [c] i := by
  intro i hi
  obtain rfl : i = 0 := by omega
  rfl
set_option maxRecDepth 100000 in
set_option maxHeartbeats 1000000 in
theorem tree_run1 (N : List UInt8) (tx : List (List UInt8)) (ta : Option Addr) (ct : Nat) (hT : TxSrc (TV.s (.lf (.sl 1 0 0 1 tx.length (some ct)))) [(1, txtRow tx)] tx) (h300 : ∀ t ∈ tx, t.length ≤ 300) (n c : Nat) (hn : n = N.length) (hn0 : 0 < n) (hc : n ≤ c) (hc2 : c ≤ 140737488355328) (ρ : Env) (w : World)
    (hr : ∀ q ∈ ([(0, numRow N), (1, txtRow tx)] : List (Nat × Row)), RowAt ρ q.1 q.2 w) : Calls Tryd.prog 25 #[(TV.s (.lf (.sl 0 0 0 1 n (some c)))).val ρ, (TV.s (.lf (.sl 1 0 0 1 tx.length (some ct)))).val ρ] w (TOut w (madeL tx N) (madeL tx N).length) := by
  refine At.calls (args := [.s (.lf (.sl 0 0 0 1 n (some c))), (TV.s (.lf (.sl 1 0 0 1 tx.length (some ct))))]) (rows := [(0, numRow N), (1, txtRow tx)]) (gl := []) (wr := []) (ρ := ρ) Tryd.func25 rfl rfl (init_ro1 ⟨trivial, trivial, trivial⟩ rfl rfl ⟨⟨hr (0, numRow N) (by simp), num_ok N⟩, ⟨hr (1, txtRow tx) (by simp), txt_ok tx⟩, trivial⟩) rfl ?_
  have a8 := (nsf N 0).toNat_lt
  obtain ⟨a, m, hN⟩ : ∃ a m, N = a :: m := by cases N with | nil => simp at hn; omega | cons a m => exact ⟨a, m, rfl⟩
  have ha : nsf N 0 = a := by rw [hN]; rfl
  have hml : m.length + 1 = n := by rw [hn, hN]; rfl
  have hS := text_len tx h300 0
  have hfin : ∀ (R : Nat) (L : List Nd) (M : Nat) (ρ' : Env) (w' : World), Fr w [] w' → (∀ r, r < 1000 → ρ' r = ρ r) → (TV.s (.lf (.sl R 0 0 3 M none))).ok → (∀ q ∈ ([(R, rowN L M)] : List (Nat × Row)), RowAt ρ' q.1 q.2 w' ∧ pok q.2.ps ∧ (q.2.w = true → w.heap.size ≤ (ρ' q.1).1 ∨ (ρ' q.1).1 ∈ ([] : List Nat))) → TOut w L M (.returned ((TV.s (.lf (.sl R 0 0 3 M none))).val ρ')) w' := fun R L M ρ' w' hf _ _ hq => by
    obtain ⟨g1, _, g3⟩ := hq _ (List.mem_singleton.2 rfl)
    exact tout_fin hf g1 (g3 rfl)
  obtain ⟨q, hq1, hq5, hqA⟩ : ∃ q : Nat, 1 ≤ q ∧ q ≤ 5 ∧ 1 + (nsf N 0).toNat % 5 = q := ⟨_, by omega, by have := Nat.mod_lt (nsf N 0).toNat (show 0 < 5 by decide); omega, rfl⟩
  have hq : 1 + ((nsf N 0).toNat : Int) % 5 = (q : Int) := by omega
  rw [ha] at hqA
  have hdir : (q = 5 ∨ 3 < n ∨ q = 4) → At Tryd.prog w ⟨[], ρ, []⟩ Tryd.f25.ntmps [] (rp Tryd.f25 13) (EndX Tryd.prog Tryd.f25 (TOut w (madeL tx N) (madeL tx N).length)) [(0, .s (.lf (.sl 0 0 0 1 n (some c)))), (1, (TV.s (.lf (.sl 1 0 0 1 tx.length (some ct))))), (6, .s (.lf (.sl 7001 0 0 3 1 none)))] [(0, numRow N), (1, txtRow tx), (7001, ⟨[.fnc (chunkF [stv [], .int .i64 4, stv []] 3 1) 3 1], true, some (42, 3)⟩)] := by
    intro hd
    have hM : madeL tx N = [(⟨[], 4, []⟩ : Nd)] ++ dirL tx (n + 1) 3 [] ((N.drop 0).take n) 0 1 := by
      rw [List.drop_zero, List.take_of_length_le (by omega), ← hml, hN]
      show (if _ then _ else _) = _
      rw [if_pos (by omega)]
      rfl
    have hML : (madeL tx N).length = 1 + (dirL tx (n + 1) 3 [] ((N.drop 0).take n) 0 1).length := by rw [hM, List.length_append]; rfl
    have k1 : HintOk Tryd.prog 14003 (hDir 7001 46 14003 (TV.s (.lf (.sl 1 0 0 1 tx.length (some ct)))) [(1, txtRow tx)] N [(⟨[], 4, []⟩ : Nd)] (madeL tx N) 1 (madeL tx N).length [] 0 n c 0) := by
      rw [hML, hM]
      exact hDir_ok1 7001 14003 ⟨by decide, by decide⟩ (dir_any1 N tx ta ct hT h300 3 (by omega)) [(⟨[], 4, []⟩ : Nd)] 1 rfl (by omega) [] (by simp) 0 n c (by omega) hc hc2 (n + 1) (by omega)
    refine At.rows (rows2 := [(0, numRow N), (1, txtRow tx), (7001, rowN [(⟨[], 4, []⟩ : Nd)] 1)]) (rowsEq_same (rowsEq_same (rowsEq_fnc (root_row ⟨[], 4, []⟩) trivial))) rfl ?_
    exact At.finR rfl [(14003, hDir 7001 46 14003 (TV.s (.lf (.sl 1 0 0 1 tx.length (some ct)))) [(1, txtRow tx)] N [(⟨[], 4, []⟩ : Nd)] (madeL tx N) 1 (madeL tx N).length [] 0 n c 0)] ⟨k1, trivial⟩ [] (rows2 := [(14003, rowN (madeL tx N) (madeL tx N).length)]) (x := .s (.lf (.sl 14003 0 0 3 (madeL tx N).length none)))
      (ob := qL (hDir 7001 46 14003 (TV.s (.lf (.sl 1 0 0 1 tx.length (some ct)))) [(1, txtRow tx)] N [(⟨[], 4, []⟩ : Nd)] (madeL tx N) 1 (madeL tx N).length [] 0 n c 0)) (by kernel_rfl) (all_qL _) (hfin 14003 _ _)
  have hcase : q = 1 ∨ q = 2 ∨ q = 3 ∨ q = 4 ∨ q = 5 := by omega
  by_cases h3 : 3 < n
  · rcases hcase with rfl | rfl | rfl | rfl | rfl
    · exact At.run rfl [(2004005, .val (.int .i64 1)), (2005006, .val (.v (.bool true))), (2014000, .val (.tup []))] ⟨trivial, trivial, trivial, trivial⟩ [.n, .y, .n, .n] (tm2 := [(0, .s (.lf (.sl 0 0 0 1 n (some c)))), (1, (TV.s (.lf (.sl 1 0 0 1 tx.length (some ct))))), (6, .s (.lf (.sl 7001 0 0 3 1 none)))]) (rows2 := [(0, numRow N), (1, txtRow tx), (7001, ⟨[.fnc (chunkF [stv [], .int .i64 4, stv []] 3 1) 3 1], true, some (42, 3)⟩)]) (ob := [(((n : Nat) : Int) == 0) = false, 0 ≤ (0 : Int) ∧ (0 : Int) < (n : Int), 0 < N.length, IntKind.i64.wrap ((nsf N 0).toNat : Int) = ((nsf N 0).toNat : Int), 0 ≤ ((nsf N 0).toNat : Int) ∧ (0 : Int) < 5, TV.int .i64 (1 + ((nsf N 0).toNat : Int) % 5) = TV.int .i64 1, inI (1 + ((nsf N 0).toNat : Int) % 5), vB (decide ((n : Int) > 3)) true, true = true, false = false, false = false]) (td := rp Tryd.f25 13) (by kernel_rfl) ⟨by simp; omega, ⟨by omega, by omega⟩, by omega, wrapN _, ⟨by omega, by omega⟩, by rw [hq]; rfl, ⟨by omega, by omega⟩, by show TV.v _ = TV.v _; rw [decide_eq_true (by omega)], rfl, rfl, rfl, trivial⟩ rfl rfl (by intro h; cases h) (hdir (by omega))
    · exact At.run rfl [(2004005, .val (.int .i64 2)), (2005006, .val (.v (.bool true))), (2014000, .val (.tup []))] ⟨trivial, trivial, trivial, trivial⟩ [.n, .y, .n, .n] (tm2 := [(0, .s (.lf (.sl 0 0 0 1 n (some c)))), (1, (TV.s (.lf (.sl 1 0 0 1 tx.length (some ct))))), (6, .s (.lf (.sl 7001 0 0 3 1 none)))]) (rows2 := [(0, numRow N), (1, txtRow tx), (7001, ⟨[.fnc (chunkF [stv [], .int .i64 4, stv []] 3 1) 3 1], true, some (42, 3)⟩)]) (ob := [(((n : Nat) : Int) == 0) = false, 0 ≤ (0 : Int) ∧ (0 : Int) < (n : Int), 0 < N.length, IntKind.i64.wrap ((nsf N 0).toNat : Int) = ((nsf N 0).toNat : Int), 0 ≤ ((nsf N 0).toNat : Int) ∧ (0 : Int) < 5, TV.int .i64 (1 + ((nsf N 0).toNat : Int) % 5) = TV.int .i64 2, inI (1 + ((nsf N 0).toNat : Int) % 5), vB (decide ((n : Int) > 3)) true, true = true, false = false, false = false]) (td := rp Tryd.f25 13) (by kernel_rfl) ⟨by simp; omega, ⟨by omega, by omega⟩, by omega, wrapN _, ⟨by omega, by omega⟩, by rw [hq]; rfl, ⟨by omega, by omega⟩, by show TV.v _ = TV.v _; rw [decide_eq_true (by omega)], rfl, rfl, rfl, trivial⟩ rfl rfl (by intro h; cases h) (hdir (by omega))
    · exact At.run rfl [(2004005, .val (.int .i64 3)), (2005006, .val (.v (.bool true))), (2014000, .val (.tup []))] ⟨trivial, trivial, trivial, trivial⟩ [.n, .y, .n, .n] (tm2 := [(0, .s (.lf (.sl 0 0 0 1 n (some c)))), (1, (TV.s (.lf (.sl 1 0 0 1 tx.length (some ct))))), (6, .s (.lf (.sl 7001 0 0 3 1 none)))]) (rows2 := [(0, numRow N), (1, txtRow tx), (7001, ⟨[.fnc (chunkF [stv [], .int .i64 4, stv []] 3 1) 3 1], true, some (42, 3)⟩)]) (ob := [(((n : Nat) : Int) == 0) = false, 0 ≤ (0 : Int) ∧ (0 : Int) < (n : Int), 0 < N.length, IntKind.i64.wrap ((nsf N 0).toNat : Int) = ((nsf N 0).toNat : Int), 0 ≤ ((nsf N 0).toNat : Int) ∧ (0 : Int) < 5, TV.int .i64 (1 + ((nsf N 0).toNat : Int) % 5) = TV.int .i64 3, inI (1 + ((nsf N 0).toNat : Int) % 5), vB (decide ((n : Int) > 3)) true, true = true, false = false, false = false]) (td := rp Tryd.f25 13) (by kernel_rfl) ⟨by simp; omega, ⟨by omega, by omega⟩, by omega, wrapN _, ⟨by omega, by omega⟩, by rw [hq]; rfl, ⟨by omega, by omega⟩, by show TV.v _ = TV.v _; rw [decide_eq_true (by omega)], rfl, rfl, rfl, trivial⟩ rfl rfl (by intro h; cases h) (hdir (by omega))
    · exact At.run rfl [(2004005, .val (.int .i64 4)), (2005006, .val (.v (.bool true))), (2014000, .val (.tup []))] ⟨trivial, trivial, trivial, trivial⟩ [.n, .y, .n, .n] (tm2 := [(0, .s (.lf (.sl 0 0 0 1 n (some c)))), (1, (TV.s (.lf (.sl 1 0 0 1 tx.length (some ct))))), (6, .s (.lf (.sl 7001 0 0 3 1 none)))]) (rows2 := [(0, numRow N), (1, txtRow tx), (7001, ⟨[.fnc (chunkF [stv [], .int .i64 4, stv []] 3 1) 3 1], true, some (42, 3)⟩)]) (ob := [(((n : Nat) : Int) == 0) = false, 0 ≤ (0 : Int) ∧ (0 : Int) < (n : Int), 0 < N.length, IntKind.i64.wrap ((nsf N 0).toNat : Int) = ((nsf N 0).toNat : Int), 0 ≤ ((nsf N 0).toNat : Int) ∧ (0 : Int) < 5, TV.int .i64 (1 + ((nsf N 0).toNat : Int) % 5) = TV.int .i64 4, inI (1 + ((nsf N 0).toNat : Int) % 5), vB (decide ((n : Int) > 3)) true, true = true, false = false, false = false]) (td := rp Tryd.f25 13) (by kernel_rfl) ⟨by simp; omega, ⟨by omega, by omega⟩, by omega, wrapN _, ⟨by omega, by omega⟩, by rw [hq]; rfl, ⟨by omega, by omega⟩, by show TV.v _ = TV.v _; rw [decide_eq_true (by omega)], rfl, rfl, rfl, trivial⟩ rfl rfl (by intro h; cases h) (hdir (by omega))
    · exact At.run rfl [(2004005, .val (.int .i64 5)), (2014000, .val (.tup []))] ⟨trivial, trivial, trivial⟩ [.n, .y, .n, .n] (tm2 := [(0, .s (.lf (.sl 0 0 0 1 n (some c)))), (1, (TV.s (.lf (.sl 1 0 0 1 tx.length (some ct))))), (6, .s (.lf (.sl 7001 0 0 3 1 none)))]) (rows2 := [(0, numRow N), (1, txtRow tx), (7001, ⟨[.fnc (chunkF [stv [], .int .i64 4, stv []] 3 1) 3 1], true, some (42, 3)⟩)]) (ob := [(((n : Nat) : Int) == 0) = false, 0 ≤ (0 : Int) ∧ (0 : Int) < (n : Int), 0 < N.length, IntKind.i64.wrap ((nsf N 0).toNat : Int) = ((nsf N 0).toNat : Int), 0 ≤ ((nsf N 0).toNat : Int) ∧ (0 : Int) < 5, TV.int .i64 (1 + ((nsf N 0).toNat : Int) % 5) = TV.int .i64 5, inI (1 + ((nsf N 0).toNat : Int) % 5), true = true, false = false, false = false]) (td := rp Tryd.f25 13) (by kernel_rfl) ⟨by simp; omega, ⟨by omega, by omega⟩, by omega, wrapN _, ⟨by omega, by omega⟩, by rw [hq]; rfl, ⟨by omega, by omega⟩, rfl, rfl, rfl, trivial⟩ rfl rfl (by intro h; cases h) (hdir (by omega))
  · rcases hcase with rfl | rfl | rfl | rfl | rfl
    · have hM : madeL tx N = [(⟨[], 1, ([116] ++ textL tx 0)⟩ : Nd)] := by
        rw [hN]
        show (if _ then _ else if _ then _ else _) = _
        rw [if_neg (by omega), if_neg (by omega), hqA]
        rfl
      rw [hM]
      refine At.finR rfl [(2004005, .val (.int .i64 1)), (2005006, .val (.v (.bool false))), (12002, hText (TV.s (.lf (.sl 1 0 0 1 tx.length (some ct)))) [(1, txtRow tx)] 0 (textL tx 0))] ⟨trivial, trivial, hText_ok _ hT 0 (by omega), trivial⟩ [.n, .n, .n, .y] (rows2 := [(7001, ⟨[.fnc (updF (chunkF [stv [], .int .i64 1, stv []] 3 1) 0 [stv [], .int .i64 1, stv ([116] ++ textL tx 0)]) 3 1], true, some (42, 3)⟩)]) (x := .s (.lf (.sl 7001 0 0 3 1 none)))
        (ob := [[(((n : Nat) : Int) == 0) = false, 0 ≤ (0 : Int) ∧ (0 : Int) < (n : Int), 0 < N.length, IntKind.i64.wrap ((nsf N 0).toNat : Int) = ((nsf N 0).toNat : Int), 0 ≤ ((nsf N 0).toNat : Int) ∧ (0 : Int) < 5, TV.int .i64 (1 + ((nsf N 0).toNat : Int) % 5) = TV.int .i64 1, inI (1 + ((nsf N 0).toNat : Int) % 5)], [vB (decide ((n : Int) > 3)) false, false = false, false = false, true = true], qL (hText (TV.s (.lf (.sl 1 0 0 1 tx.length (some ct)))) [(1, txtRow tx)] 0 (textL tx 0)), [(1 : Int) + ((textL tx 0).length : Int) ≤ 9223372036854775807, 0 ≤ (0 : Int) ∧ (0 : Int) < ((1 : Nat) : Int), 0 < 1]].flatten) (by kernel_rfl) (all_flat ⟨⟨by simp; omega, ⟨by omega, by omega⟩, by omega, wrapN _, ⟨by omega, by omega⟩, by rw [hq]; rfl, ⟨by omega, by omega⟩, trivial⟩, ⟨by show TV.v _ = TV.v _; rw [decide_eq_false (by omega)], rfl, rfl, rfl, trivial⟩, all_qL _, ⟨by omega, ⟨by omega, by omega⟩, by omega, trivial⟩, trivial⟩) fun ρ' w' hf he hx hq2 => ?_
      refine hfin 7001 [(⟨[], 1, ([116] ++ textL tx 0)⟩ : Nd)] 1 ρ' w' hf he hx fun z hz => ?_
      obtain rfl := List.mem_singleton.1 hz
      obtain ⟨g1, g2, g3⟩ := hq2 _ (List.mem_singleton.2 rfl)
      refine ⟨?_, rowN_ok _ 1, g3⟩
      have e : ∀ σ : Env, lst σ [Pc.fnc (updF (chunkF [stv [], .int .i64 1, stv []] 3 1) 0 [stv [], .int .i64 1, stv ([116] ++ textL tx 0)]) 3 1] = lst σ [Pc.fnc (ndc [(⟨[], 1, ([116] ++ textL tx 0)⟩ : Nd)]) 3 1] := fun σ => rfl
      unfold RowAt at g1 ⊢
      rw [← e]
      exact g1
    · have hM : madeL tx N = [(⟨[], 2, ([116] ++ textL tx 0)⟩ : Nd)] := by
        rw [hN]
        show (if _ then _ else if _ then _ else _) = _
        rw [if_neg (by omega), if_neg (by omega), hqA]
        rfl
      rw [hM]
      refine At.finR rfl [(2004005, .val (.int .i64 2)), (2005006, .val (.v (.bool false))), (12002, hText (TV.s (.lf (.sl 1 0 0 1 tx.length (some ct)))) [(1, txtRow tx)] 0 (textL tx 0))] ⟨trivial, trivial, hText_ok _ hT 0 (by omega), trivial⟩ [.n, .n, .n, .y] (rows2 := [(7001, ⟨[.fnc (updF (chunkF [stv [], .int .i64 2, stv []] 3 1) 0 [stv [], .int .i64 2, stv ([116] ++ textL tx 0)]) 3 1], true, some (42, 3)⟩)]) (x := .s (.lf (.sl 7001 0 0 3 1 none)))
        (ob := [[(((n : Nat) : Int) == 0) = false, 0 ≤ (0 : Int) ∧ (0 : Int) < (n : Int), 0 < N.length, IntKind.i64.wrap ((nsf N 0).toNat : Int) = ((nsf N 0).toNat : Int), 0 ≤ ((nsf N 0).toNat : Int) ∧ (0 : Int) < 5, TV.int .i64 (1 + ((nsf N 0).toNat : Int) % 5) = TV.int .i64 2, inI (1 + ((nsf N 0).toNat : Int) % 5)], [vB (decide ((n : Int) > 3)) false, false = false, false = false, true = true], qL (hText (TV.s (.lf (.sl 1 0 0 1 tx.length (some ct)))) [(1, txtRow tx)] 0 (textL tx 0)), [(1 : Int) + ((textL tx 0).length : Int) ≤ 9223372036854775807, 0 ≤ (0 : Int) ∧ (0 : Int) < ((1 : Nat) : Int), 0 < 1]].flatten) (by kernel_rfl) (all_flat ⟨⟨by simp; omega, ⟨by omega, by omega⟩, by omega, wrapN _, ⟨by omega, by omega⟩, by rw [hq]; rfl, ⟨by omega, by omega⟩, trivial⟩, ⟨by show TV.v _ = TV.v _; rw [decide_eq_false (by omega)], rfl, rfl, rfl, trivial⟩, all_qL _, ⟨by omega, ⟨by omega, by omega⟩, by omega, trivial⟩, trivial⟩) fun ρ' w' hf he hx hq2 => ?_
      refine hfin 7001 [(⟨[], 2, ([116] ++ textL tx 0)⟩ : Nd)] 1 ρ' w' hf he hx fun z hz => ?_
      obtain rfl := List.mem_singleton.1 hz
      obtain ⟨g1, g2, g3⟩ := hq2 _ (List.mem_singleton.2 rfl)
      refine ⟨?_, rowN_ok _ 1, g3⟩
      have e : ∀ σ : Env, lst σ [Pc.fnc (updF (chunkF [stv [], .int .i64 2, stv []] 3 1) 0 [stv [], .int .i64 2, stv ([116] ++ textL tx 0)]) 3 1] = lst σ [Pc.fnc (ndc [(⟨[], 2, ([116] ++ textL tx 0)⟩ : Nd)]) 3 1] := fun σ => rfl
      unfold RowAt at g1 ⊢
      rw [← e]
      exact g1
    · have hM : madeL tx N = [(⟨[], 3, [116, 111]⟩ : Nd)] := by
        rw [hN]
        show (if _ then _ else if _ then _ else _) = _
        rw [if_neg (by omega), if_pos (by omega)]

      rw [hM]
      refine At.finR rfl [(2004005, .val (.int .i64 3)), (2005006, .val (.v (.bool false)))] ⟨trivial, trivial, trivial⟩ [.n, .n, .y] (rows2 := [(7001, ⟨[.fnc (updF (chunkF [stv [], .int .i64 3, stv []] 3 1) 0 [stv [], .int .i64 3, stv [116, 111]]) 3 1], true, some (42, 3)⟩)]) (x := .s (.lf (.sl 7001 0 0 3 1 none)))
        (ob := [[(((n : Nat) : Int) == 0) = false, 0 ≤ (0 : Int) ∧ (0 : Int) < (n : Int), 0 < N.length, IntKind.i64.wrap ((nsf N 0).toNat : Int) = ((nsf N 0).toNat : Int), 0 ≤ ((nsf N 0).toNat : Int) ∧ (0 : Int) < 5, TV.int .i64 (1 + ((nsf N 0).toNat : Int) % 5) = TV.int .i64 3, inI (1 + ((nsf N 0).toNat : Int) % 5)], [vB (decide ((n : Int) > 3)) false, false = false, true = true], [0 ≤ (0 : Int) ∧ (0 : Int) < ((1 : Nat) : Int), 0 < 1]].flatten) (by kernel_rfl) (all_flat ⟨⟨by simp; omega, ⟨by omega, by omega⟩, by omega, wrapN _, ⟨by omega, by omega⟩, by rw [hq]; rfl, ⟨by omega, by omega⟩, trivial⟩, ⟨by show TV.v _ = TV.v _; rw [decide_eq_false (by omega)], rfl, rfl, trivial⟩, ⟨⟨by omega, by omega⟩, by omega, trivial⟩, trivial⟩) fun ρ' w' hf he hx hq2 => ?_
      refine hfin 7001 [(⟨[], 3, [116, 111]⟩ : Nd)] 1 ρ' w' hf he hx fun z hz => ?_
      obtain rfl := List.mem_singleton.1 hz
      obtain ⟨g1, g2, g3⟩ := hq2 _ (List.mem_singleton.2 rfl)
      refine ⟨?_, rowN_ok _ 1, g3⟩
      have e : ∀ σ : Env, lst σ [Pc.fnc (updF (chunkF [stv [], .int .i64 3, stv []] 3 1) 0 [stv [], .int .i64 3, stv [116, 111]]) 3 1] = lst σ [Pc.fnc (ndc [(⟨[], 3, [116, 111]⟩ : Nd)]) 3 1] := fun σ => rfl
      unfold RowAt at g1 ⊢
      rw [← e]
      exact g1
    · exact At.run rfl [(2004005, .val (.int .i64 4)), (2005006, .val (.v (.bool false))), (2014000, .val (.tup []))] ⟨trivial, trivial, trivial, trivial⟩ [.n, .n, .n, .n] (tm2 := [(0, .s (.lf (.sl 0 0 0 1 n (some c)))), (1, (TV.s (.lf (.sl 1 0 0 1 tx.length (some ct))))), (6, .s (.lf (.sl 7001 0 0 3 1 none)))]) (rows2 := [(0, numRow N), (1, txtRow tx), (7001, ⟨[.fnc (chunkF [stv [], .int .i64 4, stv []] 3 1) 3 1], true, some (42, 3)⟩)]) (ob := [(((n : Nat) : Int) == 0) = false, 0 ≤ (0 : Int) ∧ (0 : Int) < (n : Int), 0 < N.length, IntKind.i64.wrap ((nsf N 0).toNat : Int) = ((nsf N 0).toNat : Int), 0 ≤ ((nsf N 0).toNat : Int) ∧ (0 : Int) < 5, TV.int .i64 (1 + ((nsf N 0).toNat : Int) % 5) = TV.int .i64 4, inI (1 + ((nsf N 0).toNat : Int) % 5), vB (decide ((n : Int) > 3)) false, false = false, false = false, false = false]) (td := rp Tryd.f25 13) (by kernel_rfl) ⟨by simp; omega, ⟨by omega, by omega⟩, by omega, wrapN _, ⟨by omega, by omega⟩, by rw [hq]; rfl, ⟨by omega, by omega⟩, by show TV.v _ = TV.v _; rw [decide_eq_false (by omega)], rfl, rfl, rfl, trivial⟩ rfl rfl (by intro h; cases h) (hdir (by omega))
    · exact At.run rfl [(2004005, .val (.int .i64 5)), (2014000, .val (.tup []))] ⟨trivial, trivial, trivial⟩ [.n, .y, .n, .n] (tm2 := [(0, .s (.lf (.sl 0 0 0 1 n (some c)))), (1, (TV.s (.lf (.sl 1 0 0 1 tx.length (some ct))))), (6, .s (.lf (.sl 7001 0 0 3 1 none)))]) (rows2 := [(0, numRow N), (1, txtRow tx), (7001, ⟨[.fnc (chunkF [stv [], .int .i64 4, stv []] 3 1) 3 1], true, some (42, 3)⟩)]) (ob := [(((n : Nat) : Int) == 0) = false, 0 ≤ (0 : Int) ∧ (0 : Int) < (n : Int), 0 < N.length, IntKind.i64.wrap ((nsf N 0).toNat : Int) = ((nsf N 0).toNat : Int), 0 ≤ ((nsf N 0).toNat : Int) ∧ (0 : Int) < 5, TV.int .i64 (1 + ((nsf N 0).toNat : Int) % 5) = TV.int .i64 5, inI (1 + ((nsf N 0).toNat : Int) % 5), true = true, false = false, false = false]) (td := rp Tryd.f25 13) (by kernel_rfl) ⟨by simp; omega, ⟨by omega, by omega⟩, by omega, wrapN _, ⟨by omega, by omega⟩, by rw [hq]; rfl, ⟨by omega, by omega⟩, rfl, rfl, rfl, trivial⟩ rfl rfl (by intro h; cases h) (hdir (by omega))
set_option maxRecDepth 100000 in
set_option maxHeartbeats 1000000 in
theorem tree_run0 (N : List UInt8) (tx : List (List UInt8)) (ta : Option Addr) (ct : Nat) (hT : TxSrc (TV.v (.slice ta 0 ct)) [] tx) (h300 : ∀ t ∈ tx, t.length ≤ 300) (n c : Nat) (hn : n = N.length) (hn0 : 0 < n) (hc : n ≤ c) (hc2 : c ≤ 140737488355328) (ρ : Env) (w : World)
    (hr : ∀ q ∈ ([(0, numRow N)] : List (Nat × Row)), RowAt ρ q.1 q.2 w) : Calls Tryd.prog 25 #[(TV.s (.lf (.sl 0 0 0 1 n (some c)))).val ρ, (TV.v (.slice ta 0 ct)).val ρ] w (TOut w (madeL tx N) (madeL tx N).length) := by
  refine At.calls (args := [.s (.lf (.sl 0 0 0 1 n (some c))), (TV.v (.slice ta 0 ct))]) (rows := [(0, numRow N)]) (gl := []) (wr := []) (ρ := ρ) Tryd.func25 rfl rfl (init_ro1 ⟨trivial, rfl, trivial⟩ rfl rfl ⟨⟨hr (0, numRow N) (by simp), num_ok N⟩, trivial⟩) rfl ?_
  have a8 := (nsf N 0).toNat_lt
  obtain ⟨a, m, hN⟩ : ∃ a m, N = a :: m := by cases N with | nil => simp at hn; omega | cons a m => exact ⟨a, m, rfl⟩
  have ha : nsf N 0 = a := by rw [hN]; rfl
  have hml : m.length + 1 = n := by rw [hn, hN]; rfl
  have hS := text_len tx h300 0
  have hfin : ∀ (R : Nat) (L : List Nd) (M : Nat) (ρ' : Env) (w' : World), Fr w [] w' → (∀ r, r < 1000 → ρ' r = ρ r) → (TV.s (.lf (.sl R 0 0 3 M none))).ok → (∀ q ∈ ([(R, rowN L M)] : List (Nat × Row)), RowAt ρ' q.1 q.2 w' ∧ pok q.2.ps ∧ (q.2.w = true → w.heap.size ≤ (ρ' q.1).1 ∨ (ρ' q.1).1 ∈ ([] : List Nat))) → TOut w L M (.returned ((TV.s (.lf (.sl R 0 0 3 M none))).val ρ')) w' := fun R L M ρ' w' hf _ _ hq => by
    obtain ⟨g1, _, g3⟩ := hq _ (List.mem_singleton.2 rfl)
    exact tout_fin hf g1 (g3 rfl)
  obtain ⟨q, hq1, hq5, hqA⟩ : ∃ q : Nat, 1 ≤ q ∧ q ≤ 5 ∧ 1 + (nsf N 0).toNat % 5 = q := ⟨_, by omega, by have := Nat.mod_lt (nsf N 0).toNat (show 0 < 5 by decide); omega, rfl⟩
  have hq : 1 + ((nsf N 0).toNat : Int) % 5 = (q : Int) := by omega
  rw [ha] at hqA
  have hdir : (q = 5 ∨ 3 < n ∨ q = 4) → At Tryd.prog w ⟨[], ρ, []⟩ Tryd.f25.ntmps [] (rp Tryd.f25 13) (EndX Tryd.prog Tryd.f25 (TOut w (madeL tx N) (madeL tx N).length)) [(0, .s (.lf (.sl 0 0 0 1 n (some c)))), (1, (TV.v (.slice ta 0 ct))), (6, .s (.lf (.sl 7001 0 0 3 1 none)))] [(0, numRow N), (7001, ⟨[.fnc (chunkF [stv [], .int .i64 4, stv []] 3 1) 3 1], true, some (42, 3)⟩)] := by
    intro hd
    have hM : madeL tx N = [(⟨[], 4, []⟩ : Nd)] ++ dirL tx (n + 1) 3 [] ((N.drop 0).take n) 0 1 := by
      rw [List.drop_zero, List.take_of_length_le (by omega), ← hml, hN]
      show (if _ then _ else _) = _
      rw [if_pos (by omega)]
      rfl
    have hML : (madeL tx N).length = 1 + (dirL tx (n + 1) 3 [] ((N.drop 0).take n) 0 1).length := by rw [hM, List.length_append]; rfl
    have k1 : HintOk Tryd.prog 14003 (hDir 7001 46 14003 (TV.v (.slice ta 0 ct)) [] N [(⟨[], 4, []⟩ : Nd)] (madeL tx N) 1 (madeL tx N).length [] 0 n c 0) := by
      rw [hML, hM]
      exact hDir_ok0 7001 14003 ⟨by decide, by decide⟩ (dir_any0 N tx ta ct hT h300 3 (by omega)) [(⟨[], 4, []⟩ : Nd)] 1 rfl (by omega) [] (by simp) 0 n c (by omega) hc hc2 (n + 1) (by omega)
    refine At.rows (rows2 := [(0, numRow N), (7001, rowN [(⟨[], 4, []⟩ : Nd)] 1)]) (rowsEq_same (rowsEq_fnc (root_row ⟨[], 4, []⟩) trivial)) rfl ?_
    exact At.finR rfl [(14003, hDir 7001 46 14003 (TV.v (.slice ta 0 ct)) [] N [(⟨[], 4, []⟩ : Nd)] (madeL tx N) 1 (madeL tx N).length [] 0 n c 0)] ⟨k1, trivial⟩ [] (rows2 := [(14003, rowN (madeL tx N) (madeL tx N).length)]) (x := .s (.lf (.sl 14003 0 0 3 (madeL tx N).length none)))
      (ob := qL (hDir 7001 46 14003 (TV.v (.slice ta 0 ct)) [] N [(⟨[], 4, []⟩ : Nd)] (madeL tx N) 1 (madeL tx N).length [] 0 n c 0)) (by kernel_rfl) (all_qL _) (hfin 14003 _ _)
  have hcase : q = 1 ∨ q = 2 ∨ q = 3 ∨ q = 4 ∨ q = 5 := by omega
  by_cases h3 : 3 < n
  · rcases hcase with rfl | rfl | rfl | rfl | rfl
    · exact At.run rfl [(2004005, .val (.int .i64 1)), (2005006, .val (.v (.bool true))), (2014000, .val (.tup []))] ⟨trivial, trivial, trivial, trivial⟩ [.n, .y, .n, .n] (tm2 := [(0, .s (.lf (.sl 0 0 0 1 n (some c)))), (1, (TV.v (.slice ta 0 ct))), (6, .s (.lf (.sl 7001 0 0 3 1 none)))]) (rows2 := [(0, numRow N), (7001, ⟨[.fnc (chunkF [stv [], .int .i64 4, stv []] 3 1) 3 1], true, some (42, 3)⟩)]) (ob := [(((n : Nat) : Int) == 0) = false, 0 ≤ (0 : Int) ∧ (0 : Int) < (n : Int), 0 < N.length, IntKind.i64.wrap ((nsf N 0).toNat : Int) = ((nsf N 0).toNat : Int), 0 ≤ ((nsf N 0).toNat : Int) ∧ (0 : Int) < 5, TV.int .i64 (1 + ((nsf N 0).toNat : Int) % 5) = TV.int .i64 1, inI (1 + ((nsf N 0).toNat : Int) % 5), vB (decide ((n : Int) > 3)) true, true = true, false = false, false = false]) (td := rp Tryd.f25 13) (by kernel_rfl) ⟨by simp; omega, ⟨by omega, by omega⟩, by omega, wrapN _, ⟨by omega, by omega⟩, by rw [hq]; rfl, ⟨by omega, by omega⟩, by show TV.v _ = TV.v _; rw [decide_eq_true (by omega)], rfl, rfl, rfl, trivial⟩ rfl rfl (by intro h; cases h) (hdir (by omega))
    · exact At.run rfl [(2004005, .val (.int .i64 2)), (2005006, .val (.v (.bool true))), (2014000, .val (.tup []))] ⟨trivial, trivial, trivial, trivial⟩ [.n, .y, .n, .n] (tm2 := [(0, .s (.lf (.sl 0 0 0 1 n (some c)))), (1, (TV.v (.slice ta 0 ct))), (6, .s (.lf (.sl 7001 0 0 3 1 none)))]) (rows2 := [(0, numRow N), (7001, ⟨[.fnc (chunkF [stv [], .int .i64 4, stv []] 3 1) 3 1], true, some (42, 3)⟩)]) (ob := [(((n : Nat) : Int) == 0) = false, 0 ≤ (0 : Int) ∧ (0 : Int) < (n : Int), 0 < N.length, IntKind.i64.wrap ((nsf N 0).toNat : Int) = ((nsf N 0).toNat : Int), 0 ≤ ((nsf N 0).toNat : Int) ∧ (0 : Int) < 5, TV.int .i64 (1 + ((nsf N 0).toNat : Int) % 5) = TV.int .i64 2, inI (1 + ((nsf N 0).toNat : Int) % 5), vB (decide ((n : Int) > 3)) true, true = true, false = false, false = false]) (td := rp Tryd.f25 13) (by kernel_rfl) ⟨by simp; omega, ⟨by omega, by omega⟩, by omega, wrapN _, ⟨by omega, by omega⟩, by rw [hq]; rfl, ⟨by omega, by omega⟩, by show TV.v _ = TV.v _; rw [decide_eq_true (by omega)], rfl, rfl, rfl, trivial⟩ rfl rfl (by intro h; cases h) (hdir (by omega))
    · exact At.run rfl [(2004005, .val (.int .i64 3)), (2005006, .val (.v (.bool true))), (2014000, .val (.tup []))] ⟨trivial, trivial, trivial, trivial⟩ [.n, .y, .n, .n] (tm2 := [(0, .s (.lf (.sl 0 0 0 1 n (some c)))), (1, (TV.v (.slice ta 0 ct))), (6, .s (.lf (.sl 7001 0 0 3 1 none)))]) (rows2 := [(0, numRow N), (7001, ⟨[.fnc (chunkF [stv [], .int .i64 4, stv []] 3 1) 3 1], true, some (42, 3)⟩)]) (ob := [(((n : Nat) : Int) == 0) = false, 0 ≤ (0 : Int) ∧ (0 : Int) < (n : Int), 0 < N.length, IntKind.i64.wrap ((nsf N 0).toNat : Int) = ((nsf N 0).toNat : Int), 0 ≤ ((nsf N 0).toNat : Int) ∧ (0 : Int) < 5, TV.int .i64 (1 + ((nsf N 0).toNat : Int) % 5) = TV.int .i64 3, inI (1 + ((nsf N 0).toNat : Int) % 5), vB (decide ((n : Int) > 3)) true, true = true, false = false, false = false]) (td := rp Tryd.f25 13) (by kernel_rfl) ⟨by simp; omega, ⟨by omega, by omega⟩, by omega, wrapN _, ⟨by omega, by omega⟩, by rw [hq]; rfl, ⟨by omega, by omega⟩, by show TV.v _ = TV.v _; rw [decide_eq_true (by omega)], rfl, rfl, rfl, trivial⟩ rfl rfl (by intro h; cases h) (hdir (by omega))
    · exact At.run rfl [(2004005, .val (.int .i64 4)), (2005006, .val (.v (.bool true))), (2014000, .val (.tup []))] ⟨trivial, trivial, trivial, trivial⟩ [.n, .y, .n, .n] (tm2 := [(0, .s (.lf (.sl 0 0 0 1 n (some c)))), (1, (TV.v (.slice ta 0 ct))), (6, .s (.lf (.sl 7001 0 0 3 1 none)))]) (rows2 := [(0, numRow N), (7001, ⟨[.fnc (chunkF [stv [], .int .i64 4, stv []] 3 1) 3 1], true, some (42, 3)⟩)]) (ob := [(((n : Nat) : Int) == 0) = false, 0 ≤ (0 : Int) ∧ (0 : Int) < (n : Int), 0 < N.length, IntKind.i64.wrap ((nsf N 0).toNat : Int) = ((nsf N 0).toNat : Int), 0 ≤ ((nsf N 0).toNat : Int) ∧ (0 : Int) < 5, TV.int .i64 (1 + ((nsf N 0).toNat : Int) % 5) = TV.int .i64 4, inI (1 + ((nsf N 0).toNat : Int) % 5), vB (decide ((n : Int) > 3)) true, true = true, false = false, false = false]) (td := rp Tryd.f25 13) (by kernel_rfl) ⟨by simp; omega, ⟨by omega, by omega⟩, by omega, wrapN _, ⟨by omega, by omega⟩, by rw [hq]; rfl, ⟨by omega, by omega⟩, by show TV.v _ = TV.v _; rw [decide_eq_true (by omega)], rfl, rfl, rfl, trivial⟩ rfl rfl (by intro h; cases h) (hdir (by omega))
    · exact At.run rfl [(2004005, .val (.int .i64 5)), (2014000, .val (.tup []))] ⟨trivial, trivial, trivial⟩ [.n, .y, .n, .n] (tm2 := [(0, .s (.lf (.sl 0 0 0 1 n (some c)))), (1, (TV.v (.slice ta 0 ct))), (6, .s (.lf (.sl 7001 0 0 3 1 none)))]) (rows2 := [(0, numRow N), (7001, ⟨[.fnc (chunkF [stv [], .int .i64 4, stv []] 3 1) 3 1], true, some (42, 3)⟩)]) (ob := [(((n : Nat) : Int) == 0) = false, 0 ≤ (0 : Int) ∧ (0 : Int) < (n : Int), 0 < N.length, IntKind.i64.wrap ((nsf N 0).toNat : Int) = ((nsf N 0).toNat : Int), 0 ≤ ((nsf N 0).toNat : Int) ∧ (0 : Int) < 5, TV.int .i64 (1 + ((nsf N 0).toNat : Int) % 5) = TV.int .i64 5, inI (1 + ((nsf N 0).toNat : Int) % 5), true = true, false = false, false = false]) (td := rp Tryd.f25 13) (by kernel_rfl) ⟨by simp; omega, ⟨by omega, by omega⟩, by omega, wrapN _, ⟨by omega, by omega⟩, by rw [hq]; rfl, ⟨by omega, by omega⟩, rfl, rfl, rfl, trivial⟩ rfl rfl (by intro h; cases h) (hdir (by omega))
  · rcases hcase with rfl | rfl | rfl | rfl | rfl
    · have hM : madeL tx N = [(⟨[], 1, ([116] ++ textL tx 0)⟩ : Nd)] := by
        rw [hN]
        show (if _ then _ else if _ then _ else _) = _
        rw [if_neg (by omega), if_neg (by omega), hqA]
        rfl
      rw [hM]
      refine At.finR rfl [(2004005, .val (.int .i64 1)), (2005006, .val (.v (.bool false))), (12002, hText (TV.v (.slice ta 0 ct)) [] 0 (textL tx 0))] ⟨trivial, trivial, hText_ok _ hT 0 (by omega), trivial⟩ [.n, .n, .n, .y] (rows2 := [(7001, ⟨[.fnc (updF (chunkF [stv [], .int .i64 1, stv []] 3 1) 0 [stv [], .int .i64 1, stv ([116] ++ textL tx 0)]) 3 1], true, some (42, 3)⟩)]) (x := .s (.lf (.sl 7001 0 0 3 1 none)))
        (ob := [[(((n : Nat) : Int) == 0) = false, 0 ≤ (0 : Int) ∧ (0 : Int) < (n : Int), 0 < N.length, IntKind.i64.wrap ((nsf N 0).toNat : Int) = ((nsf N 0).toNat : Int), 0 ≤ ((nsf N 0).toNat : Int) ∧ (0 : Int) < 5, TV.int .i64 (1 + ((nsf N 0).toNat : Int) % 5) = TV.int .i64 1, inI (1 + ((nsf N 0).toNat : Int) % 5)], [vB (decide ((n : Int) > 3)) false, false = false, false = false, true = true], qL (hText (TV.v (.slice ta 0 ct)) [] 0 (textL tx 0)), [(1 : Int) + ((textL tx 0).length : Int) ≤ 9223372036854775807, 0 ≤ (0 : Int) ∧ (0 : Int) < ((1 : Nat) : Int), 0 < 1]].flatten) (by kernel_rfl) (all_flat ⟨⟨by simp; omega, ⟨by omega, by omega⟩, by omega, wrapN _, ⟨by omega, by omega⟩, by rw [hq]; rfl, ⟨by omega, by omega⟩, trivial⟩, ⟨by show TV.v _ = TV.v _; rw [decide_eq_false (by omega)], rfl, rfl, rfl, trivial⟩, all_qL _, ⟨by omega, ⟨by omega, by omega⟩, by omega, trivial⟩, trivial⟩) fun ρ' w' hf he hx hq2 => ?_
      refine hfin 7001 [(⟨[], 1, ([116] ++ textL tx 0)⟩ : Nd)] 1 ρ' w' hf he hx fun z hz => ?_
      obtain rfl := List.mem_singleton.1 hz
      obtain ⟨g1, g2, g3⟩ := hq2 _ (List.mem_singleton.2 rfl)
      refine ⟨?_, rowN_ok _ 1, g3⟩
      have e : ∀ σ : Env, lst σ [Pc.fnc (updF (chunkF [stv [], .int .i64 1, stv []] 3 1) 0 [stv [], .int .i64 1, stv ([116] ++ textL tx 0)]) 3 1] = lst σ [Pc.fnc (ndc [(⟨[], 1, ([116] ++ textL tx 0)⟩ : Nd)]) 3 1] := fun σ => rfl
      unfold RowAt at g1 ⊢
      rw [← e]
      exact g1
    · have hM : madeL tx N = [(⟨[], 2, ([116] ++ textL tx 0)⟩ : Nd)] := by
        rw [hN]
        show (if _ then _ else if _ then _ else _) = _
        rw [if_neg (by omega), if_neg (by omega), hqA]
        rfl
      rw [hM]
      refine At.finR rfl [(2004005, .val (.int .i64 2)), (2005006, .val (.v (.bool false))), (12002, hText (TV.v (.slice ta 0 ct)) [] 0 (textL tx 0))] ⟨trivial, trivial, hText_ok _ hT 0 (by omega), trivial⟩ [.n, .n, .n, .y] (rows2 := [(7001, ⟨[.fnc (updF (chunkF [stv [], .int .i64 2, stv []] 3 1) 0 [stv [], .int .i64 2, stv ([116] ++ textL tx 0)]) 3 1], true, some (42, 3)⟩)]) (x := .s (.lf (.sl 7001 0 0 3 1 none)))
        (ob := [[(((n : Nat) : Int) == 0) = false, 0 ≤ (0 : Int) ∧ (0 : Int) < (n : Int), 0 < N.length, IntKind.i64.wrap ((nsf N 0).toNat : Int) = ((nsf N 0).toNat : Int), 0 ≤ ((nsf N 0).toNat : Int) ∧ (0 : Int) < 5, TV.int .i64 (1 + ((nsf N 0).toNat : Int) % 5) = TV.int .i64 2, inI (1 + ((nsf N 0).toNat : Int) % 5)], [vB (decide ((n : Int) > 3)) false, false = false, false = false, true = true], qL (hText (TV.v (.slice ta 0 ct)) [] 0 (textL tx 0)), [(1 : Int) + ((textL tx 0).length : Int) ≤ 9223372036854775807, 0 ≤ (0 : Int) ∧ (0 : Int) < ((1 : Nat) : Int), 0 < 1]].flatten) (by kernel_rfl) (all_flat ⟨⟨by simp; omega, ⟨by omega, by omega⟩, by omega, wrapN _, ⟨by omega, by omega⟩, by rw [hq]; rfl, ⟨by omega, by omega⟩, trivial⟩, ⟨by show TV.v _ = TV.v _; rw [decide_eq_false (by omega)], rfl, rfl, rfl, trivial⟩, all_qL _, ⟨by omega, ⟨by omega, by omega⟩, by omega, trivial⟩, trivial⟩) fun ρ' w' hf he hx hq2 => ?_
      refine hfin 7001 [(⟨[], 2, ([116] ++ textL tx 0)⟩ : Nd)] 1 ρ' w' hf he hx fun z hz => ?_
      obtain rfl := List.mem_singleton.1 hz
      obtain ⟨g1, g2, g3⟩ := hq2 _ (List.mem_singleton.2 rfl)
      refine ⟨?_, rowN_ok _ 1, g3⟩
      have e : ∀ σ : Env, lst σ [Pc.fnc (updF (chunkF [stv [], .int .i64 2, stv []] 3 1) 0 [stv [], .int .i64 2, stv ([116] ++ textL tx 0)]) 3 1] = lst σ [Pc.fnc (ndc [(⟨[], 2, ([116] ++ textL tx 0)⟩ : Nd)]) 3 1] := fun σ => rfl
      unfold RowAt at g1 ⊢
      rw [← e]
      exact g1
    · have hM : madeL tx N = [(⟨[], 3, [116, 111]⟩ : Nd)] := by
        rw [hN]
        show (if _ then _ else if _ then _ else _) = _
        rw [if_neg (by omega), if_pos (by omega)]

      rw [hM]
      refine At.finR rfl [(2004005, .val (.int .i64 3)), (2005006, .val (.v (.bool false)))] ⟨trivial, trivial, trivial⟩ [.n, .n, .y] (rows2 := [(7001, ⟨[.fnc (updF (chunkF [stv [], .int .i64 3, stv []] 3 1) 0 [stv [], .int .i64 3, stv [116, 111]]) 3 1], true, some (42, 3)⟩)]) (x := .s (.lf (.sl 7001 0 0 3 1 none)))
        (ob := [[(((n : Nat) : Int) == 0) = false, 0 ≤ (0 : Int) ∧ (0 : Int) < (n : Int), 0 < N.length, IntKind.i64.wrap ((nsf N 0).toNat : Int) = ((nsf N 0).toNat : Int), 0 ≤ ((nsf N 0).toNat : Int) ∧ (0 : Int) < 5, TV.int .i64 (1 + ((nsf N 0).toNat : Int) % 5) = TV.int .i64 3, inI (1 + ((nsf N 0).toNat : Int) % 5)], [vB (decide ((n : Int) > 3)) false, false = false, true = true], [0 ≤ (0 : Int) ∧ (0 : Int) < ((1 : Nat) : Int), 0 < 1]].flatten) (by kernel_rfl) (all_flat ⟨⟨by simp; omega, ⟨by omega, by omega⟩, by omega, wrapN _, ⟨by omega, by omega⟩, by rw [hq]; rfl, ⟨by omega, by omega⟩, trivial⟩, ⟨by show TV.v _ = TV.v _; rw [decide_eq_false (by omega)], rfl, rfl, trivial⟩, ⟨⟨by omega, by omega⟩, by omega, trivial⟩, trivial⟩) fun ρ' w' hf he hx hq2 => ?_
      refine hfin 7001 [(⟨[], 3, [116, 111]⟩ : Nd)] 1 ρ' w' hf he hx fun z hz => ?_
      obtain rfl := List.mem_singleton.1 hz
      obtain ⟨g1, g2, g3⟩ := hq2 _ (List.mem_singleton.2 rfl)
      refine ⟨?_, rowN_ok _ 1, g3⟩
      have e : ∀ σ : Env, lst σ [Pc.fnc (updF (chunkF [stv [], .int .i64 3, stv []] 3 1) 0 [stv [], .int .i64 3, stv [116, 111]]) 3 1] = lst σ [Pc.fnc (ndc [(⟨[], 3, [116, 111]⟩ : Nd)]) 3 1] := fun σ => rfl
      unfold RowAt at g1 ⊢
      rw [← e]
      exact g1
    · exact At.run rfl [(2004005, .val (.int .i64 4)), (2005006, .val (.v (.bool false))), (2014000, .val (.tup []))] ⟨trivial, trivial, trivial, trivial⟩ [.n, .n, .n, .n] (tm2 := [(0, .s (.lf (.sl 0 0 0 1 n (some c)))), (1, (TV.v (.slice ta 0 ct))), (6, .s (.lf (.sl 7001 0 0 3 1 none)))]) (rows2 := [(0, numRow N), (7001, ⟨[.fnc (chunkF [stv [], .int .i64 4, stv []] 3 1) 3 1], true, some (42, 3)⟩)]) (ob := [(((n : Nat) : Int) == 0) = false, 0 ≤ (0 : Int) ∧ (0 : Int) < (n : Int), 0 < N.length, IntKind.i64.wrap ((nsf N 0).toNat : Int) = ((nsf N 0).toNat : Int), 0 ≤ ((nsf N 0).toNat : Int) ∧ (0 : Int) < 5, TV.int .i64 (1 + ((nsf N 0).toNat : Int) % 5) = TV.int .i64 4, inI (1 + ((nsf N 0).toNat : Int) % 5), vB (decide ((n : Int) > 3)) false, false = false, false = false, false = false]) (td := rp Tryd.f25 13) (by kernel_rfl) ⟨by simp; omega, ⟨by omega, by omega⟩, by omega, wrapN _, ⟨by omega, by omega⟩, by rw [hq]; rfl, ⟨by omega, by omega⟩, by show TV.v _ = TV.v _; rw [decide_eq_false (by omega)], rfl, rfl, rfl, trivial⟩ rfl rfl (by intro h; cases h) (hdir (by omega))
    · exact At.run rfl [(2004005, .val (.int .i64 5)), (2014000, .val (.tup []))] ⟨trivial, trivial, trivial⟩ [.n, .y, .n, .n] (tm2 := [(0, .s (.lf (.sl 0 0 0 1 n (some c)))), (1, (TV.v (.slice ta 0 ct))), (6, .s (.lf (.sl 7001 0 0 3 1 none)))]) (rows2 := [(0, numRow N), (7001, ⟨[.fnc (chunkF [stv [], .int .i64 4, stv []] 3 1) 3 1], true, some (42, 3)⟩)]) (ob := [(((n : Nat) : Int) == 0) = false, 0 ≤ (0 : Int) ∧ (0 : Int) < (n : Int), 0 < N.length, IntKind.i64.wrap ((nsf N 0).toNat : Int) = ((nsf N 0).toNat : Int), 0 ≤ ((nsf N 0).toNat : Int) ∧ (0 : Int) < 5, TV.int .i64 (1 + ((nsf N 0).toNat : Int) % 5) = TV.int .i64 5, inI (1 + ((nsf N 0).toNat : Int) % 5), true = true, false = false, false = false]) (td := rp Tryd.f25 13) (by kernel_rfl) ⟨by simp; omega, ⟨by omega, by omega⟩, by omega, wrapN _, ⟨by omega, by omega⟩, by rw [hq]; rfl, ⟨by omega, by omega⟩, rfl, rfl, rfl, trivial⟩ rfl rfl (by intro h; cases h) (hdir (by omega))
end
end Go.Proofs.YtgbaaiedpiiepaaDoor
/- Trees by numbers: how long their paths and packings are. Its condition: texts of at most 300. -/
namespace Go.Proofs.YtgbaaiedpiiepaaDoor
set_option linter.unusedVariables false
set_option linter.unusedSimpArgs false
theorem mod_app {a b : List UInt8} (ha : a.length % 8 = 0) (hb : b.length % 8 = 0) : (a ++ b).length % 8 = 0 := by rw [List.length_append]; omega
theorem byt_mod : ∀ f, (∀ d r, (bytU f d r).1.length % 8 = 0) ∧ (∀ p r, (entU f p r).1.length % 8 = 0)
  | 0 => ⟨fun d r => by rw [bytU]; rfl, fun p r => by rw [entU]; rfl⟩
  | f + 1 => by
    obtain ⟨h1, h2⟩ := byt_mod f
    constructor
    · intro d r
      rw [bytU_succ]
      split
      · exact strsL_mod _
      · split
        · exact strsL_mod _
        · split
          · exact strsL_mod _
          · exact mod_app (strsL_mod _) (mod_app (h2 _ _) (strL_mod _))
    · intro p r
      cases r with
      | nil => rw [entU_nil]; rfl
      | cons c r =>
        by_cases hn : nameL c.path p = []
        · rw [entU_stop f p c r hn]; rfl
        · rw [entU_cons f p c r hn]
          exact mod_app (strsL_mod _) (mod_app (h1 _ _) (mod_app (strL_mod _) (h2 _ _)))
theorem tree_mod (l : List Nd) : (treeL l).length % 8 = 0 := by
  cases l with
  | nil => rfl
  | cons d r => exact mod_app (strL_mod _) ((byt_mod _).1 _ _)
theorem dir2_path (tx : List (List UInt8)) (p : List UInt8) : ∀ (ns : List UInt8) (k cnt : Nat), ∀ c ∈ dir2L tx p ns k cnt, c.path.length ≤ p.length + 4
  | [], k, cnt, c, hc => by rw [dir2L] at hc; cases hc
  | a :: ns, k, cnt, c, hc => by
    rw [dir2L] at hc
    split at hc
    · rcases List.mem_cons.1 hc with rfl | hc
      · exact join_len p k
      · exact dir2_path tx p ns _ _ c hc
    · cases hc
theorem dir_path (tx : List (List UInt8)) : ∀ (F dl : Nat) (p ns : List UInt8) (k cnt : Nat), ∀ c ∈ dirL tx F dl p ns k cnt, c.path.length ≤ p.length + 4 * (dl + 1)
  | 0, dl, p, ns, k, cnt, c, hc => by rw [dirL] at hc; cases hc
  | F + 1, dl, p, [], k, cnt, c, hc => by rw [dirL] at hc; cases hc; all_goals (intros; simp_all)
  | F + 1, dl, p, [_], k, cnt, c, hc => by rw [dirL] at hc; cases hc; all_goals (intros; simp_all)
  | F + 1, dl, p, [_, _], k, cnt, c, hc => by rw [dirL] at hc; cases hc; all_goals (intros; simp_all)
  | F + 1, dl, p, a :: b :: d :: ns, k, cnt, c, hc => by
    rw [dirL] at hc
    split at hc
    · split at hc
      · split at hc
        · rename_i h1 h2 h3
          rcases List.mem_cons.1 hc with rfl | hc
          · exact Nat.le_trans (join_len p _) (by omega)
          · rcases List.mem_append.1 hc with hc | hc
            · have := dir_path tx F (dl - 1) _ _ _ _ c hc
              have h9 := join_len p (k + a.toNat % 3)
              omega
            · have := dir2_path tx p _ _ _ c hc
              omega
        · rcases List.mem_cons.1 hc with rfl | hc
          · exact Nat.le_trans (join_len p _) (by omega)
          · exact dir_path tx F dl p ns _ _ c hc
      · cases hc
    · cases hc
theorem may_data_len (c : Nd) (h : mayDataL c = true) : c.data.length ≤ 65536 := by
  unfold mayDataL at h
  split at h
  · simpa using h
  · split at h
    · simp at h; omega
    · split at h
      · simp at h; rw [h]; simp
      · cases h
theorem made_len (tx : List (List UInt8)) (h : ∀ t ∈ tx, t.length ≤ 300) (ns : List UInt8) : 0 < (madeL tx ns).length ∧ (madeL tx ns).length ≤ 256 ∧ (∀ c ∈ madeL tx ns, c.path.length ≤ 10000) ∧ ∀ c ∈ madeL tx ns, c.data.length ≤ 65536 := by
  have hm := made_may tx h ns
  obtain ⟨d, r, e⟩ : ∃ d r, madeL tx ns = d :: r := by
    cases hz : madeL tx ns with
    | nil => rw [hz] at hm; cases hm
    | cons d r => exact ⟨d, r, rfl⟩
  have hp : ∀ c ∈ madeL tx ns, c.path.length ≤ 10000 := by
    cases ns with
    | nil => intro c hc; simp [madeL] at hc; subst hc; simp
    | cons a m =>
      intro c hc
      unfold madeL at hc
      simp only at hc
      split at hc
      · rcases List.mem_cons.1 hc with rfl | hc
        · simp
        · have := dir_path tx _ _ _ _ _ _ c hc
          simp at this
          omega
      · split at hc
        · simp at hc; subst hc; simp
        · simp at hc; subst hc; simp
  rw [e] at hm hp ⊢
  unfold mayL at hm
  simp only [Bool.and_eq_true, decide_eq_true_eq, List.all_eq_true] at hm
  obtain ⟨⟨⟨⟨h1, h2⟩, h3⟩, h4⟩, h5⟩ := hm
  refine ⟨by simp, by rw [List.length_cons]; omega, hp, fun c hc => ?_⟩
  rcases List.mem_cons.1 hc with rfl | hc
  · exact may_data_len _ h3
  · exact may_data_len _ (h4 c hc).2
end Go.Proofs.YtgbaaiedpiiepaaDoor
