/- Several texts, one behind the other; each says by itself what it proves, and on what conditions. -/
import Derived.Test.YtglipljilcdboaaV26
/- Of the laws: a tree by numbers. Its conditions: texts of at most 300, numbers of at most 2^47. -/
namespace Go.Proofs.Ytglipljilcdboaa
open Go.RowKit Go.Shelf
set_option linter.unusedVariables false
set_option linter.unusedSimpArgs false
section
open E
/-- What a call makes: a list of its own. -/
def TOut (w : World) (L : List Nd) (n : Nat) (e : Ending) (w' : World) : Prop := ∃ B : Blk, e = .returned (.slice (some ⟨B.1, 0, none⟩) n B.3) ∧ B.2 = 0 ∧ Fr w [] w' ∧ w.heap.size ≤ B.1 ∧ RowAt (fun _ => B) 0 (rowN L n) w'
theorem tout_fin {w w' : World} {ρ : Env} {r n : Nat} {L : List Nd} (hf : Fr w [] w') (h : RowAt ρ r (rowN L n) w') (hb : w.heap.size ≤ (ρ r).1 ∨ (ρ r).1 ∈ ([] : List Nat)) : TOut w L n (.returned ((TV.s (.lf (.sl r 0 0 3 n none))).val ρ)) w' := by
  have h0 : (ρ r).2 = 0 := (h.2.2.1 55 3 rfl).1
  refine ⟨ρ r, ?_, h0, hf, ?_, rowAt_mv h rfl⟩
  · show Ending.returned (.slice (some ⟨(ρ r).1, (ρ r).2 + (0 + 0 * 3), none⟩) n ((ρ r).3 - 0)) = _
    rw [h0]; rfl
  · rcases hb with hb | hb
    · exact hb
    · cases hb
set_option maxRecDepth 100000 in
set_option maxHeartbeats 1000000 in
theorem tree_run1 (N : List UInt8) (tx : List (List UInt8)) (ta : Option Addr) (ct : Nat) (hT : TxSrc (TV.s (.lf (.sl 1 0 0 1 tx.length (some ct)))) [(1, txtRow tx)] tx) (h300 : ∀ t ∈ tx, t.length ≤ 300) (n c : Nat) (hn : n = N.length) (hn0 : 0 < n) (hc : n ≤ c) (hc2 : c ≤ 140737488355328) (ρ : Env) (w : World)
    (hr : ∀ q ∈ ([(0, numRow N), (1, txtRow tx)] : List (Nat × Row)), RowAt ρ q.1 q.2 w) : Calls Try.prog 17 #[(TV.s (.lf (.sl 0 0 0 1 n (some c)))).val ρ, (TV.s (.lf (.sl 1 0 0 1 tx.length (some ct)))).val ρ] w (TOut w (madeL tx N) (madeL tx N).length) := by
  refine At.calls (args := [.s (.lf (.sl 0 0 0 1 n (some c))), (TV.s (.lf (.sl 1 0 0 1 tx.length (some ct))))]) (rows := [(0, numRow N), (1, txtRow tx)]) (gl := []) (wr := []) (ρ := ρ) Try.func17 rfl rfl (init_ro1 ⟨trivial, trivial, trivial⟩ rfl rfl ⟨⟨hr (0, numRow N) (by simp), num_ok N⟩, ⟨hr (1, txtRow tx) (by simp), txt_ok tx⟩, trivial⟩) rfl ?_
  have a8 := (nsf N 0).toNat_lt
  obtain ⟨a, m, hN⟩ : ∃ a m, N = a :: m := by cases N with | nil => simp at hn; omega | cons a m => exact ⟨a, m, rfl⟩
  have ha : nsf N 0 = a := by rw [hN]; rfl
  have hml : m.length + 1 = n := by rw [hn, hN]; rfl
  have hS := text_len tx h300 0
  have hfin : ∀ (R : Nat) (L : List Nd) (M : Nat) (ρ' : Env) (w' : World), Fr w [] w' → (∀ r, r < 1000 → ρ' r = ρ r) → (TV.s (.lf (.sl R 0 0 3 M none))).ok → (∀ q ∈ ([(R, rowN L M)] : List (Nat × Row)), RowAt ρ' q.1 q.2 w' ∧ pok q.2.ps ∧ (q.2.w = true → w.heap.size ≤ (ρ' q.1).1 ∨ (ρ' q.1).1 ∈ ([] : List Nat))) → TOut w L M (.returned ((TV.s (.lf (.sl R 0 0 3 M none))).val ρ')) w' := fun R L M ρ' w' hf _ _ hq => by
    obtain ⟨g1, _, g3⟩ := hq _ (List.mem_singleton.2 rfl)
    exact tout_fin hf g1 (g3 rfl)
  obtain ⟨q, hq1, hq5, hqA⟩ : ∃ q : Nat, 1 ≤ q ∧ q ≤ 5 ∧ 1 + (nsf N 0).toNat % 5 = q := ⟨_, by omega, by have := Nat.mod_lt (nsf N 0).toNat (show 0 < 5 by decide); omega, rfl⟩
  have hq : 1 + ((nsf N 0).toNat : Int) % 5 = (q : Int) := by omega
  rw [ha] at hqA
  have hdir : (q = 5 ∨ 3 < n ∨ q = 4) → At Try.prog w ⟨[], ρ, []⟩ Try.f17.ntmps [] (rp Try.f17 13) (EndX Try.prog Try.f17 (TOut w (madeL tx N) (madeL tx N).length)) [(0, .s (.lf (.sl 0 0 0 1 n (some c)))), (1, (TV.s (.lf (.sl 1 0 0 1 tx.length (some ct))))), (6, .s (.lf (.sl 7001 0 0 3 1 none)))] [(0, numRow N), (1, txtRow tx), (7001, ⟨[.fnc (chunkF [stv [], .int .i64 4, stv []] 3 1) 3 1], true, some (55, 3)⟩)] := by
    intro hd
    have hM : madeL tx N = [(⟨[], 4, []⟩ : Nd)] ++ dirL tx (n + 1) 3 [] ((N.drop 0).take n) 0 1 := by
      rw [List.drop_zero, List.take_of_length_le (by omega), ← hml, hN]
      show (if _ then _ else _) = _
      rw [if_pos (by omega)]
      rfl
    have hML : (madeL tx N).length = 1 + (dirL tx (n + 1) 3 [] ((N.drop 0).take n) 0 1).length := by rw [hM, List.length_append]; rfl
    have k1 : HintOk Try.prog 14003 (hDir 7001 28 14003 (TV.s (.lf (.sl 1 0 0 1 tx.length (some ct)))) [(1, txtRow tx)] N [(⟨[], 4, []⟩ : Nd)] (madeL tx N) 1 (madeL tx N).length [] 0 n c 0) := by
      rw [hML, hM]
      exact hDir_ok1 7001 14003 ⟨by decide, by decide⟩ (dir_any1 N tx ta ct hT h300 3 (by omega)) [(⟨[], 4, []⟩ : Nd)] 1 rfl (by omega) [] (by simp) 0 n c (by omega) hc hc2 (n + 1) (by omega)
    refine At.rows (rows2 := [(0, numRow N), (1, txtRow tx), (7001, rowN [(⟨[], 4, []⟩ : Nd)] 1)]) (rowsEq_same (rowsEq_same (rowsEq_fnc (root_row ⟨[], 4, []⟩) trivial))) rfl ?_
    exact At.finR rfl [(14003, hDir 7001 28 14003 (TV.s (.lf (.sl 1 0 0 1 tx.length (some ct)))) [(1, txtRow tx)] N [(⟨[], 4, []⟩ : Nd)] (madeL tx N) 1 (madeL tx N).length [] 0 n c 0)] ⟨k1, trivial⟩ [] (rows2 := [(14003, rowN (madeL tx N) (madeL tx N).length)]) (x := .s (.lf (.sl 14003 0 0 3 (madeL tx N).length none)))
      (ob := qL (hDir 7001 28 14003 (TV.s (.lf (.sl 1 0 0 1 tx.length (some ct)))) [(1, txtRow tx)] N [(⟨[], 4, []⟩ : Nd)] (madeL tx N) 1 (madeL tx N).length [] 0 n c 0)) (by kernel_rfl) (all_qL _) (hfin 14003 _ _)
  have hcase : q = 1 ∨ q = 2 ∨ q = 3 ∨ q = 4 ∨ q = 5 := by omega
  by_cases h3 : 3 < n
  · rcases hcase with rfl | rfl | rfl | rfl | rfl
    · exact At.run rfl [(2004005, .val (.int .i64 1)), (2005006, .val (.v (.bool true))), (2014000, .val (.tup []))] ⟨trivial, trivial, trivial, trivial⟩ [.n, .y, .n, .n] (tm2 := [(0, .s (.lf (.sl 0 0 0 1 n (some c)))), (1, (TV.s (.lf (.sl 1 0 0 1 tx.length (some ct))))), (6, .s (.lf (.sl 7001 0 0 3 1 none)))]) (rows2 := [(0, numRow N), (1, txtRow tx), (7001, ⟨[.fnc (chunkF [stv [], .int .i64 4, stv []] 3 1) 3 1], true, some (55, 3)⟩)]) (ob := [(((n : Nat) : Int) == 0) = false, 0 ≤ (0 : Int) ∧ (0 : Int) < (n : Int), 0 < N.length, IntKind.i64.wrap ((nsf N 0).toNat : Int) = ((nsf N 0).toNat : Int), 0 ≤ ((nsf N 0).toNat : Int) ∧ (0 : Int) < 5, TV.int .i64 (1 + ((nsf N 0).toNat : Int) % 5) = TV.int .i64 1, inI (1 + ((nsf N 0).toNat : Int) % 5), vB (decide ((n : Int) > 3)) true, true = true, false = false, false = false]) (td := rp Try.f17 13) (by kernel_rfl) ⟨by simp; omega, ⟨by omega, by omega⟩, by omega, wrapN _, ⟨by omega, by omega⟩, by rw [hq]; rfl, ⟨by omega, by omega⟩, by show TV.v _ = TV.v _; rw [decide_eq_true (by omega)], rfl, rfl, rfl, trivial⟩ rfl rfl (by intro h; cases h) (hdir (by omega))
    · exact At.run rfl [(2004005, .val (.int .i64 2)), (2005006, .val (.v (.bool true))), (2014000, .val (.tup []))] ⟨trivial, trivial, trivial, trivial⟩ [.n, .y, .n, .n] (tm2 := [(0, .s (.lf (.sl 0 0 0 1 n (some c)))), (1, (TV.s (.lf (.sl 1 0 0 1 tx.length (some ct))))), (6, .s (.lf (.sl 7001 0 0 3 1 none)))]) (rows2 := [(0, numRow N), (1, txtRow tx), (7001, ⟨[.fnc (chunkF [stv [], .int .i64 4, stv []] 3 1) 3 1], true, some (55, 3)⟩)]) (ob := [(((n : Nat) : Int) == 0) = false, 0 ≤ (0 : Int) ∧ (0 : Int) < (n : Int), 0 < N.length, IntKind.i64.wrap ((nsf N 0).toNat : Int) = ((nsf N 0).toNat : Int), 0 ≤ ((nsf N 0).toNat : Int) ∧ (0 : Int) < 5, TV.int .i64 (1 + ((nsf N 0).toNat : Int) % 5) = TV.int .i64 2, inI (1 + ((nsf N 0).toNat : Int) % 5), vB (decide ((n : Int) > 3)) true, true = true, false = false, false = false]) (td := rp Try.f17 13) (by kernel_rfl) ⟨by simp; omega, ⟨by omega, by omega⟩, by omega, wrapN _, ⟨by omega, by omega⟩, by rw [hq]; rfl, ⟨by omega, by omega⟩, by show TV.v _ = TV.v _; rw [decide_eq_true (by omega)], rfl, rfl, rfl, trivial⟩ rfl rfl (by intro h; cases h) (hdir (by omega))
    · exact At.run rfl [(2004005, .val (.int .i64 3)), (2005006, .val (.v (.bool true))), (2014000, .val (.tup []))] ⟨trivial, trivial, trivial, trivial⟩ [.n, .y, .n, .n] (tm2 := [(0, .s (.lf (.sl 0 0 0 1 n (some c)))), (1, (TV.s (.lf (.sl 1 0 0 1 tx.length (some ct))))), (6, .s (.lf (.sl 7001 0 0 3 1 none)))]) (rows2 := [(0, numRow N), (1, txtRow tx), (7001, ⟨[.fnc (chunkF [stv [], .int .i64 4, stv []] 3 1) 3 1], true, some (55, 3)⟩)]) (ob := [(((n : Nat) : Int) == 0) = false, 0 ≤ (0 : Int) ∧ (0 : Int) < (n : Int), 0 < N.length, IntKind.i64.wrap ((nsf N 0).toNat : Int) = ((nsf N 0).toNat : Int), 0 ≤ ((nsf N 0).toNat : Int) ∧ (0 : Int) < 5, TV.int .i64 (1 + ((nsf N 0).toNat : Int) % 5) = TV.int .i64 3, inI (1 + ((nsf N 0).toNat : Int) % 5), vB (decide ((n : Int) > 3)) true, true = true, false = false, false = false]) (td := rp Try.f17 13) (by kernel_rfl) ⟨by simp; omega, ⟨by omega, by omega⟩, by omega, wrapN _, ⟨by omega, by omega⟩, by rw [hq]; rfl, ⟨by omega, by omega⟩, by show TV.v _ = TV.v _; rw [decide_eq_true (by omega)], rfl, rfl, rfl, trivial⟩ rfl rfl (by intro h; cases h) (hdir (by omega))
    · exact At.run rfl [(2004005, .val (.int .i64 4)), (2005006, .val (.v (.bool true))), (2014000, .val (.tup []))] ⟨trivial, trivial, trivial, trivial⟩ [.n, .y, .n, .n] (tm2 := [(0, .s (.lf (.sl 0 0 0 1 n (some c)))), (1, (TV.s (.lf (.sl 1 0 0 1 tx.length (some ct))))), (6, .s (.lf (.sl 7001 0 0 3 1 none)))]) (rows2 := [(0, numRow N), (1, txtRow tx), (7001, ⟨[.fnc (chunkF [stv [], .int .i64 4, stv []] 3 1) 3 1], true, some (55, 3)⟩)]) (ob := [(((n : Nat) : Int) == 0) = false, 0 ≤ (0 : Int) ∧ (0 : Int) < (n : Int), 0 < N.length, IntKind.i64.wrap ((nsf N 0).toNat : Int) = ((nsf N 0).toNat : Int), 0 ≤ ((nsf N 0).toNat : Int) ∧ (0 : Int) < 5, TV.int .i64 (1 + ((nsf N 0).toNat : Int) % 5) = TV.int .i64 4, inI (1 + ((nsf N 0).toNat : Int) % 5), vB (decide ((n : Int) > 3)) true, true = true, false = false, false = false]) (td := rp Try.f17 13) (by kernel_rfl) ⟨by simp; omega, ⟨by omega, by omega⟩, by omega, wrapN _, ⟨by omega, by omega⟩, by rw [hq]; rfl, ⟨by omega, by omega⟩, by show TV.v _ = TV.v _; rw [decide_eq_true (by omega)], rfl, rfl, rfl, trivial⟩ rfl rfl (by intro h; cases h) (hdir (by omega))
    · exact At.run rfl [(2004005, .val (.int .i64 5)), (2014000, .val (.tup []))] ⟨trivial, trivial, trivial⟩ [.n, .y, .n, .n] (tm2 := [(0, .s (.lf (.sl 0 0 0 1 n (some c)))), (1, (TV.s (.lf (.sl 1 0 0 1 tx.length (some ct))))), (6, .s (.lf (.sl 7001 0 0 3 1 none)))]) (rows2 := [(0, numRow N), (1, txtRow tx), (7001, ⟨[.fnc (chunkF [stv [], .int .i64 4, stv []] 3 1) 3 1], true, some (55, 3)⟩)]) (ob := [(((n : Nat) : Int) == 0) = false, 0 ≤ (0 : Int) ∧ (0 : Int) < (n : Int), 0 < N.length, IntKind.i64.wrap ((nsf N 0).toNat : Int) = ((nsf N 0).toNat : Int), 0 ≤ ((nsf N 0).toNat : Int) ∧ (0 : Int) < 5, TV.int .i64 (1 + ((nsf N 0).toNat : Int) % 5) = TV.int .i64 5, inI (1 + ((nsf N 0).toNat : Int) % 5), true = true, false = false, false = false]) (td := rp Try.f17 13) (by kernel_rfl) ⟨by simp; omega, ⟨by omega, by omega⟩, by omega, wrapN _, ⟨by omega, by omega⟩, by rw [hq]; rfl, ⟨by omega, by omega⟩, rfl, rfl, rfl, trivial⟩ rfl rfl (by intro h; cases h) (hdir (by omega))
  · rcases hcase with rfl | rfl | rfl | rfl | rfl
    · have hM : madeL tx N = [(⟨[], 1, ([116] ++ textL tx 0)⟩ : Nd)] := by
        rw [hN]
        show (if _ then _ else if _ then _ else _) = _
        rw [if_neg (by omega), if_neg (by omega), hqA]
        rfl
      rw [hM]
      refine At.finR rfl [(2004005, .val (.int .i64 1)), (2005006, .val (.v (.bool false))), (12002, hText (TV.s (.lf (.sl 1 0 0 1 tx.length (some ct)))) [(1, txtRow tx)] 0 (textL tx 0))] ⟨trivial, trivial, hText_ok _ hT 0 (by omega), trivial⟩ [.n, .n, .n, .y] (rows2 := [(7001, ⟨[.fnc (updF (chunkF [stv [], .int .i64 1, stv []] 3 1) 0 [stv [], .int .i64 1, stv ([116] ++ textL tx 0)]) 3 1], true, some (55, 3)⟩)]) (x := .s (.lf (.sl 7001 0 0 3 1 none)))
        (ob := [[(((n : Nat) : Int) == 0) = false, 0 ≤ (0 : Int) ∧ (0 : Int) < (n : Int), 0 < N.length, IntKind.i64.wrap ((nsf N 0).toNat : Int) = ((nsf N 0).toNat : Int), 0 ≤ ((nsf N 0).toNat : Int) ∧ (0 : Int) < 5, TV.int .i64 (1 + ((nsf N 0).toNat : Int) % 5) = TV.int .i64 1, inI (1 + ((nsf N 0).toNat : Int) % 5)], [vB (decide ((n : Int) > 3)) false, false = false, false = false, true = true], qL (hText (TV.s (.lf (.sl 1 0 0 1 tx.length (some ct)))) [(1, txtRow tx)] 0 (textL tx 0)), [(1 : Int) + ((textL tx 0).length : Int) ≤ 9223372036854775807, 0 ≤ (0 : Int) ∧ (0 : Int) < ((1 : Nat) : Int), 0 < 1]].flatten) (by kernel_rfl) (all_flat ⟨⟨by simp; omega, ⟨by omega, by omega⟩, by omega, wrapN _, ⟨by omega, by omega⟩, by rw [hq]; rfl, ⟨by omega, by omega⟩, trivial⟩, ⟨by show TV.v _ = TV.v _; rw [decide_eq_false (by omega)], rfl, rfl, rfl, trivial⟩, all_qL _, ⟨by omega, ⟨by omega, by omega⟩, by omega, trivial⟩, trivial⟩) fun ρ' w' hf he hx hq2 => ?_
      refine hfin 7001 [(⟨[], 1, ([116] ++ textL tx 0)⟩ : Nd)] 1 ρ' w' hf he hx fun z hz => ?_
      obtain rfl := List.mem_singleton.1 hz
      obtain ⟨g1, g2, g3⟩ := hq2 _ (List.mem_singleton.2 rfl)
      refine ⟨?_, rowN_ok _ 1, g3⟩
      have e : ∀ σ : Env, lst σ [Pc.fnc (updF (chunkF [stv [], .int .i64 1, stv []] 3 1) 0 [stv [], .int .i64 1, stv ([116] ++ textL tx 0)]) 3 1] = lst σ [Pc.fnc (ndc [(⟨[], 1, ([116] ++ textL tx 0)⟩ : Nd)]) 3 1] := fun σ => rfl
      unfold RowAt at g1 ⊢
      rw [← e]
      exact g1
    · have hM : madeL tx N = [(⟨[], 2, ([116] ++ textL tx 0)⟩ : Nd)] := by
        rw [hN]
        show (if _ then _ else if _ then _ else _) = _
        rw [if_neg (by omega), if_neg (by omega), hqA]
        rfl
      rw [hM]
      refine At.finR rfl [(2004005, .val (.int .i64 2)), (2005006, .val (.v (.bool false))), (12002, hText (TV.s (.lf (.sl 1 0 0 1 tx.length (some ct)))) [(1, txtRow tx)] 0 (textL tx 0))] ⟨trivial, trivial, hText_ok _ hT 0 (by omega), trivial⟩ [.n, .n, .n, .y] (rows2 := [(7001, ⟨[.fnc (updF (chunkF [stv [], .int .i64 2, stv []] 3 1) 0 [stv [], .int .i64 2, stv ([116] ++ textL tx 0)]) 3 1], true, some (55, 3)⟩)]) (x := .s (.lf (.sl 7001 0 0 3 1 none)))
        (ob := [[(((n : Nat) : Int) == 0) = false, 0 ≤ (0 : Int) ∧ (0 : Int) < (n : Int), 0 < N.length, IntKind.i64.wrap ((nsf N 0).toNat : Int) = ((nsf N 0).toNat : Int), 0 ≤ ((nsf N 0).toNat : Int) ∧ (0 : Int) < 5, TV.int .i64 (1 + ((nsf N 0).toNat : Int) % 5) = TV.int .i64 2, inI (1 + ((nsf N 0).toNat : Int) % 5)], [vB (decide ((n : Int) > 3)) false, false = false, false = false, true = true], qL (hText (TV.s (.lf (.sl 1 0 0 1 tx.length (some ct)))) [(1, txtRow tx)] 0 (textL tx 0)), [(1 : Int) + ((textL tx 0).length : Int) ≤ 9223372036854775807, 0 ≤ (0 : Int) ∧ (0 : Int) < ((1 : Nat) : Int), 0 < 1]].flatten) (by kernel_rfl) (all_flat ⟨⟨by simp; omega, ⟨by omega, by omega⟩, by omega, wrapN _, ⟨by omega, by omega⟩, by rw [hq]; rfl, ⟨by omega, by omega⟩, trivial⟩, ⟨by show TV.v _ = TV.v _; rw [decide_eq_false (by omega)], rfl, rfl, rfl, trivial⟩, all_qL _, ⟨by omega, ⟨by omega, by omega⟩, by omega, trivial⟩, trivial⟩) fun ρ' w' hf he hx hq2 => ?_
      refine hfin 7001 [(⟨[], 2, ([116] ++ textL tx 0)⟩ : Nd)] 1 ρ' w' hf he hx fun z hz => ?_
      obtain rfl := List.mem_singleton.1 hz
      obtain ⟨g1, g2, g3⟩ := hq2 _ (List.mem_singleton.2 rfl)
      refine ⟨?_, rowN_ok _ 1, g3⟩
      have e : ∀ σ : Env, lst σ [Pc.fnc (updF (chunkF [stv [], .int .i64 2, stv []] 3 1) 0 [stv [], .int .i64 2, stv ([116] ++ textL tx 0)]) 3 1] = lst σ [Pc.fnc (ndc [(⟨[], 2, ([116] ++ textL tx 0)⟩ : Nd)]) 3 1] := fun σ => rfl
      unfold RowAt at g1 ⊢
      rw [← e]
      exact g1
    · have hM : madeL tx N = [(⟨[], 3, [116, 111]⟩ : Nd)] := by
        rw [hN]
        show (if _ then _ else if _ then _ else _) = _
        rw [if_neg (by omega), if_pos (by omega)]

      rw [hM]
      refine At.finR rfl [(2004005, .val (.int .i64 3)), (2005006, .val (.v (.bool false)))] ⟨trivial, trivial, trivial⟩ [.n, .n, .y] (rows2 := [(7001, ⟨[.fnc (updF (chunkF [stv [], .int .i64 3, stv []] 3 1) 0 [stv [], .int .i64 3, stv [116, 111]]) 3 1], true, some (55, 3)⟩)]) (x := .s (.lf (.sl 7001 0 0 3 1 none)))
        (ob := [[(((n : Nat) : Int) == 0) = false, 0 ≤ (0 : Int) ∧ (0 : Int) < (n : Int), 0 < N.length, IntKind.i64.wrap ((nsf N 0).toNat : Int) = ((nsf N 0).toNat : Int), 0 ≤ ((nsf N 0).toNat : Int) ∧ (0 : Int) < 5, TV.int .i64 (1 + ((nsf N 0).toNat : Int) % 5) = TV.int .i64 3, inI (1 + ((nsf N 0).toNat : Int) % 5)], [vB (decide ((n : Int) > 3)) false, false = false, true = true], [0 ≤ (0 : Int) ∧ (0 : Int) < ((1 : Nat) : Int), 0 < 1]].flatten) (by kernel_rfl) (all_flat ⟨⟨by simp; omega, ⟨by omega, by omega⟩, by omega, wrapN _, ⟨by omega, by omega⟩, by rw [hq]; rfl, ⟨by omega, by omega⟩, trivial⟩, ⟨by show TV.v _ = TV.v _; rw [decide_eq_false (by omega)], rfl, rfl, trivial⟩, ⟨⟨by omega, by omega⟩, by omega, trivial⟩, trivial⟩) fun ρ' w' hf he hx hq2 => ?_
      refine hfin 7001 [(⟨[], 3, [116, 111]⟩ : Nd)] 1 ρ' w' hf he hx fun z hz => ?_
      obtain rfl := List.mem_singleton.1 hz
      obtain ⟨g1, g2, g3⟩ := hq2 _ (List.mem_singleton.2 rfl)
      refine ⟨?_, rowN_ok _ 1, g3⟩
      have e : ∀ σ : Env, lst σ [Pc.fnc (updF (chunkF [stv [], .int .i64 3, stv []] 3 1) 0 [stv [], .int .i64 3, stv [116, 111]]) 3 1] = lst σ [Pc.fnc (ndc [(⟨[], 3, [116, 111]⟩ : Nd)]) 3 1] := fun σ => rfl
      unfold RowAt at g1 ⊢
      rw [← e]
      exact g1
    · exact At.run rfl [(2004005, .val (.int .i64 4)), (2005006, .val (.v (.bool false))), (2014000, .val (.tup []))] ⟨trivial, trivial, trivial, trivial⟩ [.n, .n, .n, .n] (tm2 := [(0, .s (.lf (.sl 0 0 0 1 n (some c)))), (1, (TV.s (.lf (.sl 1 0 0 1 tx.length (some ct))))), (6, .s (.lf (.sl 7001 0 0 3 1 none)))]) (rows2 := [(0, numRow N), (1, txtRow tx), (7001, ⟨[.fnc (chunkF [stv [], .int .i64 4, stv []] 3 1) 3 1], true, some (55, 3)⟩)]) (ob := [(((n : Nat) : Int) == 0) = false, 0 ≤ (0 : Int) ∧ (0 : Int) < (n : Int), 0 < N.length, IntKind.i64.wrap ((nsf N 0).toNat : Int) = ((nsf N 0).toNat : Int), 0 ≤ ((nsf N 0).toNat : Int) ∧ (0 : Int) < 5, TV.int .i64 (1 + ((nsf N 0).toNat : Int) % 5) = TV.int .i64 4, inI (1 + ((nsf N 0).toNat : Int) % 5), vB (decide ((n : Int) > 3)) false, false = false, false = false, false = false]) (td := rp Try.f17 13) (by kernel_rfl) ⟨by simp; omega, ⟨by omega, by omega⟩, by omega, wrapN _, ⟨by omega, by omega⟩, by rw [hq]; rfl, ⟨by omega, by omega⟩, by show TV.v _ = TV.v _; rw [decide_eq_false (by omega)], rfl, rfl, rfl, trivial⟩ rfl rfl (by intro h; cases h) (hdir (by omega))
    · exact At.run rfl [(2004005, .val (.int .i64 5)), (2014000, .val (.tup []))] ⟨trivial, trivial, trivial⟩ [.n, .y, .n, .n] (tm2 := [(0, .s (.lf (.sl 0 0 0 1 n (some c)))), (1, (TV.s (.lf (.sl 1 0 0 1 tx.length (some ct))))), (6, .s (.lf (.sl 7001 0 0 3 1 none)))]) (rows2 := [(0, numRow N), (1, txtRow tx), (7001, ⟨[.fnc (chunkF [stv [], .int .i64 4, stv []] 3 1) 3 1], true, some (55, 3)⟩)]) (ob := [(((n : Nat) : Int) == 0) = false, 0 ≤ (0 : Int) ∧ (0 : Int) < (n : Int), 0 < N.length, IntKind.i64.wrap ((nsf N 0).toNat : Int) = ((nsf N 0).toNat : Int), 0 ≤ ((nsf N 0).toNat : Int) ∧ (0 : Int) < 5, TV.int .i64 (1 + ((nsf N 0).toNat : Int) % 5) = TV.int .i64 5, inI (1 + ((nsf N 0).toNat : Int) % 5), true = true, false = false, false = false]) (td := rp Try.f17 13) (by kernel_rfl) ⟨by simp; omega, ⟨by omega, by omega⟩, by omega, wrapN _, ⟨by omega, by omega⟩, by rw [hq]; rfl, ⟨by omega, by omega⟩, rfl, rfl, rfl, trivial⟩ rfl rfl (by intro h; cases h) (hdir (by omega))
set_option maxRecDepth 100000 in
set_option maxHeartbeats 1000000 in
theorem tree_run0 (N : List UInt8) (tx : List (List UInt8)) (ta : Option Addr) (ct : Nat) (hT : TxSrc (TV.v (.slice ta 0 ct)) [] tx) (h300 : ∀ t ∈ tx, t.length ≤ 300) (n c : Nat) (hn : n = N.length) (hn0 : 0 < n) (hc : n ≤ c) (hc2 : c ≤ 140737488355328) (ρ : Env) (w : World)
    (hr : ∀ q ∈ ([(0, numRow N)] : List (Nat × Row)), RowAt ρ q.1 q.2 w) : Calls Try.prog 17 #[(TV.s (.lf (.sl 0 0 0 1 n (some c)))).val ρ, (TV.v (.slice ta 0 ct)).val ρ] w (TOut w (madeL tx N) (madeL tx N).length) := by
  refine At.calls (args := [.s (.lf (.sl 0 0 0 1 n (some c))), (TV.v (.slice ta 0 ct))]) (rows := [(0, numRow N)]) (gl := []) (wr := []) (ρ := ρ) Try.func17 rfl rfl (init_ro1 ⟨trivial, rfl, trivial⟩ rfl rfl ⟨⟨hr (0, numRow N) (by simp), num_ok N⟩, trivial⟩) rfl ?_
  have a8 := (nsf N 0).toNat_lt
  obtain ⟨a, m, hN⟩ : ∃ a m, N = a :: m := by cases N with | nil => simp at hn; omega | cons a m => exact ⟨a, m, rfl⟩
  have ha : nsf N 0 = a := by rw [hN]; rfl
  have hml : m.length + 1 = n := by rw [hn, hN]; rfl
  have hS := text_len tx h300 0
  have hfin : ∀ (R : Nat) (L : List Nd) (M : Nat) (ρ' : Env) (w' : World), Fr w [] w' → (∀ r, r < 1000 → ρ' r = ρ r) → (TV.s (.lf (.sl R 0 0 3 M none))).ok → (∀ q ∈ ([(R, rowN L M)] : List (Nat × Row)), RowAt ρ' q.1 q.2 w' ∧ pok q.2.ps ∧ (q.2.w = true → w.heap.size ≤ (ρ' q.1).1 ∨ (ρ' q.1).1 ∈ ([] : List Nat))) → TOut w L M (.returned ((TV.s (.lf (.sl R 0 0 3 M none))).val ρ')) w' := fun R L M ρ' w' hf _ _ hq => by
    obtain ⟨g1, _, g3⟩ := hq _ (List.mem_singleton.2 rfl)
    exact tout_fin hf g1 (g3 rfl)
  obtain ⟨q, hq1, hq5, hqA⟩ : ∃ q : Nat, 1 ≤ q ∧ q ≤ 5 ∧ 1 + (nsf N 0).toNat % 5 = q := ⟨_, by omega, by have := Nat.mod_lt (nsf N 0).toNat (show 0 < 5 by decide); omega, rfl⟩
  have hq : 1 + ((nsf N 0).toNat : Int) % 5 = (q : Int) := by omega
  rw [ha] at hqA
  have hdir : (q = 5 ∨ 3 < n ∨ q = 4) → At Try.prog w ⟨[], ρ, []⟩ Try.f17.ntmps [] (rp Try.f17 13) (EndX Try.prog Try.f17 (TOut w (madeL tx N) (madeL tx N).length)) [(0, .s (.lf (.sl 0 0 0 1 n (some c)))), (1, (TV.v (.slice ta 0 ct))), (6, .s (.lf (.sl 7001 0 0 3 1 none)))] [(0, numRow N), (7001, ⟨[.fnc (chunkF [stv [], .int .i64 4, stv []] 3 1) 3 1], true, some (55, 3)⟩)] := by
    intro hd
    have hM : madeL tx N = [(⟨[], 4, []⟩ : Nd)] ++ dirL tx (n + 1) 3 [] ((N.drop 0).take n) 0 1 := by
      rw [List.drop_zero, List.take_of_length_le (by omega), ← hml, hN]
      show (if _ then _ else _) = _
      rw [if_pos (by omega)]
      rfl
    have hML : (madeL tx N).length = 1 + (dirL tx (n + 1) 3 [] ((N.drop 0).take n) 0 1).length := by rw [hM, List.length_append]; rfl
    have k1 : HintOk Try.prog 14003 (hDir 7001 28 14003 (TV.v (.slice ta 0 ct)) [] N [(⟨[], 4, []⟩ : Nd)] (madeL tx N) 1 (madeL tx N).length [] 0 n c 0) := by
      rw [hML, hM]
      exact hDir_ok0 7001 14003 ⟨by decide, by decide⟩ (dir_any0 N tx ta ct hT h300 3 (by omega)) [(⟨[], 4, []⟩ : Nd)] 1 rfl (by omega) [] (by simp) 0 n c (by omega) hc hc2 (n + 1) (by omega)
    refine At.rows (rows2 := [(0, numRow N), (7001, rowN [(⟨[], 4, []⟩ : Nd)] 1)]) (rowsEq_same (rowsEq_fnc (root_row ⟨[], 4, []⟩) trivial)) rfl ?_
    exact At.finR rfl [(14003, hDir 7001 28 14003 (TV.v (.slice ta 0 ct)) [] N [(⟨[], 4, []⟩ : Nd)] (madeL tx N) 1 (madeL tx N).length [] 0 n c 0)] ⟨k1, trivial⟩ [] (rows2 := [(14003, rowN (madeL tx N) (madeL tx N).length)]) (x := .s (.lf (.sl 14003 0 0 3 (madeL tx N).length none)))
      (ob := qL (hDir 7001 28 14003 (TV.v (.slice ta 0 ct)) [] N [(⟨[], 4, []⟩ : Nd)] (madeL tx N) 1 (madeL tx N).length [] 0 n c 0)) (by kernel_rfl) (all_qL _) (hfin 14003 _ _)
  have hcase : q = 1 ∨ q = 2 ∨ q = 3 ∨ q = 4 ∨ q = 5 := by omega
  by_cases h3 : 3 < n
  · rcases hcase with rfl | rfl | rfl | rfl | rfl
    · exact At.run rfl [(2004005, .val (.int .i64 1)), (2005006, .val (.v (.bool true))), (2014000, .val (.tup []))] ⟨trivial, trivial, trivial, trivial⟩ [.n, .y, .n, .n] (tm2 := [(0, .s (.lf (.sl 0 0 0 1 n (some c)))), (1, (TV.v (.slice ta 0 ct))), (6, .s (.lf (.sl 7001 0 0 3 1 none)))]) (rows2 := [(0, numRow N), (7001, ⟨[.fnc (chunkF [stv [], .int .i64 4, stv []] 3 1) 3 1], true, some (55, 3)⟩)]) (ob := [(((n : Nat) : Int) == 0) = false, 0 ≤ (0 : Int) ∧ (0 : Int) < (n : Int), 0 < N.length, IntKind.i64.wrap ((nsf N 0).toNat : Int) = ((nsf N 0).toNat : Int), 0 ≤ ((nsf N 0).toNat : Int) ∧ (0 : Int) < 5, TV.int .i64 (1 + ((nsf N 0).toNat : Int) % 5) = TV.int .i64 1, inI (1 + ((nsf N 0).toNat : Int) % 5), vB (decide ((n : Int) > 3)) true, true = true, false = false, false = false]) (td := rp Try.f17 13) (by kernel_rfl) ⟨by simp; omega, ⟨by omega, by omega⟩, by omega, wrapN _, ⟨by omega, by omega⟩, by rw [hq]; rfl, ⟨by omega, by omega⟩, by show TV.v _ = TV.v _; rw [decide_eq_true (by omega)], rfl, rfl, rfl, trivial⟩ rfl rfl (by intro h; cases h) (hdir (by omega))
    · exact At.run rfl [(2004005, .val (.int .i64 2)), (2005006, .val (.v (.bool true))), (2014000, .val (.tup []))] ⟨trivial, trivial, trivial, trivial⟩ [.n, .y, .n, .n] (tm2 := [(0, .s (.lf (.sl 0 0 0 1 n (some c)))), (1, (TV.v (.slice ta 0 ct))), (6, .s (.lf (.sl 7001 0 0 3 1 none)))]) (rows2 := [(0, numRow N), (7001, ⟨[.fnc (chunkF [stv [], .int .i64 4, stv []] 3 1) 3 1], true, some (55, 3)⟩)]) (ob := [(((n : Nat) : Int) == 0) = false, 0 ≤ (0 : Int) ∧ (0 : Int) < (n : Int), 0 < N.length, IntKind.i64.wrap ((nsf N 0).toNat : Int) = ((nsf N 0).toNat : Int), 0 ≤ ((nsf N 0).toNat : Int) ∧ (0 : Int) < 5, TV.int .i64 (1 + ((nsf N 0).toNat : Int) % 5) = TV.int .i64 2, inI (1 + ((nsf N 0).toNat : Int) % 5), vB (decide ((n : Int) > 3)) true, true = true, false = false, false = false]) (td := rp Try.f17 13) (by kernel_rfl) ⟨by simp; omega, ⟨by omega, by omega⟩, by omega, wrapN _, ⟨by omega, by omega⟩, by rw [hq]; rfl, ⟨by omega, by omega⟩, by show TV.v _ = TV.v _; rw [decide_eq_true (by omega)], rfl, rfl, rfl, trivial⟩ rfl rfl (by intro h; cases h) (hdir (by omega))
    · exact At.run rfl [(2004005, .val (.int .i64 3)), (2005006, .val (.v (.bool true))), (2014000, .val (.tup []))] ⟨trivial, trivial, trivial, trivial⟩ [.n, .y, .n, .n] (tm2 := [(0, .s (.lf (.sl 0 0 0 1 n (some c)))), (1, (TV.v (.slice ta 0 ct))), (6, .s (.lf (.sl 7001 0 0 3 1 none)))]) (rows2 := [(0, numRow N), (7001, ⟨[.fnc (chunkF [stv [], .int .i64 4, stv []] 3 1) 3 1], true, some (55, 3)⟩)]) (ob := [(((n : Nat) : Int) == 0) = false, 0 ≤ (0 : Int) ∧ (0 : Int) < (n : Int), 0 < N.length, IntKind.i64.wrap ((nsf N 0).toNat : Int) = ((nsf N 0).toNat : Int), 0 ≤ ((nsf N 0).toNat : Int) ∧ (0 : Int) < 5, TV.int .i64 (1 + ((nsf N 0).toNat : Int) % 5) = TV.int .i64 3, inI (1 + ((nsf N 0).toNat : Int) % 5), vB (decide ((n : Int) > 3)) true, true = true, false = false, false = false]) (td := rp Try.f17 13) (by kernel_rfl) ⟨by simp; omega, ⟨by omega, by omega⟩, by omega, wrapN _, ⟨by omega, by omega⟩, by rw [hq]; rfl, ⟨by omega, by omega⟩, by show TV.v _ = TV.v _; rw [decide_eq_true (by omega)], rfl, rfl, rfl, trivial⟩ rfl rfl (by intro h; cases h) (hdir (by omega))
    · exact At.run rfl [(2004005, .val (.int .i64 4)), (2005006, .val (.v (.bool true))), (2014000, .val (.tup []))] ⟨trivial, trivial, trivial, trivial⟩ [.n, .y, .n, .n] (tm2 := [(0, .s (.lf (.sl 0 0 0 1 n (some c)))), (1, (TV.v (.slice ta 0 ct))), (6, .s (.lf (.sl 7001 0 0 3 1 none)))]) (rows2 := [(0, numRow N), (7001, ⟨[.fnc (chunkF [stv [], .int .i64 4, stv []] 3 1) 3 1], true, some (55, 3)⟩)]) (ob := [(((n : Nat) : Int) == 0) = false, 0 ≤ (0 : Int) ∧ (0 : Int) < (n : Int), 0 < N.length, IntKind.i64.wrap ((nsf N 0).toNat : Int) = ((nsf N 0).toNat : Int), 0 ≤ ((nsf N 0).toNat : Int) ∧ (0 : Int) < 5, TV.int .i64 (1 + ((nsf N 0).toNat : Int) % 5) = TV.int .i64 4, inI (1 + ((nsf N 0).toNat : Int) % 5), vB (decide ((n : Int) > 3)) true, true = true, false = false, false = false]) (td := rp Try.f17 13) (by kernel_rfl) ⟨by simp; omega, ⟨by omega, by omega⟩, by omega, wrapN _, ⟨by omega, by omega⟩, by rw [hq]; rfl, ⟨by omega, by omega⟩, by show TV.v _ = TV.v _; rw [decide_eq_true (by omega)], rfl, rfl, rfl, trivial⟩ rfl rfl (by intro h; cases h) (hdir (by omega))
    · exact At.run rfl [(2004005, .val (.int .i64 5)), (2014000, .val (.tup []))] ⟨trivial, trivial, trivial⟩ [.n, .y, .n, .n] (tm2 := [(0, .s (.lf (.sl 0 0 0 1 n (some c)))), (1, (TV.v (.slice ta 0 ct))), (6, .s (.lf (.sl 7001 0 0 3 1 none)))]) (rows2 := [(0, numRow N), (7001, ⟨[.fnc (chunkF [stv [], .int .i64 4, stv []] 3 1) 3 1], true, some (55, 3)⟩)]) (ob := [(((n : Nat) : Int) == 0) = false, 0 ≤ (0 : Int) ∧ (0 : Int) < (n : Int), 0 < N.length, IntKind.i64.wrap ((nsf N 0).toNat : Int) = ((nsf N 0).toNat : Int), 0 ≤ ((nsf N 0).toNat : Int) ∧ (0 : Int) < 5, TV.int .i64 (1 + ((nsf N 0).toNat : Int) % 5) = TV.int .i64 5, inI (1 + ((nsf N 0).toNat : Int) % 5), true = true, false = false, false = false]) (td := rp Try.f17 13) (by kernel_rfl) ⟨by simp; omega, ⟨by omega, by omega⟩, by omega, wrapN _, ⟨by omega, by omega⟩, by rw [hq]; rfl, ⟨by omega, by omega⟩, rfl, rfl, rfl, trivial⟩ rfl rfl (by intro h; cases h) (hdir (by omega))
  · rcases hcase with rfl | rfl | rfl | rfl | rfl
    · have hM : madeL tx N = [(⟨[], 1, ([116] ++ textL tx 0)⟩ : Nd)] := by
        rw [hN]
        show (if _ then _ else if _ then _ else _) = _
        rw [if_neg (by omega), if_neg (by omega), hqA]
        rfl
      rw [hM]
      refine At.finR rfl [(2004005, .val (.int .i64 1)), (2005006, .val (.v (.bool false))), (12002, hText (TV.v (.slice ta 0 ct)) [] 0 (textL tx 0))] ⟨trivial, trivial, hText_ok _ hT 0 (by omega), trivial⟩ [.n, .n, .n, .y] (rows2 := [(7001, ⟨[.fnc (updF (chunkF [stv [], .int .i64 1, stv []] 3 1) 0 [stv [], .int .i64 1, stv ([116] ++ textL tx 0)]) 3 1], true, some (55, 3)⟩)]) (x := .s (.lf (.sl 7001 0 0 3 1 none)))
        (ob := [[(((n : Nat) : Int) == 0) = false, 0 ≤ (0 : Int) ∧ (0 : Int) < (n : Int), 0 < N.length, IntKind.i64.wrap ((nsf N 0).toNat : Int) = ((nsf N 0).toNat : Int), 0 ≤ ((nsf N 0).toNat : Int) ∧ (0 : Int) < 5, TV.int .i64 (1 + ((nsf N 0).toNat : Int) % 5) = TV.int .i64 1, inI (1 + ((nsf N 0).toNat : Int) % 5)], [vB (decide ((n : Int) > 3)) false, false = false, false = false, true = true], qL (hText (TV.v (.slice ta 0 ct)) [] 0 (textL tx 0)), [(1 : Int) + ((textL tx 0).length : Int) ≤ 9223372036854775807, 0 ≤ (0 : Int) ∧ (0 : Int) < ((1 : Nat) : Int), 0 < 1]].flatten) (by kernel_rfl) (all_flat ⟨⟨by simp; omega, ⟨by omega, by omega⟩, by omega, wrapN _, ⟨by omega, by omega⟩, by rw [hq]; rfl, ⟨by omega, by omega⟩, trivial⟩, ⟨by show TV.v _ = TV.v _; rw [decide_eq_false (by omega)], rfl, rfl, rfl, trivial⟩, all_qL _, ⟨by omega, ⟨by omega, by omega⟩, by omega, trivial⟩, trivial⟩) fun ρ' w' hf he hx hq2 => ?_
      refine hfin 7001 [(⟨[], 1, ([116] ++ textL tx 0)⟩ : Nd)] 1 ρ' w' hf he hx fun z hz => ?_
      obtain rfl := List.mem_singleton.1 hz
      obtain ⟨g1, g2, g3⟩ := hq2 _ (List.mem_singleton.2 rfl)
      refine ⟨?_, rowN_ok _ 1, g3⟩
      have e : ∀ σ : Env, lst σ [Pc.fnc (updF (chunkF [stv [], .int .i64 1, stv []] 3 1) 0 [stv [], .int .i64 1, stv ([116] ++ textL tx 0)]) 3 1] = lst σ [Pc.fnc (ndc [(⟨[], 1, ([116] ++ textL tx 0)⟩ : Nd)]) 3 1] := fun σ => rfl
      unfold RowAt at g1 ⊢
      rw [← e]
      exact g1
    · have hM : madeL tx N = [(⟨[], 2, ([116] ++ textL tx 0)⟩ : Nd)] := by
        rw [hN]
        show (if _ then _ else if _ then _ else _) = _
        rw [if_neg (by omega), if_neg (by omega), hqA]
        rfl
      rw [hM]
      refine At.finR rfl [(2004005, .val (.int .i64 2)), (2005006, .val (.v (.bool false))), (12002, hText (TV.v (.slice ta 0 ct)) [] 0 (textL tx 0))] ⟨trivial, trivial, hText_ok _ hT 0 (by omega), trivial⟩ [.n, .n, .n, .y] (rows2 := [(7001, ⟨[.fnc (updF (chunkF [stv [], .int .i64 2, stv []] 3 1) 0 [stv [], .int .i64 2, stv ([116] ++ textL tx 0)]) 3 1], true, some (55, 3)⟩)]) (x := .s (.lf (.sl 7001 0 0 3 1 none)))
        (ob := [[(((n : Nat) : Int) == 0) = false, 0 ≤ (0 : Int) ∧ (0 : Int) < (n : Int), 0 < N.length, IntKind.i64.wrap ((nsf N 0).toNat : Int) = ((nsf N 0).toNat : Int), 0 ≤ ((nsf N 0).toNat : Int) ∧ (0 : Int) < 5, TV.int .i64 (1 + ((nsf N 0).toNat : Int) % 5) = TV.int .i64 2, inI (1 + ((nsf N 0).toNat : Int) % 5)], [vB (decide ((n : Int) > 3)) false, false = false, false = false, true = true], qL (hText (TV.v (.slice ta 0 ct)) [] 0 (textL tx 0)), [(1 : Int) + ((textL tx 0).length : Int) ≤ 9223372036854775807, 0 ≤ (0 : Int) ∧ (0 : Int) < ((1 : Nat) : Int), 0 < 1]].flatten) (by kernel_rfl) (all_flat ⟨⟨by simp; omega, ⟨by omega, by omega⟩, by omega, wrapN _, ⟨by omega, by omega⟩, by rw [hq]; rfl, ⟨by omega, by omega⟩, trivial⟩, ⟨by show TV.v _ = TV.v _; rw [decide_eq_false (by omega)], rfl, rfl, rfl, trivial⟩, all_qL _, ⟨by omega, ⟨by omega, by omega⟩, by omega, trivial⟩, trivial⟩) fun ρ' w' hf he hx hq2 => ?_
      refine hfin 7001 [(⟨[], 2, ([116] ++ textL tx 0)⟩ : Nd)] 1 ρ' w' hf he hx fun z hz => ?_
      obtain rfl := List.mem_singleton.1 hz
      obtain ⟨g1, g2, g3⟩ := hq2 _ (List.mem_singleton.2 rfl)
      refine ⟨?_, rowN_ok _ 1, g3⟩
      have e : ∀ σ : Env, lst σ [Pc.fnc (updF (chunkF [stv [], .int .i64 2, stv []] 3 1) 0 [stv [], .int .i64 2, stv ([116] ++ textL tx 0)]) 3 1] = lst σ [Pc.fnc (ndc [(⟨[], 2, ([116] ++ textL tx 0)⟩ : Nd)]) 3 1] := fun σ => rfl
      unfold RowAt at g1 ⊢
      rw [← e]
      exact g1
    · have hM : madeL tx N = [(⟨[], 3, [116, 111]⟩ : Nd)] := by
        rw [hN]
        show (if _ then _ else if _ then _ else _) = _
        rw [if_neg (by omega), if_pos (by omega)]

      rw [hM]
      refine At.finR rfl [(2004005, .val (.int .i64 3)), (2005006, .val (.v (.bool false)))] ⟨trivial, trivial, trivial⟩ [.n, .n, .y] (rows2 := [(7001, ⟨[.fnc (updF (chunkF [stv [], .int .i64 3, stv []] 3 1) 0 [stv [], .int .i64 3, stv [116, 111]]) 3 1], true, some (55, 3)⟩)]) (x := .s (.lf (.sl 7001 0 0 3 1 none)))
        (ob := [[(((n : Nat) : Int) == 0) = false, 0 ≤ (0 : Int) ∧ (0 : Int) < (n : Int), 0 < N.length, IntKind.i64.wrap ((nsf N 0).toNat : Int) = ((nsf N 0).toNat : Int), 0 ≤ ((nsf N 0).toNat : Int) ∧ (0 : Int) < 5, TV.int .i64 (1 + ((nsf N 0).toNat : Int) % 5) = TV.int .i64 3, inI (1 + ((nsf N 0).toNat : Int) % 5)], [vB (decide ((n : Int) > 3)) false, false = false, true = true], [0 ≤ (0 : Int) ∧ (0 : Int) < ((1 : Nat) : Int), 0 < 1]].flatten) (by kernel_rfl) (all_flat ⟨⟨by simp; omega, ⟨by omega, by omega⟩, by omega, wrapN _, ⟨by omega, by omega⟩, by rw [hq]; rfl, ⟨by omega, by omega⟩, trivial⟩, ⟨by show TV.v _ = TV.v _; rw [decide_eq_false (by omega)], rfl, rfl, trivial⟩, ⟨⟨by omega, by omega⟩, by omega, trivial⟩, trivial⟩) fun ρ' w' hf he hx hq2 => ?_
      refine hfin 7001 [(⟨[], 3, [116, 111]⟩ : Nd)] 1 ρ' w' hf he hx fun z hz => ?_
      obtain rfl := List.mem_singleton.1 hz
      obtain ⟨g1, g2, g3⟩ := hq2 _ (List.mem_singleton.2 rfl)
      refine ⟨?_, rowN_ok _ 1, g3⟩
      have e : ∀ σ : Env, lst σ [Pc.fnc (updF (chunkF [stv [], .int .i64 3, stv []] 3 1) 0 [stv [], .int .i64 3, stv [116, 111]]) 3 1] = lst σ [Pc.fnc (ndc [(⟨[], 3, [116, 111]⟩ : Nd)]) 3 1] := fun σ => rfl
      unfold RowAt at g1 ⊢
      rw [← e]
      exact g1
    · exact At.run rfl [(2004005, .val (.int .i64 4)), (2005006, .val (.v (.bool false))), (2014000, .val (.tup []))] ⟨trivial, trivial, trivial, trivial⟩ [.n, .n, .n, .n] (tm2 := [(0, .s (.lf (.sl 0 0 0 1 n (some c)))), (1, (TV.v (.slice ta 0 ct))), (6, .s (.lf (.sl 7001 0 0 3 1 none)))]) (rows2 := [(0, numRow N), (7001, ⟨[.fnc (chunkF [stv [], .int .i64 4, stv []] 3 1) 3 1], true, some (55, 3)⟩)]) (ob := [(((n : Nat) : Int) == 0) = false, 0 ≤ (0 : Int) ∧ (0 : Int) < (n : Int), 0 < N.length, IntKind.i64.wrap ((nsf N 0).toNat : Int) = ((nsf N 0).toNat : Int), 0 ≤ ((nsf N 0).toNat : Int) ∧ (0 : Int) < 5, TV.int .i64 (1 + ((nsf N 0).toNat : Int) % 5) = TV.int .i64 4, inI (1 + ((nsf N 0).toNat : Int) % 5), vB (decide ((n : Int) > 3)) false, false = false, false = false, false = false]) (td := rp Try.f17 13) (by kernel_rfl) ⟨by simp; omega, ⟨by omega, by omega⟩, by omega, wrapN _, ⟨by omega, by omega⟩, by rw [hq]; rfl, ⟨by omega, by omega⟩, by show TV.v _ = TV.v _; rw [decide_eq_false (by omega)], rfl, rfl, rfl, trivial⟩ rfl rfl (by intro h; cases h) (hdir (by omega))
    · exact At.run rfl [(2004005, .val (.int .i64 5)), (2014000, .val (.tup []))] ⟨trivial, trivial, trivial⟩ [.n, .y, .n, .n] (tm2 := [(0, .s (.lf (.sl 0 0 0 1 n (some c)))), (1, (TV.v (.slice ta 0 ct))), (6, .s (.lf (.sl 7001 0 0 3 1 none)))]) (rows2 := [(0, numRow N), (7001, ⟨[.fnc (chunkF [stv [], .int .i64 4, stv []] 3 1) 3 1], true, some (55, 3)⟩)]) (ob := [(((n : Nat) : Int) == 0) = false, 0 ≤ (0 : Int) ∧ (0 : Int) < (n : Int), 0 < N.length, IntKind.i64.wrap ((nsf N 0).toNat : Int) = ((nsf N 0).toNat : Int), 0 ≤ ((nsf N 0).toNat : Int) ∧ (0 : Int) < 5, TV.int .i64 (1 + ((nsf N 0).toNat : Int) % 5) = TV.int .i64 5, inI (1 + ((nsf N 0).toNat : Int) % 5), true = true, false = false, false = false]) (td := rp Try.f17 13) (by kernel_rfl) ⟨by simp; omega, ⟨by omega, by omega⟩, by omega, wrapN _, ⟨by omega, by omega⟩, by rw [hq]; rfl, ⟨by omega, by omega⟩, rfl, rfl, rfl, trivial⟩ rfl rfl (by intro h; cases h) (hdir (by omega))
end
end Go.Proofs.Ytglipljilcdboaa
/- Trees by numbers: how long their paths and packings are. Its condition: texts of at most 300. -/
namespace Go.Proofs.Ytglipljilcdboaa
set_option linter.unusedVariables false
set_option linter.unusedSimpArgs false
theorem dir2_path (tx : List (List UInt8)) (p : List UInt8) : ∀ (ns : List UInt8) (k cnt : Nat), ∀ c ∈ dir2L tx p ns k cnt, c.path.length ≤ p.length + 4
  | [], k, cnt, c, hc => by rw [dir2L] at hc; cases hc
  | a :: ns, k, cnt, c, hc => by
    rw [dir2L] at hc
    split at hc
    · rcases List.mem_cons.1 hc with rfl | hc
      · exact join_len p k
      · exact dir2_path tx p ns _ _ c hc
    · cases hc
theorem dir_path (tx : List (List UInt8)) : ∀ (F dl : Nat) (p ns : List UInt8) (k cnt : Nat), ∀ c ∈ dirL tx F dl p ns k cnt, c.path.length ≤ p.length + 4 * (dl + 1)
  | 0, dl, p, ns, k, cnt, c, hc => by rw [dirL] at hc; cases hc
  | F + 1, dl, p, [], k, cnt, c, hc => by rw [dirL] at hc; cases hc; all_goals (intros; simp_all)
  | F + 1, dl, p, [_], k, cnt, c, hc => by rw [dirL] at hc; cases hc; all_goals (intros; simp_all)
  | F + 1, dl, p, [_, _], k, cnt, c, hc => by rw [dirL] at hc; cases hc; all_goals (intros; simp_all)
  | F + 1, dl, p, a :: b :: d :: ns, k, cnt, c, hc => by
    rw [dirL] at hc
    split at hc
    · split at hc
      · split at hc
        · rename_i h1 h2 h3
          rcases List.mem_cons.1 hc with rfl | hc
          · exact Nat.le_trans (join_len p _) (by omega)
          · rcases List.mem_append.1 hc with hc | hc
            · have := dir_path tx F (dl - 1) _ _ _ _ c hc
              have h9 := join_len p (k + a.toNat % 3)
              omega
            · have := dir2_path tx p _ _ _ c hc
              omega
        · rcases List.mem_cons.1 hc with rfl | hc
          · exact Nat.le_trans (join_len p _) (by omega)
          · exact dir_path tx F dl p ns _ _ c hc
      · cases hc
    · cases hc
theorem may_data_len (c : Nd) (h : mayDataL c = true) : c.data.length ≤ 65536 := by
  unfold mayDataL at h
  split at h
  · simpa using h
  · split at h
    · simp at h; omega
    · split at h
      · simp at h; rw [h]; simp
      · cases h
theorem made_len (tx : List (List UInt8)) (h : ∀ t ∈ tx, t.length ≤ 300) (ns : List UInt8) : 0 < (madeL tx ns).length ∧ (madeL tx ns).length ≤ 256 ∧ (∀ c ∈ madeL tx ns, c.path.length ≤ 10000) ∧ ∀ c ∈ madeL tx ns, c.data.length ≤ 65536 := by
  have hm := made_may tx h ns
  obtain ⟨d, r, e⟩ : ∃ d r, madeL tx ns = d :: r := by
    cases hz : madeL tx ns with
    | nil => rw [hz] at hm; cases hm
    | cons d r => exact ⟨d, r, rfl⟩
  have hp : ∀ c ∈ madeL tx ns, c.path.length ≤ 10000 := by
    cases ns with
    | nil => intro c hc; simp [madeL] at hc; subst hc; simp
    | cons a m =>
      intro c hc
      unfold madeL at hc
      simp only at hc
      split at hc
      · rcases List.mem_cons.1 hc with rfl | hc
        · simp
        · have := dir_path tx _ _ _ _ _ _ c hc
          simp at this
          omega
      · split at hc
        · simp at hc; subst hc; simp
        · simp at hc; subst hc; simp
  rw [e] at hm hp ⊢
  unfold mayL at hm
  simp only [Bool.and_eq_true, decide_eq_true_eq, List.all_eq_true] at hm
  obtain ⟨⟨⟨⟨h1, h2⟩, h3⟩, h4⟩, h5⟩ := hm
  refine ⟨by simp, by rw [List.length_cons]; omega, hp, fun c hc => ?_⟩
  rcases List.mem_cons.1 hc with rfl | hc
  · exact may_data_len _ h3
  · exact may_data_len _ (h4 c hc).2
end Go.Proofs.Ytglipljilcdboaa
/- NarMade: trees by numbers may be, and their packing is as the document says: the law returns true whatever comes in. Its condition: numbers of at most 2^47. -/
namespace Go.Proofs.Ytglipljilcdboaa
open Go.RowKit Go.Shelf
set_option linter.unusedVariables false
set_option linter.unusedSimpArgs false
section
open E
abbrev hTree (id : Nat) (tn tv : TV) (rl : List (Nat × Row)) (L : List Nd) (n : Nat) : Hint := .call ⟨17, fun ρ => #[tn.val ρ, tv.val ρ], .s (.lf (.sl id 0 0 3 n none)), rl, [], some (rowN L n), []⟩
theorem ent17t : Enters Try.prog 17 := enters_of Try.func17 (by kernel_rfl) rfl
theorem hTree_of {id : Nat} {tn tv : TV} {rl : List (Nat × Row)} {L : List Nd} {n : Nat} (h : ∀ (ρ : Env) (w : World), (∀ q ∈ rl, RowAt ρ q.1 q.2 w) → Calls Try.prog 17 #[tn.val ρ, tv.val ρ] w (TOut w L n)) : HintOk Try.prog id (hTree id tn tv rl L n) := by
  refine call_ok ent17t trivial (fun p hp => by cases hp) fun ρ w hr => (h ρ w hr).mono ?_
  rintro e w' ⟨B, rfl, h0, hf, hb, hrow⟩
  refine ⟨B, ?_, hf, (fun p hp => by cases hp), fun row hrw => ?_⟩
  · show _ = Ending.returned (.slice (some ⟨(setE ρ id B id).1, (setE ρ id B id).2 + (0 + 0 * 3), none⟩) n ((setE ρ id B id).3 - 0))
    rw [setE_same, h0]
    rfl
  · cases hrw
    exact ⟨hb, rowAt_mv hrow (setE_same ρ id B), rowN_ok L n⟩
set_option maxRecDepth 100000 in
theorem tree_nil1 (na : Option Addr) (c : Nat) (tx : List (List UInt8)) (ta : Option Addr) (ct : Nat) (hT : TxSrc (TV.s (.lf (.sl 1 0 0 1 tx.length (some ct)))) [(1, txtRow tx)] tx) (ρ : Env) (w : World) (hr : ∀ q ∈ ([(1, txtRow tx)] : List (Nat × Row)), RowAt ρ q.1 q.2 w) : Calls Try.prog 17 #[.slice na 0 c, (TV.s (.lf (.sl 1 0 0 1 tx.length (some ct)))).val ρ] w (TOut w (madeL tx []) (madeL tx []).length) := by
  refine At.calls (args := [.v (.slice na 0 c), (TV.s (.lf (.sl 1 0 0 1 tx.length (some ct))))]) (rows := [(1, txtRow tx)]) (gl := []) (wr := []) (ρ := ρ) Try.func17 rfl rfl (init_ro1 ⟨rfl, trivial, trivial⟩ rfl rfl ⟨⟨hr (1, txtRow tx) (by simp), txt_ok tx⟩, trivial⟩) rfl ?_
  refine At.finR rfl [(3001, hText (TV.s (.lf (.sl 1 0 0 1 tx.length (some ct)))) [(1, txtRow tx)] 0 (textL tx 0))] ⟨hText_ok _ hT 0 (by omega), trivial⟩ [.y] (rows2 := [(3003, ⟨[.fnc (chunkF [stv [], .int .i64 1, stv (textL tx 0)] 3 1) 3 1], true, some (55, 3)⟩)]) (x := .s (.lf (.sl 3003 0 0 3 1 none))) (ob := [[true = true], qL (hText (TV.s (.lf (.sl 1 0 0 1 tx.length (some ct)))) [(1, txtRow tx)] 0 (textL tx 0))].flatten) (by kernel_rfl) (all_flat ⟨⟨rfl, trivial⟩, all_qL _, trivial⟩) fun ρ' w' hf he hx hq => ?_
  obtain ⟨g1, _, g3⟩ := hq _ (List.mem_singleton.2 rfl)
  refine tout_fin (L := [(⟨[], 1, textL tx 0⟩ : Nd)]) (n := 1) hf ?_ (g3 rfl)
  have e : ∀ σ : Env, lst σ [Pc.fnc (chunkF [stv [], .int .i64 1, stv (textL tx 0)] 3 1) 3 1] = lst σ [Pc.fnc (ndc [(⟨[], 1, textL tx 0⟩ : Nd)]) 3 1] := fun σ => rfl
  unfold RowAt at g1 ⊢
  rw [← e]
  exact g1
set_option maxRecDepth 100000 in
theorem tree_nil0 (na : Option Addr) (c : Nat) (tx : List (List UInt8)) (ta : Option Addr) (ct : Nat) (hT : TxSrc (TV.v (.slice ta 0 ct)) [] tx) (ρ : Env) (w : World) (hr : ∀ q ∈ ([] : List (Nat × Row)), RowAt ρ q.1 q.2 w) : Calls Try.prog 17 #[.slice na 0 c, (TV.v (.slice ta 0 ct)).val ρ] w (TOut w (madeL tx []) (madeL tx []).length) := by
  refine At.calls (args := [.v (.slice na 0 c), (TV.v (.slice ta 0 ct))]) (rows := []) (gl := []) (wr := []) (ρ := ρ) Try.func17 rfl rfl (init_ro1 ⟨rfl, rfl, trivial⟩ rfl rfl trivial) rfl ?_
  refine At.finR rfl [(3001, hText (TV.v (.slice ta 0 ct)) [] 0 (textL tx 0))] ⟨hText_ok _ hT 0 (by omega), trivial⟩ [.y] (rows2 := [(3003, ⟨[.fnc (chunkF [stv [], .int .i64 1, stv (textL tx 0)] 3 1) 3 1], true, some (55, 3)⟩)]) (x := .s (.lf (.sl 3003 0 0 3 1 none))) (ob := [[true = true], qL (hText (TV.v (.slice ta 0 ct)) [] 0 (textL tx 0))].flatten) (by kernel_rfl) (all_flat ⟨⟨rfl, trivial⟩, all_qL _, trivial⟩) fun ρ' w' hf he hx hq => ?_
  obtain ⟨g1, _, g3⟩ := hq _ (List.mem_singleton.2 rfl)
  refine tout_fin (L := [(⟨[], 1, textL tx 0⟩ : Nd)]) (n := 1) hf ?_ (g3 rfl)
  have e : ∀ σ : Env, lst σ [Pc.fnc (chunkF [stv [], .int .i64 1, stv (textL tx 0)] 3 1) 3 1] = lst σ [Pc.fnc (ndc [(⟨[], 1, textL tx 0⟩ : Nd)]) 3 1] := fun σ => rfl
  unfold RowAt at g1 ⊢
  rw [← e]
  exact g1
end
end Go.Proofs.Ytglipljilcdboaa
/- The statements: few texts, and short. Its condition: texts as they lie in memory. -/
namespace Go.Proofs.Ytglipljilcdboaa
open Go.RowKit Go.Shelf
set_option linter.unusedVariables false
set_option linter.unusedSimpArgs false
section
open E
def fewL (tx : List (List UInt8)) : Bool := decide (tx.length ≤ 8) && tx.all fun t => decide (t.length ≤ 300)
theorem few_no {tx : List (List UInt8)} {i : Nat} (h : i < tx.length) (hb : 300 < (txf tx i).length) : fewL tx = false := by
  cases hf : fewL tx with
  | false => rfl
  | true =>
    unfold fewL at hf
    rw [Bool.and_eq_true, List.all_eq_true] at hf
    have hm : txf tx i ∈ tx := by unfold txf; rw [List.getD_eq_getElem?_getD, List.getElem?_eq_getElem h]; exact List.getElem_mem h
    have := of_decide_eq_true (hf.2 _ hm)
    omega
theorem few_yes {tx : List (List UInt8)} (h : ∀ j, j < tx.length → j < 9 → (txf tx j).length ≤ 300) : fewL tx = decide ((tx.length : Int) ≤ 8) := by
  have e : decide ((tx.length : Int) ≤ 8) = decide (tx.length ≤ 8) := by congr 1; simp only [eq_iff_iff]; omega
  rw [e]
  unfold fewL
  by_cases h8 : tx.length ≤ 8
  · rw [decide_eq_true h8, Bool.true_and, List.all_eq_true]
    intro t ht
    obtain ⟨j, hj, rfl⟩ := List.mem_iff_getElem.1 ht
    have := h j hj (by omega)
    unfold txf at this
    rw [List.getD_eq_getElem?_getD, List.getElem?_eq_getElem hj] at this
    exact decide_eq_true this
  · rw [decide_eq_false h8]; rfl
theorem few_all {tx : List (List UInt8)} (h : fewL tx = true) : tx.length ≤ 8 ∧ ∀ t ∈ tx, t.length ≤ 300 := by
  unfold fewL at h
  rw [Bool.and_eq_true, List.all_eq_true] at h
  exact ⟨of_decide_eq_true h.1, fun t ht => of_decide_eq_true (h.2 t ht)⟩
abbrev BoolQ (w : World) (b : Bool) : Ending → World → Prop := fun e w' => e = .returned (.bool b) ∧ Below w.heap.size w w'
set_option maxRecDepth 100000 in
theorem few_row (ρ : Env) (w : World) (tx : List (List UInt8)) (ct : Nat) (hl : tx.length ≤ 9223372036854775807) (h : RowAt ρ 1 (txtRow tx) w) : Calls Try.prog 16 #[(txA tx ct).val ρ] w (BoolQ w (fewL tx)) := by
  refine At.calls (args := [txA tx ct]) (rows := [(1, txtRow tx)]) (gl := []) (wr := []) (ρ := ρ) Try.func16 rfl rfl (init_ro1 ⟨trivial, trivial⟩ rfl rfl ⟨⟨h, txtRow_ok tx⟩, trivial⟩) rfl ?_
  have hloop : ∀ i : Nat, (i ≤ tx.length ∧ i ≤ 9 ∧ ∀ j, j < i → (txf tx j).length ≤ 300) → At Try.prog w ⟨[], ρ, []⟩ Try.f16.ntmps [] (lp Try.f16 0) (EndX Try.prog Try.f16 (BoolQ w (fewL tx))) [(0, txA tx ct), (3, .int .i64 (i : Int))] [(1, txtRow tx)] := by
    refine At.loop (fun i : Nat => [(0, txA tx ct), (3, .int .i64 (i : Int))]) (fun _ => [(1, txtRow tx)]) (fun i => i ≤ tx.length ∧ i ≤ 9 ∧ ∀ j, j < i → (txf tx j).length ≤ 300) (fun i => tx.length - i) fun i ⟨hi, h9, hj⟩ ih => ?_
    obtain ⟨px, hpx⟩ : ∃ px, px = txf tx (addN 0 (i : Int).toNat) := ⟨_, rfl⟩
    have hpx2 : px = txf tx i := by rw [hpx, addN_eq, Nat.zero_add, Int.toNat_natCast]
    by_cases h1 : i < tx.length
    · have ad : addN 0 (i : Int).toNat < tx.length := by rw [addN_eq, Nat.zero_add, Int.toNat_natCast]; exact h1
      have bd : (0 : Int) ≤ (i : Int) ∧ (i : Int) < (tx.length : Int) := ⟨by omega, by omega⟩
      have dl : TV.v (.bool (decide ((i : Int) < (tx.length : Int)))) = TV.v (.bool true) := by rw [decide_eq_true (by omega)]
      by_cases h2 : i < 9
      · have d9 : decide ((i : Int) < 9) = true := decide_eq_true (by omega)
        by_cases h3 : 300 < (txf tx i).length
        · rw [few_no h1 h3]
          exact At.fin rfl [(2003003, .val (.v (.bool true)))] ⟨trivial, trivial⟩ [.y, .y] (x := .v (.bool false)) (ob := [TV.v (.bool (decide ((i : Int) < (tx.length : Int)))) = TV.v (.bool true), decide ((i : Int) < 9) = true, 0 ≤ (i : Int) ∧ (i : Int) < (tx.length : Int), addN 0 (i : Int).toNat < tx.length, decide (((txf tx (addN 0 (i : Int).toNat)).length : Int) > 300) = true]) (by kernel_rfl) ⟨dl, d9, bd, ad, decide_eq_true (by rw [← hpx, hpx2]; omega), trivial⟩ fun ρ' w' hf _ => ⟨rfl, hf.below⟩
        · exact At.run rfl [(2003003, .val (.v (.bool true)))] ⟨trivial, trivial⟩ [.y, .n] (tm2 := [(0, txA tx ct), (3, .int .i64 ((i + 1 : Nat) : Int))]) (rows2 := [(1, txtRow tx)]) (ob := [TV.v (.bool (decide ((i : Int) < (tx.length : Int)))) = TV.v (.bool true), decide ((i : Int) < 9) = true, 0 ≤ (i : Int) ∧ (i : Int) < (tx.length : Int), addN 0 (i : Int).toNat < tx.length, decide (((txf tx (addN 0 (i : Int).toNat)).length : Int) > 300) = false, inI ((i : Int) + 1)]) (td := lp Try.f16 0) (by kernel_rfl) ⟨dl, d9, bd, ad, decide_eq_false (by rw [← hpx, hpx2]; omega), ⟨by omega, by omega⟩, trivial⟩ rfl rfl (by intro h; cases h) (ih (i + 1) ⟨h1, by omega, fun j hj2 => (by
            by_cases e : j = i
            · rw [e]; omega
            · exact hj j (by omega))⟩ (by omega))
      · rw [few_yes (fun j hj1 hj2 => hj j (by omega))]
        exact At.fin rfl [(2003003, .val (.v (.bool true)))] ⟨trivial, trivial⟩ [.n] (x := .v (.bool (decide ((tx.length : Int) ≤ 8)))) (ob := [TV.v (.bool (decide ((i : Int) < (tx.length : Int)))) = TV.v (.bool true), decide ((i : Int) < 9) = false]) (by kernel_rfl) ⟨dl, decide_eq_false (by omega), trivial⟩ fun ρ' w' hf _ => ⟨rfl, hf.below⟩
    · have dl : TV.v (.bool (decide ((i : Int) < (tx.length : Int)))) = TV.v (.bool false) := by rw [decide_eq_false (by omega)]
      rw [few_yes (fun j hj1 hj2 => hj j (by omega))]
      exact At.fin rfl [(2003003, .val (.v (.bool false)))] ⟨trivial, trivial⟩ [.n] (x := .v (.bool (decide ((tx.length : Int) ≤ 8)))) (ob := [TV.v (.bool (decide ((i : Int) < (tx.length : Int)))) = TV.v (.bool false), false = false]) (by kernel_rfl) ⟨dl, rfl, trivial⟩ fun ρ' w' hf _ => ⟨rfl, hf.below⟩
  exact At.run rfl [] trivial [] (tm2 := [(0, txA tx ct), (3, .int .i64 ((0 : Nat) : Int))]) (rows2 := [(1, txtRow tx)]) (ob := []) (td := lp Try.f16 0) (by kernel_rfl) trivial rfl rfl (by intro h; cases h) (hloop 0 ⟨Nat.zero_le _, by decide, fun j hj => absurd hj (Nat.not_lt_zero _)⟩)
set_option maxRecDepth 100000 in
theorem few_nil (ta : Option Addr) (ct : Nat) (w : World) : Calls Try.prog 16 #[.slice ta 0 ct] w (BoolQ w true) := by
  refine At.calls (args := [.v (.slice ta 0 ct)]) (rows := []) (gl := []) (wr := []) (ρ := fun _ => (⟨0, 0, 0⟩ : Blk)) Try.func16 rfl rfl (init_rw ⟨rfl, trivial⟩ rfl rfl rfl (fun p hp => by cases hp) (fun p hp => by cases hp) (fun p hp => by cases hp)) rfl ?_
  exact At.fin rfl [] trivial [.u, .n] (x := .v (.bool true)) (ob := [false = false]) (by kernel_rfl) ⟨rfl, trivial⟩ fun ρ' w' hf _ => ⟨rfl, hf.below⟩
theorem ent16 : Enters Try.prog 16 := enters_of Try.func16 (by kernel_rfl) rfl
abbrev hFw (tv : TV) (rl : List (Nat × Row)) (b : Bool) : Hint := pr 16 (fun ρ => #[tv.val ρ]) (.v (.bool b)) rl
theorem hFw1_ok (id : Nat) (tx : List (List UInt8)) (ct : Nat) (hl : tx.length ≤ 9223372036854775807) : HintOk Try.prog id (hFw (txA tx ct) [(1, txtRow tx)] (fewL tx)) :=
  pr_ok ent16 (v := .bool (fewL tx)) rfl (fun _ => rfl) fun ρ w h => few_row ρ w tx ct hl (h (1, txtRow tx) (by simp))
theorem hFw0_ok (id : Nat) (ta : Option Addr) (ct : Nat) : HintOk Try.prog id (hFw (.v (.slice ta 0 ct)) [] (fewL [])) :=
  have e : fewL [] = true := rfl
  by rw [e]; exact pr_ok ent16 (v := .bool true) rfl (fun _ => rfl) fun ρ w h => few_nil ta ct w
/-- What a tree by numbers is good for. -/
theorem made_fit (tx : List (List UInt8)) (h : ∀ t ∈ tx, t.length ≤ 300) (ns : List UInt8) : fitL (madeL tx ns) := by
  obtain ⟨_, h2, h3, h4⟩ := made_len tx h ns
  refine ⟨made_may tx h ns, h2, fun c hc => Nat.le_trans (h3 c hc) (by decide), fun c hc => Nat.le_trans (h4 c hc) (by decide), ?_⟩
  have := costs_le 1000000 (madeL tx ns) (fun c hc => by have := h3 c hc; have := h4 c hc; omega)
  have : (madeL tx ns).length * 1000000 ≤ 256 * 1000000 := Nat.mul_le_mul_right _ h2
  omega
end
end Go.Proofs.Ytglipljilcdboaa
/- Of the bytes of a tree: how many. No condition but what each names. -/
namespace Go.Proofs.Ytglipljilcdboaa
open Go.RowKit Go.Shelf
set_option linter.unusedVariables false
set_option linter.unusedSimpArgs false
section
open E
theorem tree_pos {L : List Nd} (h : mayL L = true) : 0 < (treeL L).length := by
  cases L with
  | nil => simp [mayL] at h
  | cons d r =>
    show 0 < (strL tMagic ++ _).length
    rw [List.length_append, strL_len]
    omega
theorem tree_long {L : List Nd} (h : fitL L) : (treeL L).length ≤ 10000000000 := by
  cases L with
  | nil => exact Nat.zero_le _
  | cons d r =>
    obtain ⟨h1, h2, h3, h4, _⟩ := h
    have := costs_le 3000000 (d :: r) (fun c hc => by have := h3 c hc; have := h4 c hc; omega)
    have h6 : (d :: r).length * 3000000 ≤ 256 * 3000000 := Nat.mul_le_mul_right _ h2
    have h7 := ((byt_cost (fuelN r)).1 d r)
    rw [costs_cons] at this
    have h8 := h4 d (by simp)
    unfold costB at h7
    show (strL tMagic ++ (bytU (fuelN r) d r).1).length ≤ _
    rw [List.length_append]
    have : (strL tMagic).length = 24 := rfl
    omega
abbrev hPkS (r : Nat) (L : List Nd) (S : List UInt8) : Hint := pr 18 (fun ρ => #[(TV.s (.lf (slN r L.length))).val ρ]) (.s (.agg [.one (.v (stv S)), .one (.v (.int .i64 0))])) [(r, rowN L L.length)]
end
end Go.Proofs.Ytglipljilcdboaa
/- The statements: ParsePieces: the loop, whole. Its condition: texts as they lie in memory. -/
namespace Go.Proofs.Ytglipljilcdboaa
open Go.RowKit Go.Shelf
set_option linter.unusedVariables false
set_option linter.unusedSimpArgs false
section
open E
structure PcX where
  W : World
  i : Nat
  D : List Nat
end
end Go.Proofs.Ytglipljilcdboaa
