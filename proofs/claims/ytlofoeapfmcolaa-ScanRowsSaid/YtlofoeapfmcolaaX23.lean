/- ScanMade's law, whole. Its condition: lengths that fit. -/
import Derived.Test.YtlofoeapfmcolaaX22
namespace Go.Proofs.Ytlofoeapfmcolaa
open Go Go.RowKit
set_option linter.unusedVariables false
set_option linter.unusedSimpArgs false
section
open E
/-- The first so many parts by numbers. -/
def psN (ws : List UInt8) (i : Nat) : List (List UInt8) := (ws.take i).map fun c => partL (c.toNat % 18)
theorem psN_len {ws : List UInt8} {i : Nat} (h : i ≤ ws.length) : (psN ws i).length = i := by unfold psN; rw [List.length_map, List.length_take]; omega
theorem psN_60 (ws : List UInt8) (i : Nat) : ∀ p ∈ psN ws i, p.length ≤ 60 := fun p hp => by
  obtain ⟨c, _, rfl⟩ := List.mem_map.1 hp
  rw [partL_len]; decide
theorem psN_succ {ws : List UInt8} {i : Nat} (h : i < ws.length) : psN ws (i + 1) = psN ws i ++ [partL ((ws.getD i 0).toNat % 18)] := by
  unfold psN
  rw [List.take_add_one, List.getElem?_eq_getElem h, List.map_append, List.getD_eq_getElem?_getD, List.getElem?_eq_getElem h]
  rfl
theorem st_one (p : List UInt8) : ∀ q, q < 1 → chunkF [stv p] 1 1 (addN 0 q) = strF [p] q := by
  intro q hq
  obtain rfl : q = 0 := by omega
  rfl
theorem st_step (L : List (List UInt8)) (n : Nat) (p : List UInt8) (hn : n = L.length) : ∀ q, q < n + 1 → appF (strF L) n (fun q => chunkF [stv p] 1 1 (addN 0 q)) q = strF (L ++ [p]) q := by
  intro q hq
  subst hn
  by_cases h : q < L.length
  · rw [appF_lo h]
    show [stv (L.getD q [])] = [stv ((L ++ [p]).getD q [])]
    rw [List.getD_eq_getElem?_getD, List.getD_eq_getElem?_getD, List.getElem?_append_left h]
  · obtain rfl : q = L.length := by omega
    rw [appF_hi (Nat.le_refl _), Nat.sub_self]
    show [stv p] = [stv ((L ++ [p]).getD L.length [])]
    rw [List.getD_eq_getElem?_getD, List.getElem?_append_right (Nat.le_refl _), Nat.sub_self]
    rfl
abbrev CsIn (W0 : World) (cs : List UInt8) (pc : Option Addr) (cc : Nat) : Prop := cs = [] ∨ ∃ b2 : Blk, pc = some ⟨b2.1, b2.2, none⟩ ∧ b2.3 = cc ∧ RowAt (fun _ => b2) 2 (nuR cs) W0
abbrev whR (ws : List UInt8) : Nat → List (Nat × Row)
  | 0 => [(1, nuR ws)]
  | i + 1 => [(1, nuR ws), (2904, ⟨[.fnc (strF (psN ws (i + 1))) 1 (i + 1)], true, some (9, 1)⟩)]
abbrev whT (ws s cs : List UInt8) (pc : Option Addr) (cc i : Nat) : List (Nat × TV) := [(1, .s (.lf (.sl 1 0 0 1 ws.length none))), (2, .v (.slice pc cs.length cc)), (7, .v (stv s)), (8, slT 2904 i), (9, .int .i64 (i : Int))]
set_option maxRecDepth 100000 in
theorem made_which (W : World) (ρ : Env) (ws s cs : List UInt8) (hws : ws.length ≤ 140737488355328) (hs : s.length ≤ 1000) (pc : Option Addr) (cc : Nat) (hcs : cs.length ≤ 140737488355328) (hc : CsIn W cs pc cc) :
    At Try.prog W ⟨[], ρ, []⟩ Try.f4.ntmps [] (lp Try.f4 0) (EndX Try.prog Try.f4 (FrQ W)) (whT ws s cs pc cc 0) (whR ws 0) := by
  refine At.loop (fun i : Nat => whT ws s cs pc cc i) (fun i => whR ws i) (fun i => i ≤ ws.length ∧ i ≤ 8) (fun i => 8 - i) (fun i hI ih => ?_) 0 ⟨Nat.zero_le _, Nat.zero_le _⟩
  obtain ⟨hi, h8⟩ := hI
  by_cases h : i < ws.length ∧ i < 8
  · obtain ⟨h, hlt⟩ := h
    obtain ⟨v, hv⟩ : ∃ v, v = (ws.getD i 0).toNat := ⟨_, rfl⟩
    have hv2 : v < 256 := by rw [hv]; exact UInt8.toNat_lt _
    obtain ⟨k, hk⟩ : ∃ k, k = v % 18 := ⟨_, rfl⟩
    have hk2 : k < 18 := by rw [hk]; exact Nat.mod_lt _ (by decide)
    have hvv : TV.int .u8 (((ws.getD (addN 0 (i : Int).toNat) 0).toNat : Nat) : Int) = TV.int .u8 (v : Int) := tv_int (by rw [hv, addN_eq, Nat.zero_add, Int.toNat_natCast])
    have hkv : TV.int .u8 ((v : Int) % 18) = TV.int .u8 (k : Int) := tv_int (by rw [hk]; simp)
    have hpt := hPt_ok 7006 k (by omega)
    have h9 := ih (i + 1) ⟨h, hlt⟩ (by show 8 - (i + 1) < 8 - i; omega)
    have hsuc : psN ws (i + 1) = psN ws i ++ [partL k] := by rw [psN_succ h, hk, hv]
    have hlen := psN_len hi
    have hren : At Try.prog W ⟨[], ρ, []⟩ Try.f4.ntmps [] (lp Try.f4 0) (EndX Try.prog Try.f4 (FrQ W)) [(1, .s (.lf (.sl 1 0 0 1 ws.length none))), (2, .v (.slice pc cs.length cc)), (7, .v (stv s)), (8, .s (.lf (.sl 7008 0 0 1 (i + 1) none))), (9, .int .i64 ((i + 1 : Nat) : Int))] [(1, nuR ws), (7008, ⟨[.fnc (strF (psN ws (i + 1))) 1 (i + 1)], true, some (9, 1)⟩)] :=
      At.ren [(2904, 7008)] (whT ws s cs pc cc (i + 1)) (whR ws (i + 1)) rfl rfl rfl rfl rfl h9
    rw [hsuc] at hren
    cases i with
    | zero =>
      have e0 : psN ws 0 = [] := rfl
      rw [e0] at hren
      refine At.run rfl [(2005003, .val (.v (.bool true))), (2005006, .val (.v (.bool true))), (2007004, .val (.int .u8 (v : Int))), (2007005, .val (.int .u8 (k : Int))), (7006, hPt k)] ⟨trivial, trivial, trivial, trivial, hpt, trivial⟩ [.d] (tm2 := [(1, .s (.lf (.sl 1 0 0 1 ws.length none))), (2, .v (.slice pc cs.length cc)), (7, .v (stv s)), (8, .s (.lf (.sl 7008 0 0 1 (0 + 1) none))), (9, .int .i64 ((0 + 1 : Nat) : Int))]) (rows2 := [(1, nuR ws), (7008, ⟨[.fnc (fun q => chunkF [stv (partL k)] 1 1 (addN 0 q)) 1 1], true, some (9, 1)⟩)])
        (ob := [[TV.v (.bool (decide (((0 : Nat) : Int) < (ws.length : Int)))) = TV.v (.bool true), TV.v (.bool (decide (((0 : Nat) : Int) < 8))) = TV.v (.bool true), 0 ≤ ((0 : Nat) : Int) ∧ ((0 : Nat) : Int) < (ws.length : Int), TV.int .u8 (((ws.getD (addN 0 ((0 : Nat) : Int).toNat) 0).toNat : Nat) : Int) = TV.int .u8 (v : Int), addN 0 ((0 : Nat) : Int).toNat < ws.length, TV.int .u8 ((v : Int) % 18) = TV.int .u8 (k : Int), 0 ≤ (v : Int) ∧ (0 : Int) < 18], qL (hPt k), [0 < 1, 1 ≤ 9223372036854775807, 16 ≤ 140737488355328, 1 ≤ 1, inI (((0 : Nat) : Int) + 1)]].flatten) (td := lp Try.f4 0) (by kernel_rfl)
        (all_flat ⟨⟨tv_b (decide_eq_true (by omega)), tv_b (by decide), ⟨by omega, by omega⟩, hvv, by rw [addN_eq]; omega, hkv, ⟨by omega, by decide⟩, trivial⟩, all_qL _, ⟨by decide, by decide, by decide, by decide, ⟨by decide, by decide⟩, trivial⟩, trivial⟩) rfl rfl (by intro h; cases h) ?_
      exact At.rows (rows2 := [(1, nuR ws), (7008, ⟨[.fnc (strF ([] ++ [partL k])) 1 (0 + 1)], true, some (9, 1)⟩)]) (rowsEq_same (rowsEq_fnc (st_one (partL k)) trivial)) rfl hren
    | succ i =>
      refine At.run rfl [(2005003, .val (.v (.bool true))), (2005006, .val (.v (.bool true))), (2007004, .val (.int .u8 (v : Int))), (2007005, .val (.int .u8 (k : Int))), (7006, hPt k)] ⟨trivial, trivial, trivial, trivial, hpt, trivial⟩ [.d] (tm := whT ws s cs pc cc (i + 1)) (rows := [(1, nuR ws), (2904, ⟨[.fnc (strF (psN ws (i + 1))) 1 (i + 1)], true, some (9, 1)⟩)]) (tm2 := [(1, .s (.lf (.sl 1 0 0 1 ws.length none))), (2, .v (.slice pc cs.length cc)), (7, .v (stv s)), (8, .s (.lf (.sl 7008 0 0 1 (i + 1 + 1) none))), (9, .int .i64 ((i + 1 + 1 : Nat) : Int))]) (rows2 := [(1, nuR ws), (7008, ⟨[.fnc (appF (strF (psN ws (i + 1))) (i + 1) fun q => chunkF [stv (partL k)] 1 1 (addN 0 q)) 1 (i + 1 + 1)], true, some (9, 1)⟩)])
        (ob := [[TV.v (.bool (decide (((i + 1 : Nat) : Int) < (ws.length : Int)))) = TV.v (.bool true), TV.v (.bool (decide (((i + 1 : Nat) : Int) < 8))) = TV.v (.bool true), 0 ≤ ((i + 1 : Nat) : Int) ∧ ((i + 1 : Nat) : Int) < (ws.length : Int), TV.int .u8 (((ws.getD (addN 0 ((i + 1 : Nat) : Int).toNat) 0).toNat : Nat) : Int) = TV.int .u8 (v : Int), addN 0 ((i + 1 : Nat) : Int).toNat < ws.length, TV.int .u8 ((v : Int) % 18) = TV.int .u8 (k : Int), 0 ≤ (v : Int) ∧ (0 : Int) < 18], qL (hPt k), [i + 1 = i + 1, i + 1 + 1 ≤ 9223372036854775807, (i + 1 + 1) * 16 ≤ 140737488355328, 1 ≤ 1, inI (((i + 1 : Nat) : Int) + 1)]].flatten) (td := lp Try.f4 0) (by kernel_rfl)
        (all_flat ⟨⟨tv_b (decide_eq_true (by omega)), tv_b (decide_eq_true (by omega)), ⟨by omega, by omega⟩, hvv, by rw [addN_eq]; omega, hkv, ⟨by omega, by decide⟩, trivial⟩, all_qL _, ⟨rfl, by omega, by omega, by decide, ⟨by omega, by omega⟩, trivial⟩, trivial⟩) rfl rfl (by intro h; cases h) ?_
      exact At.rows (rows2 := [(1, nuR ws), (7008, ⟨[.fnc (strF (psN ws (i + 1) ++ [partL k])) 1 (i + 1 + 1)], true, some (9, 1)⟩)]) (rowsEq_same (rowsEq_fnc (st_step (psN ws (i + 1)) (i + 1) (partL k) (psN_len hi).symm) trivial)) rfl hren
  · have hcs2 := hc
    cases i with
    | zero =>
      have hw0 : ws.length = 0 := by omega
      refine At.run rfl [(2005003, .val (.v (.bool false))), (2008000, .val (.tup []))] ⟨trivial, trivial, trivial⟩ [.d] (tm2 := [(2, .v (.slice pc cs.length cc)), (7, .v (stv s)), (8, .v nilS)]) (rows2 := []) (ob := [TV.v (.bool (decide (((0 : Nat) : Int) < (ws.length : Int)))) = TV.v (.bool false)]) (td := rp Try.f4 7) (by kernel_rfl) ⟨tv_b (decide_eq_false (by omega)), trivial⟩ rfl rfl (by intro h; cases h) ?_
      exact made_new_nil W W ρ [] [] (fun b hb => by cases hb) (Fr.refl _ _) s hs cs pc cc hcs hc
    | succ i =>
      have hlen := psN_len hi
      have hne : psN ws (i + 1) ≠ [] := fun e => by rw [e] at hlen; simp at hlen
      have hnew := made_new_pos W W ρ [] [] (fun b hb => by cases hb) (Fr.refl _ _) (psN ws (i + 1)) hne (by omega) (psN_60 ws (i + 1)) s hs cs pc cc hcs hc
      rw [hlen] at hnew
      by_cases hl : i + 1 < ws.length
      · have h8' : ¬ i + 1 < 8 := fun hh => h ⟨hl, hh⟩
        exact At.run rfl [(2005003, .val (.v (.bool true))), (2005006, .val (.v (.bool false))), (2008000, .val (.tup []))] ⟨trivial, trivial, trivial, trivial⟩ [.d] (tm2 := [(2, .v (.slice pc cs.length cc)), (7, .v (stv s)), (8, .s (.lf (.sl 2904 0 0 1 (i + 1) none)))]) (rows2 := [(2904, ⟨[.fnc (strF (psN ws (i + 1))) 1 (i + 1)], true, some (9, 1)⟩)]) (ob := [TV.v (.bool (decide (((i + 1 : Nat) : Int) < (ws.length : Int)))) = TV.v (.bool true), TV.v (.bool (decide (((i + 1 : Nat) : Int) < 8))) = TV.v (.bool false)]) (td := rp Try.f4 7) (by kernel_rfl) ⟨tv_b (decide_eq_true (by omega)), tv_b (decide_eq_false (by omega)), trivial⟩ rfl rfl (by intro h; cases h) hnew
      · exact At.run rfl [(2005003, .val (.v (.bool false))), (2008000, .val (.tup []))] ⟨trivial, trivial, trivial⟩ [.d] (tm2 := [(2, .v (.slice pc cs.length cc)), (7, .v (stv s)), (8, .s (.lf (.sl 2904 0 0 1 (i + 1) none)))]) (rows2 := [(2904, ⟨[.fnc (strF (psN ws (i + 1))) 1 (i + 1)], true, some (9, 1)⟩)]) (ob := [TV.v (.bool (decide (((i + 1 : Nat) : Int) < (ws.length : Int)))) = TV.v (.bool false)]) (td := rp Try.f4 7) (by kernel_rfl) ⟨tv_b (decide_eq_false (by omega)), trivial⟩ rfl rfl (by intro h; cases h) hnew
set_option maxRecDepth 100000 in
theorem made_nn (pa : Option Addr) (ca : Nat) (pb : Option Addr) (cb : Nat) (cs : List UInt8) (pc : Option Addr) (cc : Nat) (hcs : cs.length ≤ 140737488355328) (W : World) (ρ : Env) (hc : CsIn W cs pc cc) : Calls Try.prog 4 #[.slice pa 0 ca, .slice pb 0 cb, .slice pc cs.length cc] W (FrQ W) := by
  refine At.calls (args := [.v (.slice pa 0 ca), .v (.slice pb 0 cb), .v (.slice pc cs.length cc)]) (rows := []) (gl := []) (wr := []) (ρ := ρ) Try.func4 rfl rfl (init_rw ⟨rfl, rfl, rfl, trivial⟩ rfl rfl rfl (fun p hp => by cases hp) (fun p hp => by cases hp) (fun p hp => by cases hp)) rfl ?_
  have hs : (textL []).length ≤ 1000 := by have := textL_len ([]); omega
  refine At.run rfl [(2001, hTx0 pa ca), (2008000, .val (.tup []))] ⟨hTx0_ok _ _ _, trivial, trivial⟩ [.u, .d] (tm2 := [(2, .v (.slice pc cs.length cc)), (7, .v (stv (textL []))), (8, .v nilS)]) (rows2 := []) (ob := qL (hTx0 pa ca)) (td := rp Try.f4 7) (by kernel_rfl) (all_qL _) rfl rfl (by intro h; cases h) ?_
  exact made_new_nil W W ρ [] [] (fun b hb => by cases hb) (Fr.refl _ _) (textL []) hs cs pc cc hcs hc
set_option maxRecDepth 100000 in
theorem made_np (pa : Option Addr) (ca : Nat) (ws : List UInt8) (hws : ws.length ≤ 140737488355328) (cs : List UInt8) (pc : Option Addr) (cc : Nat) (hcs : cs.length ≤ 140737488355328) (W : World) (ρ : Env) (h1 : RowAt ρ 1 (nuR ws) W) (hc : CsIn W cs pc cc) : Calls Try.prog 4 #[.slice pa 0 ca, (TV.s (.lf (.sl 1 0 0 1 ws.length none))).val ρ, .slice pc cs.length cc] W (FrQ W) := by
  refine At.calls (args := [.v (.slice pa 0 ca), .s (.lf (.sl 1 0 0 1 ws.length none)), .v (.slice pc cs.length cc)]) (rows := [(1, nuR ws)]) (gl := []) (wr := []) (ρ := ρ) Try.func4 rfl rfl (init_rw ⟨rfl, trivial, rfl, trivial⟩ rfl rfl rfl (fun p hp => by
    simp only [List.mem_cons, List.not_mem_nil, or_false] at hp
    rcases hp with rfl
    · exact ⟨h1, nuR_ok ws⟩) (fun p hp hw => by
    simp only [List.mem_cons, List.not_mem_nil, or_false] at hp
    rcases hp with rfl <;> cases hw) (fun p hp q hq hpq hw => by
    simp only [List.mem_cons, List.not_mem_nil, or_false] at hp
    rcases hp with rfl <;> cases hw)) rfl ?_
  have hs : (textL []).length ≤ 1000 := by have := textL_len ([]); omega
  refine At.run rfl [(2001, hTx0 pa ca)] ⟨hTx0_ok _ _ _, trivial⟩ [] (tm2 := whT ws (textL []) cs pc cc 0) (rows2 := [(1, nuR ws)]) (ob := qL (hTx0 pa ca)) (td := lp Try.f4 0) (by kernel_rfl) (all_qL _) rfl rfl (by intro h; cases h) ?_
  exact made_which W ρ ws (textL []) cs hws hs pc cc hcs hc
set_option maxRecDepth 100000 in
theorem made_pn (A : List UInt8) (hA : A.length ≤ 140737488355328) (pb : Option Addr) (cb : Nat) (cs : List UInt8) (pc : Option Addr) (cc : Nat) (hcs : cs.length ≤ 140737488355328) (W : World) (ρ : Env) (h0 : RowAt ρ 0 (nuR A) W) (hc : CsIn W cs pc cc) : Calls Try.prog 4 #[(TV.s (.lf (.sl 0 0 0 1 A.length none))).val ρ, .slice pb 0 cb, .slice pc cs.length cc] W (FrQ W) := by
  refine At.calls (args := [.s (.lf (.sl 0 0 0 1 A.length none)), .v (.slice pb 0 cb), .v (.slice pc cs.length cc)]) (rows := [(0, nuR A)]) (gl := []) (wr := []) (ρ := ρ) Try.func4 rfl rfl (init_rw ⟨trivial, rfl, rfl, trivial⟩ rfl rfl rfl (fun p hp => by
    simp only [List.mem_cons, List.not_mem_nil, or_false] at hp
    rcases hp with rfl
    · exact ⟨h0, nuR_ok A⟩) (fun p hp hw => by
    simp only [List.mem_cons, List.not_mem_nil, or_false] at hp
    rcases hp with rfl <;> cases hw) (fun p hp q hq hpq hw => by
    simp only [List.mem_cons, List.not_mem_nil, or_false] at hp
    rcases hp with rfl <;> cases hw)) rfl ?_
  have hs : (textL A).length ≤ 1000 := by have := textL_len (A); omega
  refine At.run rfl [(2001, hTx A), (2008000, .val (.tup []))] ⟨hTx_ok _ _ hA, trivial, trivial⟩ [.u, .d] (tm2 := [(2, .v (.slice pc cs.length cc)), (7, .v (stv (textL A))), (8, .v nilS)]) (rows2 := []) (ob := qL (hTx A)) (td := rp Try.f4 7) (by kernel_rfl) (all_qL _) rfl rfl (by intro h; cases h) ?_
  exact made_new_nil W W ρ [] [] (fun b hb => by cases hb) (Fr.refl _ _) (textL A) hs cs pc cc hcs hc
set_option maxRecDepth 100000 in
theorem made_pp (A : List UInt8) (hA : A.length ≤ 140737488355328) (ws : List UInt8) (hws : ws.length ≤ 140737488355328) (cs : List UInt8) (pc : Option Addr) (cc : Nat) (hcs : cs.length ≤ 140737488355328) (W : World) (ρ : Env) (h0 : RowAt ρ 0 (nuR A) W) (h1 : RowAt ρ 1 (nuR ws) W) (hc : CsIn W cs pc cc) : Calls Try.prog 4 #[(TV.s (.lf (.sl 0 0 0 1 A.length none))).val ρ, (TV.s (.lf (.sl 1 0 0 1 ws.length none))).val ρ, .slice pc cs.length cc] W (FrQ W) := by
  refine At.calls (args := [.s (.lf (.sl 0 0 0 1 A.length none)), .s (.lf (.sl 1 0 0 1 ws.length none)), .v (.slice pc cs.length cc)]) (rows := [(0, nuR A), (1, nuR ws)]) (gl := []) (wr := []) (ρ := ρ) Try.func4 rfl rfl (init_rw ⟨trivial, trivial, rfl, trivial⟩ rfl rfl rfl (fun p hp => by
    simp only [List.mem_cons, List.not_mem_nil, or_false] at hp
    rcases hp with rfl | rfl
    · exact ⟨h0, nuR_ok A⟩
    · exact ⟨h1, nuR_ok ws⟩) (fun p hp hw => by
    simp only [List.mem_cons, List.not_mem_nil, or_false] at hp
    rcases hp with rfl | rfl <;> cases hw) (fun p hp q hq hpq hw => by
    simp only [List.mem_cons, List.not_mem_nil, or_false] at hp
    rcases hp with rfl | rfl <;> cases hw)) rfl ?_
  have hs : (textL A).length ≤ 1000 := by have := textL_len (A); omega
  refine At.run rfl [(2001, hTx A)] ⟨hTx_ok _ _ hA, trivial⟩ [] (tm2 := whT ws (textL A) cs pc cc 0) (rows2 := [(1, nuR ws)]) (ob := qL (hTx A)) (td := lp Try.f4 0) (by kernel_rfl) (all_qL _) rfl rfl (by intro h; cases h) ?_
  exact made_which W ρ ws (textL A) cs hws hs pc cc hcs hc
/-- The law. -/
theorem made_all (W : World) (pa : Option Addr) (la ca : Nat) (A : List UInt8) (hA : NumIn W pa la ca A) (ba : ca ≤ 140737488355328) (pb : Option Addr) (lb cb : Nat) (ws : List UInt8) (hB : NumIn W pb lb cb ws) (bb : cb ≤ 140737488355328) (pc : Option Addr) (lc cc : Nat) (cs : List UInt8) (hC : NumIn W pc lc cc cs) (bc : cc ≤ 140737488355328) :
    Calls Try.prog 4 #[.slice pa la ca, .slice pb lb cb, .slice pc lc cc] W (FrQ W) := by
  obtain ⟨rfl, a2, a3⟩ := hA
  obtain ⟨rfl, b2, b3⟩ := hB
  obtain ⟨rfl, c2, c3⟩ := hC
  have hc : CsIn W cs pc cc := by
    rcases Nat.eq_zero_or_pos cs.length with e | e
    · exact .inl (List.length_eq_zero_iff.1 e)
    · obtain ⟨g, o, rfl, hb, hx⟩ := c3 e
      exact .inr ⟨⟨g, o, cc⟩, rfl, rfl, nu_row (c := cc) e hb hx _ 2 rfl⟩
  have hcl : cs.length ≤ 140737488355328 := by omega
  rcases Nat.eq_zero_or_pos A.length with e | e
  · rcases Nat.eq_zero_or_pos ws.length with e' | e'
    · rw [e, e']
      exact made_nn pa ca pb cb cs pc cc hcl W (fun _ => ⟨0, 0, 0⟩) hc
    · obtain ⟨g, o, rfl, hb, hx⟩ := b3 e'
      rw [e]
      exact made_np pa ca ws (by omega) cs pc cc hcl W (fun _ => ⟨g, o, cb⟩) (nu_row (c := cb) e' hb hx _ 1 rfl) hc
  · obtain ⟨g0, o0, rfl, hb0, hx0⟩ := a3 e
    rcases Nat.eq_zero_or_pos ws.length with e' | e'
    · rw [e']
      exact made_pn A (by omega) pb cb cs pc cc hcl W (fun _ => ⟨g0, o0, ca⟩) (nu_row (c := ca) e hb0 hx0 _ 0 rfl) hc
    · obtain ⟨g, o, rfl, hb, hx⟩ := b3 e'
      exact made_pp A (by omega) ws (by omega) cs pc cc hcl W (fun r => if r = 0 then ⟨g0, o0, ca⟩ else ⟨g, o, cb⟩) (nu_row (c := ca) e hb0 hx0 _ 0 rfl) (nu_row (c := cb) e' hb hx _ 1 rfl) hc
end
end Go.Proofs.Ytlofoeapfmcolaa
