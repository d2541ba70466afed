/- ScanMade's law: texts by numbers, however they come. Its condition: lengths that fit. -/
import Derived.Test.YtlofoeapfmcolaaX21
namespace Go.Proofs.Ytlofoeapfmcolaa
open Go Go.RowKit
set_option linter.unusedVariables false
set_option linter.unusedSimpArgs false
section
open E
theorem ent4 : Enters Try.prog 4 := enters_of Try.func4 (by kernel_rfl) rfl
abbrev prR (ps : List (List UInt8)) (k : Nat) : Row := ⟨[.fnc (strF ps) 1 k], false, none⟩
theorem prR_ok (ps : List (List UInt8)) (k : Nat) : pok (prR ps k).ps := pok1 fun i => ⟨rfl, fun v hv => by obtain rfl := List.mem_singleton.1 hv; rfl⟩
def tmOk1 (d : Nat) (tm : List (Nat × TV)) : List (Nat × TV) → Prop
  | [] => True
  | p :: l => (Nat.beq p.1 d = false ∧ findT tm p.1 = some p.2 ∧ (p.2.ids.all fun r => Nat.ble (r + 1) 1000) = true) ∧ tmOk1 d tm l
theorem tmOk1_mem {d : Nat} {tm : List (Nat × TV)} : ∀ {l : List (Nat × TV)}, tmOk1 d tm l → ∀ p ∈ l, p.1 ≠ d ∧ findT tm p.1 = some p.2 ∧ ∀ r ∈ p.2.ids, r < 1000
  | [], _, p, hp => by cases hp
  | q :: l, h, p, hp => by
    rcases List.mem_cons.1 hp with rfl | hp
    · obtain ⟨⟨h1, h2, h3⟩, _⟩ := h
      refine ⟨(fun e => by rw [e, Nat.beq_refl] at h1; cases h1), h2, fun r hr => ?_⟩
      exact Nat.le_of_ble_eq_true (List.all_eq_true.1 h3 r hr)
    · exact tmOk1_mem h.2 p hp
theorem wlOf_ro (σ : Env) : ∀ {rows : List (Nat × Row)}, rows.all (fun p => !p.2.w) = true → wlOf σ rows = []
  | [], _ => rfl
  | p :: rows, h => by
    rw [List.all_cons, Bool.and_eq_true] at h
    have hp : p.2.w = false := by simpa using h.1
    show (bif p.2.w then [(σ p.1).1] else []) ++ wlOf σ rows = []
    rw [hp, wlOf_ro σ h.2]; rfl
/-- One scanner, and the texts that it was made of. -/
structure One (W0 W : World) (x : SB) (ps : List (List UInt8)) (T : List UInt8) (b : Blk) (N : Nat) : Prop where
  fr : Fr W0 [] W
  hx : scT W x ps T
  xB : N ≤ x.B.1
  xm : N ≤ x.mb
  hN : W0.heap.size ≤ N
  hP : ps ≠ [] → RowAt (fun _ => b) 31 (prR ps ps.length) W ∧ b.1 < N
theorem mid_feed1 {W0 W : World} {x : SB} {ps : List (List UInt8)} {T : List UInt8} {b : Blk} {N n k d : Nat} {todo : List Item} {Q : Exit → Act → World → Prop} {tm : List (Nat × TV)} {rows : List (Nat × Row)} (en : Env) (tm2 : List (Nat × TV)) (q : List UInt8) (hS : One W0 W x ps T b N) (hen : en 21 = x.B) (hq : q.length ≤ 1000000)
    (hsz : Nat.ble (k + 1) (hdOps todo).size = true) (hc : xCall (hdOps todo) k (mkSt n tm rows []) = some (d, 21, [ptrTo 21, .v (stv q)])) (hd : d < n) (h2 : tmOk1 d tm tm2) (hi : idsOk tm2 rows [] = true) (hro : rows.all (fun p => !p.2.w) = true) (hb5 : rows.all (fun p => Nat.ble (p.1 + 1) 500 || Nat.ble 1000 p.1) = true)
    (hrows : ∀ W', One W0 W' x ps (T ++ q) b N → ∀ p ∈ rows, RowAt en p.1 p.2 W' ∧ pok p.2.ps)
    (hK : ∀ W', One W0 W' x ps (T ++ q) b N → E.Mid Try.prog W' ⟨[], en, []⟩ n [] todo Q (k + 1) tm2 rows) : E.Mid Try.prog W ⟨[], en, []⟩ n [] todo Q k tm rows := by
  refine E.Mid.op (α := World) (some d) (fun W => W) (fun _ => ⟨[], en, []⟩) (fun _ => tm2) (fun _ => rows) (fun W' => One W0 W' x ps (T ++ q) b N) hsz (fun a w ρ K QQ hden hk => ?_) hK
  have e1 : ρ 21 = x.B := (hden.e0 21 (.inl (by decide))).trans hen
  have hSw := hS.hx.keep2 hden.fr (by simp) (by simp) (by simp)
  have hv : (ptrTo 21).val ρ = boxV x := by
    show Value.pointer (some ⟨(ρ 21).1, (ρ 21).2 + (0 + 0 * 0 + 0), none⟩) = _
    rw [e1]; rfl
  have hcl := feed_st q hSw hq
  rw [← hv] at hcl
  refine xCall_ok hc hden ent21 (hcl.mono ?_)
  rintro e w' ⟨rfl, hF, hS2⟩
  have hm := hS.xm
  have hb := hS.xB
  have hN := hS.hN
  have hfr : Fr W0 [] w' := (hS.fr.comp hden.fr fun b hb => by cases hb).comp hF fun b hb => by
    simp only [List.mem_cons, List.not_mem_nil, or_false] at hb
    rcases hb with rfl | rfl
    · exact .inr (by omega)
    · exact .inr (by omega)
  have hone : One W0 w' x ps (T ++ q) b N := ⟨hfr, hS2, hb, hm, hN, fun hp => by
    obtain ⟨h1, h3⟩ := hS.hP hp
    refine ⟨rowAt_fr (rowAt_fr h1 hden.fr (by simp)) hF ?_, h3⟩
    show b.1 ∉ _
    simp
    omega⟩
  have hD := E.den_again (d := d) (v := .tuple #[]) (w' := w') (σ := en) (tm' := tm2) (rows2 := rows) (K := []) hden hd (fun p hp => by
    obtain ⟨g1, g2, g3⟩ := tmOk1_mem h2 p hp
    exact .inr ⟨g1, g2, fun r hr => (hden.e0 r (.inl (g3 r hr))).symm⟩) hi (hrows w' hone) (fun p hp q hq hpq hw => by
    have := List.all_eq_true.1 hro p hp
    rw [hw] at this; cases this) rfl hb5
  rw [wlOf_ro en hro] at hD
  exact ⟨_, rfl, hk w' _ w' en hone hD⟩
abbrev enM (b2 b : Blk) (x : SB) : Env := fun r => bif Nat.beq r 2 then b2 else bif Nat.beq r 31 then b else x.B
theorem one_ro {W0 W : World} {x : SB} {ps : List (List UInt8)} {T : List UInt8} {b : Blk} {N : Nat} (b2 : Blk) (hS : One W0 W x ps T b N) (hps : ps ≠ []) : ∀ p ∈ [(21, noR), (31, prR ps ps.length)], RowAt (enM b2 b x) p.1 p.2 W ∧ pok p.2.ps := fun p hp => by
  simp only [List.mem_cons, List.not_mem_nil, or_false] at hp
  rcases hp with rfl | rfl
  · exact ⟨sc_noR hS.hx rfl, fun p hp => by cases hp⟩
  · exact ⟨rowAt_mv (hS.hP hps).1 rfl, prR_ok _ _⟩
theorem one_rn {W0 W : World} {x : SB} {ps : List (List UInt8)} {T : List UInt8} {b : Blk} {N : Nat} (b2 : Blk) (hS : One W0 W x ps T b N) : ∀ p ∈ [(21, noR)], RowAt (enM b2 b x) p.1 p.2 W ∧ pok p.2.ps := fun p hp => by
  obtain rfl := List.mem_singleton.1 hp
  exact ⟨sc_noR hS.hx rfl, fun p hp => by cases hp⟩
theorem find_of_nil (s : List UInt8) : findL s [] = [] := rfl
structure MdX where
  W : World
  i : Nat
  n : Nat
set_option maxRecDepth 100000 in
/-- The last loop, and the end. -/
theorem made_end_nil (W0 W : World) (x : SB) (b2 b : Blk) (N : Nat)  (s : List UInt8) (hs : s.length ≤ 1000) (hS : One W0 W x [] s b N) :
    At Try.prog W ⟨[], enM b2 b x, []⟩ Try.f4.ntmps [] (lp Try.f4 2) (EndX Try.prog Try.f4 (FrQ W0)) [(7, .v (stv s)), (8, .v nilS), (10, ptrTo 21), (15, .int .i64 ((0 : Nat) : Int))] [(21, noR)] := by
  have hs6 : s.length ≤ 1000000 := by omega
  have hps6 : ([] : List (List UInt8)).length ≤ 1000000 := by decide
  have hpp : ∀ q ∈ ([] : List (List UInt8)), q.length ≤ 1000000 := fun q hq => by cases hq
  have hl := find_of_nil s
  have k1 := hFo0_ok (id := 27001) (r := 21) (wr := ⟨[], enM b2 b x, []⟩) hS.hx hps6 hpp (by decide) rfl (by simp) (by simp) (by simp) hl
  have k2 := hFdn (id := 27004) (s := s) none 0
  have k3 := hFn (id := 27009) (s := s) none 0 hs6
  have k4 := hFdn (id := 27012) (s := s) none 0
  exact At.fin rfl [(27001, hFo0 21), (27004, hI0 13 (fun _ => #[stv s, nilS]) []), (27005, hSm0), (27009, hI0 12 (fun _ => #[stv s, nilS]) []), (27012, hI0 13 (fun _ => #[stv s, nilS]) []), (27013, hSm0), (27016, hAw)] ⟨k1, k2, hSm0_ok _, k3, k4, hSm0_ok _, hAw_ok _, trivial⟩ [.u, .d] (x := .v (.bool true)) (ob := [[], qL (hFo0 21), qL (hI0 13 (fun _ => #[stv s, nilS]) []), qL (hSm0), qL (hI0 12 (fun _ => #[stv s, nilS]) []), qL (hI0 13 (fun _ => #[stv s, nilS]) []), qL (hSm0), qL (hAw)].flatten) (by kernel_rfl) (all_flat ⟨trivial, all_qL _, all_qL _, all_qL _, all_qL _, all_qL _, all_qL _, all_qL _, trivial⟩) fun ρ' w' hf _ => ⟨rfl, hS.fr.comp hf fun b hb => by cases hb⟩
set_option maxRecDepth 100000 in
/-- The last loop, and the end. -/
theorem made_end_pos (W0 W : World) (x : SB) (b2 b : Blk) (N : Nat) (ps : List (List UInt8)) (hps : ps.length ≤ 8) (hp3 : ∀ p ∈ ps, p.length ≤ 60) (s : List UInt8) (hs : s.length ≤ 1000) (hS : One W0 W x ps s b N) :
    At Try.prog W ⟨[], enM b2 b x, []⟩ Try.f4.ntmps [] (lp Try.f4 2) (EndX Try.prog Try.f4 (FrQ W0)) [(7, .v (stv s)), (8, .s (.lf (.sl 31 0 0 1 ps.length none))), (10, ptrTo 21), (15, .int .i64 ((0 : Nat) : Int))] [(21, noR), (31, prR ps ps.length)] := by
  have hs6 : s.length ≤ 1000000 := by omega
  have hps6 : (ps : List (List UInt8)).length ≤ 1000000 := by omega
  have hpp : ∀ q ∈ (ps : List (List UInt8)), q.length ≤ 1000000 := fun q hq => by have := hp3 q hq; omega
  refine At.loop (fun i : Nat => [(7, .v (stv s)), (8, .s (.lf (.sl 31 0 0 1 ps.length none))), (10, ptrTo 21), (15, .int .i64 (i : Int))]) (fun _ => [(21, noR), (31, prR ps ps.length)]) (fun i => i ≤ ps.length) (fun i => ps.length - i) (fun i hi ih => ?_) 0 (Nat.zero_le _)
  by_cases h : i < ps.length
  · obtain ⟨q, hq⟩ : ∃ q, q = ps.getD i [] := ⟨_, rfl⟩
    have hqm : q ∈ ps := by rw [hq, List.getD_eq_getElem?_getD, List.getElem?_eq_getElem h]; exact List.getElem_mem h
    have hq6 := hpp q hqm
    have hv : TV.v (stv (ps.getD (addN 0 (i : Int).toNat) [])) = TV.v (stv q) := by rw [hq, addN_eq, Nat.zero_add, Int.toNat_natCast]
    have hidx : addN 0 (i : Int).toNat < ps.length := by rw [addN_eq]; omega
    have hp17 : (partL 17).length ≤ 1000000 := by rw [partL_len]; decide
    have k5 := hCh_at 25021 s q (partL 17) hs6 hq6 hp17
    have k6 : HintOk Try.prog 25028 (hCd s q (partL 17) (changeL s q (partL 17))) := hCd_ok _ _ _ _ _ hs6 hq6 hp17 rfl
    have hm9 := places_len s q hs6
    have hlt : 0 ≤ (i : Int) ∧ (i : Int) < (ps.length : Int) := ⟨by omega, by omega⟩
    generalize changeL s q (partL 17) = t at k5 k6
    have h9 := ih (i + 1) h (by show ps.length - (i + 1) < ps.length - i; omega)
    by_cases hm : placesL s q = []
    · have k3 := hI_pro0 (id := 25005) hs6 hq6 hm
      have k4 := hI_doc0 (id := 25011) hs6 hq6 hm
      exact At.run rfl [(2025004, .val (.v (stv q))), (25005, hI0 14 (fun _ => #[stv s, stv q]) []), (2025010, .val (.v (stv q))), (25011, hI0 15 (fun _ => #[stv s, stv q]) []), (25012, hSm0), (2025019, .val (.v (stv q))), (25020, hPt 17), (25021, hCh s q (partL 17) t), (2025026, .val (.v (stv q))), (25027, hPt 17), (25028, hCd s q (partL 17) t), (2025029, .val (.v (.bool false)))]
        ⟨trivial, k3, trivial, k4, hSm0_ok _, trivial, hPt_ok _ _ (by decide), k5, trivial, hPt_ok _ _ (by decide), k6, trivial, trivial⟩ [.y, .d] (tm2 := [(7, .v (stv s)), (8, .s (.lf (.sl 31 0 0 1 ps.length none))), (10, ptrTo 21), (15, .int .i64 ((i + 1 : Nat) : Int))]) (rows2 := [(21, noR), (31, prR ps ps.length)]) (ob := [[decide ((i : Int) < (ps.length : Int)) = true, 0 ≤ (i : Int) ∧ (i : Int) < (ps.length : Int), TV.v (stv (ps.getD (addN 0 (i : Int).toNat) [])) = TV.v (stv q), addN 0 (i : Int).toNat < ps.length], qL (hI0 14 (fun _ => #[stv s, stv q]) []), [0 ≤ (i : Int) ∧ (i : Int) < (ps.length : Int), TV.v (stv (ps.getD (addN 0 (i : Int).toNat) [])) = TV.v (stv q), addN 0 (i : Int).toNat < ps.length], qL (hI0 15 (fun _ => #[stv s, stv q]) []), qL (hSm0), [0 ≤ (i : Int) ∧ (i : Int) < (ps.length : Int), TV.v (stv (ps.getD (addN 0 (i : Int).toNat) [])) = TV.v (stv q), addN 0 (i : Int).toNat < ps.length], qL (hPt 17), qL (hCh s q (partL 17) t), [0 ≤ (i : Int) ∧ (i : Int) < (ps.length : Int), TV.v (stv (ps.getD (addN 0 (i : Int).toNat) [])) = TV.v (stv q), addN 0 (i : Int).toNat < ps.length], qL (hPt 17), qL (hCd s q (partL 17) t), [TV.v (.bool (!(t == t))) = TV.v (.bool false), inI ((i : Int) + 1)]].flatten) (td := lp Try.f4 2) (by kernel_rfl) (all_flat ⟨⟨decide_eq_true (by omega), hlt, hv, hidx, trivial⟩, all_qL _, ⟨hlt, hv, hidx, trivial⟩, all_qL _, all_qL _, ⟨hlt, hv, hidx, trivial⟩, all_qL _, all_qL _, ⟨hlt, hv, hidx, trivial⟩, all_qL _, all_qL _, ⟨tv_b (by simp), ⟨by omega, by omega⟩, trivial⟩, trivial⟩) rfl rfl (by intro h; cases h) h9
    · have k3 := hI_pro1 (id := 25005) hs6 hq6 hm
      have k4 := hI_doc1 (id := 25011) hs6 hq6 hm
      have hm9 : (placesL s q).length ≤ 1000000000 := by omega
      generalize placesL s q = m at k3 k4 hm9 hm
      exact At.run rfl [(2025004, .val (.v (stv q))), (25005, hI1 14 (fun _ => #[stv s, stv q]) [] 25005 m), (2025010, .val (.v (stv q))), (25011, hI1 15 (fun _ => #[stv s, stv q]) [] 25011 m), (25012, hSm 25005 25011 m m true), (2025019, .val (.v (stv q))), (25020, hPt 17), (25021, hCh s q (partL 17) t), (2025026, .val (.v (stv q))), (25027, hPt 17), (25028, hCd s q (partL 17) t), (2025029, .val (.v (.bool false)))]
        ⟨trivial, k3, trivial, k4, hSm_ok _ _ _ _ _ _ hm9 hm9 (decide_eq_true rfl), trivial, hPt_ok _ _ (by decide), k5, trivial, hPt_ok _ _ (by decide), k6, trivial, trivial⟩ [.y, .d] (tm2 := [(7, .v (stv s)), (8, .s (.lf (.sl 31 0 0 1 ps.length none))), (10, ptrTo 21), (15, .int .i64 ((i + 1 : Nat) : Int))]) (rows2 := [(21, noR), (31, prR ps ps.length)]) (ob := [[decide ((i : Int) < (ps.length : Int)) = true, 0 ≤ (i : Int) ∧ (i : Int) < (ps.length : Int), TV.v (stv (ps.getD (addN 0 (i : Int).toNat) [])) = TV.v (stv q), addN 0 (i : Int).toNat < ps.length], qL (hI1 14 (fun _ => #[stv s, stv q]) [] 25005 m), [0 ≤ (i : Int) ∧ (i : Int) < (ps.length : Int), TV.v (stv (ps.getD (addN 0 (i : Int).toNat) [])) = TV.v (stv q), addN 0 (i : Int).toNat < ps.length], qL (hI1 15 (fun _ => #[stv s, stv q]) [] 25011 m), qL (hSm 25005 25011 m m true), [0 ≤ (i : Int) ∧ (i : Int) < (ps.length : Int), TV.v (stv (ps.getD (addN 0 (i : Int).toNat) [])) = TV.v (stv q), addN 0 (i : Int).toNat < ps.length], qL (hPt 17), qL (hCh s q (partL 17) t), [0 ≤ (i : Int) ∧ (i : Int) < (ps.length : Int), TV.v (stv (ps.getD (addN 0 (i : Int).toNat) [])) = TV.v (stv q), addN 0 (i : Int).toNat < ps.length], qL (hPt 17), qL (hCd s q (partL 17) t), [TV.v (.bool (!(t == t))) = TV.v (.bool false), inI ((i : Int) + 1)]].flatten) (td := lp Try.f4 2) (by kernel_rfl) (all_flat ⟨⟨decide_eq_true (by omega), hlt, hv, hidx, trivial⟩, all_qL _, ⟨hlt, hv, hidx, trivial⟩, all_qL _, all_qL _, ⟨hlt, hv, hidx, trivial⟩, all_qL _, all_qL _, ⟨hlt, hv, hidx, trivial⟩, all_qL _, all_qL _, ⟨tv_b (by simp), ⟨by omega, by omega⟩, trivial⟩, trivial⟩) rfl rfl (by intro h; cases h) h9
  · obtain rfl : i = ps.length := by omega
    have hl9 : (findL s ps).length ≤ 1000000000 := by have := find_len s ps; omega
    by_cases hl : findL s ps = []
    · have k1 := hFo0_ok (id := 27001) (r := 21) (wr := ⟨[], enM b2 b x, []⟩) hS.hx hps6 hpp (by decide) rfl (by simp) (by simp) (by simp) hl
      have k2 := hFd0 (id := 27004) (r := 31) hs6 hps6 hpp hl
      have k3 := hFp0 (id := 27009) (r := 31) hs6 hps6 hpp hl
      have k4 := hFd0 (id := 27012) (r := 31) hs6 hps6 hpp hl
      exact At.fin rfl [(27001, hFo0 21), (27004, hI0 13 (fArg 31 s ps) [(31, prR ps ps.length)]), (27005, hSm0), (27009, hI0 12 (fArg 31 s ps) [(31, prR ps ps.length)]), (27012, hI0 13 (fArg 31 s ps) [(31, prR ps ps.length)]), (27013, hSm0), (27016, hAw)] ⟨k1, k2, hSm0_ok _, k3, k4, hSm0_ok _, hAw_ok _, trivial⟩ [.n] (x := .v (.bool true)) (ob := [[decide ((ps.length : Int) < (ps.length : Int)) = false], qL (hFo0 21), qL (hI0 13 (fArg 31 s ps) [(31, prR ps ps.length)]), qL (hSm0), qL (hI0 12 (fArg 31 s ps) [(31, prR ps ps.length)]), qL (hI0 13 (fArg 31 s ps) [(31, prR ps ps.length)]), qL (hSm0), qL (hAw)].flatten) (by kernel_rfl) (all_flat ⟨⟨decide_eq_false (by omega), trivial⟩, all_qL _, all_qL _, all_qL _, all_qL _, all_qL _, all_qL _, all_qL _, trivial⟩) fun ρ' w' hf _ => ⟨rfl, hS.fr.comp hf fun b hb => by cases hb⟩
    · have k1 := hFo1_ok (id := 27001) (r := 21) (wr := ⟨[], enM b2 b x, []⟩) hS.hx hps6 hpp (by decide) rfl (by simp) (by simp) (by simp) hl
      have k2 := hFd1 (id := 27004) (r := 31) hs6 hps6 hpp hl
      have k3 := hFp1 (id := 27009) (r := 31) hs6 hps6 hpp hl
      have k4 := hFd1 (id := 27012) (r := 31) hs6 hps6 hpp hl
      generalize findL s ps = l at k1 k2 k3 k4 hl9 hl
      exact At.fin rfl [(27001, hFo1 21 27001 l), (27004, hI1 13 (fArg 31 s ps) [(31, prR ps ps.length)] 27004 l), (27005, hSm 27001 27004 l l true), (27009, hI1 12 (fArg 31 s ps) [(31, prR ps ps.length)] 27009 l), (27012, hI1 13 (fArg 31 s ps) [(31, prR ps ps.length)] 27012 l), (27013, hSm 27009 27012 l l true), (27016, hAw)] ⟨k1, k2, hSm_ok _ _ _ _ _ _ hl9 hl9 (decide_eq_true rfl), k3, k4, hSm_ok _ _ _ _ _ _ hl9 hl9 (decide_eq_true rfl), hAw_ok _, trivial⟩ [.n] (x := .v (.bool true)) (ob := [[decide ((ps.length : Int) < (ps.length : Int)) = false], qL (hFo1 21 27001 l), qL (hI1 13 (fArg 31 s ps) [(31, prR ps ps.length)] 27004 l), qL (hSm 27001 27004 l l true), qL (hI1 12 (fArg 31 s ps) [(31, prR ps ps.length)] 27009 l), qL (hI1 13 (fArg 31 s ps) [(31, prR ps ps.length)] 27012 l), qL (hSm 27009 27012 l l true), qL (hAw)].flatten) (by kernel_rfl) (all_flat ⟨⟨decide_eq_false (by omega), trivial⟩, all_qL _, all_qL _, all_qL _, all_qL _, all_qL _, all_qL _, all_qL _, trivial⟩) fun ρ' w' hf _ => ⟨rfl, hS.fr.comp hf fun b hb => by cases hb⟩
set_option maxRecDepth 100000 in
/-- From the loop over cuts on. -/
theorem made_rest_nil (W0 W : World) (x : SB) (b2 b : Blk) (N : Nat)  (s r T : List UInt8) (hs : s.length ≤ 1000) (hT : T ++ r = s) (hS : One W0 W x [] T b N) :
    At Try.prog W ⟨[], enM b2 b x, []⟩ Try.f4.ntmps [] (rp Try.f4 20) (EndX Try.prog Try.f4 (FrQ W0)) [(7, .v (stv s)), (8, .v nilS), (10, ptrTo 21), (11, .v (stv r))] [(21, noR)] := by
  have hr6 : r.length ≤ 1000000 := by
    have := congrArg List.length hT
    rw [List.length_append] at this
    omega
  refine E.At.reg rfl (E.Mid.run 2 [] trivial (tm2 := [(7, .v (stv s)), (8, .v nilS), (10, ptrTo 21), (87, ptrTo 21), (88, .v (stv r))]) (rows2 := [(21, noR)]) (ob := []) (by kernel_rfl) trivial rfl ?_)
  refine mid_feed1 (d := 89) (enM b2 b x) [(7, .v (stv s)), (8, .v nilS), (10, ptrTo 21)] r hS rfl hr6 rfl (by kernel_rfl) (by decide) ⟨⟨rfl, rfl, rfl⟩, ⟨rfl, rfl, rfl⟩, ⟨rfl, rfl, rfl⟩, trivial⟩ rfl rfl rfl (fun W' hS => one_rn b2 hS) fun W1 hS1 => E.Mid.out rfl ?_
  rw [hT] at hS1
  exact At.run rfl [] trivial [] (tm2 := [(7, .v (stv s)), (8, .v nilS), (10, ptrTo 21), (15, .int .i64 ((0 : Nat) : Int))]) (rows2 := [(21, noR)]) (ob := []) (td := lp Try.f4 2) (by kernel_rfl) trivial rfl rfl (by intro h; cases h) (made_end_nil W0 W1 x b2 b N s hs hS1)
set_option maxRecDepth 100000 in
/-- From the loop over cuts on. -/
theorem made_rest_pos (W0 W : World) (x : SB) (b2 b : Blk) (N : Nat) (ps : List (List UInt8)) (hne : ps ≠ []) (hps : ps.length ≤ 8) (hp3 : ∀ p ∈ ps, p.length ≤ 60) (s r T : List UInt8) (hs : s.length ≤ 1000) (hT : T ++ r = s) (hS : One W0 W x ps T b N) :
    At Try.prog W ⟨[], enM b2 b x, []⟩ Try.f4.ntmps [] (rp Try.f4 20) (EndX Try.prog Try.f4 (FrQ W0)) [(7, .v (stv s)), (8, .s (.lf (.sl 31 0 0 1 ps.length none))), (10, ptrTo 21), (11, .v (stv r))] [(21, noR), (31, prR ps ps.length)] := by
  have hr6 : r.length ≤ 1000000 := by
    have := congrArg List.length hT
    rw [List.length_append] at this
    omega
  refine E.At.reg rfl (E.Mid.run 2 [] trivial (tm2 := [(7, .v (stv s)), (8, .s (.lf (.sl 31 0 0 1 ps.length none))), (10, ptrTo 21), (87, ptrTo 21), (88, .v (stv r))]) (rows2 := [(21, noR), (31, prR ps ps.length)]) (ob := []) (by kernel_rfl) trivial rfl ?_)
  refine mid_feed1 (d := 89) (enM b2 b x) [(7, .v (stv s)), (8, .s (.lf (.sl 31 0 0 1 ps.length none))), (10, ptrTo 21)] r hS rfl hr6 rfl (by kernel_rfl) (by decide) ⟨⟨rfl, rfl, rfl⟩, ⟨rfl, rfl, rfl⟩, ⟨rfl, rfl, rfl⟩, trivial⟩ rfl rfl rfl (fun W' hS => one_ro b2 hS hne) fun W1 hS1 => E.Mid.out rfl ?_
  rw [hT] at hS1
  exact At.run rfl [] trivial [] (tm2 := [(7, .v (stv s)), (8, .s (.lf (.sl 31 0 0 1 ps.length none))), (10, ptrTo 21), (15, .int .i64 ((0 : Nat) : Int))]) (rows2 := [(21, noR), (31, prR ps ps.length)]) (ob := []) (td := lp Try.f4 2) (by kernel_rfl) trivial rfl rfl (by intro h; cases h) (made_end_pos W0 W1 x b2 b N ps hps hp3 s hs hS1)
set_option maxRecDepth 100000 in
/-- The loop over cuts, that lie in a row. -/
theorem made_cuts_nil (W0 W : World) (x : SB) (b2 b : Blk) (N : Nat)  (s : List UInt8) (hs : s.length ≤ 1000) (cs : List UInt8) (hcs : cs.length ≤ 20) (h2 : RowAt (fun _ => b2) 2 (nuR cs) W0) (hS : One W0 W x [] [] b N) :
    At Try.prog W ⟨[], enM b2 b x, []⟩ Try.f4.ntmps [] (lp Try.f4 1) (EndX Try.prog Try.f4 (FrQ W0)) [(2, .s (.lf (.sl 2 0 0 1 cs.length none))), (7, .v (stv s)), (8, .v nilS), (10, ptrTo 21), (11, .v (stv s)), (12, .int .i64 ((0 : Nat) : Int)), (13, .int .i64 ((0 : Nat) : Int))] ((2, nuR cs) :: [(21, noR)]) := by
  refine At.loopW (fun z : MdX => z.W) (fun _ => ⟨[], enM b2 b x, []⟩) (fun z => [(2, .s (.lf (.sl 2 0 0 1 cs.length none))), (7, .v (stv s)), (8, .v nilS), (10, ptrTo 21), (11, .v (stv (s.drop z.n))), (12, .int .i64 (z.n : Int)), (13, .int .i64 (z.i : Int))]) (fun _ => ((2, nuR cs) :: [(21, noR)])) (fun z => z.i ≤ cs.length ∧ z.n ≤ s.length ∧ One W0 z.W x [] (s.take z.n) b N) (fun z => cs.length - z.i) (fun z hz ih => ?_) ⟨W, 0, 0⟩ ⟨Nat.zero_le _, Nat.zero_le _, hS⟩
  obtain ⟨W1, i, n⟩ := z
  obtain ⟨hi, hn, hO⟩ := hz
  simp only at hi hn hO ih ⊢
  by_cases h : i < cs.length
  · obtain ⟨v, hv⟩ : ∃ v, v = (cs.getD i 0).toNat := ⟨_, rfl⟩
    obtain ⟨r, hr⟩ : ∃ r, r = s.drop n := ⟨_, rfl⟩
    have hrl : r.length = s.length - n := by rw [hr, List.length_drop]
    have hv2 : v < 256 := by rw [hv]; exact UInt8.toNat_lt _
    obtain ⟨j, hj⟩ : ∃ j, j = v % (r.length + 1) := ⟨_, rfl⟩
    have hjl : j ≤ r.length := by have := Nat.mod_lt v (show 0 < r.length + 1 by omega); omega
    have hvv : TV.int .u8 (((cs.getD (addN 0 (i : Int).toNat) 0).toNat : Nat) : Int) = TV.int .u8 (v : Int) := tv_int (by rw [hv, addN_eq, Nat.zero_add, Int.toNat_natCast])
    have hjv : TV.int .i64 ((v : Int) % ((r.length : Int) + 1)) = TV.int .i64 (j : Int) := tv_int (by rw [hj]; simp)
    rw [← hr]
    refine At.run rfl [(2015003, .val (.int .u8 (v : Int))), (2015008, .val (.int .i64 (j : Int))), (2016000, .val (.tup []))] ⟨trivial, trivial, trivial, trivial⟩ [.y] (tm2 := [(2, .s (.lf (.sl 2 0 0 1 cs.length none))), (7, .v (stv s)), (8, .v nilS), (10, ptrTo 21), (11, .v (stv r)), (12, .int .i64 (n : Int)), (13, .int .i64 (i : Int)), (14, .int .i64 (j : Int))]) (rows2 := ((2, nuR cs) :: [(21, noR)])) (ob := [decide ((i : Int) < (cs.length : Int)) = true, 0 ≤ (i : Int) ∧ (i : Int) < (cs.length : Int), TV.int .u8 (((cs.getD (addN 0 (i : Int).toNat) 0).toNat : Nat) : Int) = TV.int .u8 (v : Int), addN 0 (i : Int).toNat < cs.length, IntKind.i64.wrap (v : Int) = (v : Int), inI ((r.length : Int) + 1), TV.int .i64 ((v : Int) % ((r.length : Int) + 1)) = TV.int .i64 (j : Int), 0 ≤ (v : Int) ∧ 0 < (r.length : Int) + 1]) (td := rp Try.f4 15) (by kernel_rfl) ⟨decide_eq_true (by omega), ⟨by omega, by omega⟩, hvv, by rw [addN_eq]; omega, w64 ⟨by omega, by omega⟩, ⟨by omega, by omega⟩, hjv, ⟨by omega, by omega⟩, trivial⟩ rfl rfl (by intro h; cases h) ?_
    obtain ⟨q, hq⟩ : ∃ q, q = r.take j := ⟨_, rfl⟩
    have hq6 : q.length ≤ 1000000 := by rw [hq, List.length_take]; omega
    have hqv : TV.v (stv (List.take (j : Int).toNat r)) = TV.v (stv q) := tv_str (by rw [hq, Int.toNat_natCast])
    refine E.At.reg rfl (E.Mid.run 4 [(2016003, .val (.v (stv q)))] ⟨trivial, trivial⟩ (tm2 := [(2, .s (.lf (.sl 2 0 0 1 cs.length none))), (7, .v (stv s)), (8, .v nilS), (10, ptrTo 21), (11, .v (stv r)), (12, .int .i64 (n : Int)), (13, .int .i64 (i : Int)), (14, .int .i64 (j : Int))] ++ [(67, ptrTo 21), (70, .v (stv q))]) (rows2 := ((2, nuR cs) :: [(21, noR)])) (ob := [TV.v (stv (List.take (j : Int).toNat r)) = TV.v (stv q), 0 ≤ (j : Int) ∧ (j : Int) ≤ (r.length : Int)]) (by kernel_rfl) ⟨hqv, ⟨by omega, by omega⟩, trivial⟩ rfl ?_)
    refine mid_feed1 (d := 71) (enM b2 b x) [(2, .s (.lf (.sl 2 0 0 1 cs.length none))), (7, .v (stv s)), (8, .v nilS), (10, ptrTo 21), (11, .v (stv r)), (12, .int .i64 (n : Int)), (13, .int .i64 (i : Int)), (14, .int .i64 (j : Int))] q hO rfl hq6 rfl (by kernel_rfl) (by decide) ⟨⟨rfl, rfl, rfl⟩, ⟨rfl, rfl, rfl⟩, ⟨rfl, rfl, rfl⟩, ⟨rfl, rfl, rfl⟩, ⟨rfl, rfl, rfl⟩, ⟨rfl, rfl, rfl⟩, ⟨rfl, rfl, rfl⟩, ⟨rfl, rfl, rfl⟩, trivial⟩ rfl rfl rfl (fun W' hS p hp => by
      rcases List.mem_cons.1 hp with rfl | hp
      · exact ⟨rowAt_mv (rowAt_fr h2 hS.fr (by simp)) rfl, nuR_ok cs⟩
      · exact one_rn b2 hS p hp) fun W2 hS => E.Mid.out rfl ?_
    have hT : s.take n ++ q = s.take (n + j) := by rw [hq, hr, List.take_add]
    rw [hT] at hS
    obtain ⟨u, hu⟩ : ∃ u, u = s.take (n + j) := ⟨_, rfl⟩
    obtain ⟨r2, hr2⟩ : ∃ r2, r2 = r.drop j := ⟨_, rfl⟩
    have hr2d : r2 = s.drop (n + j) := by rw [hr2, hr, List.drop_drop]
    have huv : TV.v (stv (List.take ((n : Int) + (j : Int)).toNat s)) = TV.v (stv u) := tv_str (by rw [hu, show ((n : Int) + (j : Int)).toNat = n + j by omega])
    have hrv : TV.v (stv (List.drop (j : Int).toNat r)) = TV.v (stv r2) := tv_str (by rw [hr2, Int.toNat_natCast])
    have hu6 : u.length ≤ 1000000 := by rw [hu, List.length_take]; omega
    have h9 := ih ⟨W2, i + 1, n + j⟩ ⟨h, by show n + j ≤ s.length; omega, hS⟩ (by show cs.length - (i + 1) < cs.length - i; omega)
    simp only at h9
    rw [← hr2d] at h9
    rw [← hu] at hS
    have hps6 : ([] : List (List UInt8)).length ≤ 1000000 := by decide
    have hpp : ∀ q ∈ ([] : List (List UInt8)), q.length ≤ 1000000 := fun q hq => by cases hq
    have hl := find_of_nil u
    have k1 := hFo0_ok (id := 18001) (r := 21) (wr := ⟨[], enM b2 b x, []⟩) hS.hx hps6 hpp (by decide) rfl (by simp) (by simp) (by simp) hl
    have k2 := hFdn (id := 18006) (s := u) none 0
    exact At.run rfl [(18001, hFo0 21), (2018004, .val (.v (stv u))), (18006, hI0 13 (fun _ => #[stv u, nilS]) []), (18007, hSm0), (2020002, .val (.v (stv r2)))] ⟨k1, trivial, k2, hSm0_ok _, trivial, trivial⟩ [.d] (tm2 := [(2, .s (.lf (.sl 2 0 0 1 cs.length none))), (7, .v (stv s)), (8, .v nilS), (10, ptrTo 21), (11, .v (stv r2)), (12, .int .i64 ((n + j : Nat) : Int)), (13, .int .i64 ((i + 1 : Nat) : Int))]) (rows2 := ((2, nuR cs) :: [(21, noR)])) (ob := [[inI ((n : Int) + (j : Int))], qL (hFo0 21), [TV.v (stv (List.take ((n : Int) + (j : Int)).toNat s)) = TV.v (stv u), 0 ≤ (n : Int) + (j : Int) ∧ (n : Int) + (j : Int) ≤ (s.length : Int)], qL (hI0 13 (fun _ => #[stv u, nilS]) []), qL (hSm0), [TV.v (stv (List.drop (j : Int).toNat r)) = TV.v (stv r2), 0 ≤ (j : Int) ∧ (j : Int) ≤ (r.length : Int), inI ((i : Int) + 1)]].flatten) (td := lp Try.f4 1) (by kernel_rfl) (all_flat ⟨⟨⟨by omega, by omega⟩, trivial⟩, all_qL _, ⟨huv, ⟨by omega, by omega⟩, trivial⟩, all_qL _, all_qL _, ⟨hrv, ⟨by omega, by omega⟩, ⟨by omega, by omega⟩, trivial⟩, trivial⟩) rfl rfl (by intro h; cases h) h9
  · obtain rfl : i = cs.length := by omega
    refine At.run rfl [(2021000, .val (.tup []))] ⟨trivial, trivial⟩ [.n] (tm2 := [(7, .v (stv s)), (8, .v nilS), (10, ptrTo 21), (11, .v (stv (s.drop n)))]) (rows2 := [(21, noR)]) (ob := [decide ((cs.length : Int) < (cs.length : Int)) = false]) (td := rp Try.f4 20) (by kernel_rfl) ⟨decide_eq_false (by omega), trivial⟩ rfl rfl (by intro h; cases h) ?_
    exact made_rest_nil W0 W1 x b2 b N s (s.drop n) (s.take n) hs (List.take_append_drop n s) hO
set_option maxRecDepth 100000 in
/-- The loop over cuts, that lie in a row. -/
theorem made_cuts_pos (W0 W : World) (x : SB) (b2 b : Blk) (N : Nat) (ps : List (List UInt8)) (hne : ps ≠ []) (hps : ps.length ≤ 8) (hp3 : ∀ p ∈ ps, p.length ≤ 60) (s : List UInt8) (hs : s.length ≤ 1000) (cs : List UInt8) (hcs : cs.length ≤ 20) (h2 : RowAt (fun _ => b2) 2 (nuR cs) W0) (hS : One W0 W x ps [] b N) :
    At Try.prog W ⟨[], enM b2 b x, []⟩ Try.f4.ntmps [] (lp Try.f4 1) (EndX Try.prog Try.f4 (FrQ W0)) [(2, .s (.lf (.sl 2 0 0 1 cs.length none))), (7, .v (stv s)), (8, .s (.lf (.sl 31 0 0 1 ps.length none))), (10, ptrTo 21), (11, .v (stv s)), (12, .int .i64 ((0 : Nat) : Int)), (13, .int .i64 ((0 : Nat) : Int))] ((2, nuR cs) :: [(21, noR), (31, prR ps ps.length)]) := by
  refine At.loopW (fun z : MdX => z.W) (fun _ => ⟨[], enM b2 b x, []⟩) (fun z => [(2, .s (.lf (.sl 2 0 0 1 cs.length none))), (7, .v (stv s)), (8, .s (.lf (.sl 31 0 0 1 ps.length none))), (10, ptrTo 21), (11, .v (stv (s.drop z.n))), (12, .int .i64 (z.n : Int)), (13, .int .i64 (z.i : Int))]) (fun _ => ((2, nuR cs) :: [(21, noR), (31, prR ps ps.length)])) (fun z => z.i ≤ cs.length ∧ z.n ≤ s.length ∧ One W0 z.W x ps (s.take z.n) b N) (fun z => cs.length - z.i) (fun z hz ih => ?_) ⟨W, 0, 0⟩ ⟨Nat.zero_le _, Nat.zero_le _, hS⟩
  obtain ⟨W1, i, n⟩ := z
  obtain ⟨hi, hn, hO⟩ := hz
  simp only at hi hn hO ih ⊢
  by_cases h : i < cs.length
  · obtain ⟨v, hv⟩ : ∃ v, v = (cs.getD i 0).toNat := ⟨_, rfl⟩
    obtain ⟨r, hr⟩ : ∃ r, r = s.drop n := ⟨_, rfl⟩
    have hrl : r.length = s.length - n := by rw [hr, List.length_drop]
    have hv2 : v < 256 := by rw [hv]; exact UInt8.toNat_lt _
    obtain ⟨j, hj⟩ : ∃ j, j = v % (r.length + 1) := ⟨_, rfl⟩
    have hjl : j ≤ r.length := by have := Nat.mod_lt v (show 0 < r.length + 1 by omega); omega
    have hvv : TV.int .u8 (((cs.getD (addN 0 (i : Int).toNat) 0).toNat : Nat) : Int) = TV.int .u8 (v : Int) := tv_int (by rw [hv, addN_eq, Nat.zero_add, Int.toNat_natCast])
    have hjv : TV.int .i64 ((v : Int) % ((r.length : Int) + 1)) = TV.int .i64 (j : Int) := tv_int (by rw [hj]; simp)
    rw [← hr]
    refine At.run rfl [(2015003, .val (.int .u8 (v : Int))), (2015008, .val (.int .i64 (j : Int))), (2016000, .val (.tup []))] ⟨trivial, trivial, trivial, trivial⟩ [.y] (tm2 := [(2, .s (.lf (.sl 2 0 0 1 cs.length none))), (7, .v (stv s)), (8, .s (.lf (.sl 31 0 0 1 ps.length none))), (10, ptrTo 21), (11, .v (stv r)), (12, .int .i64 (n : Int)), (13, .int .i64 (i : Int)), (14, .int .i64 (j : Int))]) (rows2 := ((2, nuR cs) :: [(21, noR), (31, prR ps ps.length)])) (ob := [decide ((i : Int) < (cs.length : Int)) = true, 0 ≤ (i : Int) ∧ (i : Int) < (cs.length : Int), TV.int .u8 (((cs.getD (addN 0 (i : Int).toNat) 0).toNat : Nat) : Int) = TV.int .u8 (v : Int), addN 0 (i : Int).toNat < cs.length, IntKind.i64.wrap (v : Int) = (v : Int), inI ((r.length : Int) + 1), TV.int .i64 ((v : Int) % ((r.length : Int) + 1)) = TV.int .i64 (j : Int), 0 ≤ (v : Int) ∧ 0 < (r.length : Int) + 1]) (td := rp Try.f4 15) (by kernel_rfl) ⟨decide_eq_true (by omega), ⟨by omega, by omega⟩, hvv, by rw [addN_eq]; omega, w64 ⟨by omega, by omega⟩, ⟨by omega, by omega⟩, hjv, ⟨by omega, by omega⟩, trivial⟩ rfl rfl (by intro h; cases h) ?_
    obtain ⟨q, hq⟩ : ∃ q, q = r.take j := ⟨_, rfl⟩
    have hq6 : q.length ≤ 1000000 := by rw [hq, List.length_take]; omega
    have hqv : TV.v (stv (List.take (j : Int).toNat r)) = TV.v (stv q) := tv_str (by rw [hq, Int.toNat_natCast])
    refine E.At.reg rfl (E.Mid.run 4 [(2016003, .val (.v (stv q)))] ⟨trivial, trivial⟩ (tm2 := [(2, .s (.lf (.sl 2 0 0 1 cs.length none))), (7, .v (stv s)), (8, .s (.lf (.sl 31 0 0 1 ps.length none))), (10, ptrTo 21), (11, .v (stv r)), (12, .int .i64 (n : Int)), (13, .int .i64 (i : Int)), (14, .int .i64 (j : Int))] ++ [(67, ptrTo 21), (70, .v (stv q))]) (rows2 := ((2, nuR cs) :: [(21, noR), (31, prR ps ps.length)])) (ob := [TV.v (stv (List.take (j : Int).toNat r)) = TV.v (stv q), 0 ≤ (j : Int) ∧ (j : Int) ≤ (r.length : Int)]) (by kernel_rfl) ⟨hqv, ⟨by omega, by omega⟩, trivial⟩ rfl ?_)
    refine mid_feed1 (d := 71) (enM b2 b x) [(2, .s (.lf (.sl 2 0 0 1 cs.length none))), (7, .v (stv s)), (8, .s (.lf (.sl 31 0 0 1 ps.length none))), (10, ptrTo 21), (11, .v (stv r)), (12, .int .i64 (n : Int)), (13, .int .i64 (i : Int)), (14, .int .i64 (j : Int))] q hO rfl hq6 rfl (by kernel_rfl) (by decide) ⟨⟨rfl, rfl, rfl⟩, ⟨rfl, rfl, rfl⟩, ⟨rfl, rfl, rfl⟩, ⟨rfl, rfl, rfl⟩, ⟨rfl, rfl, rfl⟩, ⟨rfl, rfl, rfl⟩, ⟨rfl, rfl, rfl⟩, ⟨rfl, rfl, rfl⟩, trivial⟩ rfl rfl rfl (fun W' hS p hp => by
      rcases List.mem_cons.1 hp with rfl | hp
      · exact ⟨rowAt_mv (rowAt_fr h2 hS.fr (by simp)) rfl, nuR_ok cs⟩
      · exact one_ro b2 hS hne p hp) fun W2 hS => E.Mid.out rfl ?_
    have hT : s.take n ++ q = s.take (n + j) := by rw [hq, hr, List.take_add]
    rw [hT] at hS
    obtain ⟨u, hu⟩ : ∃ u, u = s.take (n + j) := ⟨_, rfl⟩
    obtain ⟨r2, hr2⟩ : ∃ r2, r2 = r.drop j := ⟨_, rfl⟩
    have hr2d : r2 = s.drop (n + j) := by rw [hr2, hr, List.drop_drop]
    have huv : TV.v (stv (List.take ((n : Int) + (j : Int)).toNat s)) = TV.v (stv u) := tv_str (by rw [hu, show ((n : Int) + (j : Int)).toNat = n + j by omega])
    have hrv : TV.v (stv (List.drop (j : Int).toNat r)) = TV.v (stv r2) := tv_str (by rw [hr2, Int.toNat_natCast])
    have hu6 : u.length ≤ 1000000 := by rw [hu, List.length_take]; omega
    have h9 := ih ⟨W2, i + 1, n + j⟩ ⟨h, by show n + j ≤ s.length; omega, hS⟩ (by show cs.length - (i + 1) < cs.length - i; omega)
    simp only at h9
    rw [← hr2d] at h9
    rw [← hu] at hS
    have hps6 : (ps : List (List UInt8)).length ≤ 1000000 := by omega
    have hpp : ∀ q ∈ (ps : List (List UInt8)), q.length ≤ 1000000 := fun q hq => by have := hp3 q hq; omega
    have hl9 : (findL u ps).length ≤ 1000000000 := by have := find_len u ps; omega
    by_cases hl : findL u ps = []
    · have k1 := hFo0_ok (id := 18001) (r := 21) (wr := ⟨[], enM b2 b x, []⟩) hS.hx hps6 hpp (by decide) rfl (by simp) (by simp) (by simp) hl
      have k2 := hFd0 (id := 18006) (r := 31) hu6 hps6 hpp hl
      exact At.run rfl [(18001, hFo0 21), (2018004, .val (.v (stv u))), (18006, hI0 13 (fArg 31 u ps) [(31, prR ps ps.length)]), (18007, hSm0), (2020002, .val (.v (stv r2)))] ⟨k1, trivial, k2, hSm0_ok _, trivial, trivial⟩ [.d] (tm2 := [(2, .s (.lf (.sl 2 0 0 1 cs.length none))), (7, .v (stv s)), (8, .s (.lf (.sl 31 0 0 1 ps.length none))), (10, ptrTo 21), (11, .v (stv r2)), (12, .int .i64 ((n + j : Nat) : Int)), (13, .int .i64 ((i + 1 : Nat) : Int))]) (rows2 := ((2, nuR cs) :: [(21, noR), (31, prR ps ps.length)])) (ob := [[inI ((n : Int) + (j : Int))], qL (hFo0 21), [TV.v (stv (List.take ((n : Int) + (j : Int)).toNat s)) = TV.v (stv u), 0 ≤ (n : Int) + (j : Int) ∧ (n : Int) + (j : Int) ≤ (s.length : Int)], qL (hI0 13 (fArg 31 u ps) [(31, prR ps ps.length)]), qL (hSm0), [TV.v (stv (List.drop (j : Int).toNat r)) = TV.v (stv r2), 0 ≤ (j : Int) ∧ (j : Int) ≤ (r.length : Int), inI ((i : Int) + 1)]].flatten) (td := lp Try.f4 1) (by kernel_rfl) (all_flat ⟨⟨⟨by omega, by omega⟩, trivial⟩, all_qL _, ⟨huv, ⟨by omega, by omega⟩, trivial⟩, all_qL _, all_qL _, ⟨hrv, ⟨by omega, by omega⟩, ⟨by omega, by omega⟩, trivial⟩, trivial⟩) rfl rfl (by intro h; cases h) h9
    · have k1 := hFo1_ok (id := 18001) (r := 21) (wr := ⟨[], enM b2 b x, []⟩) hS.hx hps6 hpp (by decide) rfl (by simp) (by simp) (by simp) hl
      have k2 := hFd1 (id := 18006) (r := 31) hu6 hps6 hpp hl
      generalize findL u ps = l at k1 k2 hl9 hl
      exact At.run rfl [(18001, hFo1 21 18001 l), (2018004, .val (.v (stv u))), (18006, hI1 13 (fArg 31 u ps) [(31, prR ps ps.length)] 18006 l), (18007, hSm 18001 18006 l l true), (2020002, .val (.v (stv r2)))] ⟨k1, trivial, k2, hSm_ok _ _ _ _ _ _ hl9 hl9 (decide_eq_true rfl), trivial, trivial⟩ [.d] (tm2 := [(2, .s (.lf (.sl 2 0 0 1 cs.length none))), (7, .v (stv s)), (8, .s (.lf (.sl 31 0 0 1 ps.length none))), (10, ptrTo 21), (11, .v (stv r2)), (12, .int .i64 ((n + j : Nat) : Int)), (13, .int .i64 ((i + 1 : Nat) : Int))]) (rows2 := ((2, nuR cs) :: [(21, noR), (31, prR ps ps.length)])) (ob := [[inI ((n : Int) + (j : Int))], qL (hFo1 21 18001 l), [TV.v (stv (List.take ((n : Int) + (j : Int)).toNat s)) = TV.v (stv u), 0 ≤ (n : Int) + (j : Int) ∧ (n : Int) + (j : Int) ≤ (s.length : Int)], qL (hI1 13 (fArg 31 u ps) [(31, prR ps ps.length)] 18006 l), qL (hSm 18001 18006 l l true), [TV.v (stv (List.drop (j : Int).toNat r)) = TV.v (stv r2), 0 ≤ (j : Int) ∧ (j : Int) ≤ (r.length : Int), inI ((i : Int) + 1)]].flatten) (td := lp Try.f4 1) (by kernel_rfl) (all_flat ⟨⟨⟨by omega, by omega⟩, trivial⟩, all_qL _, ⟨huv, ⟨by omega, by omega⟩, trivial⟩, all_qL _, all_qL _, ⟨hrv, ⟨by omega, by omega⟩, ⟨by omega, by omega⟩, trivial⟩, trivial⟩) rfl rfl (by intro h; cases h) h9
  · obtain rfl : i = cs.length := by omega
    refine At.run rfl [(2021000, .val (.tup []))] ⟨trivial, trivial⟩ [.n] (tm2 := [(7, .v (stv s)), (8, .s (.lf (.sl 31 0 0 1 ps.length none))), (10, ptrTo 21), (11, .v (stv (s.drop n)))]) (rows2 := [(21, noR), (31, prR ps ps.length)]) (ob := [decide ((cs.length : Int) < (cs.length : Int)) = false]) (td := rp Try.f4 20) (by kernel_rfl) ⟨decide_eq_false (by omega), trivial⟩ rfl rfl (by intro h; cases h) ?_
    exact made_rest_pos W0 W1 x b2 b N ps hne hps hp3 s (s.drop n) (s.take n) hs (List.take_append_drop n s) hO
set_option maxRecDepth 100000 in
/-- From New on. -/
theorem made_new_nil (W0 W : World) (e0 : Env) (kk wl : List Nat) (hwl : ∀ b ∈ wl, W0.heap.size ≤ b) (hf0 : Fr W0 [] W)  (s : List UInt8) (hs : s.length ≤ 1000) (cs : List UInt8) (pc : Option Addr) (cc : Nat) (hcs : cs.length ≤ 140737488355328) (hc : cs = [] ∨ ∃ b2 : Blk, pc = some ⟨b2.1, b2.2, none⟩ ∧ b2.3 = cc ∧ RowAt (fun _ => b2) 2 (nuR cs) W0) :
    At Try.prog W ⟨wl, e0, []⟩ Try.f4.ntmps [] (rp Try.f4 7) (EndX Try.prog Try.f4 (FrQ W0)) [(2, .v (.slice pc cs.length cc)), (7, .v (stv s)), (8, .v nilS)] [] := by
  refine E.At.reg rfl (E.Mid.run 1 [] trivial (tm2 := [(2, .v (.slice pc cs.length cc)), (7, .v (stv s)), (8, .v nilS)] ++ [(37, .v nilS)]) (rows2 := []) (ob := []) (by kernel_rfl) trivial rfl ?_)
  refine E.Mid.op (α := World × SB × Blk) (some 38) (fun z => z.1) (fun z => ⟨[], enM z.2.2 z.2.2 z.2.1, []⟩) (fun _ => [(2, .v (.slice pc cs.length cc)), (7, .v (stv s)), (8, .v nilS), (38, ptrTo 21)]) (fun _ => [(21, noR)]) (fun z => ∃ N, One W0 z.1 z.2.1 [] [] z.2.2 N) rfl (fun a w ρ K QQ hden hk => ?_) fun z hz => ?_
  · have hge := hden.fr.size
    have hfw : Fr W0 [] w := ⟨hden.fr.os.trans hf0.os, hden.fr.tape.trans hf0.tape, hden.fr.output.trans hf0.output, Nat.le_trans hf0.size hge, fun q hq _ => (hden.fr.block q (Nat.lt_of_lt_of_le hq hf0.size) fun hm => by have := hwl q hm; omega).trans (hf0.block q hq (by simp))⟩
    refine xCall_ok (d := 38) (f := 20) (vs := [.v nilS]) (by kernel_rfl) hden ent20 ((new_nil none 0 w).mono ?_)
    intro e w' hN
    obtain ⟨x, rfl, hF, g1, g2, g3, g4⟩ := new_st hN
    have hone : One W0 w' x [] [] (⟨0, 0, 0⟩ : Blk) w.heap.size := ⟨hfw.comp hF (fun y hy => by cases hy), g4, g1, g3, hfw.size, (fun h => absurd rfl h)⟩
    refine ⟨_, rfl, hk (w', x, (⟨0, 0, 0⟩ : Blk)) _ w' (enM (⟨0, 0, 0⟩ : Blk) (⟨0, 0, 0⟩ : Blk) x) ⟨_, hone⟩ (E.den_again (d := 38) (tm' := [(2, .v (.slice pc cs.length cc)), (7, .v (stv s)), (8, .v nilS), (38, ptrTo 21)]) (rows2 := [(21, noR)]) (K := []) hden (by decide) (fun p hp => ?_) rfl (one_rn _ hone) (fun p hp q hq hpq hw => ?_) rfl rfl)⟩
    · simp only [List.mem_cons, List.not_mem_nil, or_false] at hp
      rcases hp with rfl | rfl | rfl | rfl
      · exact .inr ⟨(show (2 : Nat) ≠ 38 by decide), rfl, fun r hr => by cases hr⟩
      · exact .inr ⟨(show (7 : Nat) ≠ 38 by decide), rfl, fun r hr => by cases hr⟩
      · exact .inr ⟨(show (8 : Nat) ≠ 38 by decide), rfl, fun r hr => by cases hr⟩
      · exact .inl ⟨rfl, rfl, trivial⟩
    · simp only [List.mem_cons, List.not_mem_nil, or_false] at hp
      rcases hp with rfl
      cases hw
  obtain ⟨W1, x, b⟩ := z
  obtain ⟨N, hO⟩ := hz
  simp only at hO ⊢
  refine E.Mid.run 3 [] trivial (tm2 := [(2, .v (.slice pc cs.length cc)), (7, .v (stv s)), (8, .v nilS), (10, ptrTo 21)]) (rows2 := [(21, noR)]) (ob := []) (by kernel_rfl) trivial rfl (E.Mid.out rfl ?_)
  by_cases h20 : cs.length ≤ 20
  · refine At.run rfl [(2009005, .val (.v (.bool false)))] ⟨trivial, trivial⟩ [.d] (tm2 := [(2, .v (.slice pc cs.length cc)), (7, .v (stv s)), (8, .v nilS), (10, ptrTo 21), (11, .v (stv s)), (12, .int .i64 ((0 : Nat) : Int)), (13, .int .i64 ((0 : Nat) : Int))]) (rows2 := [(21, noR)]) (ob := [TV.v (.bool (decide ((cs.length : Int) > 20))) = TV.v (.bool false)]) (td := lp Try.f4 1) (by kernel_rfl) ⟨tv_b (decide_eq_false (by omega)), trivial⟩ rfl rfl (by intro h; cases h) ?_
    rcases hc with rfl | ⟨b2, rfl, rfl, h2⟩
    · refine At.run rfl [(2021000, .val (.tup []))] ⟨trivial, trivial⟩ [.u, .d] (tm2 := [(7, .v (stv s)), (8, .v nilS), (10, ptrTo 21), (11, .v (stv s))]) (rows2 := [(21, noR)]) (ob := []) (td := rp Try.f4 20) (by kernel_rfl) trivial rfl rfl (by intro h; cases h) ?_
      exact made_rest_nil W0 W1 x b b N s s [] hs rfl hO
    · intro a w ρ hd
      have hone : One W0 w x [] [] b N := ⟨hO.fr.comp hd.fr (fun b hb => by cases hb), hO.hx.keep2 hd.fr (by simp) (by simp) (by simp), hO.xB, hO.xm, hO.hN, fun hp => ⟨rowAt_fr (hO.hP hp).1 hd.fr (by simp), (hO.hP hp).2⟩⟩
      have e1 : ρ 21 = x.B := hd.e0 21 (.inl (by decide))
      have hD := E.den_again1 (σ := enM b2 b x) (w' := w) (rows2 := (2, nuR cs) :: [(21, noR)]) (tm' := [(2, .s (.lf (.sl 2 0 0 1 cs.length none))), (7, .v (stv s)), (8, .v nilS), (10, ptrTo 21), (11, .v (stv s)), (12, .int .i64 ((0 : Nat) : Int)), (13, .int .i64 ((0 : Nat) : Int))]) (K := []) hd (fun q hq => ?_) rfl (fun q hq => ?_) (fun q hq r hr hqr hw => ?_) rfl rfl
      · exact made_cuts_nil W0 w x b2 b N s hs cs h20 h2 hone a w (enM b2 b x) hD
      · simp only [List.mem_cons, List.not_mem_nil, or_false] at hq
        rcases hq with rfl | rfl | rfl | rfl | rfl | rfl | rfl
        · refine ⟨_, rfl, ?_, trivial⟩
          show Value.slice (some ⟨b2.1, b2.2 + (0 + 0 * 1), none⟩) cs.length (b2.3 - 0) = .slice (some ⟨b2.1, b2.2, none⟩) cs.length b2.3
          rfl
        · exact ⟨_, rfl, rfl, rfl⟩
        · exact ⟨_, rfl, rfl, rfl⟩
        · refine ⟨_, rfl, ?_, trivial⟩
          exact TV.val_congr fun r hr => by obtain rfl := List.mem_singleton.1 hr; exact e1.symm
        · exact ⟨_, rfl, rfl, rfl⟩
        · exact ⟨_, rfl, rfl, rfl⟩
        · exact ⟨_, rfl, rfl, rfl⟩
      · rcases List.mem_cons.1 hq with rfl | hq
        · exact ⟨rowAt_mv (rowAt_fr h2 hone.fr (by simp)) rfl, nuR_ok cs⟩
        · exact one_rn b2 hone q hq
      · simp only [List.mem_cons, List.not_mem_nil, or_false] at hq
        rcases hq with rfl | rfl <;> cases hw
  · exact At.fin rfl [(2009005, .val (.v (.bool true))), (10003, hAw)] ⟨trivial, hAw_ok _, trivial⟩ [.d] (x := .v (.bool true)) (ob := [[TV.v (.bool (decide ((cs.length : Int) > 20))) = TV.v (.bool true)], qL hAw].flatten) (by kernel_rfl) (all_flat ⟨⟨tv_b (decide_eq_true (by omega)), trivial⟩, all_qL _, trivial⟩) fun ρ' w' hf _ => ⟨rfl, hO.fr.comp hf fun b hb => by cases hb⟩
set_option maxRecDepth 100000 in
/-- From New on. -/
theorem made_new_pos (W0 W : World) (e0 : Env) (kk wl : List Nat) (hwl : ∀ b ∈ wl, W0.heap.size ≤ b) (hf0 : Fr W0 [] W) (ps : List (List UInt8)) (hne : ps ≠ []) (hps : ps.length ≤ 8) (hp3 : ∀ p ∈ ps, p.length ≤ 60) (s : List UInt8) (hs : s.length ≤ 1000) (cs : List UInt8) (pc : Option Addr) (cc : Nat) (hcs : cs.length ≤ 140737488355328) (hc : cs = [] ∨ ∃ b2 : Blk, pc = some ⟨b2.1, b2.2, none⟩ ∧ b2.3 = cc ∧ RowAt (fun _ => b2) 2 (nuR cs) W0) :
    At Try.prog W ⟨wl, e0, []⟩ Try.f4.ntmps [] (rp Try.f4 7) (EndX Try.prog Try.f4 (FrQ W0)) [(2, .v (.slice pc cs.length cc)), (7, .v (stv s)), (8, .s (.lf (.sl 2904 0 0 1 ps.length none)))] [(2904, ⟨[.fnc (strF ps) 1 ps.length], true, some (9, 1)⟩)] := by
  refine E.At.reg rfl (E.Mid.run 1 [] trivial (tm2 := [(2, .v (.slice pc cs.length cc)), (7, .v (stv s)), (8, .s (.lf (.sl 2904 0 0 1 ps.length none)))] ++ [(37, .s (.lf (.sl 2904 0 0 1 ps.length none)))]) (rows2 := [(2904, ⟨[.fnc (strF ps) 1 ps.length], true, some (9, 1)⟩)]) (ob := []) (by kernel_rfl) trivial rfl ?_)
  refine E.Mid.op (α := World × SB × Blk) (some 38) (fun z => z.1) (fun z => ⟨[], enM z.2.2 z.2.2 z.2.1, []⟩) (fun _ => [(2, .v (.slice pc cs.length cc)), (7, .v (stv s)), (8, .s (.lf (.sl 31 0 0 1 ps.length none))), (38, ptrTo 21)]) (fun _ => [(21, noR), (31, prR ps ps.length)]) (fun z => ∃ N, One W0 z.1 z.2.1 ps [] z.2.2 N) rfl (fun a w ρ K QQ hden hk => ?_) fun z hz => ?_
  · have hge := hden.fr.size
    have hfw : Fr W0 [] w := ⟨hden.fr.os.trans hf0.os, hden.fr.tape.trans hf0.tape, hden.fr.output.trans hf0.output, Nat.le_trans hf0.size hge, fun q hq _ => (hden.fr.block q (Nat.lt_of_lt_of_le hq hf0.size) fun hm => by have := hwl q hm; omega).trans (hf0.block q hq (by simp))⟩
    have hr := (hden.rw 2904 _ rfl).1
    have hrb := hr.1
    refine xCall_ok (d := 38) (f := 20) (vs := [.s (.lf (.sl 2904 0 0 1 ps.length none))]) (by kernel_rfl) hden ent20 ((new_pos ps (by omega) (fun q hq => by have := hp3 q hq; omega) w (fun _ => ρ 2904) (rowAt_ro (rowAt_mv hr rfl))).mono ?_)
    intro e w' hN
    obtain ⟨x, rfl, hF, g1, g2, g3, g4⟩ := new_st hN
    have hone : One W0 w' x ps [] (ρ 2904) w.heap.size := ⟨hfw.comp hF (fun y hy => by cases hy), g4, g1, g3, hfw.size, (fun _ => ⟨rowAt_fr (rowAt_ro (rowAt_mv (σ := fun _ => ρ 2904) (q := 31) hr rfl)) hF (by simp), hrb⟩)⟩
    refine ⟨_, rfl, hk (w', x, (ρ 2904)) _ w' (enM (ρ 2904) (ρ 2904) x) ⟨_, hone⟩ (E.den_again2 (d := 38) (tm' := [(2, .v (.slice pc cs.length cc)), (7, .v (stv s)), (8, .s (.lf (.sl 31 0 0 1 ps.length none))), (38, ptrTo 21)]) (rows2 := [(21, noR), (31, prR ps ps.length)]) (K := []) hden (by decide) (fun p hp => ?_) rfl (one_ro _ hone hne) (fun p hp q hq hpq hw => ?_) rfl rfl)⟩
    · simp only [List.mem_cons, List.not_mem_nil, or_false] at hp
      rcases hp with rfl | rfl | rfl | rfl
      · exact .inr ⟨(show (2 : Nat) ≠ 38 by decide), _, rfl, rfl, rfl⟩
      · exact .inr ⟨(show (7 : Nat) ≠ 38 by decide), _, rfl, rfl, rfl⟩
      · exact .inr ⟨(show (8 : Nat) ≠ 38 by decide), _, rfl, rfl, trivial⟩
      · exact .inl ⟨rfl, rfl, trivial⟩
    · simp only [List.mem_cons, List.not_mem_nil, or_false] at hp
      rcases hp with rfl | rfl <;> cases hw
  obtain ⟨W1, x, b⟩ := z
  obtain ⟨N, hO⟩ := hz
  simp only at hO ⊢
  refine E.Mid.run 3 [] trivial (tm2 := [(2, .v (.slice pc cs.length cc)), (7, .v (stv s)), (8, .s (.lf (.sl 31 0 0 1 ps.length none))), (10, ptrTo 21)]) (rows2 := [(21, noR), (31, prR ps ps.length)]) (ob := []) (by kernel_rfl) trivial rfl (E.Mid.out rfl ?_)
  by_cases h20 : cs.length ≤ 20
  · refine At.run rfl [(2009005, .val (.v (.bool false)))] ⟨trivial, trivial⟩ [.d] (tm2 := [(2, .v (.slice pc cs.length cc)), (7, .v (stv s)), (8, .s (.lf (.sl 31 0 0 1 ps.length none))), (10, ptrTo 21), (11, .v (stv s)), (12, .int .i64 ((0 : Nat) : Int)), (13, .int .i64 ((0 : Nat) : Int))]) (rows2 := [(21, noR), (31, prR ps ps.length)]) (ob := [TV.v (.bool (decide ((cs.length : Int) > 20))) = TV.v (.bool false)]) (td := lp Try.f4 1) (by kernel_rfl) ⟨tv_b (decide_eq_false (by omega)), trivial⟩ rfl rfl (by intro h; cases h) ?_
    rcases hc with rfl | ⟨b2, rfl, rfl, h2⟩
    · refine At.run rfl [(2021000, .val (.tup []))] ⟨trivial, trivial⟩ [.u, .d] (tm2 := [(7, .v (stv s)), (8, .s (.lf (.sl 31 0 0 1 ps.length none))), (10, ptrTo 21), (11, .v (stv s))]) (rows2 := [(21, noR), (31, prR ps ps.length)]) (ob := []) (td := rp Try.f4 20) (by kernel_rfl) trivial rfl rfl (by intro h; cases h) ?_
      exact made_rest_pos W0 W1 x b b N ps hne hps hp3 s s [] hs rfl hO
    · intro a w ρ hd
      have hone : One W0 w x ps [] b N := ⟨hO.fr.comp hd.fr (fun b hb => by cases hb), hO.hx.keep2 hd.fr (by simp) (by simp) (by simp), hO.xB, hO.xm, hO.hN, fun hp => ⟨rowAt_fr (hO.hP hp).1 hd.fr (by simp), (hO.hP hp).2⟩⟩
      have e1 : ρ 21 = x.B := hd.e0 21 (.inl (by decide))
      have hD := E.den_again1 (σ := enM b2 b x) (w' := w) (rows2 := (2, nuR cs) :: [(21, noR), (31, prR ps ps.length)]) (tm' := [(2, .s (.lf (.sl 2 0 0 1 cs.length none))), (7, .v (stv s)), (8, .s (.lf (.sl 31 0 0 1 ps.length none))), (10, ptrTo 21), (11, .v (stv s)), (12, .int .i64 ((0 : Nat) : Int)), (13, .int .i64 ((0 : Nat) : Int))]) (K := []) hd (fun q hq => ?_) rfl (fun q hq => ?_) (fun q hq r hr hqr hw => ?_) rfl rfl
      · exact made_cuts_pos W0 w x b2 b N ps hne hps hp3 s hs cs h20 h2 hone a w (enM b2 b x) hD
      · simp only [List.mem_cons, List.not_mem_nil, or_false] at hq
        rcases hq with rfl | rfl | rfl | rfl | rfl | rfl | rfl
        · refine ⟨_, rfl, ?_, trivial⟩
          show Value.slice (some ⟨b2.1, b2.2 + (0 + 0 * 1), none⟩) cs.length (b2.3 - 0) = .slice (some ⟨b2.1, b2.2, none⟩) cs.length b2.3
          rfl
        · exact ⟨_, rfl, rfl, rfl⟩
        · refine ⟨_, rfl, ?_, trivial⟩
          exact TV.val_congr fun r hr => by obtain rfl := List.mem_singleton.1 hr; exact (hd.e0 31 (.inl (by decide))).symm
        · refine ⟨_, rfl, ?_, trivial⟩
          exact TV.val_congr fun r hr => by obtain rfl := List.mem_singleton.1 hr; exact e1.symm
        · exact ⟨_, rfl, rfl, rfl⟩
        · exact ⟨_, rfl, rfl, rfl⟩
        · exact ⟨_, rfl, rfl, rfl⟩
      · rcases List.mem_cons.1 hq with rfl | hq
        · exact ⟨rowAt_mv (rowAt_fr h2 hone.fr (by simp)) rfl, nuR_ok cs⟩
        · exact one_ro b2 hone hne q hq
      · simp only [List.mem_cons, List.not_mem_nil, or_false] at hq
        rcases hq with rfl | rfl | rfl <;> cases hw
  · exact At.fin rfl [(2009005, .val (.v (.bool true))), (10003, hAw)] ⟨trivial, hAw_ok _, trivial⟩ [.d] (x := .v (.bool true)) (ob := [[TV.v (.bool (decide ((cs.length : Int) > 20))) = TV.v (.bool true)], qL hAw].flatten) (by kernel_rfl) (all_flat ⟨⟨tv_b (decide_eq_true (by omega)), trivial⟩, all_qL _, trivial⟩) fun ρ' w' hf _ => ⟨rfl, hO.fr.comp hf fun b hb => by cases hb⟩
end
end Go.Proofs.Ytlofoeapfmcolaa
