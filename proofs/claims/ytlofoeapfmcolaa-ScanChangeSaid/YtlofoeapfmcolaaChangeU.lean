/- ScanChange's law over any values: numbers, as they came in, opened. Its condition: lengths that fit. -/
import Derived.Test.YtlofoeapfmcolaaW17
import Derived.Deep.Slices
import Derived.ProofKit
import Derived.OpenShut
import Derived.ChangeOld
import Derived.SizedLaws
import Derived.ChangeSlices
namespace Go.Proofs.Ytlofoeapfmcolaa
open Go.RowKit Go.Shelf
set_option linter.unusedVariables false
set_option linter.unusedSimpArgs false
section
open E
theorem lb_eq (a b : List UInt8) : (a == b) = decide (a = b) := by
  by_cases h : a = b <;> simp [h]
theorem places_len (s p : List UInt8) (hs : s.length ≤ 1000000) : (placesL s p).length ≤ 1000000 := by
  unfold placesL
  split
  · rename_i hmo
    have := may_len hmo
    exact Nat.le_trans (pl_len s p (by omega) 0) hs
  · exact Nat.zero_le _
theorem hI_doc0 {id : Nat} {s p : List UInt8} (hs : s.length ≤ 1000000) (hp : p.length ≤ 1000000) (h : placesL s p = []) : HintOk Try.prog id (hI0 15 (fun _ => #[stv s, stv p]) []) := hI0_of ent15 fun ρ w _ => by
  have := rplaces_any s p hs hp w
  rw [h] at this
  exact this
theorem hI_doc1 {id : Nat} {s p : List UInt8} (hs : s.length ≤ 1000000) (hp : p.length ≤ 1000000) (h : placesL s p ≠ []) : HintOk Try.prog id (hI1 15 (fun _ => #[stv s, stv p]) [] id (placesL s p)) := hI1_of h ent15 fun ρ w _ => rplaces_any s p hs hp w
theorem hI_pro0 {id : Nat} {s p : List UInt8} (hs : s.length ≤ 1000000) (hp : p.length ≤ 1000000) (h : placesL s p = []) : HintOk Try.prog id (hI0 14 (fun _ => #[stv s, stv p]) []) := hI0_of ent14 fun ρ w _ => by
  have := gplaces_any s p hs hp w
  rw [h] at this
  exact this
theorem hI_pro1 {id : Nat} {s p : List UInt8} (hs : s.length ≤ 1000000) (hp : p.length ≤ 1000000) (h : placesL s p ≠ []) : HintOk Try.prog id (hI1 14 (fun _ => #[stv s, stv p]) [] id (placesL s p)) := hI1_of h ent14 fun ρ w _ => gplaces_any s p hs hp w
theorem ent6 : Enters Try.prog 6 := enters_of Try.func6 (by kernel_rfl) rfl
theorem hCh_at (id : Nat) (s o p : List UInt8) (hs : s.length ≤ 1000000) (ho : o.length ≤ 1000000) (hp : p.length ≤ 1000000) : HintOk Try.prog id (hCh s o p (changeL s o p)) := hCh_ok id s o p _ hs ho hp rfl
set_option maxRecDepth 100000 in
theorem chg_tail (w : World) (ρ : Env) (S p q : List UInt8) (hS : S.length ≤ 1000000) (hp : p.length = 32) (hq : q.length = 32) (mp : mayP p = true) (mq : mayP q = true) :
    At Try.prog w ⟨[], ρ, []⟩ Try.f6.ntmps [] (rp Try.f6 3) (EndX Try.prog Try.f6 (FrQ w)) [(7, .v (stv S)), (8, .v (stv p)), (9, .v (stv q))] [] := by
  have hp6 : p.length ≤ 1000000 := by omega
  have hq6 : q.length ≤ 1000000 := by omega
  by_cases hpq : p = q
  · have hd : TV.v (.bool (p == q)) = TV.v (.bool true) := by rw [lb_eq, decide_eq_true hpq]
    exact At.fin rfl [(2004003, .val (.v (.bool true))), (5000, hAw)] ⟨trivial, hAw_ok _, trivial⟩ [.d] (x := .v (.bool true)) (ob := [[TV.v (.bool (p == q)) = TV.v (.bool true)], qL hAw].flatten) (by kernel_rfl) (all_flat ⟨⟨hd, trivial⟩, all_qL _, trivial⟩) fun ρ' w' hf _ => ⟨rfl, hf⟩
  have hd : TV.v (.bool (p == q)) = TV.v (.bool false) := by rw [lb_eq, decide_eq_false hpq]
  by_cases hL : placesL S q = []
  case neg =>
    have hk := hI_doc1 (id := 4006) hS hq6 hL
    have hpos : 0 < (placesL S q).length := by
      rcases Nat.eq_zero_or_pos (placesL S q).length with h | h
      · exact absurd (List.length_eq_zero_iff.1 h) hL
      · exact h
    generalize placesL S q = L at hk hpos
    exact At.fin rfl [(2004003, .val (.v (.bool false))), (4006, hI1 15 (fun _ => #[stv S, stv q]) [] 4006 L), (5000, hAw)] ⟨trivial, hk, hAw_ok _, trivial⟩ [.y] (x := .v (.bool true)) (ob := [[TV.v (.bool (p == q)) = TV.v (.bool false)], qL (hI1 15 (fun _ => #[stv S, stv q]) [] 4006 L), [decide ((L.length : Int) > 0) = true], qL hAw].flatten) (by kernel_rfl) (all_flat ⟨⟨hd, trivial⟩, all_qL _, ⟨decide_eq_true (by omega), trivial⟩, all_qL _, trivial⟩) fun ρ' w' hf _ => ⟨rfl, hf⟩
  have hk := hI_doc0 (id := 4006) hS hq6 hL
  obtain ⟨t, ht⟩ : ∃ t, t = changeL S p q := ⟨_, rfl⟩
  have hch := hCh_at 6003 S p q hS hp6 hq6
  rw [← ht] at hch
  have htl : t.length = S.length := by rw [ht, change_len]
  have hne : ((t.length : Int) != (S.length : Int)) = false := by rw [htl]; simp
  have hSS : TV.v (.bool (S == S)) = TV.v (.bool true) := by rw [lb_eq, decide_eq_true rfl]
  have hc1 : HintOk Try.prog 15003 (hCh S p p S) := hCh_ok _ _ _ _ _ hS hp6 hp6 (change_self S p)
  have hc2 : HintOk Try.prog 15009 (hCh S [110, 111] q S) := hCh_ok _ _ _ _ _ hS (by decide) hq6 (change_no S q)
  by_cases hN : placesL S p = []
  · have hn := hI_pro0 (id := 7002) hS hp6 hN
    have htS : TV.v (.bool (t == S)) = TV.v (.bool true) := by rw [lb_eq, decide_eq_true (by rw [ht]; exact change_nil hN)]
    refine At.run rfl [(2004003, .val (.v (.bool false))), (4006, hI0 15 (fun _ => #[stv S, stv q]) []), (6003, hCh S p q t), (7002, hI0 14 (fun _ => #[stv S, stv p]) []), (2015000, .val (.tup []))] ⟨trivial, hk, hch, hn, trivial, trivial⟩ [.d, .n, .u, .d] (tm2 := [(7, .v (stv S)), (8, .v (stv p)), (9, .v (stv q)), (10, .v (stv t)), (11, .v nilS)]) (rows2 := []) (ob := [[TV.v (.bool (p == q)) = TV.v (.bool false)], qL (hI0 15 (fun _ => #[stv S, stv q]) []), qL (hCh S p q t), qL (hI0 14 (fun _ => #[stv S, stv p]) []), [((t.length : Int) != (S.length : Int)) = false]].flatten) (td := rp Try.f6 14) (by kernel_rfl) (all_flat ⟨⟨hd, trivial⟩, all_qL _, all_qL _, all_qL _, ⟨hne, trivial⟩, trivial⟩) rfl rfl (by intro h; cases h) ?_
    exact At.fin rfl [(15003, hCh S p p S), (2015006, .val (.v (.bool true))), (15009, hCh S [110, 111] q S), (2015013, .val (.v (.bool true))), (2015023, .val (.v (.bool true))), (15024, hAw)] ⟨hc1, trivial, hc2, trivial, trivial, hAw_ok _, trivial⟩ [] (x := .v (.bool true)) (ob := [qL (hCh S p p S), [TV.v (.bool (S == S)) = TV.v (.bool true)], qL (hCh S [110, 111] q S), [TV.v (.bool (S == S)) = TV.v (.bool true), TV.v (.bool (t == S)) = TV.v (.bool true)], qL hAw].flatten) (by kernel_rfl) (all_flat ⟨all_qL _, ⟨hSS, trivial⟩, all_qL _, ⟨hSS, htS, trivial⟩, all_qL _, trivial⟩) fun ρ' w' hf _ => ⟨rfl, hf⟩
  · have hn := hI_pro1 (id := 7002) hS hp6 hN
    have hwin := change_win (s := S) (o := p) mq
    have hLl := places_len S p hS
    rw [← ht] at hwin
    generalize placesL S p = L at hn hwin hN hLl
    have hpos : 0 < L.length := by
      rcases Nat.eq_zero_or_pos L.length with h | h
      · exact absurd (List.length_eq_zero_iff.1 h) hN
      · exact h
    have hloop : ∀ i : Nat, i ≤ L.length → At Try.prog w ⟨[], ρ, []⟩ Try.f6.ntmps [] (lp Try.f6 0) (EndX Try.prog Try.f6 (FrQ w)) [(7, .v (stv S)), (8, .v (stv p)), (9, .v (stv q)), (10, .v (stv t)), (11, .s (.lf (.sl 7002 0 0 1 L.length none))), (12, .int .i64 (i : Int))] [(7002, inR L L.length)] := by
      refine At.loop (fun i : Nat => [(7, .v (stv S)), (8, .v (stv p)), (9, .v (stv q)), (10, .v (stv t)), (11, .s (.lf (.sl 7002 0 0 1 L.length none))), (12, .int .i64 (i : Int))]) (fun _ => [(7002, inR L L.length)]) (fun i => i ≤ L.length) (fun i => L.length - i) fun i hi ih => ?_
      by_cases hlt : i < L.length
      · obtain ⟨x, hx⟩ : ∃ x, x = L.getD i 0 := ⟨_, rfl⟩
        have hxm : x ∈ L := by rw [hx, List.getD_eq_getElem?_getD, List.getElem?_eq_getElem hlt]; exact List.getElem_mem hlt
        obtain ⟨hb, hw⟩ := hwin x hxm
        have hv : TV.int .i64 ((L.getD (addN 0 (i : Int).toNat) 0 : Nat) : Int) = TV.int .i64 ((x : Nat) : Int) := by rw [hx, addN_eq, Nat.zero_add, Int.toNat_natCast]
        have hidx : addN 0 (i : Int).toNat < L.length := by rw [addN_eq]; omega
        have hib : 0 ≤ (i : Int) ∧ (i : Int) < (L.length : Int) := ⟨by omega, by omega⟩
        have h0 : TV.v (.bool (decide ((x : Int) < 0))) = TV.v (.bool false) := by rw [decide_eq_false (by omega)]
        have hgt : TV.v (.bool (decide ((x : Int) + 32 > (t.length : Int)))) = TV.v (.bool false) := by rw [decide_eq_false (by omega)]
        have hin : inI ((x : Int) + 32) := ⟨by omega, by omega⟩
        have hsl : TV.v (stv (List.drop (x : Int).toNat (List.take ((x : Int) + 32).toNat t))) = TV.v (stv q) := tv_str (by
          rw [List.drop_take, show ((x : Int) + 32).toNat - (x : Int).toNat = 32 by omega, Int.toNat_natCast]; exact hw)
        have hqq : (!(q == q)) = false := by simp
        exact At.run rfl [(2013003, .val (.int .i64 (x : Int))), (2013005, .val (.v (.bool false))), (2013009, .val (.int .i64 (x : Int))), (2013015, .val (.v (.bool false))), (2013020, .val (.int .i64 (x : Int))), (2013024, .val (.int .i64 (x : Int))), (2013026, .val (.v (stv q)))] ⟨trivial, trivial, trivial, trivial, trivial, trivial, trivial, trivial⟩ [.y, .n] (tm2 := [(7, .v (stv S)), (8, .v (stv p)), (9, .v (stv q)), (10, .v (stv t)), (11, .s (.lf (.sl 7002 0 0 1 L.length none))), (12, .int .i64 ((i + 1 : Nat) : Int))]) (rows2 := [(7002, inR L L.length)])
          (ob := [decide ((i : Int) < (L.length : Int)) = true, 0 ≤ (i : Int) ∧ (i : Int) < (L.length : Int), TV.int .i64 ((L.getD (addN 0 (i : Int).toNat) 0 : Nat) : Int) = TV.int .i64 ((x : Nat) : Int), addN 0 (i : Int).toNat < L.length, TV.v (.bool false) = TV.v (.bool false), 0 ≤ (i : Int) ∧ (i : Int) < (L.length : Int), TV.int .i64 ((L.getD (addN 0 (i : Int).toNat) 0 : Nat) : Int) = TV.int .i64 ((x : Nat) : Int), addN 0 (i : Int).toNat < L.length, inI ((x : Int) + 32), TV.v (.bool (decide ((x : Int) + 32 > (t.length : Int)))) = TV.v (.bool false), 0 ≤ (i : Int) ∧ (i : Int) < (L.length : Int), TV.int .i64 ((L.getD (addN 0 (i : Int).toNat) 0 : Nat) : Int) = TV.int .i64 ((x : Nat) : Int), addN 0 (i : Int).toNat < L.length, 0 ≤ (i : Int) ∧ (i : Int) < (L.length : Int), TV.int .i64 ((L.getD (addN 0 (i : Int).toNat) 0 : Nat) : Int) = TV.int .i64 ((x : Nat) : Int), addN 0 (i : Int).toNat < L.length, inI ((x : Int) + 32), TV.v (stv (List.drop (x : Int).toNat (List.take ((x : Int) + 32).toNat t))) = TV.v (stv q), 0 ≤ (x : Int) + 32 ∧ (x : Int) + 32 ≤ (t.length : Int), 0 ≤ (x : Int) ∧ (x : Int) ≤ (x : Int) + 32, (!(q == q)) = false, inI ((i : Int) + 1)]) (td := lp Try.f6 0) (by kernel_rfl)
          ⟨decide_eq_true (by omega), hib, hv, hidx, rfl, hib, hv, hidx, hin, hgt, hib, hv, hidx, hib, hv, hidx, hin, hsl, ⟨by omega, by omega⟩, ⟨by omega, by omega⟩, hqq, ⟨by omega, by omega⟩, trivial⟩ rfl rfl (by intro h; cases h) (ih (i + 1) hlt (by omega))
      · obtain rfl : i = L.length := by omega
        have hpb : TV.v (.bool (decide ((L.length : Int) > 0))) = TV.v (.bool true) := by rw [decide_eq_true (by omega)]
        exact At.fin rfl [(15003, hCh S p p S), (2015006, .val (.v (.bool true))), (15009, hCh S [110, 111] q S), (2015013, .val (.v (.bool true))), (2015017, .val (.v (.bool true))), (15024, hAw)] ⟨hc1, trivial, hc2, trivial, trivial, hAw_ok _, trivial⟩ [.n] (x := .v (.bool true)) (ob := [[decide ((L.length : Int) < (L.length : Int)) = false], qL (hCh S p p S), [TV.v (.bool (S == S)) = TV.v (.bool true)], qL (hCh S [110, 111] q S), [TV.v (.bool (S == S)) = TV.v (.bool true), TV.v (.bool (decide ((L.length : Int) > 0))) = TV.v (.bool true)], qL hAw].flatten) (by kernel_rfl) (all_flat ⟨⟨decide_eq_false (by omega), trivial⟩, all_qL _, ⟨hSS, trivial⟩, all_qL _, ⟨hSS, hpb, trivial⟩, all_qL _, trivial⟩) fun ρ' w' hf _ => ⟨rfl, hf⟩
    exact At.run rfl [(2004003, .val (.v (.bool false))), (4006, hI0 15 (fun _ => #[stv S, stv q]) []), (6003, hCh S p q t), (7002, hI1 14 (fun _ => #[stv S, stv p]) [] 7002 L)] ⟨trivial, hk, hch, hn, trivial⟩ [.d, .n] (tm2 := [(7, .v (stv S)), (8, .v (stv p)), (9, .v (stv q)), (10, .v (stv t)), (11, .s (.lf (.sl 7002 0 0 1 L.length none))), (12, .int .i64 ((0 : Nat) : Int))]) (rows2 := [(7002, inR L L.length)]) (ob := [[TV.v (.bool (p == q)) = TV.v (.bool false)], qL (hI0 15 (fun _ => #[stv S, stv q]) []), qL (hCh S p q t), qL (hI1 14 (fun _ => #[stv S, stv p]) [] 7002 L), [((t.length : Int) != (S.length : Int)) = false]].flatten) (td := lp Try.f6 0) (by kernel_rfl) (all_flat ⟨⟨hd, trivial⟩, all_qL _, all_qL _, all_qL _, ⟨hne, trivial⟩, trivial⟩) rfl rfl (by intro h; cases h) (hloop 0 (Nat.zero_le _))
set_option maxRecDepth 100000 in
theorem chg_head (w : World) (ρ : Env) (A : List UInt8) (a b : Nat) (ha : a < 256) (hb : b < 256) :
    At Try.prog w ⟨[], ρ, []⟩ Try.f6.ntmps [] (rp Try.f6 2) (EndX Try.prog Try.f6 (FrQ w)) [(1, .int .u8 (a : Int)), (2, .int .u8 (b : Int)), (7, .v (stv (textL A)))] [] := by
  obtain ⟨m, hm⟩ : ∃ m, m = a % 16 := ⟨_, rfl⟩
  obtain ⟨n, hn⟩ : ∃ n, n = 17 + b % 3 := ⟨_, rfl⟩
  have g1 : TV.int .u8 ((a : Int) % 16) = TV.int .u8 (m : Int) := by rw [hm]; rfl
  have g2 : TV.int .u8 (IntKind.u8.wrap (17 + (b : Int) % 3)) = TV.int .u8 (n : Int) := tv_int (by
    rw [hn]
    simp [IntKind.wrap, IntKind.bits, IntKind.signed]
    omega)
  refine At.run rfl [(2003001, .val (.int .u8 (m : Int))), (3002, hPt m), (2003005, .val (.int .u8 (n : Int))), (3006, hPt n), (2004000, .val (.tup []))] ⟨trivial, hPt_ok _ _ (by omega), trivial, hPt_ok _ _ (by omega), trivial, trivial⟩ [] (tm2 := [(7, .v (stv (textL A))), (8, .v (stv (partL m))), (9, .v (stv (partL n)))]) (rows2 := []) (ob := [[TV.int .u8 ((a : Int) % 16) = TV.int .u8 (m : Int), 0 ≤ (a : Int) ∧ (0 : Int) < 16], qL (hPt m), [0 ≤ (b : Int) ∧ (0 : Int) < 3, TV.int .u8 (IntKind.u8.wrap (17 + (b : Int) % 3)) = TV.int .u8 (n : Int)], qL (hPt n)].flatten) (td := rp Try.f6 3) (by kernel_rfl) (all_flat ⟨⟨g1, ⟨by omega, by decide⟩, trivial⟩, all_qL _, ⟨⟨by omega, by decide⟩, g2, trivial⟩, all_qL _, trivial⟩) rfl rfl (by intro h; cases h) ?_
  exact chg_tail w ρ (textL A) (partL m) (partL n) (by have := textL_len A; omega) (partL_len m) (partL_len n) (part_may m) (part_may n)
set_option maxRecDepth 100000 in
theorem change_pos (A : List UInt8) (hA : A.length ≤ 140737488355328) (a b : Nat) (ha : a < 256) (hb : b < 256) (w : World) (ρ : Env) (h : RowAt ρ 0 (nuR A) w) : Calls Try.prog 6 #[(nuS A).val ρ, .int .u8 (a : Int), .int .u8 (b : Int)] w (FrQ w) := by
  refine At.calls (args := [nuS A, .int .u8 (a : Int), .int .u8 (b : Int)]) (rows := [(0, nuR A)]) (gl := []) (wr := []) (ρ := ρ) Try.func6 rfl rfl (init_rw ⟨trivial, rfl, rfl, trivial⟩ rfl rfl rfl (fun p hp => by obtain rfl := List.mem_singleton.1 hp; exact ⟨h, nuR_ok A⟩) (fun p hp hw => by obtain rfl := List.mem_singleton.1 hp; cases hw) (fun p hp q hq hpq hw => by obtain rfl := List.mem_singleton.1 hp; cases hw)) rfl ?_
  exact At.run rfl [(2001, hTx A), (2003000, .val (.tup []))] ⟨hTx_ok _ _ hA, trivial, trivial⟩ [] (tm2 := [(1, .int .u8 (a : Int)), (2, .int .u8 (b : Int)), (7, .v (stv (textL A)))]) (rows2 := []) (ob := qL (hTx A)) (td := rp Try.f6 2) (by kernel_rfl) (all_qL _) rfl rfl (by intro h; cases h) (chg_head w ρ A a b ha hb)
set_option maxRecDepth 100000 in
theorem change_zero (pa : Option Addr) (ca : Nat) (a b : Nat) (ha : a < 256) (hb : b < 256) (w : World) : Calls Try.prog 6 #[.slice pa 0 ca, .int .u8 (a : Int), .int .u8 (b : Int)] w (FrQ w) := by
  refine At.calls (args := [.v (.slice pa 0 ca), .int .u8 (a : Int), .int .u8 (b : Int)]) (rows := []) (gl := []) (wr := []) (ρ := fun _ => (⟨0, 0, 0⟩ : Blk)) Try.func6 rfl rfl (init_rw ⟨rfl, rfl, rfl, trivial⟩ rfl rfl rfl (fun p hp => by cases hp) (fun p hp => by cases hp) (fun p hp => by cases hp)) rfl ?_
  exact At.run rfl [(2001, hTx0 pa ca), (2003000, .val (.tup []))] ⟨hTx0_ok _ _ _, trivial, trivial⟩ [] (tm2 := [(1, .int .u8 (a : Int)), (2, .int .u8 (b : Int)), (7, .v (stv (textL [])))]) (rows2 := []) (ob := qL (hTx0 pa ca)) (td := rp Try.f6 2) (by kernel_rfl) (all_qL _) rfl rfl (by intro h; cases h) (chg_head w (fun _ => (⟨0, 0, 0⟩ : Blk)) [] a b ha hb)
end
end Go.Proofs.Ytlofoeapfmcolaa
namespace Go.Proofs.Ytlofoeapfmcolaa
open Go.Deep Go.ChangeShapes Go.WideShapes Go.ChangeAt Go.RowKit
set_option linter.unusedVariables false
set_option linter.unusedSimpArgs false
theorem addr_add0 {g o i : Nat} : (⟨g, o, none⟩ : Addr).add i = ⟨g, o + i, none⟩ := by unfold Addr.add; split <;> simp_all
/-- Numbers in memory. -/
def NumIn (W : World) (pa : Option Addr) (len ca : Nat) (ns : List UInt8) : Prop := ns.length = len ∧ len ≤ ca ∧ (0 < len → ∃ b o, pa = some ⟨b, o, none⟩ ∧ b < W.heap.size ∧ ∀ i (h : i < ns.length), W.cell? ⟨b, o + i, none⟩ = some (.int .u8 (ns[i].toNat : Int)))
set_option maxRecDepth 100000 in
theorem nums_open {H : Type} {enc : TypeId × Value → H} {W : World} {fuel : Nat} {cs : List Value} {x : DataW H × List MemPlace} (h : DataW.trod enc Try.prog W 0 (fun _ => true) true fuel 31 cs = some x) :
    ∃ pa len ca ns, cs = [.slice pa len ca] ∧ NumIn W pa len ca ns ∧ (ca = 0 ∨ ∃ el sp, x.1 = .slice el sp ∧ el.length + sp.length = ca) := by
  rcases open_ints Try.underlying31 Try.underlying5 (by kernel_rfl) h with ⟨hcs, _⟩ | ⟨a, len, cap, zs, hcs, _, hl, hm, hz, hx, hcell, hwz⟩
  · exact ⟨none, 0, 0, [], hcs, ⟨rfl, Nat.le_refl _, fun h => absurd h (Nat.lt_irrefl _)⟩, .inl rfl⟩
  · have hz2 : zs.length = cap := by simpa using hz
    have hns : ((zs.take len).map fun z => UInt8.ofNat z.toNat).length = len := by rw [List.length_map, List.length_take]; omega
    refine ⟨some a, len, cap, (zs.take len).map fun z => UInt8.ofNat z.toNat, hcs, ⟨hns, hl, fun h0 => ?_⟩, .inr ⟨_, _, congrArg Prod.fst hx, ?_⟩⟩
    · obtain ⟨g, off, spot⟩ := a
      have hsp : spot = none := by
        have := World.cell?_spot (hcell 0 (by omega))
        simpa [Addr.add] using this
      subst hsp
      refine ⟨g, off, rfl, block_lt_of_cell (hcell 0 (by omega)), fun i hi => ?_⟩
      rw [hns] at hi
      have hc := hcell i (by omega)
      rw [addr_add0] at hc
      have hget : zs.getD i 0 = zs[i]'(by omega) := by rw [List.getD_eq_getElem?_getD, List.getElem?_eq_getElem (by omega)]; rfl
      have hw := hwz (zs[i]'(by omega)) (List.getElem_mem _)
      simp [Lit.wf, IntKind.min, IntKind.max, IntKind.signed, IntKind.bits] at hw
      rw [hc, hget, List.getElem_map, List.getElem_take]
      congr 2
      obtain ⟨k, hk⟩ := Int.eq_ofNat_of_zero_le hw.1
      rw [hk] at hw ⊢
      simp
      omega
    · simp [lits]; omega
section
open E
theorem nu_row {W : World} {b o c : Nat} {ns : List UInt8} (h0 : 0 < ns.length) (hb : b < W.heap.size) (h : ∀ i (h : i < ns.length), W.cell? ⟨b, o + i, none⟩ = some (.int .u8 (ns[i].toNat : Int))) (ρ : Env) (r : Nat) (hρ : ρ r = ⟨b, o, c⟩) : RowAt ρ r (nuR ns) W := by
  unfold RowAt
  rw [hρ]
  refine ⟨hb, fun j v hv => ⟨?_, fun hw => by cases hw⟩, (fun e k hc => by cases hc), cells_of_cell1 (h 0 h0)⟩
  have hj : j < ns.length := by
    have := (List.getElem?_eq_some_iff.1 hv).1
    rw [lst_fnc, flat_len (k := 1) ns.length (fun _ _ => rfl)] at this
    omega
  rw [lst_fnc, flat_get (f := byteF ns) (k := 1) (by omega) ns.length (fun _ _ => rfl) j (by omega), Nat.div_one, Nat.mod_one] at hv
  cases hv
  rw [h j hj]
  simp [byteF, hj]
/-- The law. -/
theorem change_any (W : World) (pa : Option Addr) (len ca : Nat) (ns : List UInt8) (hN : NumIn W pa len ca ns) (hca : ca ≤ 140737488355328) (a b : Int) (ha : 0 ≤ a ∧ a < 256) (hb : 0 ≤ b ∧ b < 256) : Calls Try.prog 6 #[.slice pa len ca, .int .u8 a, .int .u8 b] W (FrQ W) := by
  obtain ⟨a, rfl⟩ := Int.eq_ofNat_of_zero_le ha.1
  obtain ⟨b, rfl⟩ := Int.eq_ofNat_of_zero_le hb.1
  have ha := ha.2
  have hb := hb.2
  obtain ⟨hl, hcc, hN⟩ := hN
  subst hl
  rcases Nat.eq_zero_or_pos ns.length with e | e
  · rw [e]
    exact change_zero pa ca a b (by omega) (by omega) W
  · obtain ⟨g, o, rfl, hb2, hx⟩ := hN e
    exact change_pos ns (by omega) a b (by omega) (by omega) W (fun _ => ⟨g, o, ca⟩) (nu_row (c := ca) e hb2 hx _ 0 rfl)
end
end Go.Proofs.Ytlofoeapfmcolaa
