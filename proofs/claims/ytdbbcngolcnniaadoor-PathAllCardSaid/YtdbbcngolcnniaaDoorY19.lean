/- Several texts, one behind the other; each says by itself what it proves, and on what conditions. -/
import Derived.Test.YtdbbcngolcnniaaDoorY18
import Derived.Lib.FrozenHead2
import Derived.Lib.OthersKept
/- Paths: CutPrefix, Parse, Make. Its conditions: lengths that fit; the tables of sha as its text lays them. -/
namespace Go.Proofs.YtdbbcngolcnniaaDoor
open Go Go.RowKit
set_option linter.unusedVariables false
set_option linter.unusedSimpArgs false
section
open E
theorem ent59 : Enters Tryd.prog 59 := enters_of Tryd.func59 (by kernel_rfl) rfl
theorem ent39 : Enters Tryd.prog 39 := enters_of Tryd.func39 (by kernel_rfl) rfl
theorem ent19 : Enters Tryd.prog 19 := enters_of Tryd.func19 (by kernel_rfl) rfl
theorem ent9 : Enters Tryd.prog 9 := enters_of Tryd.func9 (by kernel_rfl) rfl
theorem ent11 : Enters Tryd.prog 11 := enters_of Tryd.func11 (by kernel_rfl) rfl
theorem ent23 : Enters Tryd.prog 23 := enters_of Tryd.func23 (by kernel_rfl) rfl
theorem ent24 : Enters Tryd.prog 24 := enters_of Tryd.func24 (by kernel_rfl) rfl
theorem ent25 : Enters Tryd.prog 25 := enters_of Tryd.func25 (by kernel_rfl) rfl
def preP (s p : List UInt8) : Bool := decide (p.length ≤ s.length) && s.take p.length == p
abbrev pcW (f : FuncId) (args : Array Value) (res : TV) : Hint := .callW ⟨f, fun _ => args, res, [], [], none, []⟩
theorem pcW_ok {P : Program} {w0 : World} {wr : Bs} {f : FuncId} {args : Array Value} {res : TV} {v : Value} {id : Nat} (he : Enters P f) (hr : res.ok) (hv : ∀ ρ, res.val ρ = v)
  (h : ∀ w, Fr w0 wr.l w → Calls P f args w fun e w' => e = .returned v ∧ Fr w [] w') : HintAt P w0 wr id (pcW f args res) := fun w ρ hk hf h0 => by
 refine callAt_ok (res := res) he hr (fun p hp => by cases hp) ρ w fun _ => (h w hf).mono ?_
 rintro e w' ⟨rfl, hF⟩
 exact ⟨⟨0, 0, 0⟩, by rw [hv], hF, (fun p hp => by cases hp), fun row hrw => by cases hrw⟩
theorem glob_keep {w w' : World} {l : List Nat} (hG : S3.Glob w) (hf : Fr w l w') (h0 : 0 ∉ l) (h1 : 1 ∉ l) : S3.Glob w' := by
 have h2 := hG.two
 exact ⟨by rw [hf.block 1 (by omega) h1]; exact hG.1, by rw [hf.block 0 (by omega) h0]; exact hG.2⟩
abbrev hPr (s p : List UInt8) (b : Bool) : Hint := pc 59 #[stv s, stv p] (.v (.bool b))
set_option maxRecDepth 100000 in
theorem hasprefix_any (s p : List UInt8) (hs : s.length ≤ 1000000000) (hp : p.length ≤ 1000000000) (w : World) : Calls Tryd.prog 59 #[stv s, stv p] w (BoolQ w (preP s p)) := by
 refine At.calls (args := [.v (stv s), .v (stv p)]) (rows := []) (gl := []) (wr := []) (ρ := fun _ => (⟨0, 0, 0⟩ : Blk)) Tryd.func59 rfl rfl (init_rw ⟨rfl, rfl, trivial⟩ rfl rfl rfl (fun p hp => by cases hp) (fun p hp => by cases hp) (fun p hp => by cases hp)) rfl ?_
 by_cases h : p.length ≤ s.length
 ·obtain ⟨t, ht⟩ : ∃ t, t = s.take p.length := ⟨_, rfl⟩
  have hr : preP s p = (t == p) := by unfold preP; rw [decide_eq_true h, ← ht, Bool.true_and]
  rw [hr]
  exact At.fin rfl [(2002004, .val (.v (.bool true))), (2002009, .val (.v (stv t)))] ⟨trivial, trivial, trivial⟩ [] (x := .v (.bool (t == p))) (ob := [TV.v (.bool (decide ((s.length : Int) ≥ (p.length : Int)))) = TV.v (.bool true), TV.v (stv (List.take (p.length : Int).toNat s)) = TV.v (stv t), 0 ≤ (p.length : Int) ∧ (p.length : Int) ≤ (s.length : Int)]) (by kernel_rfl) ⟨tv_b (decide_eq_true (by omega)), tv_str (by rw [ht, Int.toNat_natCast]), ⟨by omega, by omega⟩, trivial⟩ fun ρ' w' hf _ => ⟨rfl, hf.below⟩
 ·have hr : preP s p = false := by unfold preP; rw [decide_eq_false h, Bool.false_and]
  rw [hr]
  exact At.fin rfl [(2002004, .val (.v (.bool false)))] ⟨trivial, trivial⟩ [] (x := .v (.bool false)) (ob := [TV.v (.bool (decide ((s.length : Int) ≥ (p.length : Int)))) = TV.v (.bool false)]) (by kernel_rfl) ⟨tv_b (decide_eq_false (by omega)), trivial⟩ fun ρ' w' hf _ => ⟨rfl, hf.below⟩
theorem hPr_ok (id : Nat) (s p : List UInt8) (b : Bool) (hs : s.length ≤ 1000000000) (hp : p.length ≤ 1000000000) (h : preP s p = b) : HintOk Tryd.prog id (hPr s p b) := pc_ok ent59 (v := .bool b) rfl (fun _ => rfl) fun w => by rw [← h]; exact hasprefix_any s p hs hp w
def cutR (s p : List UInt8) : List UInt8 := if preP s p then s.drop p.length else s
abbrev hC0 (f : Nat) (s p t : List UInt8) (b : Bool) : Hint := pc f #[stv s, stv p] (.tup [.lf (.v (stv t)), .lf (.v (.bool b))])
abbrev cutV (s p : List UInt8) : Value := .tuple #[stv (cutR s p), .bool (preP s p)]
theorem tup2_ok (a b : Value) (ha : a.oneCell' = true) (hb : b.oneCell' = true) : (TV.tup [.lf (.v a), .lf (.v b)]).ok := by
 intro x hx
 simp only [List.mem_cons, List.not_mem_nil, or_false] at hx
 rcases hx with rfl | rfl
 ·exact ha
 ·exact hb
theorem tup3_ok (a b c : Value) (ha : a.oneCell' = true) (hb : b.oneCell' = true) (hc : c.oneCell' = true) : (TV.tup [.lf (.v a), .lf (.v b), .lf (.v c)]).ok := by
 intro x hx
 simp only [List.mem_cons, List.not_mem_nil, or_false] at hx
 rcases hx with rfl | rfl | rfl
 ·exact ha
 ·exact hb
 ·exact hc
set_option maxRecDepth 100000 in
theorem cut0_any (s p : List UInt8) (hs : s.length ≤ 1000000000) (hp : p.length ≤ 1000000000) (w : World) : Calls Tryd.prog 39 #[stv s, stv p] w fun e w' => e = .returned (cutV s p) ∧ Below w.heap.size w w' := by
 refine At.calls (args := [.v (stv s), .v (stv p)]) (rows := []) (gl := []) (wr := []) (ρ := fun _ => (⟨0, 0, 0⟩ : Blk)) Tryd.func39 rfl rfl (init_rw ⟨rfl, rfl, trivial⟩ rfl rfl rfl (fun p hp => by cases hp) (fun p hp => by cases hp) (fun p hp => by cases hp)) rfl ?_
 cases h : preP s p with
 | true =>
  have hk := hPr_ok 2002 s p true hs hp h
  have hle : p.length ≤ s.length := by
   unfold preP at h
   rw [Bool.and_eq_true] at h
   exact of_decide_eq_true h.1
  obtain ⟨t, ht⟩ : ∃ t, t = s.drop p.length := ⟨_, rfl⟩
  have hr : cutV s p = .tuple #[stv t, .bool true] := by unfold cutV cutR; rw [h, if_pos rfl, ht]
  rw [hr]
  exact At.fin rfl [(2002, hPr s p true), (2004003, .val (.v (stv t)))] ⟨hk, trivial, trivial⟩ [.d] (x := .tup [.lf (.v (stv t)), .lf (.v (.bool true))]) (ob := [qL (hPr s p true), [TV.v (stv (List.drop (p.length : Int).toNat s)) = TV.v (stv t), 0 ≤ (p.length : Int) ∧ (p.length : Int) ≤ (s.length : Int)]].flatten) (by kernel_rfl) (all_flat ⟨all_qL _, ⟨tv_str (by rw [ht, Int.toNat_natCast]), ⟨by omega, by omega⟩, trivial⟩, trivial⟩) fun ρ' w' hf _ => ⟨rfl, hf.below⟩
 | false =>
  have hk := hPr_ok 2002 s p false hs hp h
  have hr : cutV s p = .tuple #[stv s, .bool false] := by unfold cutV cutR; rw [h]; rfl
  rw [hr]
  exact At.fin rfl [(2002, hPr s p false)] ⟨hk, trivial⟩ [.d] (x := .tup [.lf (.v (stv s)), .lf (.v (.bool false))]) (ob := qL (hPr s p false)) (by kernel_rfl) (all_qL _) fun ρ' w' hf _ => ⟨rfl, hf.below⟩
set_option maxRecDepth 100000 in
theorem cut_any (s p : List UInt8) (hs : s.length ≤ 1000000000) (hp : p.length ≤ 1000000000) (w : World) : Calls Tryd.prog 19 #[stv s, stv p] w fun e w' => e = .returned (cutV s p) ∧ Below w.heap.size w w' := by
 refine At.calls (args := [.v (stv s), .v (stv p)]) (rows := []) (gl := []) (wr := []) (ρ := fun _ => (⟨0, 0, 0⟩ : Blk)) Tryd.func19 rfl rfl (init_rw ⟨rfl, rfl, trivial⟩ rfl rfl rfl (fun p hp => by cases hp) (fun p hp => by cases hp) (fun p hp => by cases hp)) rfl ?_
 have hk : HintOk Tryd.prog 2002 (hC0 39 s p (cutR s p) (preP s p)) := pc_ok ent39 (v := cutV s p) (tup2_ok _ _ rfl rfl) (fun _ => rfl) fun w => cut0_any s p hs hp w
 unfold cutV
 generalize cutR s p = t at hk ⊢
 generalize preP s p = b at hk ⊢
 exact At.fin rfl [(2002, hC0 39 s p t b)] ⟨hk, trivial⟩ [] (x := .tup [.lf (.v (stv t)), .lf (.v (.bool b))]) (ob := qL (hC0 39 s p t b)) (by kernel_rfl) (all_qL _) fun ρ' w' hf _ => ⟨rfl, hf.below⟩
abbrev hCp (s p t : List UInt8) (b : Bool) : Hint := hC0 19 s p t b
theorem hCp1 {id : Nat} {s p : List UInt8} (hs : s.length ≤ 1000000000) (hp : p.length ≤ 1000000000) (h : preP s p = true) : HintOk Tryd.prog id (hCp s p (s.drop p.length) true) := pc_ok ent19 (v := .tuple #[stv (s.drop p.length), .bool true]) (tup2_ok _ _ rfl rfl) (fun _ => rfl) fun w => by
 have := cut_any s p hs hp w
 unfold cutV cutR at this
 rw [h, if_pos rfl] at this
 exact this
theorem hCp0 {id : Nat} {s p : List UInt8} (hs : s.length ≤ 1000000000) (hp : p.length ≤ 1000000000) (h : preP s p = false) : HintOk Tryd.prog id (hCp s p s false) := pc_ok ent19 (v := .tuple #[stv s, .bool false]) (tup2_ok _ _ rfl rfl) (fun _ => rfl) fun w => by
 have := cut_any s p hs hp w
 unfold cutV cutR at this
 rw [h] at this
 exact this
abbrev dirL : List UInt8 := [47, 110, 105, 120, 47, 115, 116, 111, 114, 101, 47]
def parseR (s : List UInt8) : Option (List UInt8 × List UInt8) :=
 if preP s dirL && (decide (32 ≤ (s.drop 11).length) && (preP ((s.drop 11).drop 32) [45] && (mayP ((s.drop 11).take 32) && nmP (((s.drop 11).drop 32).drop 1)))) then some ((s.drop 11).take 32, ((s.drop 11).drop 32).drop 1) else none
abbrev parseV : Option (List UInt8 × List UInt8) → TV
 | some (a, n) => .tup [.lf (.v (stv a)), .lf (.v (stv n)), .lf (.v (.bool true))]
 | none => .tup [.lf (.v (stv [])), .lf (.v (stv [])), .lf (.v (.bool false))]
abbrev parseW : Option (List UInt8 × List UInt8) → Value
 | some (a, n) => .tuple #[stv a, stv n, .bool true]
 | none => .tuple #[stv [], stv [], .bool false]
set_option maxRecDepth 100000 in
theorem parse_any (s : List UInt8) (hs : s.length ≤ 1000000) (w : World) : Calls Tryd.prog 9 #[stv s] w fun e w' => e = .returned (parseW (parseR s)) ∧ Below w.heap.size w w' := by
 refine At.calls (args := [.v (stv s)]) (rows := []) (gl := []) (wr := []) (ρ := fun _ => (⟨0, 0, 0⟩ : Blk)) Tryd.func9 rfl rfl (init_rw ⟨rfl, trivial⟩ rfl rfl rfl (fun p hp => by cases hp) (fun p hp => by cases hp) (fun p hp => by cases hp)) rfl ?_
 have hs9 : s.length ≤ 1000000000 := by omega
 cases h1 : preP s dirL with
 | false =>
  have hr : parseR s = none := by unfold parseR; rw [h1]; rfl
  rw [hr]
  exact At.fin rfl [(2001, hCp s dirL s false)] ⟨hCp0 hs9 (by decide) h1, trivial⟩ [.d] (x := parseV none) (ob := qL (hCp s dirL s false)) (by kernel_rfl) (all_qL _) fun ρ' w' hf _ => ⟨rfl, hf.below⟩
 | true =>
  have k1 := hCp1 (id := 2001) hs9 (show dirL.length ≤ 1000000000 by decide) h1
  obtain ⟨r, hr⟩ : ∃ r, r = s.drop 11 := ⟨_, rfl⟩
  rw [show s.drop dirL.length = r from hr.symm] at k1
  have hrl : r.length ≤ 1000000 := by rw [hr, List.length_drop]; omega
  by_cases h2 : 32 ≤ r.length
  case neg =>
   have hn : parseR s = none := by unfold parseR; rw [h1, ← hr, decide_eq_false h2]; rfl
   rw [hn]
   exact At.fin rfl [(2001, hCp s dirL r true), (2003005, .val (.v (.bool true)))] ⟨k1, trivial, trivial⟩ [.d] (x := parseV none) (ob := [qL (hCp s dirL r true), [TV.v (.bool (decide ((r.length : Int) < 32))) = TV.v (.bool true)]].flatten) (by kernel_rfl) (all_flat ⟨all_qL _, ⟨tv_b (decide_eq_true (by omega)), trivial⟩, trivial⟩) fun ρ' w' hf _ => ⟨rfl, hf.below⟩
  obtain ⟨a, ha⟩ : ∃ a, a = r.take 32 := ⟨_, rfl⟩
  obtain ⟨q, hq⟩ : ∃ q, q = r.drop 32 := ⟨_, rfl⟩
  have hav : TV.v (stv (List.take (Int.toNat 32) r)) = TV.v (stv a) := tv_str (by rw [ha]; rfl)
  have hqv : TV.v (stv (List.drop (Int.toNat 32) r)) = TV.v (stv q) := tv_str (by rw [hq]; rfl)
  have hal : a.length ≤ 1000000 := by rw [ha, List.length_take]; omega
  have hql : q.length ≤ 1000000 := by rw [hq, List.length_drop]; omega
  have h32 : TV.v (.bool (decide ((r.length : Int) < 32))) = TV.v (.bool false) := tv_b (decide_eq_false (by omega))
  have hlt : 0 ≤ (32 : Int) ∧ (32 : Int) ≤ (r.length : Int) := ⟨by decide, by omega⟩
  cases h3 : preP q [45] with
  | false =>
   have hn : parseR s = none := by unfold parseR; rw [h1, ← hr, ← hq, h3]; simp
   rw [hn]
   exact At.fin rfl [(2001, hCp s dirL r true), (2003005, .val (.v (.bool false))), (2005001, .val (.v (stv a))), (2006001, .val (.v (stv q))), (6002, hCp q [45] q false)] ⟨k1, trivial, trivial, trivial, hCp0 (by omega) (by decide) h3, trivial⟩ [.d, .d] (x := parseV none) (ob := [qL (hCp s dirL r true), [TV.v (.bool (decide ((r.length : Int) < 32))) = TV.v (.bool false), TV.v (stv (List.take (Int.toNat 32) r)) = TV.v (stv a), 0 ≤ (32 : Int) ∧ (32 : Int) ≤ (r.length : Int), TV.v (stv (List.drop (Int.toNat 32) r)) = TV.v (stv q), 0 ≤ (32 : Int) ∧ (32 : Int) ≤ (r.length : Int)], qL (hCp q [45] q false)].flatten) (by kernel_rfl) (all_flat ⟨all_qL _, ⟨h32, hav, hlt, hqv, hlt, trivial⟩, all_qL _, trivial⟩) fun ρ' w' hf _ => ⟨rfl, hf.below⟩
  | true =>
   have k2 := hCp1 (id := 6002) (show q.length ≤ 1000000000 by omega) (show ([45] : List UInt8).length ≤ 1000000000 by decide) h3
   obtain ⟨n, hn⟩ : ∃ n, n = q.drop 1 := ⟨_, rfl⟩
   rw [show q.drop ([45] : List UInt8).length = n from hn.symm] at k2
   have hnl : n.length ≤ 1000000 := by rw [hn, List.length_drop]; omega
   cases h4 : mayP a with
   | false =>
    have he : parseR s = none := by unfold parseR; rw [h1, ← hr, ← hq, ← ha, h3, h4]; simp
    rw [he]
    exact At.fin rfl [(2001, hCp s dirL r true), (2003005, .val (.v (.bool false))), (2005001, .val (.v (stv a))), (2006001, .val (.v (stv q))), (6002, hCp q [45] n true), (7004, hMy a false)] ⟨k1, trivial, trivial, trivial, k2, hMy_ok _ _ _ (by omega) h4, trivial⟩ [.d, .d] (x := parseV none) (ob := [qL (hCp s dirL r true), [TV.v (.bool (decide ((r.length : Int) < 32))) = TV.v (.bool false), TV.v (stv (List.take (Int.toNat 32) r)) = TV.v (stv a), 0 ≤ (32 : Int) ∧ (32 : Int) ≤ (r.length : Int), TV.v (stv (List.drop (Int.toNat 32) r)) = TV.v (stv q), 0 ≤ (32 : Int) ∧ (32 : Int) ≤ (r.length : Int)], qL (hCp q [45] n true), qL (hMy a false)].flatten) (by kernel_rfl) (all_flat ⟨all_qL _, ⟨h32, hav, hlt, hqv, hlt, trivial⟩, all_qL _, all_qL _, trivial⟩) fun ρ' w' hf _ => ⟨rfl, hf.below⟩
   | true =>
    cases h5 : nmP n with
    | false =>
     have he : parseR s = none := by unfold parseR; rw [h1, ← hr, ← hq, ← ha, h3, h4, ← hn, h5]; simp
     rw [he]
     exact At.fin rfl [(2001, hCp s dirL r true), (2003005, .val (.v (.bool false))), (2005001, .val (.v (stv a))), (2006001, .val (.v (stv q))), (6002, hCp q [45] n true), (7004, hMy a true), (7009, hMn n false)] ⟨k1, trivial, trivial, trivial, k2, hMy_ok _ _ _ (by omega) h4, hMn_ok _ _ _ (by omega) h5, trivial⟩ [.d, .d] (x := parseV none) (ob := [qL (hCp s dirL r true), [TV.v (.bool (decide ((r.length : Int) < 32))) = TV.v (.bool false), TV.v (stv (List.take (Int.toNat 32) r)) = TV.v (stv a), 0 ≤ (32 : Int) ∧ (32 : Int) ≤ (r.length : Int), TV.v (stv (List.drop (Int.toNat 32) r)) = TV.v (stv q), 0 ≤ (32 : Int) ∧ (32 : Int) ≤ (r.length : Int)], qL (hCp q [45] n true), qL (hMy a true), qL (hMn n false)].flatten) (by kernel_rfl) (all_flat ⟨all_qL _, ⟨h32, hav, hlt, hqv, hlt, trivial⟩, all_qL _, all_qL _, all_qL _, trivial⟩) fun ρ' w' hf _ => ⟨rfl, hf.below⟩
    | true =>
     have he : parseR s = some (a, n) := by unfold parseR; rw [h1, ← hr, ← hq, ← ha, h3, h4, ← hn, h5, decide_eq_true h2]; rfl
     rw [he]
     exact At.fin rfl [(2001, hCp s dirL r true), (2003005, .val (.v (.bool false))), (2005001, .val (.v (stv a))), (2006001, .val (.v (stv q))), (6002, hCp q [45] n true), (7004, hMy a true), (7009, hMn n true), (9001, hCl a), (9003, hCl n)] ⟨k1, trivial, trivial, trivial, k2, hMy_ok _ _ _ (by omega) h4, hMn_ok _ _ _ (by omega) h5, hCl_ok _ _ (by omega), hCl_ok _ _ (by omega), trivial⟩ [.d, .d] (x := parseV (some (a, n))) (ob := [qL (hCp s dirL r true), [TV.v (.bool (decide ((r.length : Int) < 32))) = TV.v (.bool false), TV.v (stv (List.take (Int.toNat 32) r)) = TV.v (stv a), 0 ≤ (32 : Int) ∧ (32 : Int) ≤ (r.length : Int), TV.v (stv (List.drop (Int.toNat 32) r)) = TV.v (stv q), 0 ≤ (32 : Int) ∧ (32 : Int) ≤ (r.length : Int)], qL (hCp q [45] n true), qL (hMy a true), qL (hMn n true), qL (hCl a), qL (hCl n)].flatten) (by kernel_rfl) (all_flat ⟨all_qL _, ⟨h32, hav, hlt, hqv, hlt, trivial⟩, all_qL _, all_qL _, all_qL _, all_qL _, all_qL _, trivial⟩) fun ρ' w' hf _ => ⟨rfl, hf.below⟩
abbrev hPa (s : List UInt8) (o : Option (List UInt8 × List UInt8)) : Hint := pc 9 #[stv s] (parseV o)
theorem hPa_ok (id : Nat) (s : List UInt8) (o : Option (List UInt8 × List UInt8)) (hs : s.length ≤ 1000000) (h : parseR s = o) : HintOk Tryd.prog id (hPa s o) := by
 subst h
 refine pc_ok ent9 (v := parseW (parseR s)) ?_ (fun _ => ?_) fun w => parse_any s hs w
 ·cases parseR s with
  | none => exact tup3_ok _ _ _ rfl rfl rfl
  | some x => exact tup3_ok _ _ _ rfl rfl rfl
 ·cases parseR s <;> rfl
end
end Go.Proofs.YtdbbcngolcnniaaDoor
/- Make; the statements' Seed and Path; awake. Its conditions: lengths that fit; the tables of sha as its text lays them. -/
namespace Go.Proofs.YtdbbcngolcnniaaDoor
open Go Go.RowKit
set_option linter.unusedVariables false
set_option linter.unusedSimpArgs false
section
open E
theorem ent17 : Enters Tryd.prog 17 := enters_of Tryd.func17 (by kernel_rfl) rfl
theorem ent18 : Enters Tryd.prog 18 := enters_of Tryd.func18 (by kernel_rfl) rfl
theorem ent8 : Enters Tryd.prog 8 := enters_of Tryd.func8 (by kernel_rfl) rfl
def kindT (k h n : List UInt8) : List UInt8 := k ++ [58, 115, 104, 97, 50, 53, 54, 58] ++ hex h ++ [58] ++ [47, 110, 105, 120, 47, 115, 116, 111, 114, 101] ++ [58] ++ n
def partM (k h n : List UInt8) : List UInt8 := b32 (foldI (S3.sha (kindT k h n)) 20)
theorem foldI_len (l : List UInt8) : (foldI l 20).length = 20 := by
 unfold foldI
 rw [if_pos (by decide)]
 unfold fold
 rw [List.length_map, List.length_range]; rfl
theorem partM_len (k h n : List UInt8) : (partM k h n).length = 32 := by
 unfold partM
 rw [b32_length, foldI_len]; rfl
theorem partM_may (k h n : List UInt8) : mayP (partM k h n) = true := by
 unfold mayP
 rw [Bool.and_eq_true, List.all_eq_true]
 exact ⟨decide_eq_true (partM_len k h n), fun c hc => enc_all _ _ c hc⟩
def makeL (k h n : List UInt8) : List UInt8 := dirL ++ partM k h n ++ [45] ++ n
def makeR (k h n : List UInt8) : Option (List UInt8) := if decide (h.length = 32) && nmP n then some (makeL k h n) else none
abbrev makeV : Option (List UInt8) → TV
 | some t => .tup [.lf (.v (stv t)), .lf (.v (.bool true))]
 | none => .tup [.lf (.v (stv [])), .lf (.v (.bool false))]
abbrev makeW : Option (List UInt8) → Value
 | some t => .tuple #[stv t, .bool true]
 | none => .tuple #[stv [], .bool false]
theorem sha_len (t : List UInt8) : (S3.sha t).length = 32 := by
 unfold S3.sha S3.tell
 simp [S3.be4]
theorem hSu_ok {w0 : World} {wr : Bs} (id : Nat) (t : List UInt8) (ht : t.length ≤ 900000) (hG : S3.Glob w0) (h0 : 0 ∉ wr.l) (h1 : 1 ∉ wr.l) : HintAt Tryd.prog w0 wr id (pcW 23 #[stv t] (.v (stv (S3.sha t)))) :=
 pcW_ok ent23 (v := stv (S3.sha t)) rfl (fun _ => rfl) fun w hf => (S3.sum_any ⟨t.toArray⟩ (by show t.toArray.size ≤ _; simpa using ht) w (glob_keep hG hf h0 h1)).mono fun e w' h => ⟨h.1, Fr.of_below h.2 _⟩
set_option maxRecDepth 100000 in
theorem make_any (k h n : List UInt8) (hk : k.length ≤ 800000) (hh : h.length ≤ 1000000000) (hn : n.length ≤ 1000000000) (w : World) (hG : S3.Glob w) : Calls Tryd.prog 11 #[stv k, stv h, stv n] w fun e w' => e = .returned (makeW (makeR k h n)) ∧ Fr w [] w' := by
 refine At.calls (args := [.v (stv k), .v (stv h), .v (stv n)]) (rows := []) (gl := []) (wr := []) (ρ := fun _ => (⟨0, 0, 0⟩ : Blk)) Tryd.func11 rfl rfl (init_rw ⟨rfl, rfl, rfl, trivial⟩ rfl rfl rfl (fun p hp => by cases hp) (fun p hp => by cases hp) (fun p hp => by cases hp)) rfl ?_
 by_cases h1 : h.length = 32
 case neg =>
  have hr : makeR k h n = none := by unfold makeR; rw [decide_eq_false h1]; rfl
  rw [hr]
  exact At.fin rfl [(2002002, .val (.v (.bool true)))] ⟨trivial, trivial⟩ [.d] (x := makeV none) (ob := [TV.v (.bool ((h.length : Int) != 32)) = TV.v (.bool true)]) (by kernel_rfl) ⟨tv_b (by simp only [bne_iff_ne, ne_eq]; omega), trivial⟩ fun ρ' w' hf _ => ⟨rfl, hf⟩
 have hb : TV.v (.bool ((h.length : Int) != 32)) = TV.v (.bool false) := tv_b (by rw [h1]; rfl)
 cases h2 : nmP n with
 | false =>
  have hr : makeR k h n = none := by unfold makeR; rw [h2]; simp
  rw [hr]
  exact At.fin rfl [(2002002, .val (.v (.bool false))), (2005, hMn n false)] ⟨trivial, hMn_ok _ _ _ hn h2, trivial⟩ [.d] (x := makeV none) (ob := [[TV.v (.bool ((h.length : Int) != 32)) = TV.v (.bool false)], qL (hMn n false)].flatten) (by kernel_rfl) (all_flat ⟨⟨hb, trivial⟩, all_qL _, trivial⟩) fun ρ' w' hf _ => ⟨rfl, hf⟩
 | true =>
  have hr : makeR k h n = some (makeL k h n) := by unfold makeR; rw [h2, decide_eq_true h1]; rfl
  have hnl : n.length ≤ 211 := by
   unfold nmP at h2
   simp only [Bool.and_eq_true, decide_eq_true_eq] at h2
   exact h2.1.1.2
  rw [hr]
  obtain ⟨x, hx⟩ : ∃ x, x = hex h := ⟨_, rfl⟩
  have hxl : x.length = 64 := by rw [hx, hex_length, h1]
  obtain ⟨t, ht⟩ : ∃ t, t = kindT k h n := ⟨_, rfl⟩
  have ht2 : k ++ [58, 115, 104, 97, 50, 53, 54, 58] ++ x ++ [58] ++ [47, 110, 105, 120, 47, 115, 116, 111, 114, 101] ++ [58] ++ n = t := by rw [ht, hx]; rfl
  have htl : t.length ≤ 900000 := by rw [← ht2]; simp only [List.length_append, List.length_cons, List.length_nil]; omega
  have kS := hSu_ok (wr := ⟨[], fun _ => (⟨0, 0, 0⟩ : Blk), []⟩) 4010 t htl hG (by simp) (by simp)
  obtain ⟨u, hu⟩ : ∃ u, u = S3.sha t := ⟨_, rfl⟩
  rw [← hu] at kS
  obtain ⟨v, hv⟩ : ∃ v, v = foldI u 20 := ⟨_, rfl⟩
  obtain ⟨b, hb2⟩ : ∃ b, b = partM k h n := ⟨_, rfl⟩
  have hvb : b32 v = b := by rw [hb2, hv, hu, ht]; rfl
  have hbl : b.length = 32 := by rw [hb2, partM_len]
  have hul : u.length ≤ 549755813888 := by rw [hu, sha_len]; decide
  have hvl : v.length = 20 := by rw [hv, foldI_len]
  have hml : makeL k h n = dirL ++ b ++ [45] ++ n := by rw [hb2]; rfl
  rw [hml]
  have kX : HintOk Tryd.prog 4003 (pc 24 #[stv h] (.v (stv x))) := pc_ok ent24 (v := stv x) rfl (fun _ => rfl) fun w => by rw [hx]; exact hex_any ⟨h.toArray⟩ w (by show h.toArray.size ≤ _; simp; omega)
  have kF : HintOk Tryd.prog 5001 (pc 26 #[stv u, .int .i64 20] (.v (stv v))) := pc_ok ent26 (v := stv v) rfl (fun _ => rfl) fun w => by rw [hv]; exact fold_any ⟨u.toArray⟩ 20 w (by show u.toArray.size ≤ _; simpa using hul)
  have kB : HintOk Tryd.prog 5002 (pc 25 #[stv v] (.v (stv b))) := pc_ok ent25 (v := stv b) rfl (fun _ => rfl) fun w => by rw [← hvb]; exact base32_any ⟨v.toArray⟩ w (by show v.toArray.size ≤ _; simp; omega)
  exact At.fin rfl [(2002002, .val (.v (.bool false))), (2005, hMn n true), (4003, pc 24 #[stv h] (.v (stv x))), (2004009, .val (.v (stv t))), (4010, pcW 23 #[stv t] (.v (stv u))), (5001, pc 26 #[stv u, .int .i64 20] (.v (stv v))), (5002, pc 25 #[stv v] (.v (stv b)))] ⟨trivial, hMn_ok _ _ _ hn h2, kX, trivial, kS, kF, kB, trivial⟩ [.d] (x := makeV (some (dirL ++ b ++ [45] ++ n)))
   (ob := [[TV.v (.bool ((h.length : Int) != 32)) = TV.v (.bool false)], qL (hMn n true), [(k.length : Int) + ((8 : Nat) : Int) ≤ 9223372036854775807], qL (pc 24 #[stv h] (.v (stv x))), [((k ++ [58, 115, 104, 97, 50, 53, 54, 58]).length : Int) + (x.length : Int) ≤ 9223372036854775807, ((k ++ [58, 115, 104, 97, 50, 53, 54, 58] ++ x).length : Int) + ((1 : Nat) : Int) ≤ 9223372036854775807, ((k ++ [58, 115, 104, 97, 50, 53, 54, 58] ++ x ++ [58]).length : Int) + ((10 : Nat) : Int) ≤ 9223372036854775807, ((k ++ [58, 115, 104, 97, 50, 53, 54, 58] ++ x ++ [58] ++ [47, 110, 105, 120, 47, 115, 116, 111, 114, 101]).length : Int) + ((1 : Nat) : Int) ≤ 9223372036854775807, TV.v (stv (k ++ [58, 115, 104, 97, 50, 53, 54, 58] ++ x ++ [58] ++ [47, 110, 105, 120, 47, 115, 116, 111, 114, 101] ++ [58] ++ n)) = TV.v (stv t), ((k ++ [58, 115, 104, 97, 50, 53, 54, 58] ++ x ++ [58] ++ [47, 110, 105, 120, 47, 115, 116, 111, 114, 101] ++ [58]).length : Int) + (n.length : Int) ≤ 9223372036854775807], qL (pcW 23 #[stv t] (.v (stv u))), qL (pc 26 #[stv u, .int .i64 20] (.v (stv v))), qL (pc 25 #[stv v] (.v (stv b))), [((11 : Nat) : Int) + (b.length : Int) ≤ 9223372036854775807, ((dirL ++ b).length : Int) + ((1 : Nat) : Int) ≤ 9223372036854775807, ((dirL ++ b ++ [45]).length : Int) + (n.length : Int) ≤ 9223372036854775807]].flatten) (by kernel_rfl)
   (all_flat ⟨⟨hb, trivial⟩, all_qL _, ⟨by omega, trivial⟩, all_qL _, ⟨by simp only [List.length_append, List.length_cons, List.length_nil]; omega, by simp only [List.length_append, List.length_cons, List.length_nil]; omega, by simp only [List.length_append, List.length_cons, List.length_nil]; omega, by simp only [List.length_append, List.length_cons, List.length_nil]; omega, tv_str ht2, by simp only [List.length_append, List.length_cons, List.length_nil]; omega, trivial⟩, all_qL _, all_qL _, all_qL _, ⟨by omega, by simp only [List.length_append, List.length_cons, List.length_nil]; omega, by simp only [List.length_append, List.length_cons, List.length_nil]; omega, trivial⟩, trivial⟩) fun ρ' w' hf _ => ⟨rfl, hf⟩
abbrev hMk (k h n : List UInt8) (o : Option (List UInt8)) : Hint := pcW 11 #[stv k, stv h, stv n] (makeV o)
theorem hMk_ok {w0 : World} {wr : Bs} (id : Nat) (k h n : List UInt8) (o : Option (List UInt8)) (hk : k.length ≤ 800000) (hh : h.length ≤ 1000000000) (hn : n.length ≤ 1000000000) (hG : S3.Glob w0) (h0 : 0 ∉ wr.l) (h1 : 1 ∉ wr.l) (he : makeR k h n = o) : HintAt Tryd.prog w0 wr id (hMk k h n o) := by
 subst he
 refine pcW_ok ent11 (v := makeW (makeR k h n)) ?_ (fun _ => ?_) fun w hf => make_any k h n hk hh hn w (glob_keep hG hf h0 h1)
 ·cases makeR k h n with
  | none => exact tup2_ok _ _ rfl rfl
  | some x => exact tup2_ok _ _ rfl rfl
 ·cases makeR k h n <;> rfl
theorem parse_of (a n : List UInt8) (ha : mayP a = true) (hn : nmP n = true) : parseR (dirL ++ a ++ [45] ++ n) = some (a, n) := by
 have hal := may_len ha
 have hd : (dirL ++ a ++ [45] ++ n).drop 11 = a ++ [45] ++ n := by rw [List.append_assoc, List.append_assoc, List.append_assoc]; rfl
 have h1 : preP (dirL ++ a ++ [45] ++ n) dirL = true := by
  unfold preP
  rw [Bool.and_eq_true]
  refine ⟨decide_eq_true (by simp only [List.length_append]; omega), ?_⟩
  rw [List.append_assoc, List.append_assoc, List.take_left]
  exact BEq.rfl
 have h32 : (a ++ [45] ++ n).take 32 = a := by rw [List.append_assoc, ← hal, List.take_left]
 have hd32 : (a ++ [45] ++ n).drop 32 = [45] ++ n := by rw [List.append_assoc, ← hal, List.drop_left]
 have h3 : preP ([45] ++ n) [45] = true := by
  unfold preP
  rw [Bool.and_eq_true]
  exact ⟨decide_eq_true (by simp), by rfl⟩
 unfold parseR
 rw [h1, hd, h32, hd32, h3, ha, show (([45] : List UInt8) ++ n).drop 1 = n from rfl, hn, decide_eq_true (by simp only [List.length_append]; omega)]
 rfl
theorem parse_make (k h n : List UInt8) (hn : nmP n = true) : parseR (makeL k h n) = some (partM k h n, n) := parse_of _ _ (partM_may k h n) hn
def seedL (s : List UInt8) : List UInt8 := (List.range 32).map fun q => s.getD q 0
theorem seedL_len (s : List UInt8) : (seedL s).length = 32 := by unfold seedL; rw [List.length_map, List.length_range]
abbrev sdF (s : List UInt8) (i : Nat) : Nat → List Value := fun q => [.int .u8 (((if q < i then s.getD q 0 else 0 : UInt8).toNat : Nat) : Int)]
abbrev sdR (s : List UInt8) (i : Nat) : Row := ⟨[.fnc (sdF s i) 1 32], true, some (5, 1)⟩
abbrev sdT (s : List UInt8) (i : Nat) : List (Nat × TV) := [(0, .v (stv s)), (3, .s (.lf (.sl 2000 0 0 1 32 none))), (4, .int .i64 (i : Int))]
theorem sd_end {s : List UInt8} {i : Nat} (h : 32 ≤ i ∨ s.length ≤ i) : (List.range 32).map (fun q => ubyte (sdF s i (addN 0 q))) = seedL s := by
 unfold seedL
 apply List.map_congr_left
 intro q hq
 have hq := List.mem_range.1 hq
 rw [addN_eq, Nat.zero_add]
 have : (if q < i then s.getD q 0 else 0 : UInt8) = s.getD q 0 := by
  by_cases hqi : q < i
  ·rw [if_pos hqi]
  ·rw [if_neg hqi, List.getD_eq_getElem?_getD, List.getElem?_eq_none (by omega)]; rfl
 show ubyte [.int .u8 (((if q < i then s.getD q 0 else 0 : UInt8).toNat : Nat) : Int)] = _
 rw [this]
 show UInt8.ofNat (((s.getD q 0).toNat : Nat) : Int).toNat = _
 rw [Int.toNat_natCast]
 simp
set_option maxRecDepth 100000 in
theorem seed_any (s : List UInt8) (hs : s.length ≤ 9223372036854775807) (w : World) : Calls Tryd.prog 17 #[stv s] w fun e w' => e = .returned (stv (seedL s)) ∧ Below w.heap.size w w' := by
 refine At.calls (args := [.v (stv s)]) (rows := []) (gl := []) (wr := []) (ρ := fun _ => (⟨0, 0, 0⟩ : Blk)) Tryd.func17 rfl rfl (init_rw ⟨rfl, trivial⟩ rfl rfl rfl (fun p hp => by cases hp) (fun p hp => by cases hp) (fun p hp => by cases hp)) rfl ?_
 have hloop : ∀ i : Nat, i ≤ 32 → At Tryd.prog w nB Tryd.f17.ntmps [] (lp Tryd.f17 0) (EndX Tryd.prog Tryd.f17 fun e w' => e = .returned (stv (seedL s)) ∧ Below w.heap.size w w') (sdT s i) [(2000, sdR s i)] := by
  refine At.loop (fun i : Nat => sdT s i) (fun i => [(2000, sdR s i)]) (fun i => i ≤ 32) (fun i => 32 - i) fun i hi ih => ?_
  have hsh : ∀ q, q < 32 → ∃ c : UInt8, sdF s i (addN 0 q) = [.int .u8 (c.toNat : Int)] := fun q _ => ⟨_, rfl⟩
  by_cases h1 : i < 32
  ·by_cases h2 : i < s.length
   ·obtain ⟨c, hc⟩ : ∃ c, c = (s.getD i 0).toNat := ⟨_, rfl⟩
    have hv : TV.int .u8 (((s.getD (i : Int).toNat 0).toNat : Nat) : Int) = TV.int .u8 (c : Int) := tv_int (by rw [hc, Int.toNat_natCast])
    refine At.run rfl [(2004001, .val (.v (.bool true))), (2004006, .val (.v (.bool true))), (2006004, .val (.int .u8 (c : Int)))] ⟨trivial, trivial, trivial, trivial⟩ [.d] (tm2 := sdT s (i + 1)) (rows2 := [(2000, ⟨[.fnc (updF (sdF s i) (addN 0 (i : Int).toNat) ((sdF s i (addN 0 (i : Int).toNat)).set 0 (.int .u8 (c : Int)))) 1 32], true, some (5, 1)⟩)]) (ob := [TV.v (.bool (decide ((i : Int) < 32))) = TV.v (.bool true), TV.v (.bool (decide ((i : Int) < (s.length : Int)))) = TV.v (.bool true), TV.int .u8 (((s.getD (i : Int).toNat 0).toNat : Nat) : Int) = TV.int .u8 (c : Int), 0 ≤ (i : Int) ∧ (i : Int) < (s.length : Int), 0 ≤ (i : Int) ∧ (i : Int) < ((32 : Nat) : Int), addN 0 (i : Int).toNat < 32, inI ((i : Int) + 1)]) (td := lp Tryd.f17 0) (by kernel_rfl) ⟨tv_b (decide_eq_true (by omega)), tv_b (decide_eq_true (by omega)), hv, ⟨by omega, by omega⟩, ⟨by omega, by omega⟩, by rw [addN_eq]; omega, ⟨by omega, by omega⟩, trivial⟩ rfl rfl (by intro h; cases h) ?_
    refine At.rows (rows2 := [(2000, sdR s (i + 1))]) (rowsEq_fnc (fun q hq => ?_) trivial) rfl (ih (i + 1) h1 (by show 32 - (i + 1) < 32 - i; omega))
    rw [addN_eq, Nat.zero_add, Int.toNat_natCast]
    unfold updF
    cases hb : Nat.beq q i with
    | true =>
     obtain rfl := Nat.eq_of_beq_eq_true hb
     show [Value.int .u8 (c : Int)] = [Value.int .u8 (((if q < q + 1 then s.getD q 0 else 0 : UInt8).toNat : Nat) : Int)]
     rw [if_pos (by omega), hc]
    | false =>
     have hne : q ≠ i := fun e => by rw [e, Nat.beq_refl] at hb; cases hb
     show [Value.int .u8 (((if q < i then s.getD q 0 else 0 : UInt8).toNat : Nat) : Int)] = [Value.int .u8 (((if q < i + 1 then s.getD q 0 else 0 : UInt8).toNat : Nat) : Int)]
     by_cases hqi : q < i
     ·rw [if_pos hqi, if_pos (by omega)]
     ·rw [if_neg hqi, if_neg (by omega)]
   ·have he := sd_end (s := s) (i := i) (.inr (by omega))
    rw [← he]
    exact At.fin rfl [(2004001, .val (.v (.bool true))), (2004006, .val (.v (.bool false)))] ⟨trivial, trivial, trivial⟩ [.d] (x := .v (stv ((List.range 32).map fun q => ubyte (sdF s i (addN 0 q))))) (ob := [TV.v (.bool (decide ((i : Int) < 32))) = TV.v (.bool true), TV.v (.bool (decide ((i : Int) < (s.length : Int)))) = TV.v (.bool false), 32 ≤ 32, ∀ q, q < 32 → ∃ c : UInt8, sdF s i (addN 0 q) = [.int .u8 (c.toNat : Int)]]) (by kernel_rfl) ⟨tv_b (decide_eq_true (by omega)), tv_b (decide_eq_false (by omega)), by decide, hsh, trivial⟩ fun ρ' w' hf _ => ⟨rfl, hf.below⟩
  ·have he := sd_end (s := s) (i := i) (.inl (by omega))
   rw [← he]
   exact At.fin rfl [(2004001, .val (.v (.bool false)))] ⟨trivial, trivial⟩ [.d] (x := .v (stv ((List.range 32).map fun q => ubyte (sdF s i (addN 0 q))))) (ob := [TV.v (.bool (decide ((i : Int) < 32))) = TV.v (.bool false), 32 ≤ 32, ∀ q, q < 32 → ∃ c : UInt8, sdF s i (addN 0 q) = [.int .u8 (c.toNat : Int)]]) (by kernel_rfl) ⟨tv_b (decide_eq_false (by omega)), by decide, hsh, trivial⟩ fun ρ' w' hf _ => ⟨rfl, hf.below⟩
 refine At.run rfl [] trivial [] (tm2 := sdT s 0) (rows2 := [(2000, ⟨[.fnc (fun _ => (Value.int .u8 0).cells.toList) 1 32], true, some (5, 1)⟩)]) (ob := [0 ≤ (32 : Int) ∧ (32 : Int) ≤ 32, ((Tryd.prog.types[5].bytes : Nat) : Int) * 32 ≤ 140737488355328 ∧ (32 : Int) ≤ 9223372036854775807]) (td := lp Tryd.f17 0) (by kernel_rfl) ⟨⟨by decide, by decide⟩, ⟨by decide +kernel, by decide⟩, trivial⟩ rfl rfl (by intro h; cases h) ?_
 exact At.rows (rows2 := [(2000, sdR s 0)]) (rowsEq_fnc (fun q hq => by show [Value.int .u8 0] = [Value.int .u8 (((if q < 0 then s.getD q 0 else 0 : UInt8).toNat : Nat) : Int)]; rw [if_neg (by omega)]; rfl) trivial) rfl (hloop 0 (by decide))
abbrev hSe (s : List UInt8) : Hint := pc 17 #[stv s] (.v (stv (seedL s)))
theorem hSe_ok (id : Nat) (s : List UInt8) (hs : s.length ≤ 9223372036854775807) : HintOk Tryd.prog id (hSe s) := pc_ok ent17 (v := stv (seedL s)) rfl (fun _ => rfl) fun w => seed_any s hs w
def nm5 : Nat → List UInt8
 | 0 => [97]
 | 1 => [98]
 | 2 => [108, 105, 98, 45, 49, 46, 48]
 | 3 => [120, 95, 121]
 | _ => [113, 63, 61, 43]
def pathL (a m : Nat) : List UInt8 := dirL ++ partL a ++ [45] ++ nm5 (m % 5)
theorem nm5_nm (k : Nat) (hk : k < 5) : nmP (nm5 k) = true := by
 match k, hk with
 | 0, _ => decide +kernel
 | 1, _ => decide +kernel
 | 2, _ => decide +kernel
 | 3, _ => decide +kernel
 | 4, _ => decide +kernel
theorem path_parse (a m : Nat) : parseR (pathL a m) = some (partL a, nm5 (m % 5)) := parse_of _ _ (part_may a) (nm5_nm _ (Nat.mod_lt _ (by decide)))
theorem path_len (a m : Nat) : (pathL a m).length ≤ 60 := by
 unfold pathL
 have : (nm5 (m % 5)).length ≤ 7 := by
  unfold nm5
  split <;> decide
 simp only [List.length_append, partL_len, List.length_cons, List.length_nil]
 omega
abbrev hPt1 (a : Nat) (p : List UInt8) : Hint := pc 38 #[.int .u8 (a : Int)] (.v (stv p))
set_option maxRecDepth 100000 in
theorem path_any (a m : Nat) (ha : a < 256) (hm : m < 256) (w : World) : Calls Tryd.prog 18 #[.int .u8 (a : Int), .int .u8 (m : Int)] w fun e w' => e = .returned (stv (pathL a m)) ∧ Below w.heap.size w w' := by
 refine At.calls (args := [.int .u8 (a : Int), .int .u8 (m : Int)]) (rows := []) (gl := []) (wr := []) (ρ := fun _ => (⟨0, 0, 0⟩ : Blk)) Tryd.func18 rfl rfl (init_rw ⟨rfl, rfl, trivial⟩ rfl rfl rfl (fun p hp => by cases hp) (fun p hp => by cases hp) (fun p hp => by cases hp)) rfl ?_
 have hk : HintOk Tryd.prog 2001 (hPt1 a (partL a)) := hPt_ok 2001 a ha
 have hpl := partL_len a
 unfold pathL
 generalize partL a = p at hk hpl ⊢
 by_cases e0 : m % 5 = 0
 ·rw [e0]
  exact At.fin rfl [(2001, hPt1 a p), (2002006, .val (.int .u8 0))] ⟨hk, trivial, trivial⟩ [] (x := .v (stv (dirL ++ p ++ [45] ++ [97]))) (ob := [qL (hPt1 a p), [(11 : Int) + (p.length : Int) ≤ 9223372036854775807, ((dirL ++ p).length : Int) + ((1 : Nat) : Int) ≤ 9223372036854775807, TV.int .u8 ((m : Int) % 5) = TV.int .u8 0, 0 ≤ (m : Int) ∧ (0 : Int) < 5, 0 ≤ (0 : Int) ∧ (0 : Int) < ((5 : Nat) : Int), 0 < 5, ((dirL ++ p ++ [45]).length : Int) + ((1 : Nat) : Int) ≤ 9223372036854775807]].flatten) (by kernel_rfl) (all_flat ⟨all_qL _, ⟨by omega, by rw [List.length_append]; show ((11 + p.length : Nat) : Int) + _ ≤ _; omega, tv_int (by omega), ⟨by omega, by decide⟩, ⟨by decide, by decide⟩, by decide, by rw [List.length_append, List.length_append]; show ((11 + p.length + 1 : Nat) : Int) + _ ≤ _; omega, trivial⟩, trivial⟩) fun ρ' w' hf _ => ⟨rfl, hf.below⟩
 by_cases e1 : m % 5 = 1
 ·rw [e1]
  exact At.fin rfl [(2001, hPt1 a p), (2002006, .val (.int .u8 1))] ⟨hk, trivial, trivial⟩ [] (x := .v (stv (dirL ++ p ++ [45] ++ [98]))) (ob := [qL (hPt1 a p), [(11 : Int) + (p.length : Int) ≤ 9223372036854775807, ((dirL ++ p).length : Int) + ((1 : Nat) : Int) ≤ 9223372036854775807, TV.int .u8 ((m : Int) % 5) = TV.int .u8 1, 0 ≤ (m : Int) ∧ (0 : Int) < 5, 0 ≤ (1 : Int) ∧ (1 : Int) < ((5 : Nat) : Int), 1 < 5, ((dirL ++ p ++ [45]).length : Int) + ((1 : Nat) : Int) ≤ 9223372036854775807]].flatten) (by kernel_rfl) (all_flat ⟨all_qL _, ⟨by omega, by rw [List.length_append]; show ((11 + p.length : Nat) : Int) + _ ≤ _; omega, tv_int (by omega), ⟨by omega, by decide⟩, ⟨by decide, by decide⟩, by decide, by rw [List.length_append, List.length_append]; show ((11 + p.length + 1 : Nat) : Int) + _ ≤ _; omega, trivial⟩, trivial⟩) fun ρ' w' hf _ => ⟨rfl, hf.below⟩
 by_cases e2 : m % 5 = 2
 ·rw [e2]
  exact At.fin rfl [(2001, hPt1 a p), (2002006, .val (.int .u8 2))] ⟨hk, trivial, trivial⟩ [] (x := .v (stv (dirL ++ p ++ [45] ++ [108, 105, 98, 45, 49, 46, 48]))) (ob := [qL (hPt1 a p), [(11 : Int) + (p.length : Int) ≤ 9223372036854775807, ((dirL ++ p).length : Int) + ((1 : Nat) : Int) ≤ 9223372036854775807, TV.int .u8 ((m : Int) % 5) = TV.int .u8 2, 0 ≤ (m : Int) ∧ (0 : Int) < 5, 0 ≤ (2 : Int) ∧ (2 : Int) < ((5 : Nat) : Int), 2 < 5, ((dirL ++ p ++ [45]).length : Int) + ((7 : Nat) : Int) ≤ 9223372036854775807]].flatten) (by kernel_rfl) (all_flat ⟨all_qL _, ⟨by omega, by rw [List.length_append]; show ((11 + p.length : Nat) : Int) + _ ≤ _; omega, tv_int (by omega), ⟨by omega, by decide⟩, ⟨by decide, by decide⟩, by decide, by rw [List.length_append, List.length_append]; show ((11 + p.length + 1 : Nat) : Int) + _ ≤ _; omega, trivial⟩, trivial⟩) fun ρ' w' hf _ => ⟨rfl, hf.below⟩
 by_cases e3 : m % 5 = 3
 ·rw [e3]
  exact At.fin rfl [(2001, hPt1 a p), (2002006, .val (.int .u8 3))] ⟨hk, trivial, trivial⟩ [] (x := .v (stv (dirL ++ p ++ [45] ++ [120, 95, 121]))) (ob := [qL (hPt1 a p), [(11 : Int) + (p.length : Int) ≤ 9223372036854775807, ((dirL ++ p).length : Int) + ((1 : Nat) : Int) ≤ 9223372036854775807, TV.int .u8 ((m : Int) % 5) = TV.int .u8 3, 0 ≤ (m : Int) ∧ (0 : Int) < 5, 0 ≤ (3 : Int) ∧ (3 : Int) < ((5 : Nat) : Int), 3 < 5, ((dirL ++ p ++ [45]).length : Int) + ((3 : Nat) : Int) ≤ 9223372036854775807]].flatten) (by kernel_rfl) (all_flat ⟨all_qL _, ⟨by omega, by rw [List.length_append]; show ((11 + p.length : Nat) : Int) + _ ≤ _; omega, tv_int (by omega), ⟨by omega, by decide⟩, ⟨by decide, by decide⟩, by decide, by rw [List.length_append, List.length_append]; show ((11 + p.length + 1 : Nat) : Int) + _ ≤ _; omega, trivial⟩, trivial⟩) fun ρ' w' hf _ => ⟨rfl, hf.below⟩
 have e4 : m % 5 = 4 := by omega
 rw [e4]
 exact At.fin rfl [(2001, hPt1 a p), (2002006, .val (.int .u8 4))] ⟨hk, trivial, trivial⟩ [] (x := .v (stv (dirL ++ p ++ [45] ++ [113, 63, 61, 43]))) (ob := [qL (hPt1 a p), [(11 : Int) + (p.length : Int) ≤ 9223372036854775807, ((dirL ++ p).length : Int) + ((1 : Nat) : Int) ≤ 9223372036854775807, TV.int .u8 ((m : Int) % 5) = TV.int .u8 4, 0 ≤ (m : Int) ∧ (0 : Int) < 5, 0 ≤ (4 : Int) ∧ (4 : Int) < ((5 : Nat) : Int), 4 < 5, ((dirL ++ p ++ [45]).length : Int) + ((4 : Nat) : Int) ≤ 9223372036854775807]].flatten) (by kernel_rfl) (all_flat ⟨all_qL _, ⟨by omega, by rw [List.length_append]; show ((11 + p.length : Nat) : Int) + _ ≤ _; omega, tv_int (by omega), ⟨by omega, by decide⟩, ⟨by decide, by decide⟩, by decide, by rw [List.length_append, List.length_append]; show ((11 + p.length + 1 : Nat) : Int) + _ ≤ _; omega, trivial⟩, trivial⟩) fun ρ' w' hf _ => ⟨rfl, hf.below⟩
abbrev hPh (a m : Nat) : Hint := pc 18 #[.int .u8 (a : Int), .int .u8 (m : Int)] (.v (stv (pathL a m)))
theorem hPh_ok (id a m : Nat) (ha : a < 256) (hm : m < 256) : HintOk Tryd.prog id (hPh a m) := pc_ok ent18 (v := stv (pathL a m)) rfl (fun _ => rfl) fun w => path_any a m ha hm w
abbrev textL : List UInt8 := [116, 101, 120, 116]
abbrev helloL : List UInt8 := [104, 101, 108, 108, 111]
set_option maxRecDepth 100000 in
theorem awake_any (w : World) (hG : S3.Glob w) : Calls Tryd.prog 8 #[] w fun e w' => e = .returned (.bool true) ∧ Fr w [] w' := by
 refine At.calls (args := []) (rows := []) (gl := []) (wr := []) (ρ := fun _ => (⟨0, 0, 0⟩ : Blk)) Tryd.func8 rfl rfl (init_rw trivial rfl rfl rfl (fun p hp => by cases hp) (fun p hp => by cases hp) (fun p hp => by cases hp)) rfl ?_
 have k1 := hPa_ok 2000 [47, 110, 105, 120, 47, 115, 116, 111, 114, 101] none (by decide) (by decide +kernel)
 have k2 : HintOk Tryd.prog 3000 (pc 17 #[stv [104]] (.v (stv (seedL [104])))) := hSe_ok 3000 [104] (by decide)
 have hl := seedL_len [104]
 generalize seedL [104] = h at k2 hl
 have hn : nmP helloL = true := by decide +kernel
 have hm : makeR textL h helloL = some (makeL textL h helloL) := by unfold makeR; rw [hl, hn]; rfl
 have k3 := hMk_ok (wr := ⟨[], fun _ => (⟨0, 0, 0⟩ : Blk), []⟩) 3001 textL h helloL _ (by decide) (by omega) (by decide) hG (by simp) (by simp) hm
 have hpl : (makeL textL h helloL).length = 49 := by unfold makeL; simp only [List.length_append, partM_len, List.length_cons, List.length_nil]
 have k4 := hPa_ok 4001 (makeL textL h helloL) _ (by omega) (parse_make textL h helloL hn)
 generalize partM textL h helloL = a at k4
 generalize makeL textL h helloL = p at k3 k4 hpl
 exact At.fin rfl [(2000, hPa [47, 110, 105, 120, 47, 115, 116, 111, 114, 101] none), (3000, pc 17 #[stv [104]] (.v (stv h))), (3001, hMk textL h helloL (some p)), (4001, hPa p (some (a, helloL))), (2005015, .val (.v (.bool true)))] ⟨k1, k2, k3, k4, trivial, trivial⟩ [] (x := .v (.bool true)) (ob := [qL (hPa [47, 110, 105, 120, 47, 115, 116, 111, 114, 101] none), qL (pc 17 #[stv [104]] (.v (stv h))), qL (hMk textL h helloL (some p)), qL (hPa p (some (a, helloL))), [TV.v (.bool ((p.length : Int) == 49)) = TV.v (.bool true)]].flatten) (by kernel_rfl) (all_flat ⟨all_qL _, all_qL _, all_qL _, all_qL _, ⟨tv_b (by rw [hpl]; rfl), trivial⟩, trivial⟩) fun ρ' w' hf _ => ⟨rfl, hf⟩
abbrev hAw : Hint := pcW 8 #[] (.v (.bool true))
theorem hAw_ok {w0 : World} {wr : Bs} (id : Nat) (hG : S3.Glob w0) (h0 : 0 ∉ wr.l) (h1 : 1 ∉ wr.l) : HintAt Tryd.prog w0 wr id hAw := pcW_ok ent8 (v := .bool true) rfl (fun _ => rfl) fun w hf => awake_any w (glob_keep hG hf h0 h1)
end
end Go.Proofs.YtdbbcngolcnniaaDoor
/- PathNames' law: names have letters, digits and few signs, no point ahead, a length that may be. Its conditions: lengths that fit; the tables of sha as its text lays them. -/
namespace Go.Proofs.YtdbbcngolcnniaaDoor
open Go Go.RowKit
set_option linter.unusedVariables false
set_option linter.unusedSimpArgs false
section
open E
abbrev FrG (w : World) (e : Ending) (w' : World) : Prop := e = .returned (.bool true) ∧ Fr w [] w'
end
end Go.Proofs.YtdbbcngolcnniaaDoor
/- PathForms' law: paths out of form have no parse. Its conditions: lengths that fit; the tables of sha as its text lays them. -/
namespace Go.Proofs.YtdbbcngolcnniaaDoor
open Go Go.RowKit
set_option linter.unusedVariables false
set_option linter.unusedSimpArgs false
section
open E
section
variable {P N : List UInt8}
end
abbrev strF (ps : List (List UInt8)) : Nat → List Value := fun q => [stv (ps.getD q [])]
end
end Go.Proofs.YtdbbcngolcnniaaDoor
/- Of the program: a builder that is written to, one text or many. Its conditions: lengths that fit. -/
namespace Go.Proofs.YtdbbcngolcnniaaDoor
open Go.RowKit Go.Shelf
set_option linter.unusedVariables false
set_option linter.unusedSimpArgs false
theorem sizeB : (Tryd.prog.info? 50).map (·.size) = some 2 := by kernel_rfl
theorem liesB : liesAt Tryd.prog Tryd.prog.depth 50 (2 / Tryd.prog.cellsOf 50) 0 50 1 = true := by kernel_rfl
theorem infoB5 : (Tryd.prog.info? 5).map (fun i => (i.zero, i.size, i.bytes)) = some (some (.int .u8 0), 1, 1) := by kernel_rfl
set_option maxRecDepth 100000 in
theorem check_used (b : Nat) (w : World) (h0 : w.cell? ⟨b, 0, none⟩ = some (.pointer (some ⟨b, 0, none⟩))) :
  Calls Tryd.prog 58 #[.pointer (some ⟨b, 0, none⟩)] w fun e w' => e = .returned (.tuple #[]) ∧ w' = w := by
 obtain ⟨j, hj, _⟩ := Option.map_eq_some_iff.1 sizeB
 have t48 := Tryd.underlying48
 go_enter Tryd.func58, Tryd.ntmps58
 go_wp2
 rw [Lib.run_neq_ptr_same w _ t48 hj]
 go_wp2
 go_end0
 exact ⟨rfl, rfl⟩
set_option maxRecDepth 100000 in
theorem check_fresh (b : Nat) (w : World) (h0 : w.cell? ⟨b, 0, none⟩ = some (.pointer none)) (hsh : w.shape? b = some (50, 2)) (hfz : w.frozen? ⟨b, 0, none⟩ = false) :
  Calls Tryd.prog 58 #[.pointer (some ⟨b, 0, none⟩)] w fun e w' => e = .returned (.tuple #[]) ∧ w' = w.setCell ⟨b, 0, none⟩ (.pointer (some ⟨b, 0, none⟩)) := by
 obtain ⟨j, hj, hjs⟩ := Option.map_eq_some_iff.1 sizeB
 have t48 := Tryd.underlying48
 have t99 := Tryd.underlying99
 go_enter Tryd.func58, Tryd.ntmps58
 go_wp2
 rw [Lib.run_to_unsafe w ⟨b, 0, none⟩ t48 t99 hj (by rw [hjs]; decide) hsh (Nat.zero_lt_succ 1)]
 simp only [Result.andThen]
 rw [Oper.upon_value]
 go_wp2
 rw [run_callFunc_extern Tryd.func77 (by kernel_rfl) (by kernel_rfl) (by kernel_rfl) (e := Extern.AbiNoEscape.same) (by kernel_rfl)]
 rw [Lib.run_noEscape]
 simp only [Result.andThen]
 rw [Oper.upon_value]
 go_wp2
 rw [Lib.run_from_unsafe w ⟨b, 0, none⟩ t99 t48 hj hsh liesB]
 simp only [Result.andThen]
 rw [Oper.upon_value]
 go_wp2
 go_end0
 exact ⟨rfl, rfl⟩
def Bl (B b : Nat) (l : List UInt8) (w : World) : Prop := Lib.IsBuilderF 50 5 B b (Lib.byteCells l) w
def Kp (B b : Nat) (w w' : World) : Prop := Below B w w' ∧ Lib.OthersKept 5 (some b) w w'
theorem Kp.refl (B b : Nat) (w : World) : Kp B b w w := ⟨Below.refl _ _, Lib.OthersKept.refl _ _ _⟩
theorem Kp.trans {B b : Nat} {w w2 w3 : World} (h : Kp B b w w2) (k : Kp B b w2 w3) : Kp B b w w3 := ⟨h.1.trans k.1, h.2.trans k.2⟩
theorem check_any (B b : Nat) (bs : List Value) (w : World) (h : Lib.IsBuilderF 50 5 B b bs w) :
  Calls Tryd.prog 58 #[.pointer (some ⟨b, 0, none⟩)] w fun e w' => e = .returned (.tuple #[]) ∧ Lib.BuilderAtF 50 5 B b (.pointer (some ⟨b, 0, none⟩)) bs w' ∧ Kp B b w w' := by
 rcases h with h | h
 ·refine (check_fresh b w h.cell0 h.shape h.frozen0).mono ?_
  rintro e w' ⟨rfl, rfl⟩
  exact ⟨rfl, h.used _, (Below.refl B w).setCell (p := ⟨b, 0, none⟩) h.1 _, (Lib.OthersKept.refl _ _ w).setCell ⟨b, 0, none⟩ rfl _⟩
 ·refine (check_used b w h.cell0).mono ?_
  rintro e w' ⟨rfl, rfl⟩
  exact ⟨rfl, h, Kp.refl _ _ _⟩
theorem cells_app (l s : List UInt8) : Lib.byteCells (l ++ s) = Lib.byteCells l ++ Lib.byteCells s := by simp [Lib.byteCells]
theorem cells_str (s : List UInt8) : Lib.strCells ⟨s.toArray⟩ = Lib.byteCells s := by
 simp [Lib.strCells, Lib.byteCells]
set_option maxHeartbeats 2000000 in
set_option maxRecDepth 100000 in
theorem wstr_any (B b : Nat) (l s : List UInt8) (w : World) (h : Bl B b l w) (hlen : l.length + s.length ≤ 140737488355328) (hBw : B ≤ w.heap.size) :
  Calls Tryd.prog 32 #[.pointer (some ⟨b, 0, none⟩), stv s] w fun e w' => e = .returned (.tuple #[.int .i64 (s.length : Int), .nilIface]) ∧ Bl B b (l ++ s) w' ∧ Kp B b w w' := by
 obtain ⟨i0, hi, hz0, hz1, hz2⟩ := info_parts infoB5
 have t48 := Tryd.underlying48
 have t41 := Tryd.underlying41
 have t9 := Tryd.underlying9
 have en : ∀ args w, (callFunc 58 args).run Tryd.prog w = .ok (.enter 58 args) w := enters_of Tryd.func58 (by kernel_rfl) rfl
 have H := Lib.hid (check_any B b _ w h)
 obtain ⟨S, hS⟩ : ∃ x : ByteArray, x = ⟨s.toArray⟩ := ⟨_, rfl⟩
 have hsz : S.size = s.length := by rw [hS]; rfl
 have hcs : Lib.strCells S = Lib.byteCells s := by rw [hS]; exact cells_str s
 rw [show stv s = .string S by rw [hS], ← hsz]
 clear hS
 go_enter Tryd.func32, Tryd.ntmps32
 go_wp2_with (go_at_fn 58; refine H.out.mono ?_)
 rintro e w1 ⟨rfl, h1, hk⟩
 obtain ⟨hb1, hk1⟩ := hk
 obtain ⟨hB, v, hbk, hown, hne⟩ := h1
 have c0 : w1.cell? ⟨b, 0, none⟩ = some (.pointer (some ⟨b, 0, none⟩)) := by rw [Lib.cell_of_heap hbk]; rfl
 have c1 : w1.cell? ⟨b, 1, none⟩ = some v := by rw [Lib.cell_of_heap hbk]; rfl
 have hcl : (Lib.byteCells l).length = l.length := Lib.byteCells_length l
 go_wp2_with (at_builtin; refine Lib.wpList_append_own_stringF _ rfl _ _ 41 9 rfl B 5 i0 t41 t9 hi hz0 hz1 hz2 _ _ _ rfl hown S rfl ?c3 ?c4 ?c5 ?_)
 case c3 => unfold maxLen; omega
 case c4 => omega
 case c5 => have := hb1.size; omega
 intro v' w2 hown' hgrow _
 have hlt : b < w1.heap.size := by
  rcases Nat.lt_or_ge b w1.heap.size with h' | h'
  ·exact h'
  ·simp [Array.getElem?_eq_none h'] at hbk
 have hb2 : w2.heap[b]? = some (.cells #[.pointer (some ⟨b, 0, none⟩), v] 50 (0, 0)) := by
  rw [hgrow.block b hlt (fun e => hne e.symm)]
  exact hbk
 have d0 : w2.cell? ⟨b, 0, none⟩ = some (.pointer (some ⟨b, 0, none⟩)) := by rw [Lib.cell_of_heap hb2]; rfl
 have d1 : w2.cell? ⟨b, 1, none⟩ = some v := by rw [Lib.cell_of_heap hb2]; rfl
 have f1 : w2.frozen? ⟨b, 1, none⟩ = false := Lib.frozen_of_heap hb2 1
 obtain ⟨ao, n', cap, rfl⟩ : ∃ ao n' cap, v' = .slice ao n' cap := by
  rcases hown'.2 with ⟨hv, _⟩ | ⟨g, cap, cur, fz, hv, _⟩
  ·exact ⟨_, _, _, hv⟩
  ·exact ⟨_, _, _, hv⟩
 go_wp2
 go_ret2
 refine ⟨by rw [hsz]; rfl, .inr ?_, ?_, (hk1.grown hgrow (Lib.ownsRowF_kind hown)).setCell ⟨b, 1, none⟩ rfl _⟩
 ·refine Lib.BuilderAtF.put (T := 50) (e := 5) hB hb2 (bs' := Lib.byteCells (l ++ s)) ?_ (by decide)
  rw [cells_app, List.length_append, Lib.byteCells_length, Lib.byteCells_length]
  exact hown'
 ·exact (hb1.grown hgrow (by have := hb1.size; omega) (fun k hk => (hown.lt k hk).1)).setCell (p := ⟨b, 1, none⟩) hB _
theorem Bl.block {B b : Nat} {l : List UInt8} {w : World} (h : Bl B b l w) : ∃ c, w.heap[b]? = some (.cells c 50 (0, 0)) := by
 rcases h with h | h <;> (obtain ⟨_, v, h1, _⟩ := h; exact ⟨_, h1⟩)
theorem Kp.row {B b : Nat} {w w' : World} (h : Kp B b w w') {k : Nat} {c : Array Value} {t : TypeId} (hk : w.heap[k]? = some (.cells c t (0, 0))) (ht : t ≠ 5) (hb : k ≠ b) : w'.heap[k]? = some (.cells c t (0, 0)) :=
 h.2 k _ hk (fun e => hb (Option.some.inj e)) (fun c2 fz e => ht (by cases e; rfl))
theorem Bl.below {B b : Nat} {l : List UInt8} {w w' : World} (h : Bl B b l w) (hb : Below w.heap.size w w') : Bl B b l w' := by
 rcases h with h | h
 ·refine .inl ?_
  obtain ⟨h1, v, h2, h3, h4⟩ := h
  have hlt := (Array.getElem?_eq_some_iff.1 h2).1
  refine ⟨h1, v, (hb.block b hlt).trans h2, ⟨h3.1, ?_⟩, h4⟩
  rcases h3.2 with h | ⟨g, cap, cur, fz, e1, e2, e3, e4⟩
  ·exact .inl h
  ·exact .inr ⟨g, cap, cur, fz, e1, e2, (hb.block g (Array.getElem?_eq_some_iff.1 e3).1).trans e3, e4⟩
 ·refine .inr ?_
  obtain ⟨h1, v, h2, h3, h4⟩ := h
  have hlt := (Array.getElem?_eq_some_iff.1 h2).1
  refine ⟨h1, v, (hb.block b hlt).trans h2, ⟨h3.1, ?_⟩, h4⟩
  rcases h3.2 with h | ⟨g, cap, cur, fz, e1, e2, e3, e4⟩
  ·exact .inl h
  ·exact .inr ⟨g, cap, cur, fz, e1, e2, (hb.block g (Array.getElem?_eq_some_iff.1 e3).1).trans e3, e4⟩
theorem Kp.of_below {B b : Nat} {w w' : World} (h : Below w.heap.size w w') (hB : B ≤ w.heap.size) : Kp B b w w' :=
 ⟨h.mono hB, fun k o hk _ _ => (h.block k (Array.getElem?_eq_some_iff.1 hk).1).trans hk⟩
theorem ent32 : E.Enters Tryd.prog 32 := enters_of Tryd.func32 (by kernel_rfl) rfl
end Go.Proofs.YtdbbcngolcnniaaDoor
/- Do paths rise? Its condition: lengths that fit. -/
namespace Go.Proofs.YtdbbcngolcnniaaDoor
open Go Go.RowKit
set_option linter.unusedVariables false
set_option linter.unusedSimpArgs false
section
open E
theorem ent31 : Enters Tryd.prog 31 := enters_of Tryd.func31 (by kernel_rfl) rfl
abbrev strR (ps : List (List UInt8)) : Row := ⟨[.fnc (strF ps) 1 ps.length], false, none⟩
theorem strR_ok (ps : List (List UInt8)) : pok (strR ps).ps := pok1 fun i => ⟨rfl, fun v hv => by obtain rfl := List.mem_singleton.1 hv; rfl⟩
def leS (x y : List UInt8) : Bool := Op.bytesLess (lb ⟨x.toArray⟩) (lb ⟨y.toArray⟩) || lb ⟨x.toArray⟩ == lb ⟨y.toArray⟩
def okAt (ps : List (List UInt8)) (k : Nat) : Bool := (parseR (ps.getD k [])).isSome && (decide (k = 0) || !leS (ps.getD k []) (ps.getD (k - 1) []))
def riseL (ps : List (List UInt8)) : Bool := (List.range ps.length).all (okAt ps)
theorem rise_no {ps : List (List UInt8)} {i : Nat} (h : i < ps.length) (hk : okAt ps i = false) : riseL ps = false := by
 unfold riseL
 rw [List.all_eq_false]
 exact ⟨i, List.mem_range.2 h, by rw [hk]; simp⟩
abbrev rsT (ps : List (List UInt8)) (i : Nat) : List (Nat × TV) := [(0, .s (.lf (.sl 1 0 0 1 ps.length none))), (8, .s (.lf (.sl 1 0 0 1 ps.length none))), (9, .int .i64 (ps.length : Int)), (10, .int .i64 (i : Int))]
set_option maxRecDepth 100000 in
theorem rise_pos (ps : List (List UInt8)) (hps : ps.length ≤ 1000000) (hp : ∀ p ∈ ps, p.length ≤ 1000000) (w : World) (ρ : Env) (h1 : RowAt ρ 1 (strR ps) w) : Calls Tryd.prog 31 #[(TV.s (.lf (.sl 1 0 0 1 ps.length none))).val ρ] w (BoolQ w (riseL ps)) := by
 refine At.calls (args := [.s (.lf (.sl 1 0 0 1 ps.length none))]) (rows := [(1, strR ps)]) (gl := []) (wr := []) (ρ := ρ) Tryd.func31 rfl rfl (init_rw ⟨trivial, trivial⟩ rfl rfl rfl (fun p hp => by obtain rfl := List.mem_singleton.1 hp; exact ⟨h1, strR_ok ps⟩) (fun p hp hw => by obtain rfl := List.mem_singleton.1 hp; cases hw) (fun p hp q hq hpq hw => by obtain rfl := List.mem_singleton.1 hp; cases hw)) rfl ?_
 have hloop : ∀ i : Nat, (i ≤ ps.length ∧ (List.range i).all (okAt ps) = true) → At Tryd.prog w ⟨[], ρ, []⟩ Tryd.f31.ntmps [] (lp Tryd.f31 0) (EndX Tryd.prog Tryd.f31 (BoolQ w (riseL ps))) (rsT ps i) [(1, strR ps)] := by
  refine At.loop (fun i : Nat => rsT ps i) (fun i => [(1, strR ps)]) (fun i => i ≤ ps.length ∧ (List.range i).all (okAt ps) = true) (fun i => ps.length - i) ?_
  rintro i ⟨hi, ha⟩ ih
  by_cases hlt : i < ps.length
  ·obtain ⟨x, hx⟩ : ∃ x, x = ps.getD i [] := ⟨_, rfl⟩
   have hxm : x ∈ ps := by rw [hx, List.getD_eq_getElem?_getD, List.getElem?_eq_getElem hlt]; exact List.getElem_mem hlt
   have hxl := hp x hxm
   have hv : TV.v (stv (ps.getD (addN 0 (i : Int).toNat) [])) = TV.v (stv x) := by rw [hx, addN_eq, Nat.zero_add, Int.toNat_natCast]
   have hd : decide ((i : Int) < (ps.length : Int)) = true := decide_eq_true (by omega)
   have hib : 0 ≤ (i : Int) ∧ (i : Int) < (ps.length : Int) := ⟨by omega, by omega⟩
   have hidx : addN 0 (i : Int).toNat < ps.length := by rw [addN_eq]; omega
   have i2 : inI ((i : Int) + 1) := ⟨by omega, by omega⟩
   cases hpx : parseR x with
   | none =>
    rw [rise_no hlt (by unfold okAt; rw [← hx, hpx]; rfl)]
    exact At.fin rfl [(2004002, .val (.v (stv x))), (5001, hPa x none)] ⟨trivial, hPa_ok _ _ _ hxl hpx, trivial⟩ [.y, .d] (x := .v (.bool false)) (ob := [[decide ((i : Int) < (ps.length : Int)) = true, 0 ≤ (i : Int) ∧ (i : Int) < (ps.length : Int), TV.v (stv (ps.getD (addN 0 (i : Int).toNat) [])) = TV.v (stv x), addN 0 (i : Int).toNat < ps.length], qL (hPa x none)].flatten) (by kernel_rfl) (all_flat ⟨⟨hd, hib, hv, hidx, trivial⟩, all_qL _, trivial⟩) fun ρ' w' hf _ => ⟨rfl, hf.below⟩
   | some an =>
    obtain ⟨a, n⟩ := an
    by_cases h0 : i = 0
    ·have hg : TV.v (.bool (decide ((i : Int) > 0))) = TV.v (.bool false) := tv_b (decide_eq_false (by omega))
     have hok : okAt ps i = true := by unfold okAt; rw [← hx, hpx, decide_eq_true h0]; rfl
     have h9 := ih (i + 1) ⟨hlt, by rw [List.range_succ, List.all_append, ha]; simp [hok]⟩ (by show ps.length - (i + 1) < ps.length - i; omega)
     exact At.run rfl [(2004002, .val (.v (stv x))), (5001, hPa x (some (a, n))), (2008002, .val (.v (.bool false)))] ⟨trivial, hPa_ok _ _ _ hxl hpx, trivial, trivial⟩ [.y, .d, .n] (tm2 := rsT ps (i + 1)) (rows2 := [(1, strR ps)]) (ob := [[decide ((i : Int) < (ps.length : Int)) = true, 0 ≤ (i : Int) ∧ (i : Int) < (ps.length : Int), TV.v (stv (ps.getD (addN 0 (i : Int).toNat) [])) = TV.v (stv x), addN 0 (i : Int).toNat < ps.length], qL (hPa x (some (a, n))), [TV.v (.bool (decide ((i : Int) > 0))) = TV.v (.bool false), false = false, inI ((i : Int) + 1)]].flatten) (td := lp Tryd.f31 0) (by kernel_rfl) (all_flat ⟨⟨hd, hib, hv, hidx, trivial⟩, all_qL _, ⟨hg, rfl, i2, trivial⟩, trivial⟩) rfl rfl (by intro h; cases h) h9
    ·have hg : TV.v (.bool (decide ((i : Int) > 0))) = TV.v (.bool true) := tv_b (decide_eq_true (by omega))
     obtain ⟨y, hy⟩ : ∃ y, y = ps.getD (i - 1) [] := ⟨_, rfl⟩
     have hv2 : TV.v (stv (ps.getD (addN 0 ((i : Int) - 1).toNat) [])) = TV.v (stv y) := by rw [hy, addN_eq, Nat.zero_add, show ((i : Int) - 1).toNat = i - 1 by omega]
     have hib2 : 0 ≤ (i : Int) - 1 ∧ (i : Int) - 1 < (ps.length : Int) := ⟨by omega, by omega⟩
     have hidx2 : addN 0 ((i : Int) - 1).toNat < ps.length := by rw [addN_eq]; omega
     have i3 : inI ((i : Int) - 1) := ⟨by omega, by omega⟩
     cases hle : leS x y with
     | true =>
      have hle2 : TV.v (.bool (Op.bytesLess (lb ⟨x.toArray⟩) (lb ⟨y.toArray⟩) || lb ⟨x.toArray⟩ == lb ⟨y.toArray⟩)) = TV.v (.bool true) := tv_b hle
      rw [rise_no hlt (by unfold okAt; rw [← hx, ← hy, hle, decide_eq_false h0]; simp)]
      exact At.fin rfl [(2004002, .val (.v (stv x))), (5001, hPa x (some (a, n))), (2008002, .val (.v (.bool true))), (2008008, .val (.v (stv y))), (2008009, .val (.v (.bool true)))] ⟨trivial, hPa_ok _ _ _ hxl hpx, trivial, trivial, trivial, trivial⟩ [.y, .d, .d] (x := .v (.bool false)) (ob := [[decide ((i : Int) < (ps.length : Int)) = true, 0 ≤ (i : Int) ∧ (i : Int) < (ps.length : Int), TV.v (stv (ps.getD (addN 0 (i : Int).toNat) [])) = TV.v (stv x), addN 0 (i : Int).toNat < ps.length], qL (hPa x (some (a, n))), [TV.v (.bool (decide ((i : Int) > 0))) = TV.v (.bool true), inI ((i : Int) - 1), 0 ≤ (i : Int) - 1 ∧ (i : Int) - 1 < (ps.length : Int), TV.v (stv (ps.getD (addN 0 ((i : Int) - 1).toNat) [])) = TV.v (stv y), addN 0 ((i : Int) - 1).toNat < ps.length, TV.v (.bool (Op.bytesLess (lb ⟨x.toArray⟩) (lb ⟨y.toArray⟩) || lb ⟨x.toArray⟩ == lb ⟨y.toArray⟩)) = TV.v (.bool true)]].flatten) (by kernel_rfl) (all_flat ⟨⟨hd, hib, hv, hidx, trivial⟩, all_qL _, ⟨hg, i3, hib2, hv2, hidx2, hle2, trivial⟩, trivial⟩) fun ρ' w' hf _ => ⟨rfl, hf.below⟩
     | false =>
      have hle2 : TV.v (.bool (Op.bytesLess (lb ⟨x.toArray⟩) (lb ⟨y.toArray⟩) || lb ⟨x.toArray⟩ == lb ⟨y.toArray⟩)) = TV.v (.bool false) := tv_b hle
      have hok : okAt ps i = true := by unfold okAt; rw [← hx, ← hy, hle, hpx]; simp
      have h9 := ih (i + 1) ⟨hlt, by rw [List.range_succ, List.all_append, ha]; simp [hok]⟩ (by show ps.length - (i + 1) < ps.length - i; omega)
      exact At.run rfl [(2004002, .val (.v (stv x))), (5001, hPa x (some (a, n))), (2008002, .val (.v (.bool true))), (2008008, .val (.v (stv y))), (2008009, .val (.v (.bool false)))] ⟨trivial, hPa_ok _ _ _ hxl hpx, trivial, trivial, trivial, trivial⟩ [.y, .d, .d] (tm2 := rsT ps (i + 1)) (rows2 := [(1, strR ps)]) (ob := [[decide ((i : Int) < (ps.length : Int)) = true, 0 ≤ (i : Int) ∧ (i : Int) < (ps.length : Int), TV.v (stv (ps.getD (addN 0 (i : Int).toNat) [])) = TV.v (stv x), addN 0 (i : Int).toNat < ps.length], qL (hPa x (some (a, n))), [TV.v (.bool (decide ((i : Int) > 0))) = TV.v (.bool true), inI ((i : Int) - 1), 0 ≤ (i : Int) - 1 ∧ (i : Int) - 1 < (ps.length : Int), TV.v (stv (ps.getD (addN 0 ((i : Int) - 1).toNat) [])) = TV.v (stv y), addN 0 ((i : Int) - 1).toNat < ps.length, TV.v (.bool (Op.bytesLess (lb ⟨x.toArray⟩) (lb ⟨y.toArray⟩) || lb ⟨x.toArray⟩ == lb ⟨y.toArray⟩)) = TV.v (.bool false), inI ((i : Int) + 1)]].flatten) (td := lp Tryd.f31 0) (by kernel_rfl) (all_flat ⟨⟨hd, hib, hv, hidx, trivial⟩, all_qL _, ⟨hg, i3, hib2, hv2, hidx2, hle2, i2, trivial⟩, trivial⟩) rfl rfl (by intro h; cases h) h9
  ·obtain rfl : i = ps.length := by omega
   rw [show riseL ps = true from ha]
   exact At.fin rfl [] trivial [.n] (x := .v (.bool true)) (ob := [decide ((ps.length : Int) < (ps.length : Int)) = false]) (by kernel_rfl) ⟨decide_eq_false (by omega), trivial⟩ fun ρ' w' hf _ => ⟨rfl, hf.below⟩
 exact At.run rfl [] trivial [] (tm2 := rsT ps 0) (rows2 := [(1, strR ps)]) (ob := []) (td := lp Tryd.f31 0) (by kernel_rfl) trivial rfl rfl (by intro h; cases h) (hloop 0 ⟨Nat.zero_le _, rfl⟩)
set_option maxRecDepth 100000 in
theorem rise_nil (pa : Option Addr) (ca : Nat) (w : World) : Calls Tryd.prog 31 #[.slice pa 0 ca] w (BoolQ w true) := by
 refine At.calls (args := [.v (.slice pa 0 ca)]) (rows := []) (gl := []) (wr := []) (ρ := fun _ => (⟨0, 0, 0⟩ : Blk)) Tryd.func31 rfl rfl (init_rw ⟨rfl, trivial⟩ rfl rfl rfl (fun p hp => by cases hp) (fun p hp => by cases hp) (fun p hp => by cases hp)) rfl ?_
 exact At.fin rfl [] trivial [.u, .d] (x := .v (.bool true)) (ob := []) (by kernel_rfl) trivial fun ρ' w' hf _ => ⟨rfl, hf.below⟩
end
end Go.Proofs.YtdbbcngolcnniaaDoor
