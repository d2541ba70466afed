/- Several texts, one behind the other; each says by itself what it proves, and on what conditions. -/
import Derived.Test.YtdbbcngolcnniaaGreatDoorY18
/- Paths: CutPrefix, Parse, Make. Its conditions: lengths that fit; the tables of sha as its text lays them. -/
namespace Go.Proofs.YtdbbcngolcnniaaGreatDoor
open Go Go.RowKit
set_option linter.unusedVariables false
set_option linter.unusedSimpArgs false
section
open E
theorem ent70 : Enters Tryz.prog 70 := enters_of Tryz.func70 (by kernel_rfl) rfl
theorem ent54 : Enters Tryz.prog 54 := enters_of Tryz.func54 (by kernel_rfl) rfl
theorem ent28 : Enters Tryz.prog 28 := enters_of Tryz.func28 (by kernel_rfl) rfl
theorem ent11 : Enters Tryz.prog 11 := enters_of Tryz.func11 (by kernel_rfl) rfl
theorem ent12 : Enters Tryz.prog 12 := enters_of Tryz.func12 (by kernel_rfl) rfl
theorem ent31 : Enters Tryz.prog 31 := enters_of Tryz.func31 (by kernel_rfl) rfl
theorem ent32 : Enters Tryz.prog 32 := enters_of Tryz.func32 (by kernel_rfl) rfl
theorem ent33 : Enters Tryz.prog 33 := enters_of Tryz.func33 (by kernel_rfl) rfl
def preP (s p : List UInt8) : Bool := decide (p.length ≤ s.length) && s.take p.length == p
abbrev pcW (f : FuncId) (args : Array Value) (res : TV) : Hint := .callW ⟨f, fun _ => args, res, [], [], none, []⟩
theorem pcW_ok {P : Program} {w0 : World} {wr : Bs} {f : FuncId} {args : Array Value} {res : TV} {v : Value} {id : Nat} (he : Enters P f) (hr : res.ok) (hv : ∀ ρ, res.val ρ = v)
  (h : ∀ w, Fr w0 wr.l w → Calls P f args w fun e w' => e = .returned v ∧ Fr w [] w') : HintAt P w0 wr id (pcW f args res) := fun w ρ hk hf h0 => by
 refine callAt_ok (res := res) he hr (fun p hp => by cases hp) ρ w fun _ => (h w hf).mono ?_
 rintro e w' ⟨rfl, hF⟩
 exact ⟨⟨0, 0, 0⟩, by rw [hv], hF, (fun p hp => by cases hp), fun row hrw => by cases hrw⟩
theorem glob_keep {w w' : World} {l : List Nat} (hG : S3.Glob w) (hf : Fr w l w') (h0 : 0 ∉ l) (h1 : 1 ∉ l) : S3.Glob w' := by
 have h2 := hG.two
 exact ⟨by rw [hf.block 1 (by omega) h1]; exact hG.1, by rw [hf.block 0 (by omega) h0]; exact hG.2⟩
abbrev hPr (s p : List UInt8) (b : Bool) : Hint := pc 70 #[stv s, stv p] (.v (.bool b))
set_option maxRecDepth 100000 in
theorem hasprefix_any (s p : List UInt8) (hs : s.length ≤ 1000000000) (hp : p.length ≤ 1000000000) (w : World) : Calls Tryz.prog 70 #[stv s, stv p] w (BoolQ w (preP s p)) := by
 refine At.calls (args := [.v (stv s), .v (stv p)]) (rows := []) (gl := []) (wr := []) (ρ := fun _ => (⟨0, 0, 0⟩ : Blk)) Tryz.func70 rfl rfl (init_rw ⟨rfl, rfl, trivial⟩ rfl rfl rfl (fun p hp => by cases hp) (fun p hp => by cases hp) (fun p hp => by cases hp)) rfl ?_
 by_cases h : p.length ≤ s.length
 ·obtain ⟨t, ht⟩ : ∃ t, t = s.take p.length := ⟨_, rfl⟩
  have hr : preP s p = (t == p) := by unfold preP; rw [decide_eq_true h, ← ht, Bool.true_and]
  rw [hr]
  exact At.fin rfl [(2002004, .val (.v (.bool true))), (2002009, .val (.v (stv t)))] ⟨trivial, trivial, trivial⟩ [] (x := .v (.bool (t == p))) (ob := [TV.v (.bool (decide ((s.length : Int) ≥ (p.length : Int)))) = TV.v (.bool true), TV.v (stv (List.take (p.length : Int).toNat s)) = TV.v (stv t), 0 ≤ (p.length : Int) ∧ (p.length : Int) ≤ (s.length : Int)]) (by kernel_rfl) ⟨tv_b (decide_eq_true (by omega)), tv_str (by rw [ht, Int.toNat_natCast]), ⟨by omega, by omega⟩, trivial⟩ fun ρ' w' hf _ => ⟨rfl, hf.below⟩
 ·have hr : preP s p = false := by unfold preP; rw [decide_eq_false h, Bool.false_and]
  rw [hr]
  exact At.fin rfl [(2002004, .val (.v (.bool false)))] ⟨trivial, trivial⟩ [] (x := .v (.bool false)) (ob := [TV.v (.bool (decide ((s.length : Int) ≥ (p.length : Int)))) = TV.v (.bool false)]) (by kernel_rfl) ⟨tv_b (decide_eq_false (by omega)), trivial⟩ fun ρ' w' hf _ => ⟨rfl, hf.below⟩
theorem hPr_ok (id : Nat) (s p : List UInt8) (b : Bool) (hs : s.length ≤ 1000000000) (hp : p.length ≤ 1000000000) (h : preP s p = b) : HintOk Tryz.prog id (hPr s p b) := pc_ok ent70 (v := .bool b) rfl (fun _ => rfl) fun w => by rw [← h]; exact hasprefix_any s p hs hp w
def cutR (s p : List UInt8) : List UInt8 := if preP s p then s.drop p.length else s
abbrev hC0 (f : Nat) (s p t : List UInt8) (b : Bool) : Hint := pc f #[stv s, stv p] (.tup [.lf (.v (stv t)), .lf (.v (.bool b))])
abbrev cutV (s p : List UInt8) : Value := .tuple #[stv (cutR s p), .bool (preP s p)]
theorem tup2_ok (a b : Value) (ha : a.oneCell' = true) (hb : b.oneCell' = true) : (TV.tup [.lf (.v a), .lf (.v b)]).ok := by
 intro x hx
 simp only [List.mem_cons, List.not_mem_nil, or_false] at hx
 rcases hx with rfl | rfl
 ·exact ha
 ·exact hb
theorem tup3_ok (a b c : Value) (ha : a.oneCell' = true) (hb : b.oneCell' = true) (hc : c.oneCell' = true) : (TV.tup [.lf (.v a), .lf (.v b), .lf (.v c)]).ok := by
 intro x hx
 simp only [List.mem_cons, List.not_mem_nil, or_false] at hx
 rcases hx with rfl | rfl | rfl
 ·exact ha
 ·exact hb
 ·exact hc
set_option maxRecDepth 100000 in
theorem cut0_any (s p : List UInt8) (hs : s.length ≤ 1000000000) (hp : p.length ≤ 1000000000) (w : World) : Calls Tryz.prog 54 #[stv s, stv p] w fun e w' => e = .returned (cutV s p) ∧ Below w.heap.size w w' := by
 refine At.calls (args := [.v (stv s), .v (stv p)]) (rows := []) (gl := []) (wr := []) (ρ := fun _ => (⟨0, 0, 0⟩ : Blk)) Tryz.func54 rfl rfl (init_rw ⟨rfl, rfl, trivial⟩ rfl rfl rfl (fun p hp => by cases hp) (fun p hp => by cases hp) (fun p hp => by cases hp)) rfl ?_
 cases h : preP s p with
 | true =>
  have hk := hPr_ok 2002 s p true hs hp h
  have hle : p.length ≤ s.length := by
   unfold preP at h
   rw [Bool.and_eq_true] at h
   exact of_decide_eq_true h.1
  obtain ⟨t, ht⟩ : ∃ t, t = s.drop p.length := ⟨_, rfl⟩
  have hr : cutV s p = .tuple #[stv t, .bool true] := by unfold cutV cutR; rw [h, if_pos rfl, ht]
  rw [hr]
  exact At.fin rfl [(2002, hPr s p true), (2004003, .val (.v (stv t)))] ⟨hk, trivial, trivial⟩ [.d] (x := .tup [.lf (.v (stv t)), .lf (.v (.bool true))]) (ob := [qL (hPr s p true), [TV.v (stv (List.drop (p.length : Int).toNat s)) = TV.v (stv t), 0 ≤ (p.length : Int) ∧ (p.length : Int) ≤ (s.length : Int)]].flatten) (by kernel_rfl) (all_flat ⟨all_qL _, ⟨tv_str (by rw [ht, Int.toNat_natCast]), ⟨by omega, by omega⟩, trivial⟩, trivial⟩) fun ρ' w' hf _ => ⟨rfl, hf.below⟩
 | false =>
  have hk := hPr_ok 2002 s p false hs hp h
  have hr : cutV s p = .tuple #[stv s, .bool false] := by unfold cutV cutR; rw [h]; rfl
  rw [hr]
  exact At.fin rfl [(2002, hPr s p false)] ⟨hk, trivial⟩ [.d] (x := .tup [.lf (.v (stv s)), .lf (.v (.bool false))]) (ob := qL (hPr s p false)) (by kernel_rfl) (all_qL _) fun ρ' w' hf _ => ⟨rfl, hf.below⟩
set_option maxRecDepth 100000 in
theorem cut_any (s p : List UInt8) (hs : s.length ≤ 1000000000) (hp : p.length ≤ 1000000000) (w : World) : Calls Tryz.prog 28 #[stv s, stv p] w fun e w' => e = .returned (cutV s p) ∧ Below w.heap.size w w' := by
 refine At.calls (args := [.v (stv s), .v (stv p)]) (rows := []) (gl := []) (wr := []) (ρ := fun _ => (⟨0, 0, 0⟩ : Blk)) Tryz.func28 rfl rfl (init_rw ⟨rfl, rfl, trivial⟩ rfl rfl rfl (fun p hp => by cases hp) (fun p hp => by cases hp) (fun p hp => by cases hp)) rfl ?_
 have hk : HintOk Tryz.prog 2002 (hC0 54 s p (cutR s p) (preP s p)) := pc_ok ent54 (v := cutV s p) (tup2_ok _ _ rfl rfl) (fun _ => rfl) fun w => cut0_any s p hs hp w
 unfold cutV
 generalize cutR s p = t at hk ⊢
 generalize preP s p = b at hk ⊢
 exact At.fin rfl [(2002, hC0 54 s p t b)] ⟨hk, trivial⟩ [] (x := .tup [.lf (.v (stv t)), .lf (.v (.bool b))]) (ob := qL (hC0 54 s p t b)) (by kernel_rfl) (all_qL _) fun ρ' w' hf _ => ⟨rfl, hf.below⟩
abbrev hCp (s p t : List UInt8) (b : Bool) : Hint := hC0 28 s p t b
theorem hCp1 {id : Nat} {s p : List UInt8} (hs : s.length ≤ 1000000000) (hp : p.length ≤ 1000000000) (h : preP s p = true) : HintOk Tryz.prog id (hCp s p (s.drop p.length) true) := pc_ok ent28 (v := .tuple #[stv (s.drop p.length), .bool true]) (tup2_ok _ _ rfl rfl) (fun _ => rfl) fun w => by
 have := cut_any s p hs hp w
 unfold cutV cutR at this
 rw [h, if_pos rfl] at this
 exact this
theorem hCp0 {id : Nat} {s p : List UInt8} (hs : s.length ≤ 1000000000) (hp : p.length ≤ 1000000000) (h : preP s p = false) : HintOk Tryz.prog id (hCp s p s false) := pc_ok ent28 (v := .tuple #[stv s, .bool false]) (tup2_ok _ _ rfl rfl) (fun _ => rfl) fun w => by
 have := cut_any s p hs hp w
 unfold cutV cutR at this
 rw [h] at this
 exact this
abbrev dirL : List UInt8 := [47, 110, 105, 120, 47, 115, 116, 111, 114, 101, 47]
def parseR (s : List UInt8) : Option (List UInt8 × List UInt8) :=
 if preP s dirL && (decide (32 ≤ (s.drop 11).length) && (preP ((s.drop 11).drop 32) [45] && (mayP ((s.drop 11).take 32) && nmP (((s.drop 11).drop 32).drop 1)))) then some ((s.drop 11).take 32, ((s.drop 11).drop 32).drop 1) else none
abbrev parseV : Option (List UInt8 × List UInt8) → TV
 | some (a, n) => .tup [.lf (.v (stv a)), .lf (.v (stv n)), .lf (.v (.bool true))]
 | none => .tup [.lf (.v (stv [])), .lf (.v (stv [])), .lf (.v (.bool false))]
abbrev parseW : Option (List UInt8 × List UInt8) → Value
 | some (a, n) => .tuple #[stv a, stv n, .bool true]
 | none => .tuple #[stv [], stv [], .bool false]
set_option maxRecDepth 100000 in
theorem parse_any (s : List UInt8) (hs : s.length ≤ 1000000) (w : World) : Calls Tryz.prog 11 #[stv s] w fun e w' => e = .returned (parseW (parseR s)) ∧ Below w.heap.size w w' := by
 refine At.calls (args := [.v (stv s)]) (rows := []) (gl := []) (wr := []) (ρ := fun _ => (⟨0, 0, 0⟩ : Blk)) Tryz.func11 rfl rfl (init_rw ⟨rfl, trivial⟩ rfl rfl rfl (fun p hp => by cases hp) (fun p hp => by cases hp) (fun p hp => by cases hp)) rfl ?_
 have hs9 : s.length ≤ 1000000000 := by omega
 cases h1 : preP s dirL with
 | false =>
  have hr : parseR s = none := by unfold parseR; rw [h1]; rfl
  rw [hr]
  exact At.fin rfl [(2001, hCp s dirL s false)] ⟨hCp0 hs9 (by decide) h1, trivial⟩ [.d] (x := parseV none) (ob := qL (hCp s dirL s false)) (by kernel_rfl) (all_qL _) fun ρ' w' hf _ => ⟨rfl, hf.below⟩
 | true =>
  have k1 := hCp1 (id := 2001) hs9 (show dirL.length ≤ 1000000000 by decide) h1
  obtain ⟨r, hr⟩ : ∃ r, r = s.drop 11 := ⟨_, rfl⟩
  rw [show s.drop dirL.length = r from hr.symm] at k1
  have hrl : r.length ≤ 1000000 := by rw [hr, List.length_drop]; omega
  by_cases h2 : 32 ≤ r.length
  case neg =>
   have hn : parseR s = none := by unfold parseR; rw [h1, ← hr, decide_eq_false h2]; rfl
   rw [hn]
   exact At.fin rfl [(2001, hCp s dirL r true), (2003005, .val (.v (.bool true)))] ⟨k1, trivial, trivial⟩ [.d] (x := parseV none) (ob := [qL (hCp s dirL r true), [TV.v (.bool (decide ((r.length : Int) < 32))) = TV.v (.bool true)]].flatten) (by kernel_rfl) (all_flat ⟨all_qL _, ⟨tv_b (decide_eq_true (by omega)), trivial⟩, trivial⟩) fun ρ' w' hf _ => ⟨rfl, hf.below⟩
  obtain ⟨a, ha⟩ : ∃ a, a = r.take 32 := ⟨_, rfl⟩
  obtain ⟨q, hq⟩ : ∃ q, q = r.drop 32 := ⟨_, rfl⟩
  have hav : TV.v (stv (List.take (Int.toNat 32) r)) = TV.v (stv a) := tv_str (by rw [ha]; rfl)
  have hqv : TV.v (stv (List.drop (Int.toNat 32) r)) = TV.v (stv q) := tv_str (by rw [hq]; rfl)
  have hal : a.length ≤ 1000000 := by rw [ha, List.length_take]; omega
  have hql : q.length ≤ 1000000 := by rw [hq, List.length_drop]; omega
  have h32 : TV.v (.bool (decide ((r.length : Int) < 32))) = TV.v (.bool false) := tv_b (decide_eq_false (by omega))
  have hlt : 0 ≤ (32 : Int) ∧ (32 : Int) ≤ (r.length : Int) := ⟨by decide, by omega⟩
  cases h3 : preP q [45] with
  | false =>
   have hn : parseR s = none := by unfold parseR; rw [h1, ← hr, ← hq, h3]; simp
   rw [hn]
   exact At.fin rfl [(2001, hCp s dirL r true), (2003005, .val (.v (.bool false))), (2005001, .val (.v (stv a))), (2006001, .val (.v (stv q))), (6002, hCp q [45] q false)] ⟨k1, trivial, trivial, trivial, hCp0 (by omega) (by decide) h3, trivial⟩ [.d, .d] (x := parseV none) (ob := [qL (hCp s dirL r true), [TV.v (.bool (decide ((r.length : Int) < 32))) = TV.v (.bool false), TV.v (stv (List.take (Int.toNat 32) r)) = TV.v (stv a), 0 ≤ (32 : Int) ∧ (32 : Int) ≤ (r.length : Int), TV.v (stv (List.drop (Int.toNat 32) r)) = TV.v (stv q), 0 ≤ (32 : Int) ∧ (32 : Int) ≤ (r.length : Int)], qL (hCp q [45] q false)].flatten) (by kernel_rfl) (all_flat ⟨all_qL _, ⟨h32, hav, hlt, hqv, hlt, trivial⟩, all_qL _, trivial⟩) fun ρ' w' hf _ => ⟨rfl, hf.below⟩
  | true =>
   have k2 := hCp1 (id := 6002) (show q.length ≤ 1000000000 by omega) (show ([45] : List UInt8).length ≤ 1000000000 by decide) h3
   obtain ⟨n, hn⟩ : ∃ n, n = q.drop 1 := ⟨_, rfl⟩
   rw [show q.drop ([45] : List UInt8).length = n from hn.symm] at k2
   have hnl : n.length ≤ 1000000 := by rw [hn, List.length_drop]; omega
   cases h4 : mayP a with
   | false =>
    have he : parseR s = none := by unfold parseR; rw [h1, ← hr, ← hq, ← ha, h3, h4]; simp
    rw [he]
    exact At.fin rfl [(2001, hCp s dirL r true), (2003005, .val (.v (.bool false))), (2005001, .val (.v (stv a))), (2006001, .val (.v (stv q))), (6002, hCp q [45] n true), (7004, hMy a false)] ⟨k1, trivial, trivial, trivial, k2, hMy_ok _ _ _ (by omega) h4, trivial⟩ [.d, .d] (x := parseV none) (ob := [qL (hCp s dirL r true), [TV.v (.bool (decide ((r.length : Int) < 32))) = TV.v (.bool false), TV.v (stv (List.take (Int.toNat 32) r)) = TV.v (stv a), 0 ≤ (32 : Int) ∧ (32 : Int) ≤ (r.length : Int), TV.v (stv (List.drop (Int.toNat 32) r)) = TV.v (stv q), 0 ≤ (32 : Int) ∧ (32 : Int) ≤ (r.length : Int)], qL (hCp q [45] n true), qL (hMy a false)].flatten) (by kernel_rfl) (all_flat ⟨all_qL _, ⟨h32, hav, hlt, hqv, hlt, trivial⟩, all_qL _, all_qL _, trivial⟩) fun ρ' w' hf _ => ⟨rfl, hf.below⟩
   | true =>
    cases h5 : nmP n with
    | false =>
     have he : parseR s = none := by unfold parseR; rw [h1, ← hr, ← hq, ← ha, h3, h4, ← hn, h5]; simp
     rw [he]
     exact At.fin rfl [(2001, hCp s dirL r true), (2003005, .val (.v (.bool false))), (2005001, .val (.v (stv a))), (2006001, .val (.v (stv q))), (6002, hCp q [45] n true), (7004, hMy a true), (7009, hMn n false)] ⟨k1, trivial, trivial, trivial, k2, hMy_ok _ _ _ (by omega) h4, hMn_ok _ _ _ (by omega) h5, trivial⟩ [.d, .d] (x := parseV none) (ob := [qL (hCp s dirL r true), [TV.v (.bool (decide ((r.length : Int) < 32))) = TV.v (.bool false), TV.v (stv (List.take (Int.toNat 32) r)) = TV.v (stv a), 0 ≤ (32 : Int) ∧ (32 : Int) ≤ (r.length : Int), TV.v (stv (List.drop (Int.toNat 32) r)) = TV.v (stv q), 0 ≤ (32 : Int) ∧ (32 : Int) ≤ (r.length : Int)], qL (hCp q [45] n true), qL (hMy a true), qL (hMn n false)].flatten) (by kernel_rfl) (all_flat ⟨all_qL _, ⟨h32, hav, hlt, hqv, hlt, trivial⟩, all_qL _, all_qL _, all_qL _, trivial⟩) fun ρ' w' hf _ => ⟨rfl, hf.below⟩
    | true =>
     have he : parseR s = some (a, n) := by unfold parseR; rw [h1, ← hr, ← hq, ← ha, h3, h4, ← hn, h5, decide_eq_true h2]; rfl
     rw [he]
     exact At.fin rfl [(2001, hCp s dirL r true), (2003005, .val (.v (.bool false))), (2005001, .val (.v (stv a))), (2006001, .val (.v (stv q))), (6002, hCp q [45] n true), (7004, hMy a true), (7009, hMn n true), (9001, hCl a), (9003, hCl n)] ⟨k1, trivial, trivial, trivial, k2, hMy_ok _ _ _ (by omega) h4, hMn_ok _ _ _ (by omega) h5, hCl_ok _ _ (by omega), hCl_ok _ _ (by omega), trivial⟩ [.d, .d] (x := parseV (some (a, n))) (ob := [qL (hCp s dirL r true), [TV.v (.bool (decide ((r.length : Int) < 32))) = TV.v (.bool false), TV.v (stv (List.take (Int.toNat 32) r)) = TV.v (stv a), 0 ≤ (32 : Int) ∧ (32 : Int) ≤ (r.length : Int), TV.v (stv (List.drop (Int.toNat 32) r)) = TV.v (stv q), 0 ≤ (32 : Int) ∧ (32 : Int) ≤ (r.length : Int)], qL (hCp q [45] n true), qL (hMy a true), qL (hMn n true), qL (hCl a), qL (hCl n)].flatten) (by kernel_rfl) (all_flat ⟨all_qL _, ⟨h32, hav, hlt, hqv, hlt, trivial⟩, all_qL _, all_qL _, all_qL _, all_qL _, all_qL _, trivial⟩) fun ρ' w' hf _ => ⟨rfl, hf.below⟩
abbrev hPa (s : List UInt8) (o : Option (List UInt8 × List UInt8)) : Hint := pc 11 #[stv s] (parseV o)
theorem hPa_ok (id : Nat) (s : List UInt8) (o : Option (List UInt8 × List UInt8)) (hs : s.length ≤ 1000000) (h : parseR s = o) : HintOk Tryz.prog id (hPa s o) := by
 subst h
 refine pc_ok ent11 (v := parseW (parseR s)) ?_ (fun _ => ?_) fun w => parse_any s hs w
 ·cases parseR s with
  | none => exact tup3_ok _ _ _ rfl rfl rfl
  | some x => exact tup3_ok _ _ _ rfl rfl rfl
 ·cases parseR s <;> rfl
end
end Go.Proofs.YtdbbcngolcnniaaGreatDoor
/- Make; the statements' Seed and Path; awake. Its conditions: lengths that fit; the tables of sha as its text lays them. -/
namespace Go.Proofs.YtdbbcngolcnniaaGreatDoor
open Go Go.RowKit
set_option linter.unusedVariables false
set_option linter.unusedSimpArgs false
section
open E
theorem ent13 : Enters Tryz.prog 13 := enters_of Tryz.func13 (by kernel_rfl) rfl
theorem ent4 : Enters Tryz.prog 4 := enters_of Tryz.func4 (by kernel_rfl) rfl
def kindT (k h n : List UInt8) : List UInt8 := k ++ [58, 115, 104, 97, 50, 53, 54, 58] ++ hex h ++ [58] ++ [47, 110, 105, 120, 47, 115, 116, 111, 114, 101] ++ [58] ++ n
def partM (k h n : List UInt8) : List UInt8 := b32 (foldI (S3.sha (kindT k h n)) 20)
theorem foldI_len (l : List UInt8) : (foldI l 20).length = 20 := by
 unfold foldI
 rw [if_pos (by decide)]
 unfold fold
 rw [List.length_map, List.length_range]; rfl
theorem partM_len (k h n : List UInt8) : (partM k h n).length = 32 := by
 unfold partM
 rw [b32_length, foldI_len]; rfl
theorem partM_may (k h n : List UInt8) : mayP (partM k h n) = true := by
 unfold mayP
 rw [Bool.and_eq_true, List.all_eq_true]
 exact ⟨decide_eq_true (partM_len k h n), fun c hc => enc_all _ _ c hc⟩
def makeL (k h n : List UInt8) : List UInt8 := dirL ++ partM k h n ++ [45] ++ n
def makeR (k h n : List UInt8) : Option (List UInt8) := if decide (h.length = 32) && nmP n then some (makeL k h n) else none
abbrev makeV : Option (List UInt8) → TV
 | some t => .tup [.lf (.v (stv t)), .lf (.v (.bool true))]
 | none => .tup [.lf (.v (stv [])), .lf (.v (.bool false))]
abbrev makeW : Option (List UInt8) → Value
 | some t => .tuple #[stv t, .bool true]
 | none => .tuple #[stv [], .bool false]
theorem sha_len (t : List UInt8) : (S3.sha t).length = 32 := by
 unfold S3.sha S3.tell
 simp [S3.be4]
theorem hSu_ok {w0 : World} {wr : Bs} (id : Nat) (t : List UInt8) (ht : t.length ≤ 900000) (hG : S3.Glob w0) (h0 : 0 ∉ wr.l) (h1 : 1 ∉ wr.l) : HintAt Tryz.prog w0 wr id (pcW 31 #[stv t] (.v (stv (S3.sha t)))) :=
 pcW_ok ent31 (v := stv (S3.sha t)) rfl (fun _ => rfl) fun w hf => (S3.sum_any ⟨t.toArray⟩ (by show t.toArray.size ≤ _; simpa using ht) w (glob_keep hG hf h0 h1)).mono fun e w' h => ⟨h.1, Fr.of_below h.2 _⟩
set_option maxRecDepth 100000 in
theorem make_any (k h n : List UInt8) (hk : k.length ≤ 800000) (hh : h.length ≤ 1000000000) (hn : n.length ≤ 1000000000) (w : World) (hG : S3.Glob w) : Calls Tryz.prog 12 #[stv k, stv h, stv n] w fun e w' => e = .returned (makeW (makeR k h n)) ∧ Fr w [] w' := by
 refine At.calls (args := [.v (stv k), .v (stv h), .v (stv n)]) (rows := []) (gl := []) (wr := []) (ρ := fun _ => (⟨0, 0, 0⟩ : Blk)) Tryz.func12 rfl rfl (init_rw ⟨rfl, rfl, rfl, trivial⟩ rfl rfl rfl (fun p hp => by cases hp) (fun p hp => by cases hp) (fun p hp => by cases hp)) rfl ?_
 by_cases h1 : h.length = 32
 case neg =>
  have hr : makeR k h n = none := by unfold makeR; rw [decide_eq_false h1]; rfl
  rw [hr]
  exact At.fin rfl [(2002002, .val (.v (.bool true)))] ⟨trivial, trivial⟩ [.d] (x := makeV none) (ob := [TV.v (.bool ((h.length : Int) != 32)) = TV.v (.bool true)]) (by kernel_rfl) ⟨tv_b (by simp only [bne_iff_ne, ne_eq]; omega), trivial⟩ fun ρ' w' hf _ => ⟨rfl, hf⟩
 have hb : TV.v (.bool ((h.length : Int) != 32)) = TV.v (.bool false) := tv_b (by rw [h1]; rfl)
 cases h2 : nmP n with
 | false =>
  have hr : makeR k h n = none := by unfold makeR; rw [h2]; simp
  rw [hr]
  exact At.fin rfl [(2002002, .val (.v (.bool false))), (2005, hMn n false)] ⟨trivial, hMn_ok _ _ _ hn h2, trivial⟩ [.d] (x := makeV none) (ob := [[TV.v (.bool ((h.length : Int) != 32)) = TV.v (.bool false)], qL (hMn n false)].flatten) (by kernel_rfl) (all_flat ⟨⟨hb, trivial⟩, all_qL _, trivial⟩) fun ρ' w' hf _ => ⟨rfl, hf⟩
 | true =>
  have hr : makeR k h n = some (makeL k h n) := by unfold makeR; rw [h2, decide_eq_true h1]; rfl
  have hnl : n.length ≤ 211 := by
   unfold nmP at h2
   simp only [Bool.and_eq_true, decide_eq_true_eq] at h2
   exact h2.1.1.2
  rw [hr]
  obtain ⟨x, hx⟩ : ∃ x, x = hex h := ⟨_, rfl⟩
  have hxl : x.length = 64 := by rw [hx, hex_length, h1]
  obtain ⟨t, ht⟩ : ∃ t, t = kindT k h n := ⟨_, rfl⟩
  have ht2 : k ++ [58, 115, 104, 97, 50, 53, 54, 58] ++ x ++ [58] ++ [47, 110, 105, 120, 47, 115, 116, 111, 114, 101] ++ [58] ++ n = t := by rw [ht, hx]; rfl
  have htl : t.length ≤ 900000 := by rw [← ht2]; simp only [List.length_append, List.length_cons, List.length_nil]; omega
  have kS := hSu_ok (wr := ⟨[], fun _ => (⟨0, 0, 0⟩ : Blk), []⟩) 4010 t htl hG (by simp) (by simp)
  obtain ⟨u, hu⟩ : ∃ u, u = S3.sha t := ⟨_, rfl⟩
  rw [← hu] at kS
  obtain ⟨v, hv⟩ : ∃ v, v = foldI u 20 := ⟨_, rfl⟩
  obtain ⟨b, hb2⟩ : ∃ b, b = partM k h n := ⟨_, rfl⟩
  have hvb : b32 v = b := by rw [hb2, hv, hu, ht]; rfl
  have hbl : b.length = 32 := by rw [hb2, partM_len]
  have hul : u.length ≤ 549755813888 := by rw [hu, sha_len]; decide
  have hvl : v.length = 20 := by rw [hv, foldI_len]
  have hml : makeL k h n = dirL ++ b ++ [45] ++ n := by rw [hb2]; rfl
  rw [hml]
  have kX : HintOk Tryz.prog 4003 (pc 32 #[stv h] (.v (stv x))) := pc_ok ent32 (v := stv x) rfl (fun _ => rfl) fun w => by rw [hx]; exact hex_any ⟨h.toArray⟩ w (by show h.toArray.size ≤ _; simp; omega)
  have kF : HintOk Tryz.prog 5001 (pc 34 #[stv u, .int .i64 20] (.v (stv v))) := pc_ok ent34 (v := stv v) rfl (fun _ => rfl) fun w => by rw [hv]; exact fold_any ⟨u.toArray⟩ 20 w (by show u.toArray.size ≤ _; simpa using hul)
  have kB : HintOk Tryz.prog 5002 (pc 33 #[stv v] (.v (stv b))) := pc_ok ent33 (v := stv b) rfl (fun _ => rfl) fun w => by rw [← hvb]; exact base32_any ⟨v.toArray⟩ w (by show v.toArray.size ≤ _; simp; omega)
  exact At.fin rfl [(2002002, .val (.v (.bool false))), (2005, hMn n true), (4003, pc 32 #[stv h] (.v (stv x))), (2004009, .val (.v (stv t))), (4010, pcW 31 #[stv t] (.v (stv u))), (5001, pc 34 #[stv u, .int .i64 20] (.v (stv v))), (5002, pc 33 #[stv v] (.v (stv b)))] ⟨trivial, hMn_ok _ _ _ hn h2, kX, trivial, kS, kF, kB, trivial⟩ [.d] (x := makeV (some (dirL ++ b ++ [45] ++ n)))
   (ob := [[TV.v (.bool ((h.length : Int) != 32)) = TV.v (.bool false)], qL (hMn n true), [(k.length : Int) + ((8 : Nat) : Int) ≤ 9223372036854775807], qL (pc 32 #[stv h] (.v (stv x))), [((k ++ [58, 115, 104, 97, 50, 53, 54, 58]).length : Int) + (x.length : Int) ≤ 9223372036854775807, ((k ++ [58, 115, 104, 97, 50, 53, 54, 58] ++ x).length : Int) + ((1 : Nat) : Int) ≤ 9223372036854775807, ((k ++ [58, 115, 104, 97, 50, 53, 54, 58] ++ x ++ [58]).length : Int) + ((10 : Nat) : Int) ≤ 9223372036854775807, ((k ++ [58, 115, 104, 97, 50, 53, 54, 58] ++ x ++ [58] ++ [47, 110, 105, 120, 47, 115, 116, 111, 114, 101]).length : Int) + ((1 : Nat) : Int) ≤ 9223372036854775807, TV.v (stv (k ++ [58, 115, 104, 97, 50, 53, 54, 58] ++ x ++ [58] ++ [47, 110, 105, 120, 47, 115, 116, 111, 114, 101] ++ [58] ++ n)) = TV.v (stv t), ((k ++ [58, 115, 104, 97, 50, 53, 54, 58] ++ x ++ [58] ++ [47, 110, 105, 120, 47, 115, 116, 111, 114, 101] ++ [58]).length : Int) + (n.length : Int) ≤ 9223372036854775807], qL (pcW 31 #[stv t] (.v (stv u))), qL (pc 34 #[stv u, .int .i64 20] (.v (stv v))), qL (pc 33 #[stv v] (.v (stv b))), [((11 : Nat) : Int) + (b.length : Int) ≤ 9223372036854775807, ((dirL ++ b).length : Int) + ((1 : Nat) : Int) ≤ 9223372036854775807, ((dirL ++ b ++ [45]).length : Int) + (n.length : Int) ≤ 9223372036854775807]].flatten) (by kernel_rfl)
   (all_flat ⟨⟨hb, trivial⟩, all_qL _, ⟨by omega, trivial⟩, all_qL _, ⟨by simp only [List.length_append, List.length_cons, List.length_nil]; omega, by simp only [List.length_append, List.length_cons, List.length_nil]; omega, by simp only [List.length_append, List.length_cons, List.length_nil]; omega, by simp only [List.length_append, List.length_cons, List.length_nil]; omega, tv_str ht2, by simp only [List.length_append, List.length_cons, List.length_nil]; omega, trivial⟩, all_qL _, all_qL _, all_qL _, ⟨by omega, by simp only [List.length_append, List.length_cons, List.length_nil]; omega, by simp only [List.length_append, List.length_cons, List.length_nil]; omega, trivial⟩, trivial⟩) fun ρ' w' hf _ => ⟨rfl, hf⟩
abbrev hMk (k h n : List UInt8) (o : Option (List UInt8)) : Hint := pcW 12 #[stv k, stv h, stv n] (makeV o)
theorem hMk_ok {w0 : World} {wr : Bs} (id : Nat) (k h n : List UInt8) (o : Option (List UInt8)) (hk : k.length ≤ 800000) (hh : h.length ≤ 1000000000) (hn : n.length ≤ 1000000000) (hG : S3.Glob w0) (h0 : 0 ∉ wr.l) (h1 : 1 ∉ wr.l) (he : makeR k h n = o) : HintAt Tryz.prog w0 wr id (hMk k h n o) := by
 subst he
 refine pcW_ok ent12 (v := makeW (makeR k h n)) ?_ (fun _ => ?_) fun w hf => make_any k h n hk hh hn w (glob_keep hG hf h0 h1)
 ·cases makeR k h n with
  | none => exact tup2_ok _ _ rfl rfl
  | some x => exact tup2_ok _ _ rfl rfl
 ·cases makeR k h n <;> rfl
theorem parse_of (a n : List UInt8) (ha : mayP a = true) (hn : nmP n = true) : parseR (dirL ++ a ++ [45] ++ n) = some (a, n) := by
 have hal := may_len ha
 have hd : (dirL ++ a ++ [45] ++ n).drop 11 = a ++ [45] ++ n := by rw [List.append_assoc, List.append_assoc, List.append_assoc]; rfl
 have h1 : preP (dirL ++ a ++ [45] ++ n) dirL = true := by
  unfold preP
  rw [Bool.and_eq_true]
  refine ⟨decide_eq_true (by simp only [List.length_append]; omega), ?_⟩
  rw [List.append_assoc, List.append_assoc, List.take_left]
  exact BEq.rfl
 have h32 : (a ++ [45] ++ n).take 32 = a := by rw [List.append_assoc, ← hal, List.take_left]
 have hd32 : (a ++ [45] ++ n).drop 32 = [45] ++ n := by rw [List.append_assoc, ← hal, List.drop_left]
 have h3 : preP ([45] ++ n) [45] = true := by
  unfold preP
  rw [Bool.and_eq_true]
  exact ⟨decide_eq_true (by simp), by rfl⟩
 unfold parseR
 rw [h1, hd, h32, hd32, h3, ha, show (([45] : List UInt8) ++ n).drop 1 = n from rfl, hn, decide_eq_true (by simp only [List.length_append]; omega)]
 rfl
theorem parse_make (k h n : List UInt8) (hn : nmP n = true) : parseR (makeL k h n) = some (partM k h n, n) := parse_of _ _ (partM_may k h n) hn
def seedL (s : List UInt8) : List UInt8 := (List.range 32).map fun q => s.getD q 0
theorem seedL_len (s : List UInt8) : (seedL s).length = 32 := by unfold seedL; rw [List.length_map, List.length_range]
abbrev sdF (s : List UInt8) (i : Nat) : Nat → List Value := fun q => [.int .u8 (((if q < i then s.getD q 0 else 0 : UInt8).toNat : Nat) : Int)]
abbrev sdR (s : List UInt8) (i : Nat) : Row := ⟨[.fnc (sdF s i) 1 32], true, some (5, 1)⟩
abbrev sdT (s : List UInt8) (i : Nat) : List (Nat × TV) := [(0, .v (stv s)), (3, .s (.lf (.sl 2000 0 0 1 32 none))), (4, .int .i64 (i : Int))]
theorem sd_end {s : List UInt8} {i : Nat} (h : 32 ≤ i ∨ s.length ≤ i) : (List.range 32).map (fun q => ubyte (sdF s i (addN 0 q))) = seedL s := by
 unfold seedL
 apply List.map_congr_left
 intro q hq
 have hq := List.mem_range.1 hq
 rw [addN_eq, Nat.zero_add]
 have : (if q < i then s.getD q 0 else 0 : UInt8) = s.getD q 0 := by
  by_cases hqi : q < i
  ·rw [if_pos hqi]
  ·rw [if_neg hqi, List.getD_eq_getElem?_getD, List.getElem?_eq_none (by omega)]; rfl
 show ubyte [.int .u8 (((if q < i then s.getD q 0 else 0 : UInt8).toNat : Nat) : Int)] = _
 rw [this]
 show UInt8.ofNat (((s.getD q 0).toNat : Nat) : Int).toNat = _
 rw [Int.toNat_natCast]
 simp
set_option maxRecDepth 100000 in
theorem seed_any (s : List UInt8) (hs : s.length ≤ 9223372036854775807) (w : World) : Calls Tryz.prog 13 #[stv s] w fun e w' => e = .returned (stv (seedL s)) ∧ Below w.heap.size w w' := by
 refine At.calls (args := [.v (stv s)]) (rows := []) (gl := []) (wr := []) (ρ := fun _ => (⟨0, 0, 0⟩ : Blk)) Tryz.func13 rfl rfl (init_rw ⟨rfl, trivial⟩ rfl rfl rfl (fun p hp => by cases hp) (fun p hp => by cases hp) (fun p hp => by cases hp)) rfl ?_
 have hloop : ∀ i : Nat, i ≤ 32 → At Tryz.prog w nB Tryz.f13.ntmps [] (lp Tryz.f13 0) (EndX Tryz.prog Tryz.f13 fun e w' => e = .returned (stv (seedL s)) ∧ Below w.heap.size w w') (sdT s i) [(2000, sdR s i)] := by
  refine At.loop (fun i : Nat => sdT s i) (fun i => [(2000, sdR s i)]) (fun i => i ≤ 32) (fun i => 32 - i) fun i hi ih => ?_
  have hsh : ∀ q, q < 32 → ∃ c : UInt8, sdF s i (addN 0 q) = [.int .u8 (c.toNat : Int)] := fun q _ => ⟨_, rfl⟩
  by_cases h1 : i < 32
  ·by_cases h2 : i < s.length
   ·obtain ⟨c, hc⟩ : ∃ c, c = (s.getD i 0).toNat := ⟨_, rfl⟩
    have hv : TV.int .u8 (((s.getD (i : Int).toNat 0).toNat : Nat) : Int) = TV.int .u8 (c : Int) := tv_int (by rw [hc, Int.toNat_natCast])
    refine At.run rfl [(2004001, .val (.v (.bool true))), (2004006, .val (.v (.bool true))), (2006004, .val (.int .u8 (c : Int)))] ⟨trivial, trivial, trivial, trivial⟩ [.d] (tm2 := sdT s (i + 1)) (rows2 := [(2000, ⟨[.fnc (updF (sdF s i) (addN 0 (i : Int).toNat) ((sdF s i (addN 0 (i : Int).toNat)).set 0 (.int .u8 (c : Int)))) 1 32], true, some (5, 1)⟩)]) (ob := [TV.v (.bool (decide ((i : Int) < 32))) = TV.v (.bool true), TV.v (.bool (decide ((i : Int) < (s.length : Int)))) = TV.v (.bool true), TV.int .u8 (((s.getD (i : Int).toNat 0).toNat : Nat) : Int) = TV.int .u8 (c : Int), 0 ≤ (i : Int) ∧ (i : Int) < (s.length : Int), 0 ≤ (i : Int) ∧ (i : Int) < ((32 : Nat) : Int), addN 0 (i : Int).toNat < 32, inI ((i : Int) + 1)]) (td := lp Tryz.f13 0) (by kernel_rfl) ⟨tv_b (decide_eq_true (by omega)), tv_b (decide_eq_true (by omega)), hv, ⟨by omega, by omega⟩, ⟨by omega, by omega⟩, by rw [addN_eq]; omega, ⟨by omega, by omega⟩, trivial⟩ rfl rfl (by intro h; cases h) ?_
    refine At.rows (rows2 := [(2000, sdR s (i + 1))]) (rowsEq_fnc (fun q hq => ?_) trivial) rfl (ih (i + 1) h1 (by show 32 - (i + 1) < 32 - i; omega))
    rw [addN_eq, Nat.zero_add, Int.toNat_natCast]
    unfold updF
    cases hb : Nat.beq q i with
    | true =>
     obtain rfl := Nat.eq_of_beq_eq_true hb
     show [Value.int .u8 (c : Int)] = [Value.int .u8 (((if q < q + 1 then s.getD q 0 else 0 : UInt8).toNat : Nat) : Int)]
     rw [if_pos (by omega), hc]
    | false =>
     have hne : q ≠ i := fun e => by rw [e, Nat.beq_refl] at hb; cases hb
     show [Value.int .u8 (((if q < i then s.getD q 0 else 0 : UInt8).toNat : Nat) : Int)] = [Value.int .u8 (((if q < i + 1 then s.getD q 0 else 0 : UInt8).toNat : Nat) : Int)]
     by_cases hqi : q < i
     ·rw [if_pos hqi, if_pos (by omega)]
     ·rw [if_neg hqi, if_neg (by omega)]
   ·have he := sd_end (s := s) (i := i) (.inr (by omega))
    rw [← he]
    exact At.fin rfl [(2004001, .val (.v (.bool true))), (2004006, .val (.v (.bool false)))] ⟨trivial, trivial, trivial⟩ [.d] (x := .v (stv ((List.range 32).map fun q => ubyte (sdF s i (addN 0 q))))) (ob := [TV.v (.bool (decide ((i : Int) < 32))) = TV.v (.bool true), TV.v (.bool (decide ((i : Int) < (s.length : Int)))) = TV.v (.bool false), 32 ≤ 32, ∀ q, q < 32 → ∃ c : UInt8, sdF s i (addN 0 q) = [.int .u8 (c.toNat : Int)]]) (by kernel_rfl) ⟨tv_b (decide_eq_true (by omega)), tv_b (decide_eq_false (by omega)), by decide, hsh, trivial⟩ fun ρ' w' hf _ => ⟨rfl, hf.below⟩
  ·have he := sd_end (s := s) (i := i) (.inl (by omega))
   rw [← he]
   exact At.fin rfl [(2004001, .val (.v (.bool false)))] ⟨trivial, trivial⟩ [.d] (x := .v (stv ((List.range 32).map fun q => ubyte (sdF s i (addN 0 q))))) (ob := [TV.v (.bool (decide ((i : Int) < 32))) = TV.v (.bool false), 32 ≤ 32, ∀ q, q < 32 → ∃ c : UInt8, sdF s i (addN 0 q) = [.int .u8 (c.toNat : Int)]]) (by kernel_rfl) ⟨tv_b (decide_eq_false (by omega)), by decide, hsh, trivial⟩ fun ρ' w' hf _ => ⟨rfl, hf.below⟩
 refine At.run rfl [] trivial [] (tm2 := sdT s 0) (rows2 := [(2000, ⟨[.fnc (fun _ => (Value.int .u8 0).cells.toList) 1 32], true, some (5, 1)⟩)]) (ob := [0 ≤ (32 : Int) ∧ (32 : Int) ≤ 32, ((Tryz.prog.types[5].bytes : Nat) : Int) * 32 ≤ 140737488355328 ∧ (32 : Int) ≤ 9223372036854775807]) (td := lp Tryz.f13 0) (by kernel_rfl) ⟨⟨by decide, by decide⟩, ⟨by decide +kernel, by decide⟩, trivial⟩ rfl rfl (by intro h; cases h) ?_
 exact At.rows (rows2 := [(2000, sdR s 0)]) (rowsEq_fnc (fun q hq => by show [Value.int .u8 0] = [Value.int .u8 (((if q < 0 then s.getD q 0 else 0 : UInt8).toNat : Nat) : Int)]; rw [if_neg (by omega)]; rfl) trivial) rfl (hloop 0 (by decide))
abbrev hSe (s : List UInt8) : Hint := pc 13 #[stv s] (.v (stv (seedL s)))
theorem hSe_ok (id : Nat) (s : List UInt8) (hs : s.length ≤ 9223372036854775807) : HintOk Tryz.prog id (hSe s) := pc_ok ent13 (v := stv (seedL s)) rfl (fun _ => rfl) fun w => seed_any s hs w
abbrev txtK : List UInt8 := [116, 101, 120, 116]
abbrev helloL : List UInt8 := [104, 101, 108, 108, 111]
set_option maxRecDepth 100000 in
theorem awake_any (w : World) (hG : S3.Glob w) : Calls Tryz.prog 4 #[] w fun e w' => e = .returned (.bool true) ∧ Fr w [] w' := by
 refine At.calls (args := []) (rows := []) (gl := []) (wr := []) (ρ := fun _ => (⟨0, 0, 0⟩ : Blk)) Tryz.func4 rfl rfl (init_rw trivial rfl rfl rfl (fun p hp => by cases hp) (fun p hp => by cases hp) (fun p hp => by cases hp)) rfl ?_
 have k1 := hPa_ok 2000 [47, 110, 105, 120, 47, 115, 116, 111, 114, 101] none (by decide) (by decide +kernel)
 have k2 : HintOk Tryz.prog 3000 (pc 13 #[stv [104]] (.v (stv (seedL [104])))) := hSe_ok 3000 [104] (by decide)
 have hl := seedL_len [104]
 generalize seedL [104] = h at k2 hl
 have hn : nmP helloL = true := by decide +kernel
 have hm : makeR txtK h helloL = some (makeL txtK h helloL) := by unfold makeR; rw [hl, hn]; rfl
 have k3 := hMk_ok (wr := ⟨[], fun _ => (⟨0, 0, 0⟩ : Blk), []⟩) 3001 txtK h helloL _ (by decide) (by omega) (by decide) hG (by simp) (by simp) hm
 have hpl : (makeL txtK h helloL).length = 49 := by unfold makeL; simp only [List.length_append, partM_len, List.length_cons, List.length_nil]
 have k4 := hPa_ok 4001 (makeL txtK h helloL) _ (by omega) (parse_make txtK h helloL hn)
 generalize partM txtK h helloL = a at k4
 generalize makeL txtK h helloL = p at k3 k4 hpl
 exact At.fin rfl [(2000, hPa [47, 110, 105, 120, 47, 115, 116, 111, 114, 101] none), (3000, pc 13 #[stv [104]] (.v (stv h))), (3001, hMk txtK h helloL (some p)), (4001, hPa p (some (a, helloL))), (2005015, .val (.v (.bool true)))] ⟨k1, k2, k3, k4, trivial, trivial⟩ [] (x := .v (.bool true)) (ob := [qL (hPa [47, 110, 105, 120, 47, 115, 116, 111, 114, 101] none), qL (pc 13 #[stv [104]] (.v (stv h))), qL (hMk txtK h helloL (some p)), qL (hPa p (some (a, helloL))), [TV.v (.bool ((p.length : Int) == 49)) = TV.v (.bool true)]].flatten) (by kernel_rfl) (all_flat ⟨all_qL _, all_qL _, all_qL _, all_qL _, ⟨tv_b (by rw [hpl]; rfl), trivial⟩, trivial⟩) fun ρ' w' hf _ => ⟨rfl, hf⟩
abbrev hAw : Hint := pcW 4 #[] (.v (.bool true))
theorem hAw_ok {w0 : World} {wr : Bs} (id : Nat) (hG : S3.Glob w0) (h0 : 0 ∉ wr.l) (h1 : 1 ∉ wr.l) : HintAt Tryz.prog w0 wr id hAw := pcW_ok ent4 (v := .bool true) rfl (fun _ => rfl) fun w hf => awake_any w (glob_keep hG hf h0 h1)
end
end Go.Proofs.YtdbbcngolcnniaaGreatDoor
/- The document's Places. Its condition: lengths that fit. -/
namespace Go.Proofs.YtdbbcngolcnniaaGreatDoor
open Go.RowKit Go.Shelf
set_option linter.unusedVariables false
set_option linter.unusedSimpArgs false
section
open E
theorem ent27 : Enters Tryz.prog 27 := enters_of Tryz.func27 (by kernel_rfl) rfl
set_option maxRecDepth 100000 in
theorem stands_any (s p : List UInt8) (i : Nat) (hs : s.length ≤ 1000000000) (hp : p.length ≤ 1000000000) (hi : i ≤ 1000000000) (w : World) : Calls Tryz.prog 27 #[stv s, .int .i64 (i : Int), stv p] w (BoolQ w (stP s p i)) := by
 refine At.calls (args := [.v (stv s), .int .i64 (i : Int), .v (stv p)]) (rows := []) (gl := []) (wr := []) (ρ := fun _ => (⟨0, 0, 0⟩ : Blk)) Tryz.func27 rfl rfl (init_rw ⟨rfl, rfl, rfl, trivial⟩ rfl rfl rfl (fun p hp => by cases hp) (fun p hp => by cases hp) (fun p hp => by cases hp)) rfl ?_
 have i1 : inI ((i : Int) + (p.length : Int)) := ⟨by omega, by omega⟩
 by_cases h : i + p.length ≤ s.length
 ·have e : stP s p i = (((s.take ((i : Int) + (p.length : Int)).toNat).drop (i : Int).toNat) == p) := by
   unfold stP
   rw [decide_eq_true h, Bool.true_and, show ((i : Int) + (p.length : Int)).toNat = i + p.length by omega, Int.toNat_natCast, List.drop_take, Nat.add_sub_cancel_left]
  rw [e]
  exact At.fin rfl [(2002007, .val (.v (.bool true)))] ⟨trivial, trivial⟩ [] (x := .v (.bool (((s.take ((i : Int) + (p.length : Int)).toNat).drop (i : Int).toNat) == p))) (ob := [inI ((i : Int) + (p.length : Int)), TV.v (.bool (decide ((i : Int) + (p.length : Int) ≤ (s.length : Int)))) = TV.v (.bool true), inI ((i : Int) + (p.length : Int)), 0 ≤ (i : Int) + (p.length : Int) ∧ (i : Int) + (p.length : Int) ≤ (s.length : Int), 0 ≤ (i : Int) ∧ (i : Int) ≤ (i : Int) + (p.length : Int)]) (by kernel_rfl) ⟨i1, by rw [decide_eq_true (by omega)], i1, ⟨by omega, by omega⟩, ⟨by omega, by omega⟩, trivial⟩ fun ρ' w' hf _ => ⟨rfl, hf.below⟩
 ·have e : stP s p i = false := by unfold stP; rw [decide_eq_false h]; rfl
  rw [e]
  exact At.fin rfl [(2002007, .val (.v (.bool false)))] ⟨trivial, trivial⟩ [] (x := .v (.bool false)) (ob := [inI ((i : Int) + (p.length : Int)), TV.v (.bool (decide ((i : Int) + (p.length : Int) ≤ (s.length : Int)))) = TV.v (.bool false)]) (by kernel_rfl) ⟨i1, by rw [decide_eq_false (by omega)], trivial⟩ fun ρ' w' hf _ => ⟨rfl, hf.below⟩
abbrev hSd (s p : List UInt8) (i : Nat) (b : Bool) : Hint := pc 27 #[stv s, .int .i64 (i : Int), stv p] (.v (.bool b))
theorem hSd_ok (id : Nat) (s p : List UInt8) (i : Nat) (b : Bool) (hs : s.length ≤ 1000000000) (hp : p.length ≤ 1000000000) (hi : i ≤ 1000000000) (h : stP s p i = b) : HintOk Tryz.prog id (hSd s p i b) := pc_ok ent27 (v := .bool b) rfl (fun _ => rfl) fun w => by rw [← h]; exact stands_any s p i hs hp hi w
abbrev inF (l : List Nat) : Nat → List Value := fun q => [.int .i64 ((l.getD q 0 : Nat) : Int)]
abbrev inR (l : List Nat) (n : Nat) : Row := ⟨[.fnc (inF l) 1 n], true, some (3, 1)⟩
theorem inR_ok (l : List Nat) (n : Nat) : pok (inR l n).ps := pok1 fun i => ⟨rfl, fun v hv => by obtain rfl := List.mem_singleton.1 hv; rfl⟩
def slT (r : Nat) : Nat → TV
 | 0 => .v nilS
 | n + 1 => .s (.lf (.sl r 0 0 1 (n + 1) none))
def rwT (r : Nat) (l : List Nat) : Nat → List (Nat × Row)
 | 0 => []
 | n + 1 => [(r, inR l (n + 1))]
def IOut (w : World) (l : List Nat) (e : Ending) (w' : World) : Prop := Fr w [] w' ∧ ((l = [] ∧ e = .returned nilS) ∨ (l ≠ [] ∧ ∃ B : Blk, e = .returned (.slice (some ⟨B.1, 0, none⟩) l.length B.3) ∧ B.2 = 0 ∧ w.heap.size ≤ B.1 ∧ RowAt (fun _ => B) 0 (inR l l.length) w'))
theorem iout_row {w w' : World} {ρ : Env} {r n : Nat} {l : List Nat} (hf : Fr w [] w') (h : RowAt ρ r (inR l (n + 1)) w') (hn : n + 1 = l.length) (hb : w.heap.size ≤ (ρ r).1) : IOut w l (.returned ((TV.s (.lf (.sl r 0 0 1 (n + 1) none))).val ρ)) w' := by
 have h0 : (ρ r).2 = 0 := (h.2.2.1 3 1 rfl).1
 refine ⟨hf, .inr ⟨(fun e => by rw [e] at hn; cases hn), ρ r, ?_, h0, hb, ?_⟩⟩
 ·show Ending.returned (.slice (some ⟨(ρ r).1, (ρ r).2 + (0 + 0 * 1), none⟩) (n + 1) ((ρ r).3 - 0)) = _
  rw [h0, ← hn]; rfl
 ·rw [← hn]; exact rowAt_mv h rfl
theorem in_step (l : List Nat) (n i : Nat) (hn : n = l.length) : ∀ q, q < n + 1 → appF (inF l) n (fun q => chunkF [.int .i64 (i : Int)] 1 1 (addN 0 q)) q = inF (l ++ [i]) q := by
 intro q hq
 subst hn
 by_cases h : q < l.length
 ·rw [appF_lo h]
  show [Value.int .i64 ((l.getD q 0 : Nat) : Int)] = [Value.int .i64 (((l ++ [i]).getD q 0 : Nat) : Int)]
  rw [List.getD_eq_getElem?_getD, List.getD_eq_getElem?_getD, List.getElem?_append_left h]
 ·obtain rfl : q = l.length := by omega
  rw [appF_hi (Nat.le_refl _), Nat.sub_self]
  show [Value.int .i64 (i : Int)] = [Value.int .i64 (((l ++ [i]).getD l.length 0 : Nat) : Int)]
  simp
theorem in_one (i : Nat) : ∀ q, q < 1 → chunkF [.int .i64 (i : Int)] 1 1 (addN 0 q) = inF [i] q := by
 intro q hq
 obtain rfl : q = 0 := by omega
 rfl
abbrev hI0 (f : Nat) (args : Env → Array Value) (pre : List (Nat × Row)) : Hint := .call ⟨f, args, .s (.lf (.v nilS)), pre, [], none, []⟩
abbrev hI1 (f : Nat) (args : Env → Array Value) (pre : List (Nat × Row)) (id : Nat) (l : List Nat) : Hint := .call ⟨f, args, .s (.lf (.sl id 0 0 1 l.length none)), pre, [], some (inR l l.length), []⟩
theorem hI0_of {f id : Nat} {args : Env → Array Value} {pre : List (Nat × Row)} (he : Enters Tryz.prog f) (h : ∀ (ρ : Env) (w : World), (∀ p ∈ pre, RowAt ρ p.1 p.2 w) → Calls Tryz.prog f (args ρ) w (IOut w [])) : HintOk Tryz.prog id (hI0 f args pre) := by
 refine call_ok he rfl (fun p hp => by cases hp) fun ρ w hr => (h ρ w hr).mono ?_
 rintro e w' ⟨hf, ⟨_, rfl⟩ | ⟨h1, _⟩⟩
 ·exact ⟨⟨0, 0, 0⟩, rfl, hf, (fun p hp => by cases hp), fun row hrw => by cases hrw⟩
 ·exact absurd rfl h1
theorem hI1_of {f id : Nat} {args : Env → Array Value} {pre : List (Nat × Row)} {l : List Nat} (hl : l ≠ []) (he : Enters Tryz.prog f) (h : ∀ (ρ : Env) (w : World), (∀ p ∈ pre, RowAt ρ p.1 p.2 w) → Calls Tryz.prog f (args ρ) w (IOut w l)) : HintOk Tryz.prog id (hI1 f args pre id l) := by
 refine call_ok he trivial (fun p hp => by cases hp) fun ρ w hr => (h ρ w hr).mono ?_
 rintro e w' ⟨hf, ⟨h1, _⟩ | ⟨_, B, rfl, h0, hb, hrow⟩⟩
 ·exact absurd h1 hl
 ·refine ⟨B, ?_, hf, (fun p hp => by cases hp), fun row hrw => ?_⟩
  ·show _ = Ending.returned (.slice (some ⟨(setE ρ id B id).1, (setE ρ id B id).2 + (0 + 0 * 1), none⟩) l.length ((setE ρ id B id).3 - 0))
   rw [setE_same, h0]; rfl
  ·cases hrw
   exact ⟨hb, rowAt_mv hrow (setE_same ρ id B), inR_ok _ _⟩
theorem ent9 : Enters Tryz.prog 9 := enters_of Tryz.func9 (by kernel_rfl) rfl
structure PlX where
 i : Nat
 l : List Nat
 n : Nat
abbrev plT (s p : List UInt8) (r : Nat) (x : PlX) : List (Nat × TV) := [(0, .v (stv s)), (1, .v (stv p)), (5, slT r x.n), (6, .int .i64 (x.i : Int))]
set_option maxRecDepth 100000 in
theorem rplaces_any (s p : List UInt8) (hs : s.length ≤ 1000000) (hp : p.length ≤ 1000000) (w : World) : Calls Tryz.prog 9 #[stv s, stv p] w (IOut w (placesL s p)) := by
 refine At.calls (args := [.v (stv s), .v (stv p)]) (rows := []) (gl := []) (wr := []) (ρ := fun _ => (⟨0, 0, 0⟩ : Blk)) Tryz.func9 rfl rfl (init_rw ⟨rfl, rfl, trivial⟩ rfl rfl rfl (fun p hp => by cases hp) (fun p hp => by cases hp) (fun p hp => by cases hp)) rfl ?_
 cases hm : mayP p with
 | false =>
  have e : placesL s p = [] := by unfold placesL; rw [hm, if_neg (by simp)]
  rw [e]
  exact At.fin rfl [(3001, hMp p false)] ⟨hMp_ok _ _ _ (by omega) hm, trivial⟩ [.y] (x := .v nilS) (ob := [qL (hMp p false), [true = true]].flatten) (by kernel_rfl) (all_flat ⟨all_qL _, ⟨rfl, trivial⟩, trivial⟩) fun ρ' w' hf _ => ⟨hf, .inl ⟨rfl, rfl⟩⟩
 | true =>
  have e : placesL s p = pl s p 0 := by unfold placesL; rw [hm, if_pos rfl]
  rw [e]
  have hp32 := may_len hm
  have hloop : ∀ x : PlX, (x.n = x.l.length ∧ x.l ++ pl s p x.i = pl s p 0 ∧ x.i ≤ 1000100) → At Tryz.prog w nB Tryz.f9.ntmps [] (lp Tryz.f9 0) (EndX Tryz.prog Tryz.f9 (IOut w (pl s p 0))) (plT s p 2904 x) (rwT 2904 x.l x.n) := by
   refine At.loop (fun x : PlX => plT s p 2904 x) (fun x => rwT 2904 x.l x.n) (fun x => x.n = x.l.length ∧ x.l ++ pl s p x.i = pl s p 0 ∧ x.i ≤ 1000100) (fun x => 1000200 - x.i) ?_
   rintro ⟨i, l, n⟩ ⟨hn, hl, hi⟩ ih
   simp only at hn hl hi ih ⊢
   have i1 : inI ((i : Int) + (p.length : Int)) := ⟨by omega, by omega⟩
   have i2 : inI ((i : Int) + 1) := ⟨by omega, by omega⟩
   have hnl : n ≤ 1000000 := by
    have h1 := congrArg List.length hl
    rw [List.length_append] at h1
    have := pl_len s p (by omega) 0
    omega
   by_cases h : i + p.length ≤ s.length
   ·have hdc : decide ((i : Int) + (p.length : Int) ≤ (s.length : Int)) = true := decide_eq_true (by omega)
    by_cases hw : (s.drop i).take p.length = p
    ·have hst : stP s p i = true := by unfold stP; rw [decide_eq_true h, Bool.true_and]; simpa using hw
     have hk : HintOk Tryz.prog 7003 (hSd s p i true) := hSd_ok _ _ _ _ _ (by omega) (by omega) (by omega) hst
     have hl2 : (l ++ [i]) ++ pl s p (i + p.length) = pl s p 0 := by rw [← hl, pl_yes (by omega) h hw]; simp
     have h9 := ih ⟨i + p.length, l ++ [i], n + 1⟩ ⟨by rw [List.length_append, hn]; rfl, hl2, by show i + p.length ≤ _; omega⟩ (by show 1000200 - (i + p.length) < 1000200 - i; omega)
     have e6 : ((i + p.length : Nat) : Int) = (i : Int) + (p.length : Int) := by omega
     have hren : At Tryz.prog w nB Tryz.f9.ntmps [] (lp Tryz.f9 0) (EndX Tryz.prog Tryz.f9 (IOut w (pl s p 0))) [(0, .v (stv s)), (1, .v (stv p)), (5, .s (.lf (.sl 8003 0 0 1 (n + 1) none))), (6, .int .i64 ((i : Int) + (p.length : Int)))] [(8003, inR (l ++ [i]) (n + 1))] := by
      rw [← e6]
      exact At.ren [(2904, 8003)] (plT s p 2904 ⟨i + p.length, l ++ [i], n + 1⟩) (rwT 2904 (l ++ [i]) (n + 1)) rfl rfl rfl rfl rfl h9
     cases n with
     | zero =>
      obtain rfl : l = [] := List.length_eq_zero_iff.1 hn.symm
      refine At.run rfl [(7003, hSd s p i true)] ⟨hk, trivial⟩ [.y, .y] (tm2 := [(0, .v (stv s)), (1, .v (stv p)), (5, .s (.lf (.sl 8003 0 0 1 (0 + 1) none))), (6, .int .i64 ((i : Int) + (p.length : Int)))]) (rows2 := [(8003, ⟨[.fnc (fun q => chunkF [.int .i64 (i : Int)] 1 1 (addN 0 q)) 1 1], true, some (3, 1)⟩)]) (ob := [[inI ((i : Int) + (p.length : Int)), decide ((i : Int) + (p.length : Int) ≤ (s.length : Int)) = true], qL (hSd s p i true), [true = true, 0 < 1, 1 ≤ 9223372036854775807, 8 ≤ 140737488355328, 1 ≤ 1, inI ((i : Int) + (p.length : Int))]].flatten) (td := lp Tryz.f9 0) (by kernel_rfl) (all_flat ⟨⟨i1, hdc, trivial⟩, all_qL _, ⟨rfl, by decide, by decide, by decide, by decide, i1, trivial⟩, trivial⟩) rfl rfl (by intro h; cases h) ?_
      exact At.rows (rows2 := [(8003, inR ([] ++ [i]) (0 + 1))]) (rowsEq_fnc (in_one i) trivial) rfl hren
     | succ n =>
      refine At.run rfl [(7003, hSd s p i true)] ⟨hk, trivial⟩ [.y, .y] (tm2 := [(0, .v (stv s)), (1, .v (stv p)), (5, .s (.lf (.sl 8003 0 0 1 (n + 1 + 1) none))), (6, .int .i64 ((i : Int) + (p.length : Int)))]) (rows2 := [(8003, ⟨[.fnc (appF (inF l) (n + 1) fun q => chunkF [.int .i64 (i : Int)] 1 1 (addN 0 q)) 1 (n + 1 + 1)], true, some (3, 1)⟩)]) (ob := [[inI ((i : Int) + (p.length : Int)), decide ((i : Int) + (p.length : Int) ≤ (s.length : Int)) = true], qL (hSd s p i true), [true = true, n + 1 = n + 1, n + 1 + 1 ≤ 9223372036854775807, (n + 1 + 1) * 8 ≤ 140737488355328, 1 ≤ 1, inI ((i : Int) + (p.length : Int))]].flatten) (td := lp Tryz.f9 0) (by kernel_rfl) (all_flat ⟨⟨i1, hdc, trivial⟩, all_qL _, ⟨rfl, rfl, by omega, by omega, by decide, i1, trivial⟩, trivial⟩) rfl rfl (by intro h; cases h) ?_
      exact At.rows (rows2 := [(8003, inR (l ++ [i]) (n + 1 + 1))]) (rowsEq_fnc (in_step l (n + 1) i hn) trivial) rfl hren
    ·have hst : stP s p i = false := by unfold stP; rw [decide_eq_true h, Bool.true_and]; simpa using hw
     have hk : HintOk Tryz.prog 7003 (hSd s p i false) := hSd_ok _ _ _ _ _ (by omega) (by omega) (by omega) hst
     have h9 := ih ⟨i + 1, l, n⟩ ⟨hn, by rw [← hl, pl_no (by omega) h hw], by show i + 1 ≤ _; omega⟩ (by show 1000200 - (i + 1) < 1000200 - i; omega)
     cases n with
     | zero => exact At.run rfl [(7003, hSd s p i false)] ⟨hk, trivial⟩ [.y, .n] (tm2 := plT s p 2904 ⟨i + 1, l, 0⟩) (rows2 := []) (ob := [[inI ((i : Int) + (p.length : Int)), decide ((i : Int) + (p.length : Int) ≤ (s.length : Int)) = true], qL (hSd s p i false), [false = false, inI ((i : Int) + 1)]].flatten) (td := lp Tryz.f9 0) (by kernel_rfl) (all_flat ⟨⟨i1, hdc, trivial⟩, all_qL _, ⟨rfl, i2, trivial⟩, trivial⟩) rfl rfl (by intro h; cases h) h9
     | succ n => exact At.run rfl [(7003, hSd s p i false)] ⟨hk, trivial⟩ [.y, .n] (tm2 := plT s p 2904 ⟨i + 1, l, n + 1⟩) (rows2 := [(2904, inR l (n + 1))]) (ob := [[inI ((i : Int) + (p.length : Int)), decide ((i : Int) + (p.length : Int) ≤ (s.length : Int)) = true], qL (hSd s p i false), [false = false, inI ((i : Int) + 1)]].flatten) (td := lp Tryz.f9 0) (by kernel_rfl) (all_flat ⟨⟨i1, hdc, trivial⟩, all_qL _, ⟨rfl, i2, trivial⟩, trivial⟩) rfl rfl (by intro h; cases h) h9
   ·have hdc : decide ((i : Int) + (p.length : Int) ≤ (s.length : Int)) = false := decide_eq_false (by omega)
    rw [pl_end h, List.append_nil] at hl
    rw [← hl]
    cases n with
    | zero =>
     obtain rfl : l = [] := List.length_eq_zero_iff.1 hn.symm
     exact At.fin rfl [] trivial [.n] (x := .v nilS) (ob := [inI ((i : Int) + (p.length : Int)), decide ((i : Int) + (p.length : Int) ≤ (s.length : Int)) = false]) (by kernel_rfl) ⟨i1, hdc, trivial⟩ fun ρ' w' hf _ => ⟨hf, .inl ⟨rfl, rfl⟩⟩
    | succ n =>
     refine At.finR rfl [] trivial [.n] (rows2 := [(2904, inR l (n + 1))]) (x := .s (.lf (.sl 2904 0 0 1 (n + 1) none))) (ob := [inI ((i : Int) + (p.length : Int)), decide ((i : Int) + (p.length : Int) ≤ (s.length : Int)) = false]) (by kernel_rfl) ⟨i1, hdc, trivial⟩ fun ρ' w' hf he _ hq => ?_
     obtain ⟨g1, _, g3⟩ := hq _ (List.mem_singleton.2 rfl)
     exact iout_row hf g1 hn ((g3 rfl).resolve_right (by simp))
  exact At.run rfl [(3001, hMp p true)] ⟨hMp_ok _ _ _ (by omega) hm, trivial⟩ [.n] (tm2 := plT s p 2904 ⟨0, [], 0⟩) (rows2 := []) (ob := [qL (hMp p true), [false = false]].flatten) (td := lp Tryz.f9 0) (by kernel_rfl) (all_flat ⟨all_qL _, ⟨rfl, trivial⟩, trivial⟩) rfl rfl (by intro h; cases h) (hloop ⟨0, [], 0⟩ ⟨rfl, rfl, Nat.zero_le _⟩)
end
end Go.Proofs.YtdbbcngolcnniaaGreatDoor
/- The windows of a text: the iterator of package scan. Its condition: lengths that fit. -/
namespace Go.Proofs.YtdbbcngolcnniaaGreatDoor
open Go Go.RowKit
set_option linter.unusedVariables false
set_option linter.unusedSimpArgs false
section
open E
theorem ent43 : Enters Tryz.prog 43 := enters_of Tryz.func43 (by kernel_rfl) rfl
theorem ent73 : Enters Tryz.prog 73 := enters_of Tryz.func73 (by kernel_rfl) rfl
abbrev wnd (s : List UInt8) (k : Nat) : List UInt8 := (s.drop k).take 32
abbrev wndR (s : List UInt8) : Row := ⟨[.one (.v (stv s))], false, none⟩
abbrev boxP : TV := .s (.lf (.ptr 0 0 0 0 0))
abbrev yv (l : Nat) : TV := .v (.func (.yield l) #[] #[])
abbrev wnT (s : List UInt8) (l k : Nat) : List (Nat × TV) := [(0, yv l), (1, boxP), (6, .int .i64 ((s.length : Int) - 31)), (7, .int .i64 (k : Int))]
abbrev wnY (s : List UInt8) (l k : Nat) : List (Nat × TV) := [(0, yv l), (1, boxP), (6, .int .i64 ((s.length : Int) - 31)), (7, .int .i64 (k : Int)), (3, .int .i64 (k : Int))]
abbrev encN (s : List UInt8) (x : Fin (s.length - 31)) : Array Value := #[.int .i64 (x.1 : Int), stv (wnd s x.1)]
set_option maxRecDepth 100000 in
theorem wnd_stops (s : List UInt8) (hs : s.length ≤ 1000000000) (w : World) (e : Env) (h : ∀ W, Below w.heap.size w W → RowAt e 0 (wndR s) W) :
  SeqStopsK (FW none) 5 Tryz.prog 73 #[.pointer (some ⟨(e 0).1, (e 0).2, none⟩)] (encN s) (fun W W' => ∀ r ∈ [0], W'.heap[(e r).1]? = W.heap[(e r).1]?) (fun xs => xs = List.finRange (s.length - 31)) (fun _ => True) (s.length - 31) w := by
 have hok : pok (wndR s).ps := fun p hp => by simp at hp; subst hp; rfl
 refine seq_ok2 (args := [boxP]) (rows := [(0, wndR s)]) (gl := []) Tryz.func73 rfl rfl rfl (fun W hW l => ?_) fun l J Jx W hJ hJx hY h0 => ?_
 ·exact init_ro1 ⟨rfl, trivial, trivial⟩ rfl rfl ⟨⟨h W hW, hok⟩, trivial⟩
 ·have hloop : ∀ x : Nat × World, (x.1 ≤ s.length - 31 ∧ J ((List.finRange (s.length - 31)).take x.1) x.2) → At Tryz.prog x.2 ⟨[], e, []⟩ Tryz.f73.ntmps [] (lp Tryz.f73 0) (EndX Tryz.prog Tryz.f73 fun e W' => (∃ v, e = .returned v) ∧ ((∃ xs, xs = List.finRange (s.length - 31) ∧ J xs W') ∨ (∃ pre, True ∧ Jx pre W'))) (wnT s l x.1) [(0, wndR s)] := by
   refine At.loopW (fun x : Nat × World => x.2) (fun _ => ⟨[], e, []⟩) (fun x => wnT s l x.1) (fun _ => [(0, wndR s)]) (fun x => x.1 ≤ s.length - 31 ∧ J ((List.finRange (s.length - 31)).take x.1) x.2) (fun x => s.length - 31 - x.1) fun ⟨k, W1⟩ ⟨hk, hJ1⟩ ih => ?_
   simp only at hk hJ1 ih ⊢
   by_cases hlt : k < s.length - 31
   ·refine At.run rfl [] trivial [.y] (tm2 := wnY s l k) (rows2 := [(0, wndR s)]) (ob := [decide ((k : Int) < (s.length : Int) - 31) = true]) (td := rp Tryz.f73 3) (by kernel_rfl) ⟨decide_eq_true (by omega), trivial⟩ rfl rfl (by intro h; cases h) ?_
    have ht : (List.finRange (s.length - 31)).take k ++ [⟨k, hlt⟩] = (List.finRange (s.length - 31)).take (k + 1) := by
     rw [List.take_add_one, List.getElem?_eq_getElem (by simpa using hlt)]; simp
    have hv : TV.v (stv (List.drop (k : Int).toNat (List.take ((k : Int) + 32).toNat s))) = TV.v (stv (wnd s k)) := tv_str (by
     rw [List.drop_take, show ((k : Int) + 32).toNat - (k : Int).toNat = 32 by omega, Int.toNat_natCast])
    have ho : all [inI ((k : Int) + 32), TV.v (stv (List.drop (k : Int).toNat (List.take ((k : Int) + 32).toNat s))) = TV.v (stv (wnd s k)), 0 ≤ (k : Int) + 32 ∧ (k : Int) + 32 ≤ (s.length : Int), 0 ≤ (k : Int) ∧ (k : Int) ≤ (k : Int) + 32] := ⟨⟨by omega, by omega⟩, hv, ⟨by omega, by omega⟩, ⟨by omega, by omega⟩, trivial⟩
    refine At.yieldAt rfl 7 ((List.finRange (s.length - 31)).take k) ⟨k, hlt⟩ [(2004006, .val (.v (stv (wnd s k))))] ⟨trivial, trivial⟩ [0] hJ hJ1 (by simp; omega) hY (fun W W' h => h) (tmT := wnT s l k ++ [(18, .v (.bool false))]) (rowsT := [(0, wndR s)]) (tmF := [(18, .v (.bool true))]) (o1 := [inI ((k : Int) + 32), TV.v (stv (List.drop (k : Int).toNat (List.take ((k : Int) + 32).toNat s))) = TV.v (stv (wnd s k)), 0 ≤ (k : Int) + 32 ∧ (k : Int) + 32 ≤ (s.length : Int), 0 ≤ (k : Int) ∧ (k : Int) ≤ (k : Int) + 32]) (o2 := []) (o3 := []) (vs := [.int .i64 k, .v (stv (wnd s k))]) rfl (by kernel_rfl) (by kernel_rfl) ho (fun ρ _ => rfl) rfl rfl (fun W' hJ2 => ?_) (fun W' hJ2 => ?_)
    ·rw [ht] at hJ2
     refine At.run rfl [] trivial [.d] (tm2 := wnT s l (k + 1)) (rows2 := [(0, wndR s)]) (ob := [inI ((k : Int) + 1)]) (td := lp Tryz.f73 0) (by kernel_rfl) ⟨⟨by omega, by omega⟩, trivial⟩ rfl rfl (by intro h; cases h) ?_
     exact ih (k + 1, W') ⟨hlt, hJ2⟩ (by show s.length - 31 - (k + 1) < s.length - 31 - k; omega)
    ·exact At.fin rfl [] trivial [.d] (x := .tup []) (ob := []) (by kernel_rfl) trivial fun ρ W2 hf _ => ⟨⟨_, rfl⟩, .inr ⟨_, trivial, abides_fr hJx hJ2 hf⟩⟩
   ·obtain rfl : k = s.length - 31 := by omega
    rw [List.take_of_length_le (by simp)] at hJ1
    exact At.fin rfl [] trivial [.n] (x := .tup []) (ob := [decide (((s.length - 31 : Nat) : Int) < (s.length : Int) - 31) = false]) (by kernel_rfl) ⟨decide_eq_false (by omega), trivial⟩ fun ρ W2 hf _ => ⟨⟨_, rfl⟩, .inl ⟨_, rfl, abides_fr hJ hJ1 hf⟩⟩
  refine At.run rfl [] trivial [] (tm2 := wnT s l 0) (rows2 := [(0, wndR s)]) (ob := [inI ((s.length : Int) - 31)]) (td := lp Tryz.f73 0) (by kernel_rfl) ⟨⟨by omega, by omega⟩, trivial⟩ rfl rfl (by intro h; cases h) ?_
  exact hloop (0, W) ⟨by omega, by simpa using h0⟩
end
end Go.Proofs.YtdbbcngolcnniaaGreatDoor
/- The program's Places. Its condition: lengths that fit. -/
namespace Go.Proofs.YtdbbcngolcnniaaGreatDoor
open Go.RowKit Go.Shelf
set_option linter.unusedVariables false
set_option linter.unusedSimpArgs false
section
open E
theorem E.At.dummy {P : Program} {w0 : World} {wr : Bs} {n : Nat} {gl : List Nat} {todo : List Item} {Q : Exit → Act → World → Prop} {tm : List (Nat × TV)} {rows : List (Nat × Row)} {r : Option Nat} {mk : List Nat} (q r0 : Nat) (y0 : Row)
  (hq : (Nat.ble 1000 q && !(hasN (rows.map (·.1) ++ gl.map (500 + ·)) q)) = true) (h0 : findR rows r0 = some y0) (hw0 : y0.w = false)
  (h : At P w0 wr n gl todo Q tm ((q, noR) :: rows) r mk) : At P w0 wr n gl todo Q tm rows r mk := by
 intro a w ρ hd
 simp only [Bool.and_eq_true, Bool.not_eq_true'] at hq
 obtain ⟨hq1, hq2⟩ := hq
 have hq1 := Nat.le_of_ble_eq_true hq1
 have hr0 : (mkSt n tm rows gl mk).row r0 = some y0 := h0
 obtain ⟨B, hB⟩ : ∃ B, B = ρ r0 := ⟨_, rfl⟩
 have hne : ∀ s, (mkSt n tm rows gl mk).used s = true → s ≠ q := by
  intro s hs e
  rw [e] at hs
  rw [show (mkSt n tm rows gl mk).used q = hasN (rows.map (·.1) ++ gl.map (500 + ·)) q from rfl, hq2] at hs
  cases hs
 have hup : ∀ s, (mkSt n tm rows gl mk).used s = true → (mkSt n tm ((q, noR) :: rows) gl mk).used s = true := by
  intro s hs
  have := hasN_iff.1 hs
  exact hasN_iff.2 (List.mem_cons_of_mem _ this)
 have hself : (mkSt n tm ((q, noR) :: rows) gl mk).used q = true := hasN_iff.2 (List.mem_cons_self ..)
 have hrow : ∀ s y, (mkSt n tm ((q, noR) :: rows) gl mk).row s = some y → (s = q ∧ y = noR) ∨ (s ≠ q ∧ (mkSt n tm rows gl mk).row s = some y) := by
  intro s y hs
  simp only [mkSt, findR] at hs
  cases hb : Nat.beq q s with
  | true => rw [hb] at hs; cases hs; exact .inl ⟨(Nat.eq_of_beq_eq_true hb).symm, rfl⟩
  | false => rw [hb] at hs; exact .inr ⟨fun e => by rw [e] at hb; simp at hb, hs⟩
 refine h a w (setE ρ q B) ⟨hd.sz, hd.df, hd.mf, hd.ko, fun t x hx => ?_, fun s y hs => ?_, fun s p y z hs hp hsp hw => ?_, hd.fr, fun s hs => ?_, fun s hs => hup s (hd.ku s hs), fun g hg hu => ?_, fun s C hs => by cases hs⟩
 ·obtain ⟨g1, g2, g3⟩ := hd.tm t x hx
  exact ⟨by rw [g1, TV.val_congr (fun s hs => (setE_ne ρ B (hne s (g3 s hs))).symm)], g2, fun s hs => hup s (g3 s hs)⟩
 ·rcases hrow s y hs with ⟨rfl, rfl⟩ | ⟨hsq, hs⟩
  ·obtain ⟨g1, _, _, g4⟩ := (hd.rw r0 y0 hr0).1
   refine ⟨?_, (fun p hp => by cases hp), hself, (fun p hp => by cases hp), (fun hw => by cases hw)⟩
   unfold RowAt
   rw [setE_same, hB]
   exact ⟨g1, (fun j v hv => by cases hv), (fun e k he => by cases he), g4⟩
  ·obtain ⟨g1, g2, g3, g4, g5⟩ := hd.rw s y hs
   refine ⟨?_, g2, hup s g3, fun p hp => hup p (g4 p hp), by rw [setE_ne ρ B hsq]; exact g5⟩
   unfold RowAt at g1 ⊢
   rw [setE_ne ρ B hsq, lst_congr (σ := ρ) (fun p hp => setE_ne ρ B (hne p (g4 p hp)))]
   exact g1
 ·rcases hrow s y hs with ⟨rfl, rfl⟩ | ⟨hsq, hs2⟩
  ·cases hw
  ·rw [setE_ne ρ B hsq]
   rcases hrow p z hp with ⟨e1, _⟩ | ⟨hpq, hp2⟩
   ·rw [e1, setE_same, hB]
    refine hd.ds s r0 y y0 hs2 hr0 (fun e => ?_) hw
    rw [e, hr0] at hs2
    cases hs2
    rw [hw0] at hw; cases hw
   ·rw [setE_ne ρ B hpq]
    exact hd.ds s p y z hs2 hp2 hsp hw
 ·rw [setE_ne ρ B (by
   rcases hs with hs | hs
   ·omega
   ·exact hne s (hd.ku s hs))]
  exact hd.e0 s hs
 ·rw [setE_ne ρ B (by omega)]
  refine hd.gl g hg ?_
  have := hasN_iff.1 hu
  rcases List.mem_cons.1 this with e | h1
  ·simp at e; omega
  ·exact hasN_iff.2 h1
abbrev hWn (s : List UInt8) (id : Nat) : Hint := .call ⟨43, fun _ => #[stv s], .s (.lf (.clo 73 [id])), [], [], some (wndR s), []⟩
theorem wndR_ok (s : List UInt8) : pok (wndR s).ps := fun p hp => by simp at hp; subst hp; rfl
theorem hWn_ok (s : List UInt8) (id : Nat) : HintOk Tryz.prog id (hWn s id) := by
 refine call_ok ent43 trivial (fun p hp => by cases hp) fun ρ w _ => ?_
 refine At.calls (args := [.v (stv s)]) (rows := []) (gl := []) (wr := []) (ρ := fun _ => (⟨0, 0, 0⟩ : Blk)) Tryz.func43 rfl rfl (init_rw ⟨rfl, trivial⟩ rfl rfl rfl (fun p hp => by cases hp) (fun p hp => by cases hp) (fun p hp => by cases hp)) rfl ?_
 refine At.finR rfl [] trivial [] (rows2 := [(1000, ⟨[.one (.v (stv s))], true, none⟩)]) (x := .s (.lf (.clo 73 [1000]))) (ob := []) (by kernel_rfl) trivial fun ρ' w' hf _ _ hq => ?_
 obtain ⟨g1, _, g3⟩ := hq _ (List.mem_singleton.2 rfl)
 have hb : w.heap.size ≤ (ρ' 1000).1 := (g3 rfl).resolve_right (by simp)
 refine ⟨ρ' 1000, ?_, hf, (fun p hp => by cases hp), fun row hrw => ?_⟩
 ·show Ending.returned ((TV.s (.lf (.clo 73 [1000]))).val ρ') = .returned ((TV.s (.lf (.clo 73 [id]))).val (setE ρ id (ρ' 1000)))
  simp [TV.val, SV.val, Lf.val, setE_same]
 ·cases hrw
  refine ⟨hb, ?_, wndR_ok s⟩
  unfold RowAt at g1 ⊢
  rw [setE_same]
  obtain ⟨k1, k2, _, k4⟩ := g1
  exact ⟨k1, fun j v hv => ⟨(k2 j v hv).1, fun h => by cases h⟩, (fun e k he => by cases he), k4⟩
end
end Go.Proofs.YtdbbcngolcnniaaGreatDoor
