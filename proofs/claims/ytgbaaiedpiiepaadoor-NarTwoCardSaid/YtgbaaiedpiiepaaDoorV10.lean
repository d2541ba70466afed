/- Several texts, one behind the other; each says by itself what it proves, and on what conditions. -/
import Derived.Test.YtgbaaiedpiiepaaDoorV09
import Derived.Lib.FrozenHead2
import Derived.Lib.OthersKept
/- Of the program: where a path is cut, the piece ahead of a stroke, whether a node may follow another one. Its conditions: lengths that fit. -/
namespace Go.Proofs.YtgbaaiedpiiepaaDoor
open Go.RowKit Go.Shelf
set_option linter.unusedVariables false
set_option linter.unusedSimpArgs false
theorem last_split {l : List UInt8} {c : UInt8} (h : c ∈ l) : ∃ a n, l = a ++ c :: n ∧ c ∉ n := by
  obtain ⟨a, n, e, ha⟩ := split_at (List.mem_reverse.2 h)
  refine ⟨n.reverse, a.reverse, ?_, by simpa using ha⟩
  have := congrArg List.reverse e
  simpa using this
theorem at_data {s : ByteArray} {j : Nat} (h : j < s.data.toList.length) : s.data[j]! = s.data.toList[j] := by
  have h2 : j < s.data.size := by simpa using h
  rw [getElem!_pos s.data j h2]
  simp
theorem lix_pos {s : ByteArray} {a n : List UInt8} (h : s.data.toList = a ++ 47 :: n) (hn : 47 ∉ n) : Lib.lastIndexByte s 47 = (a.length : Int) := by
  have hl : s.data.toList.length = s.size := rfl
  have hsz : s.size = a.length + (n.length + 1) := by rw [← hl, h]; simp
  rcases Lib.lastIndexByte_spec s 47 with ⟨_, h2⟩ | ⟨i, hi, he, hc, h2⟩
  · exfalso
    apply h2 a.length (by omega)
    rw [at_data (by omega)]
    simp [h]
  · rw [he]
    have hai : ¬ i < a.length := fun hlt => h2 a.length hlt (by omega) (by rw [at_data (by omega)]; simp [h])
    by_cases e : i = a.length
    · rw [e]
    · exfalso
      rw [at_data (by omega)] at hc
      have hk : s.data.toList[i]'(by omega) = n[i - a.length - 1]'(by omega) := by
        simp only [h]
        rw [List.getElem_append_right (by omega)]
        rw [List.getElem_cons]
        rw [dif_neg (by omega)]
      rw [hk] at hc
      apply hn
      have : n[i - a.length - 1]'(by omega) = 47 := UInt8.toNat_inj.1 (by show _ = 47; omega)
      rw [← this]
      exact List.getElem_mem _
theorem lix_neg {s : ByteArray} (h : 47 ∉ s.data.toList) : Lib.lastIndexByte s 47 = -1 := by
  rcases Lib.lastIndexByte_spec s 47 with ⟨h1, _⟩ | ⟨i, hi, he, hc, _⟩
  · exact h1
  · exfalso
    have hl : s.data.toList.length = s.size := rfl
    rw [at_data (by omega)] at hc
    apply h
    have : s.data.toList[i]'(by omega) = 47 := UInt8.toNat_inj.1 (by show _ = 47; omega)
    rw [← this]
    exact List.getElem_mem _
theorem ent66 : E.Enters Tryd.prog 66 := enters_of Tryd.func66 (by kernel_rfl) rfl
theorem ent69 : E.Enters Tryd.prog 69 := enters_of Tryd.func69 (by kernel_rfl) rfl
theorem ent68 : E.Enters Tryd.prog 68 := enters_of Tryd.func68 (by kernel_rfl) rfl
theorem mixed : Tryd.prog.follows .mixedOrders = true := rfl
open E in
theorem part_i (s : ByteArray) (i : Int) (hi : Lib.lastIndexByte s 47 = i) (h1 : -1 ≤ i) (h2 : i < (lb s).length) (hl : s.size ≤ 1000000) (w : World) : Calls Tryd.prog 51 #[.string s] w fun e w' => e = .returned (.tuple #[.string (bl ((lb s).take i.toNat)), .string (bl ((lb s).drop (i + 1).toNat))]) ∧ Below w.heap.size w w' := by
  have h3 : (lb s).length = s.size := rfl
  refine straight [.v (.string s)] [(2001, pc 66 #[.string s, .string ⟨#[47]⟩] (.int .i64 i))] [] Tryd.func51 rfl mixed ⟨pc_ok ent66 (v := .int .i64 i) rfl (fun _ => rfl) (fun w => ?_), trivial⟩ ⟨rfl, trivial⟩ rfl rfl rfl (ρ0 := fun _ => ⟨0, 0, 0⟩)
    (ob := [∀ ρ : Env, #[Value.string s, .string ⟨#[47]⟩] = #[Value.string s, .string ⟨#[47]⟩], (0 ≤ bif true then (if i > 0 then i else 0) else (if i < 0 then i else 0)) ∧ (bif true then (if i > 0 then i else 0) else (if i < 0 then i else 0)) ≤ ((lb s).length : Int), inI (i + 1), 0 ≤ i + 1 ∧ i + 1 ≤ ((lb s).length : Int)])
    (x := .tup [.lf (.v (.string (bl ((lb s).take (bif true then (if i > 0 then i else 0) else (if i < 0 then i else 0)).toNat)))), .lf (.v (.string (bl ((lb s).drop (i + 1).toNat))))]) (by kernel_rfl) ?_ (fun _ => ?_)
  · refine (strings_LastIndex_one s ⟨#[47]⟩ rfl (by omega) w).mono ?_
    rintro e w' ⟨rfl, rfl⟩
    exact ⟨by rw [← hi]; rfl, Below.refl _ _⟩
  · refine ⟨fun _ => rfl, ?_, ⟨by omega, by omega⟩, by omega, trivial⟩
    simp only [cond_true]
    split <;> omega
  · simp only [cond_true]
    have : (if i > 0 then i else 0).toNat = i.toNat := by split <;> omega
    rw [this]
    rfl
theorem part_any (l : List UInt8) (hl : l.length ≤ 1000000) (w : World) : Calls Tryd.prog 51 #[strV l] w fun e w' => e = .returned (.tuple #[strV (cutL l).1, strV (cutL l).2]) ∧ Below w.heap.size w w' := by
  by_cases h : 47 ∈ l
  · obtain ⟨a, n, rfl, hn⟩ := last_split h
    have := part_i ⟨(a ++ 47 :: n).toArray⟩ a.length (lix_pos (s := ⟨(a ++ 47 :: n).toArray⟩) rfl hn) (by omega) (by show _ < (((a ++ 47 :: n).length : Nat) : Int); simp; omega) hl w
    refine this.mono ?_
    rintro e w' ⟨rfl, hb⟩
    refine ⟨?_, hb⟩
    rw [cut_at a n hn]
    have e1 : (E.lb ⟨(a ++ 47 :: n).toArray⟩).take ((a.length : Int)).toNat = a := by
      rw [E.lb, Int.toNat_natCast]; simp
    have e2 : (E.lb ⟨(a ++ 47 :: n).toArray⟩).drop ((a.length : Int) + 1).toNat = n := by
      rw [E.lb, show ((a.length : Int) + 1).toNat = a.length + 1 by omega]; simp
    rw [e1, e2]; rfl
  · have := part_i ⟨l.toArray⟩ (-1) (lix_neg (s := ⟨l.toArray⟩) h) (by omega) (by show _ < ((l.length : Nat) : Int); omega) hl w
    refine this.mono ?_
    rintro e w' ⟨rfl, hb⟩
    exact ⟨by rw [cut_none l h]; rfl, hb⟩
/-- What stands ahead of a stroke. -/
def headL (l : List UInt8) : List UInt8 := l.takeWhile (· != 47)
theorem headL_at {a n : List UInt8} (h : 47 ∉ a) : headL (a ++ 47 :: n) = a := by
  unfold headL
  rw [List.takeWhile_append_of_pos (fun x hx => by simp; rintro rfl; exact h hx)]
  simp
theorem headL_none {a : List UInt8} (h : 47 ∉ a) : headL a = a := by
  unfold headL
  have := List.takeWhile_append_of_pos (p := (· != (47 : UInt8))) (l₁ := a) (l₂ := []) (fun x hx => by simp; rintro rfl; exact h hx)
  simpa using this
/-- What stands behind the first stroke. -/
def tailL (l : List UInt8) : List UInt8 := l.drop ((headL l).length + 1)
open E in
theorem cutS_any (s : ByteArray) (hl : s.size ≤ 1000000) (w : World) : Calls Tryd.prog 68 #[.string s, .string ⟨#[47]⟩] w fun e w' => e = .returned (.tuple #[strV (headL (lb s)), strV (tailL (lb s)), .bool (decide (47 ∈ lb s))]) ∧ Below w.heap.size w w' := by
  have h3 : (lb s).length = s.size := rfl
  have hc : ∀ i, Lib.indexByte (lb s) 47 = i → allC Tryd.prog [(2002, pc 69 #[.string s, .string ⟨#[47]⟩] (.int .i64 i))] := fun i hi => ⟨pc_ok ent69 (v := .int .i64 i) rfl (fun _ => rfl) (fun w => (stringslite_Index_one s 47 w).mono (by rintro e w' ⟨rfl, rfl⟩; exact ⟨by rw [← hi]; rfl, Below.refl _ _⟩)), trivial⟩
  by_cases h : 47 ∈ lb s
  · obtain ⟨a, n, e, ha⟩ := split_at h
    have hi : Lib.indexByte (lb s) 47 = (a.length : Int) := by rw [e, ix_pos ha]
    have hal : a.length + n.length + 1 = (lb s).length := by rw [e]; simp; omega
    refine (straight [.v (.string s), .v (.string ⟨#[47]⟩)] _ [.y] Tryd.func68 rfl mixed (hc _ hi) ⟨rfl, rfl, trivial⟩ rfl rfl rfl (ρ0 := fun _ => ⟨0, 0, 0⟩) (v := .tuple #[.string (bl ((lb s).take a.length)), .string (bl ((lb s).drop (a.length + 1))), .bool true])
      (ob := [∀ ρ : Env, #[Value.string s, .string ⟨#[47]⟩] = #[Value.string s, .string ⟨#[47]⟩], decide ((a.length : Int) ≥ 0) = true, 0 ≤ (a.length : Int) ∧ (a.length : Int) ≤ ((lb s).length : Int), inI ((a.length : Int) + 1), 0 ≤ (a.length : Int) + 1 ∧ (a.length : Int) + 1 ≤ ((lb s).length : Int)])
      (x := .tup [.lf (.v (.string (bl ((lb s).take ((a.length : Int)).toNat)))), .lf (.v (.string (bl ((lb s).drop ((a.length : Int) + 1).toNat)))), .lf (.v (.bool true))]) (by kernel_rfl) ?_ (fun _ => rfl)).mono ?_
    · exact ⟨fun _ => rfl, decide_eq_true (by omega), by omega, ⟨by omega, by omega⟩, by omega, trivial⟩
    · rintro e2 w' ⟨rfl, hb⟩
      refine ⟨?_, hb⟩
      have h5 : headL (lb s) = (lb s).take a.length := by rw [e, headL_at ha]; simp
      have h6 : tailL (lb s) = (lb s).drop (a.length + 1) := by unfold tailL; rw [e, headL_at ha]
      rw [h5, h6, decide_eq_true h]; rfl
  · have hi : Lib.indexByte (lb s) 47 = -1 := ix_neg h
    refine (straight [.v (.string s), .v (.string ⟨#[47]⟩)] _ [.n] Tryd.func68 rfl mixed (hc _ hi) ⟨rfl, rfl, trivial⟩ rfl rfl rfl (ρ0 := fun _ => ⟨0, 0, 0⟩) (v := .tuple #[.string s, .string ⟨#[]⟩, .bool false])
      (ob := [∀ ρ : Env, #[Value.string s, .string ⟨#[47]⟩] = #[Value.string s, .string ⟨#[47]⟩], decide ((-1 : Int) ≥ 0) = false])
      (x := .tup [.lf (.v (.string s)), .lf (.v (.string ⟨#[]⟩)), .lf (.v (.bool false))]) (by kernel_rfl) ⟨fun _ => rfl, rfl, trivial⟩ (fun _ => rfl)).mono ?_
    rintro e2 w' ⟨rfl, hb⟩
    refine ⟨?_, hb⟩
    have h6 : tailL (lb s) = [] := by unfold tailL; rw [headL_none h]; simp
    rw [headL_none h, h6, decide_eq_false h]; rfl
open E in
theorem cut_one_any (l : List UInt8) (hl : l.length ≤ 1000000) (w : World) : Calls Tryd.prog 53 #[strV l, .string ⟨#[47]⟩] w fun e w' => e = .returned (.tuple #[strV (headL l), strV (tailL l), .bool (decide (47 ∈ l))]) ∧ Below w.heap.size w w' := by
  refine straight [.v (strV l), .v (.string ⟨#[47]⟩)] [(2002, pc 68 #[strV l, .string ⟨#[47]⟩] (.tup [.lf (.v (strV (headL l))), .lf (.v (strV (tailL l))), .lf (.v (.bool (decide (47 ∈ l))))]))] [] Tryd.func53 rfl mixed ⟨pc_ok ent68 (v := .tuple #[strV (headL l), strV (tailL l), .bool (decide (47 ∈ l))]) (by intro x hx; simp at hx; rcases hx with rfl | rfl | rfl <;> rfl) (fun _ => rfl) (fun w => cutS_any ⟨l.toArray⟩ hl w), trivial⟩ ⟨rfl, rfl, trivial⟩ rfl rfl rfl (ρ0 := fun _ => ⟨0, 0, 0⟩)
    (ob := [∀ ρ : Env, #[strV l, .string ⟨#[47]⟩] = #[strV l, .string ⟨#[47]⟩]]) (x := .tup [.lf (.v (strV (headL l))), .lf (.v (strV (tailL l))), .lf (.v (.bool (decide (47 ∈ l))))]) (by kernel_rfl) ⟨fun _ => rfl, trivial⟩ (fun _ => rfl)
theorem cutPre_any (p q : List UInt8) (w : World) : Calls Tryd.prog 52 #[strV p, strV q] w fun e w' => e = .returned (.tuple #[strV (Lib.trimPrefix p q), .bool (Lib.hasPrefix p q)]) ∧ w' = w := strings_CutPrefix ⟨p.toArray⟩ ⟨q.toArray⟩ w
/-- Whether a node may stand right behind another one. -/
def followsL (c d : Nd) : Bool :=
  if (cutL d.path).1 = c.path then decide (c.kind = 4)
  else if (cutL d.path).1 = [] then ltL (headL c.path) (cutL d.path).2
  else (((cutL d.path).1 ++ [47]).isPrefixOf c.path && ltL (headL (c.path.drop ((cutL d.path).1.length + 1))) (cutL d.path).2)
theorem ent51 : E.Enters Tryd.prog 51 := enters_of Tryd.func51 (by kernel_rfl) rfl
theorem ent52 : E.Enters Tryd.prog 52 := enters_of Tryd.func52 (by kernel_rfl) rfl
theorem ent53 : E.Enters Tryd.prog 53 := enters_of Tryd.func53 (by kernel_rfl) rfl
theorem ok2 {a b : Value} (ha : a.oneCell' = true) (hb : b.oneCell' = true) : (E.TV.tup [.lf (.v a), .lf (.v b)]).ok := by
  intro x hx; simp at hx; rcases hx with rfl | rfl
  · exact ha
  · exact hb
theorem ok3 {a b c : Value} (ha : a.oneCell' = true) (hb : b.oneCell' = true) (hc : c.oneCell' = true) : (E.TV.tup [.lf (.v a), .lf (.v b), .lf (.v c)]).ok := by
  intro x hx; simp at hx; rcases hx with rfl | rfl | rfl
  · exact ha
  · exact hb
  · exact hc
theorem str_ok (l : List UInt8) : (strV l).oneCell' = true := rfl
abbrev bx (c : Nd) : E.TV := .s (.agg [.one (.v (strV c.path)), .one (.v (.int .i64 c.kind)), .one (.v (strV c.data))])
theorem bx_ok (c : Nd) : (bx c).ok := by
  intro p hp; simp at hp; rcases hp with rfl | rfl | rfl <;> rfl
theorem bl_str (l : List UInt8) : Value.string (E.bl l) = strV l := rfl
theorem lb_bl' (l : List UInt8) : E.lb ⟨l.toArray⟩ = l := rfl
set_option maxRecDepth 100000 in
set_option maxHeartbeats 400000 in
open E in
theorem follows_any (c d : Nd) (hc : c.path.length ≤ 1000000) (hd : d.path.length ≤ 1000000) (w : World) : Calls Tryd.prog 34 #[.agg (ndV c), .agg (ndV d)] w fun e w' => e = .returned (.bool (followsL c d)) ∧ Below w.heap.size w w' := by
  obtain ⟨a, ha⟩ : ∃ a, Hid (a = (cutL d.path).1) := ⟨_, Lib.hid rfl⟩
  obtain ⟨b, hb⟩ : ∃ b, Hid (b = (cutL d.path).2) := ⟨_, Lib.hid rfl⟩
  have hal : a.length ≤ d.path.length := by
    rw [ha.out]; unfold cutL; split
    · simp; omega
    · simp
  have H1 : ∀ id, HintOk Tryd.prog id (pc 51 #[strV d.path] (.tup [.lf (.v (strV a)), .lf (.v (strV b))])) := fun id => pc_ok ent51 (v := .tuple #[strV a, strV b]) (ok2 rfl rfl) (fun _ => rfl) fun w => by rw [ha.out, hb.out]; exact part_any d.path hd w
  have H3 : ∀ id (l : List UInt8), l.length ≤ 1000000 → HintOk Tryd.prog id (pc 53 #[strV l, .string ⟨#[47]⟩] (.tup [.lf (.v (strV (headL l))), .lf (.v (strV (tailL l))), .lf (.v (.bool (decide (47 ∈ l))))])) := fun id l hl => pc_ok ent53 (v := .tuple #[strV (headL l), strV (tailL l), .bool (decide (47 ∈ l))]) (ok3 rfl rfl rfl) (fun _ => rfl) fun w => cut_one_any l hl w
  have H2 : ∀ id (q g : List UInt8) y, g = Lib.trimPrefix c.path q → y = Lib.hasPrefix c.path q → HintOk Tryd.prog id (pc 52 #[strV c.path, strV q] (.tup [.lf (.v (strV g)), .lf (.v (.bool y))])) := fun id q g y hg hy => pc_ok ent52 (v := .tuple #[strV g, .bool y]) (ok2 rfl rfl) (fun _ => rfl) fun w => (cutPre_any c.path q w).mono (by rintro e w' ⟨rfl, rfl⟩; exact ⟨by rw [hg, hy], Below.refl _ _⟩)
  unfold followsL
  rw [← ha.out, ← hb.out]
  clear ha hb
  by_cases h1 : a = c.path
  · rw [if_pos h1]
    refine straight [bx c, bx d] [(2002, _)] [.y] Tryd.func34 rfl mixed ⟨H1 _, trivial⟩ ⟨bx_ok c, bx_ok d, trivial⟩ rfl rfl (by kernel_rfl) (ρ0 := fun _ => ⟨0, 0, 0⟩) (ob := [∀ ρ : Env, #[strV d.path] = #[strV d.path], (a == c.path) = true]) (x := .v (.bool (c.kind == 4))) (by kernel_rfl) ⟨fun _ => rfl, by simpa using h1, trivial⟩ (fun _ => ?_)
    show Value.bool (c.kind == 4) = _
    congr 1
  · rw [if_neg h1]
    by_cases h2 : a = []
    · rw [if_pos h2]
      refine straight [bx c, bx d] [(2002, _), (8001, _)] [.n, .n] Tryd.func34 rfl mixed ⟨H1 _, H3 _ c.path hc, trivial⟩ ⟨bx_ok c, bx_ok d, trivial⟩ rfl rfl (by kernel_rfl) (ρ0 := fun _ => ⟨0, 0, 0⟩) (ob := [∀ ρ : Env, #[strV d.path] = #[strV d.path], (a == c.path) = false, (!a == lb ⟨#[]⟩) = false, ∀ ρ : Env, #[strV c.path, .string ⟨#[47]⟩] = #[strV c.path, .string ⟨#[47]⟩]]) (x := .v (.bool (Op.bytesLess (headL c.path) b))) (by kernel_rfl) ⟨fun _ => rfl, by simpa using h1, by rw [h2]; rfl, fun _ => rfl, trivial⟩ (fun _ => ?_)
      rw [lt_eq]; rfl
    · rw [if_neg h2]
      have hne : (!a == lb ⟨#[]⟩) = true := by
        have : ¬ a = lb ⟨#[]⟩ := h2
        simpa using this
      have hlen : ((lb ⟨a.toArray⟩).length : Int) + ((lb ⟨#[47]⟩).length : Int) ≤ 9223372036854775807 := by
        show ((a.length : Nat) : Int) + ((1 : Nat) : Int) ≤ _; omega
      by_cases h3 : (a ++ [47]).isPrefixOf c.path = true
      · have h4 : Lib.trimPrefix c.path (a ++ [47]) = c.path.drop (a.length + 1) := by unfold Lib.trimPrefix Lib.hasPrefix; rw [if_pos h3]; simp
        rw [h3, Bool.true_and]
        refine straight [bx c, bx d] [(2002, _), (7004, _), (8001, _)] [.n, .y] Tryd.func34 rfl mixed ⟨H1 _, H2 _ (a ++ [47]) (c.path.drop (a.length + 1)) true h4.symm h3.symm, H3 _ (c.path.drop (a.length + 1)) (by simp; omega), trivial⟩ ⟨bx_ok c, bx_ok d, trivial⟩ rfl rfl (by kernel_rfl) (ρ0 := fun _ => ⟨0, 0, 0⟩)
          (ob := [∀ ρ : Env, #[strV d.path] = #[strV d.path], (a == c.path) = false, (!a == lb ⟨#[]⟩) = true, ((lb ⟨a.toArray⟩).length : Int) + ((lb ⟨#[47]⟩).length : Int) ≤ 9223372036854775807, ∀ ρ : Env, #[strV c.path, .string (bl (lb ⟨a.toArray⟩ ++ lb ⟨#[47]⟩))] = #[strV c.path, strV (a ++ [47])], ∀ ρ : Env, #[strV (c.path.drop (a.length + 1)), .string ⟨#[47]⟩] = #[strV (c.path.drop (a.length + 1)), .string ⟨#[47]⟩]])
          (x := .v (.bool (Op.bytesLess (headL (c.path.drop (a.length + 1))) b))) (by kernel_rfl) ⟨fun _ => rfl, by simpa using h1, hne, hlen, fun _ => rfl, fun _ => rfl, trivial⟩ (fun _ => ?_)
        rw [lt_eq]; rfl
      · rw [Bool.not_eq_true] at h3
        have h4 : Lib.trimPrefix c.path (a ++ [47]) = c.path := by unfold Lib.trimPrefix Lib.hasPrefix; rw [h3]; simp
        rw [h3, Bool.false_and]
        refine straight [bx c, bx d] [(2002, _), (7004, _), (8001, _)] [.n, .y] Tryd.func34 rfl mixed ⟨H1 _, H2 _ (a ++ [47]) c.path false h4.symm h3.symm, H3 _ c.path hc, trivial⟩ ⟨bx_ok c, bx_ok d, trivial⟩ rfl rfl (by kernel_rfl) (ρ0 := fun _ => ⟨0, 0, 0⟩)
          (ob := [∀ ρ : Env, #[strV d.path] = #[strV d.path], (a == c.path) = false, (!a == lb ⟨#[]⟩) = true, ((lb ⟨a.toArray⟩).length : Int) + ((lb ⟨#[47]⟩).length : Int) ≤ 9223372036854775807, ∀ ρ : Env, #[strV c.path, .string (bl (lb ⟨a.toArray⟩ ++ lb ⟨#[47]⟩))] = #[strV c.path, strV (a ++ [47])], ∀ ρ : Env, #[strV c.path, .string ⟨#[47]⟩] = #[strV c.path, .string ⟨#[47]⟩]])
          (x := .v (.bool false)) (by kernel_rfl) ⟨fun _ => rfl, by simpa using h1, hne, hlen, fun _ => rfl, fun _ => rfl, trivial⟩ (fun _ => rfl)
end Go.Proofs.YtgbaaiedpiiepaaDoor
/- Calls that read, write, make rows; beginnings and ends with rows. No condition. -/
namespace Go.Proofs.YtgbaaiedpiiepaaDoor.E
open Go Go.RowKit
set_option linter.unusedVariables false
set_option linter.unusedSimpArgs false

/-- Where rows lie: row i < 500 at the i-th place of a list, row 500 + g at global g. -/
def envL (l : List Blk) : Env := fun r => bif Nat.ble 500 r then ⟨r - 500, 0, 0⟩ else l.getD r ⟨0, 0, 0⟩
theorem envL_gl (l : List Blk) (g : Nat) : envL l (500 + g) = ⟨g, 0, 0⟩ := by
  unfold envL
  rw [Nat.ble_eq_true_of_le (by omega)]
  simp
/-- A row without rows in it, said of another name for its place. -/
theorem RowAt.move {ρ σ : Env} {r q : Nat} {row : Row} {w : World} (h : RowAt ρ r row w) (he : σ q = ρ r) (hp : pids row.ps = []) : RowAt σ q row w := by
  unfold RowAt at h ⊢
  rw [he, lst_congr (ρ := σ) (σ := ρ) (fun x hx => by rw [hp] at hx; cases hx)]
  exact h
theorem RowAt.below {ρ : Env} {r : Nat} {row : Row} {w w2 : World} (h : RowAt ρ r row w) (hb : Below w.heap.size w w2) : RowAt ρ r row w2 := h.keep hb.size (hb.block _ h.1)
def rowsOk (ρ : Env) (w : World) : List (Nat × Row) → Prop
  | [] => True
  | p :: l => (RowAt ρ p.1 p.2 w ∧ pok p.2.ps) ∧ rowsOk ρ w l
theorem rowsOk_mem {ρ : Env} {w : World} : ∀ {l : List (Nat × Row)}, rowsOk ρ w l → ∀ p ∈ l, RowAt ρ p.1 p.2 w ∧ pok p.2.ps
  | [], _, p, h => by cases h
  | x :: l, h, p, hp => by
    rcases List.mem_cons.1 hp with rfl | hp
    · exact h.1
    · exact rowsOk_mem h.2 p hp
def initB (args : List TV) (rows : List (Nat × Row)) (gl : List Nat) : Bool :=
  let K := rows.map (·.1) ++ gl.map (500 + ·)
  args.all (fun x => x.ids.all (hasN K)) && rows.all (fun p => (pids p.2.ps).all (hasN K) && !p.2.w)
/-- Rows of old that are read alone. -/
theorem init_ro {w : World} {ρ : Env} {args : List TV} {rows : List (Nat × Row)} {gl : List Nat} (hok : okL args) (hb : initB args rows gl = true) (hr : rowsOk ρ w rows) (hg : ∀ g, ρ (500 + g) = ⟨g, 0, 0⟩) : Init w [] ρ args rows gl := by
  rw [initB, Bool.and_eq_true, List.all_eq_true, List.all_eq_true] at hb
  refine ⟨fun x hx => ⟨okL_mem hok x hx, fun r hr2 => List.all_eq_true.1 (hb.1 x hx) r hr2⟩, fun p hp => ?_, fun p hp q hq hne hw => ?_, fun g _ _ => hg g⟩
  · have h2 := hb.2 p hp
    rw [Bool.and_eq_true, List.all_eq_true] at h2
    refine ⟨(rowsOk_mem hr p hp).1, (rowsOk_mem hr p hp).2, h2.1, fun hw => ?_⟩
    rw [hw] at h2; cases h2.2
  · have h2 := hb.2 p hp
    rw [hw, Bool.and_eq_true] at h2
    cases h2.2

/-- A call that reads rows, writes rows, makes one. -/
theorem call_ok {P : Program} {f : FuncId} {args : Env → Array Value} {res : TV} {pre put : List (Nat × Row)} {made : Option Row} {id : Nat} (he : Enters P f) (hr : res.ok) (hput : ∀ p ∈ put, p.1 ≠ id ∧ id ∉ pids p.2.ps)
    (h : ∀ (ρ : Env) (w : World), (∀ p ∈ pre, RowAt ρ p.1 p.2 w) → Calls P f (args ρ) w fun e w' => ∃ B : Blk, e = .returned (res.val (setE ρ id B)) ∧ Fr w (put.map fun p => (ρ p.1).1) w' ∧ (∀ p ∈ put, RowAt ρ p.1 p.2 w' ∧ pok p.2.ps) ∧
      (∀ row, made = some row → w.heap.size ≤ B.1 ∧ RowAt (setE ρ id B) id row w' ∧ pok row.ps)) : HintOk P id (.call ⟨f, args, res, pre, put, made, []⟩) := by
  refine ⟨hr, fun p hp => (hput p hp).1, he, fun ρ w hp _ => (h ρ w hp).mono ?_⟩
  rintro e w' ⟨B, rfl, hf, hpt, hm⟩
  refine ⟨setE ρ id B, rfl, hr, fun r hr => setE_ne ρ B hr, ⟨hf.os, hf.tape, hf.output, hf.size, fun k hk hn => hf.block k hk ?_⟩, fun p hp => ?_, fun p hp he => ?_⟩
  · intro hm2
    apply hn
    obtain ⟨p, hp, rfl⟩ := List.mem_map.1 hm2
    simp only [List.map_nil, List.append_nil]
    exact List.mem_map.2 ⟨p, List.mem_filter.2 ⟨List.mem_append.2 (.inl hp), by simp [(hput p hp).1]⟩, rfl⟩
  · rcases List.mem_append.1 hp with hp | hp
    · refine ⟨?_, (hpt p hp).2⟩
      have h1 := (hpt p hp).1
      have h2 := (hput p hp).2
      unfold RowAt at h1 ⊢
      rw [setE_ne ρ B (hput p hp).1, lst_congr (ρ := setE ρ id B) (σ := ρ) (fun r hr => setE_ne ρ B (fun e => h2 (e ▸ hr)))]
      exact h1
    · cases made with
      | none => cases hp
      | some row =>
        simp at hp
        subst hp
        obtain ⟨_, h2, h3⟩ := hm row rfl
        exact ⟨h2, h3⟩
  · rcases List.mem_append.1 hp with hp | hp
    · exact absurd he (hput p hp).1
    · cases made with
      | none => cases hp
      | some row =>
        refine .inl ?_
        rw [setE_same]
        exact (hm row rfl).1
/-- A call that reads rows, writes rows, takes rows away, makes one. -/
theorem callE_ok {P : Program} {f : FuncId} {args : Env → Array Value} {res : TV} {pre put : List (Nat × Row)} {made : Option Row} {dels : List Nat} {id : Nat} (he : Enters P f) (hr : res.ok) (hput : ∀ p ∈ put, p.1 ≠ id ∧ id ∉ pids p.2.ps)
    (h : ∀ (ρ : Env) (w : World), (∀ p ∈ pre, RowAt ρ p.1 p.2 w) → PreDs ρ pre → Calls P f (args ρ) w fun e w' => ∃ B : Blk, e = .returned (res.val (setE ρ id B)) ∧ Fr w (put.map (fun p => (ρ p.1).1) ++ dels.map fun r => (ρ r).1) w' ∧ (∀ p ∈ put, RowAt ρ p.1 p.2 w' ∧ pok p.2.ps) ∧
      (∀ row, made = some row → (w.heap.size ≤ B.1 ∨ ∃ r ∈ dels, B.1 = (ρ r).1) ∧ RowAt (setE ρ id B) id row w' ∧ pok row.ps)) : HintOk P id (.call ⟨f, args, res, pre, put, made, dels⟩) := by
  refine ⟨hr, fun p hp => (hput p hp).1, he, fun ρ w hp hds => (h ρ w hp hds).mono ?_⟩
  rintro e w' ⟨B, rfl, hf, hpt, hm⟩
  refine ⟨setE ρ id B, rfl, hr, fun r hr => setE_ne ρ B hr, ⟨hf.os, hf.tape, hf.output, hf.size, fun k hk hn => hf.block k hk ?_⟩, fun p hp => ?_, fun p hp he => ?_⟩
  · intro hm2
    apply hn
    rcases List.mem_append.1 hm2 with hm2 | hm2
    · obtain ⟨p, hp, rfl⟩ := List.mem_map.1 hm2
      exact List.mem_append.2 (.inl (List.mem_map.2 ⟨p, List.mem_filter.2 ⟨List.mem_append.2 (.inl hp), by simp [(hput p hp).1]⟩, rfl⟩))
    · exact List.mem_append.2 (.inr hm2)
  · rcases List.mem_append.1 hp with hp | hp
    · refine ⟨?_, (hpt p hp).2⟩
      have h1 := (hpt p hp).1
      have h2 := (hput p hp).2
      unfold RowAt at h1 ⊢
      rw [setE_ne ρ B (hput p hp).1, lst_congr (ρ := setE ρ id B) (σ := ρ) (fun r hr => setE_ne ρ B (fun e => h2 (e ▸ hr)))]
      exact h1
    · cases made with
      | none => cases hp
      | some row =>
        simp at hp
        subst hp
        obtain ⟨_, h2, h3⟩ := hm row rfl
        exact ⟨h2, h3⟩
  · rcases List.mem_append.1 hp with hp | hp
    · exact absurd he (hput p hp).1
    · cases made with
      | none => cases hp
      | some row =>
        rw [setE_same]
        exact (hm row rfl).1
theorem callD_ok {P : Program} {f : FuncId} {args : Env → Array Value} {res : TV} {pre put : List (Nat × Row)} {made : Option Row} {dels : List Nat} {id : Nat} (he : Enters P f) (hr : res.ok) (hput : ∀ p ∈ put, p.1 ≠ id ∧ id ∉ pids p.2.ps)
    (h : ∀ (ρ : Env) (w : World), (∀ p ∈ pre, RowAt ρ p.1 p.2 w) → Calls P f (args ρ) w fun e w' => ∃ B : Blk, e = .returned (res.val (setE ρ id B)) ∧ Fr w (put.map (fun p => (ρ p.1).1) ++ dels.map fun r => (ρ r).1) w' ∧ (∀ p ∈ put, RowAt ρ p.1 p.2 w' ∧ pok p.2.ps) ∧
      (∀ row, made = some row → (w.heap.size ≤ B.1 ∨ ∃ r ∈ dels, B.1 = (ρ r).1) ∧ RowAt (setE ρ id B) id row w' ∧ pok row.ps)) : HintOk P id (.call ⟨f, args, res, pre, put, made, dels⟩) :=
  callE_ok he hr hput fun ρ w hp _ => h ρ w hp
/-- A call that reads rows. -/
def pr (f : FuncId) (args : Env → Array Value) (res : TV) (pre : List (Nat × Row)) : Hint := .call ⟨f, args, res, pre, [], none, []⟩
theorem pr_ok {P : Program} {f : FuncId} {args : Env → Array Value} {res : TV} {v : Value} {pre : List (Nat × Row)} {id : Nat} (he : Enters P f) (hr : res.ok) (hv : ∀ ρ, res.val ρ = v)
    (h : ∀ (ρ : Env) (w : World), (∀ p ∈ pre, RowAt ρ p.1 p.2 w) → Calls P f (args ρ) w fun e w' => e = .returned v ∧ Below w.heap.size w w') : HintOk P id (pr f args res pre) :=
  call_ok he hr (fun p hp => by cases hp) fun ρ w hp => (h ρ w hp).mono fun e w' ⟨h1, h2⟩ => ⟨⟨0, 0, 0⟩, by rw [hv]; exact h1, Fr.of_below h2 _, (fun p hp => by cases hp), (fun row hr => by cases hr)⟩
/-- The duties of a call: its arguments, the rows that it reads. -/
def qL : Hint → List Prop
  | .call c => (∀ ρ : Env, c.args ρ = c.args ρ) :: c.pre.map fun p => some p.2 = some p.2
  | .ext _ av _ => [∀ ρ : Env, av = av]
  | _ => []
theorem all_qL : ∀ c, all (qL c)
  | .call c => ⟨fun _ => rfl, by
      generalize c.pre = l
      induction l with
      | nil => trivial
      | cons p l ih => exact ⟨rfl, ih⟩⟩
  | .ext _ _ _ => ⟨fun _ => rfl, trivial⟩
  | .b _ => trivial
  | .val _ => trivial
  | .as _ _ _ _ => trivial

/-- A run to the end: results, rows. -/
def wholeR (P : Program) (C : Hints) (rs : Array ResultVar) (π : List Ch) (todo : List Item) (s : St) (ks : List Nat) : Option (List Prop × TV × List (Option Row)) :=
  match go P C 10000 π todo s with
  | some (ob, .fin e, t) => match isEnd e, resT P t rs.toList with
    | true, some (o2, x) => some (ob ++ o2, x, ks.map t.row)
    | _, _ => none
  | _ => none
theorem At.finR {r : Option Nat} {mk : List Nat} {kn : List (Nat × Blk)} {P : Program} {w0 : World} {wr : Bs} {n : Nat} {gl : List Nat} {todo : List Item} {fn : Func} {R : Ending → World → Prop} {tm : List (Nat × TV)} {rows rows2 : List (Nat × Row)} {ob : List Prop} {x : TV} (hm : P.follows .mixedOrders = true) (cs : List (Nat × Hint)) (hC : allC P cs) (π : List Ch)
    (h : wholeR P (findC cs) fn.results π todo (mkSt n tm rows gl mk kn) (rows2.map (·.1)) = some (ob, x, rows2.map fun p => some p.2)) (ho : all ob)
    (hR : ∀ ρ w, Fr w0 wr.l w → (∀ r, r < 1000 → ρ r = wr.e r) → x.ok → (∀ p ∈ rows2, RowAt ρ p.1 p.2 w ∧ pok p.2.ps ∧ (p.2.w = true → w0.heap.size ≤ (ρ p.1).1 ∨ (ρ p.1).1 ∈ wr.l)) → R (.returned (x.val ρ)) w) : At P w0 wr n gl todo (EndX P fn R) tm rows r mk kn := by
  intro a w ρ hd
  unfold wholeR at h
  split at h
  · rename_i o1 e t hg
    split at h
    · rename_i o2 x2 he hr
      simp only [Option.some.injEq, Prod.mk.injEq] at h
      obtain ⟨rfl, rfl, e2⟩ := h
      obtain ⟨ho1, ho2⟩ := all_append.1 ho
      refine go_ok (w0 := w0) (wr := wr) (Q := EndX P fn R) hm (findC_ok hC) 10000 π todo _ o1 (.fin e) t hg ho1 (fun a w ρ hd => ?_) a w ρ hd
      refine ⟨isEnd_ok he, end_ok hd hr ho2 fun w' hd g2 => hR ρ w' hd.fr (fun r hr => hd.e0 r (.inl hr)) g2 fun p hp => ?_⟩
      rw [List.map_map] at e2
      have := (List.map_inj_left.1 e2) p hp
      obtain ⟨k1, k2, _, _, k5⟩ := hd.rw p.1 p.2 this
      exact ⟨k1, k2, k5⟩
    · cases h
  · cases h
/-- A row of old of which the place is told, from here on known under a number of one's own. -/
theorem At.intro {P : Program} {w0 : World} {wr : Bs} {n : Nat} {gl : List Nat} {todo : List Item} {Q : Exit → Act → World → Prop} {tm : List (Nat × TV)} {rows : List (Nat × Row)} {r : Option Nat} {mk : List Nat} {kn : List (Nat × Blk)} (q : Nat) (B : Blk) (row : Row)
    (hq : (Nat.ble 1000 q && (!(hasN (rows.map (·.1) ++ gl.map (500 + ·)) q) && (!row.w && (pids row.ps).isEmpty))) = true) (hp : pok row.ps) (h0 : RowAt (fun _ => B) q row w0) (hB : B.1 ∉ wr.l)
    (h : At P w0 wr n gl todo Q tm ((q, row) :: rows) r mk ((q, B) :: kn)) : At P w0 wr n gl todo Q tm rows r mk kn := by
  intro a w ρ hd
  simp only [Bool.and_eq_true, Bool.not_eq_true', List.isEmpty_iff] at hq
  obtain ⟨hq1, hq2, hq3, hq4⟩ := hq
  have hq1 := Nat.le_of_ble_eq_true hq1
  have hne : ∀ s, (mkSt n tm rows gl mk kn).used s = true → s ≠ q := by
    intro s hs e
    rw [e] at hs
    rw [show (mkSt n tm rows gl mk kn).used q = hasN (rows.map (·.1) ++ gl.map (500 + ·)) q from rfl, hq2] at hs
    cases hs
  have hup : ∀ s, (mkSt n tm rows gl mk kn).used s = true → (mkSt n tm ((q, row) :: rows) gl mk ((q, B) :: kn)).used s = true := by
    intro s hs
    have := hasN_iff.1 hs
    exact hasN_iff.2 (List.mem_cons_of_mem _ this)
  have hself : (mkSt n tm ((q, row) :: rows) gl mk ((q, B) :: kn)).used q = true := hasN_iff.2 (List.mem_cons_self ..)
  have hlow : B.1 < w0.heap.size := h0.1
  have hrow : ∀ s y, (mkSt n tm ((q, row) :: rows) gl mk ((q, B) :: kn)).row s = some y → (s = q ∧ y = row) ∨ (s ≠ q ∧ (mkSt n tm rows gl mk kn).row s = some y) := by
    intro s y hs
    simp only [mkSt, findR] at hs
    cases hb : Nat.beq q s with
    | true => rw [hb] at hs; cases hs; exact .inl ⟨(Nat.eq_of_beq_eq_true hb).symm, rfl⟩
    | false => rw [hb] at hs; exact .inr ⟨fun e => by rw [e] at hb; simp at hb, hs⟩
  refine h a w (setE ρ q B) ⟨hd.sz, hd.df, hd.mf, hd.ko, fun t x hx => ?_, fun s y hs => ?_, fun s p y z hs hp hsp hw => ?_, hd.fr, fun s hs => ?_, fun s hs => hup s (hd.ku s hs), fun g hg hu => ?_, fun s C hs => ?_⟩
  · obtain ⟨g1, g2, g3⟩ := hd.tm t x hx
    exact ⟨by rw [g1, TV.val_congr (fun s hs => (setE_ne ρ B (hne s (g3 s hs))).symm)], g2, fun s hs => hup s (g3 s hs)⟩
  · rcases hrow s y hs with ⟨rfl, rfl⟩ | ⟨hsq, hs⟩
    · have h1 := h0.keep (w2 := w) hd.fr.size (hd.fr.block _ hlow hB)
      refine ⟨?_, hp, hself, (fun p hp => by rw [hq4] at hp; cases hp), (fun hw => by rw [hq3] at hw; cases hw)⟩
      unfold RowAt at h1 ⊢
      rw [setE_same, lst_congr (σ := fun _ => B) (fun p hp => by rw [hq4] at hp; cases hp)]
      exact h1
    · obtain ⟨g1, g2, g3, g4, g5⟩ := hd.rw s y hs
      refine ⟨?_, g2, hup s g3, fun p hp => hup p (g4 p hp), by rw [setE_ne ρ B hsq]; exact g5⟩
      unfold RowAt at g1 ⊢
      rw [setE_ne ρ B hsq, lst_congr (σ := ρ) (fun p hp => setE_ne ρ B (hne p (g4 p hp)))]
      exact g1
  · rcases hrow s y hs with ⟨rfl, rfl⟩ | ⟨hsq, hs2⟩
    · rw [hq3] at hw; cases hw
    · rw [setE_ne ρ B hsq]
      rcases hrow p z hp with ⟨e1, _⟩ | ⟨hpq, hp2⟩
      · rw [e1, setE_same]
        intro e
        rcases (hd.rw s y hs2).2.2.2.2 hw with h1 | h1
        · omega
        · rw [e] at h1; exact hB h1
      · rw [setE_ne ρ B hpq]
        exact hd.ds s p y z hs2 hp2 hsp hw
  · rw [setE_ne ρ B (by
      rcases hs with hs | hs
      · omega
      · exact hne s (hd.ku s hs))]
    exact hd.e0 s hs
  · rw [setE_ne ρ B (by omega)]
    refine hd.gl g hg ?_
    have := hasN_iff.1 hu
    rcases List.mem_cons.1 this with e | h1
    · simp at e; omega
    · exact hasN_iff.2 h1
  · simp only [mkSt, findK] at hs
    cases hb : Nat.beq q s with
    | true =>
      rw [hb] at hs
      cases hs
      obtain rfl := Nat.eq_of_beq_eq_true hb
      exact ⟨hself, setE_same ρ q B⟩
    | false =>
      rw [hb] at hs
      obtain ⟨g1, g2⟩ := hd.kn s C hs
      exact ⟨hup s g1, by rw [setE_ne ρ B (hne s g1)]; exact g2⟩
end Go.Proofs.YtgbaaiedpiiepaaDoor.E
/- Of the program: a number as eight bytes, a text with its length ahead and what fills it. Its conditions: a length that fits. -/
namespace Go.Proofs.YtgbaaiedpiiepaaDoor
open Go.RowKit Go.Shelf
set_option linter.unusedVariables false
set_option linter.unusedSimpArgs false
def wf (x k q : Nat) : Int := if q < k then ((x / 2 ^ (8 * q) % 256 : Nat) : Int) else 0
theorem wf_byte (x : Nat) {k q : Nat} (h : q < k) : wf x k q = ((UInt8.ofNat (x / 2 ^ (8 * q))).toNat : Int) := by
  unfold wf; rw [if_pos h]; simp
theorem wf_word (x : Nat) : (List.range 8).map (fun q => E.ubyte [.int .u8 (wf x 8 q)]) = wordL x := by
  rw [← leAt_all]
  unfold leAt
  rw [Nat.sub_self, List.replicate_zero, List.append_nil]
  apply List.map_congr_left
  intro q hq
  rw [wf_byte x (List.mem_range.1 hq)]
  show UInt8.ofNat (((UInt8.ofNat (x / 2 ^ (8 * q))).toNat : Int)).toNat = _
  rw [Int.toNat_natCast, UInt8.ofNat_toNat]
theorem shift_step (x k : Nat) : ((x / 2 ^ (8 * k) : Nat) : Int) / 2 ^ (Int.toNat 8) = ((x / 2 ^ (8 * (k + 1)) : Nat) : Int) := by
  rw [show Int.toNat 8 = 8 from rfl, show ((2 : Int) ^ 8) = ((2 ^ 8 : Nat) : Int) from rfl, ← Int.natCast_ediv, Nat.div_div_eq_div_mul, ← Nat.pow_add, Nat.mul_succ]
open E in
abbrev tmWd (x k : Nat) : List (Nat × TV) := [(3, .s (.lf (.ptr 2000 0 0 0 0))), (4, .int .u64 ((x / 2 ^ (8 * k) : Nat) : Int)), (9, .int .i64 k)]
open E in
abbrev rowWd (x k : Nat) : Nat × Row := (2000, ⟨[.fnc (fun q => [.int .u8 (wf x k q)]) 1 8], true, none⟩)
set_option maxRecDepth 100000 in
open E in
theorem pword_any (n : Int) (h1 : -9223372036854775808 ≤ n) (h2 : n ≤ 9223372036854775807) (w : World) : Calls Tryd.prog 19 #[.int .i64 n] w fun e w' => e = .returned (strV (wordL n.toNat)) ∧ Below w.heap.size w w' := by
  obtain ⟨x, hx⟩ : ∃ x, x = n.toNat := ⟨_, rfl⟩
  have hxb : x < 9223372036854775808 := by omega
  rw [← hx]
  refine At.calls (args := [.int .i64 n]) (rows := []) (gl := []) (wr := []) (ρ := fun _ => ⟨0, 0, 0⟩) Tryd.func19 rfl rfl (init_pure ⟨rfl, trivial⟩ rfl) rfl ?_
  have hloop : ∀ k, k ≤ 8 → At Tryd.prog w ⟨[], fun _ => ⟨0, 0, 0⟩, []⟩ 21 [] (lp Tryd.f19 0) (EndX Tryd.prog Tryd.f19 fun e w' => e = .returned (strV (wordL x)) ∧ Below w.heap.size w w') (tmWd x k) [rowWd x k] := by
    refine At.loop (tmWd x) (fun k => [rowWd x k]) (· ≤ 8) (fun k => 8 - k) fun k hk ih => ?_
    by_cases h : k < 8
    · refine At.run rfl [] trivial [.y] (tm2 := [(3, .s (.lf (.ptr 2000 0 0 0 0))), (4, .int .u64 (((x / 2 ^ (8 * k) : Nat) : Int) / 2 ^ (Int.toNat 8))), (9, .int .i64 (k + 1 : Nat))]) (rows2 := [(2000, ⟨[.fnc (updF (fun q => [.int .u8 (wf x k q)]) k [.int .u8 (IntKind.u8.wrap ((x / 2 ^ (8 * k) : Nat) : Int))]) 1 8], true, none⟩)])
        (ob := [decide ((k : Int) < 8) = true, 0 ≤ (k : Int) ∧ (k : Int) < ((8 : Nat) : Int), k < 8, 0 ≤ (8 : Int) ∧ (8 : Int) ≤ (IntKind.u64.bits : Int), inI ((k : Int) + 1)]) (td := lp Tryd.f19 0) (by kernel_rfl) ⟨decide_eq_true (by omega), by omega, h, by decide, ⟨by omega, by omega⟩, trivial⟩ rfl rfl (by intro h; cases h) ?_
      rw [shift_step]
      refine At.rows (rows2 := [rowWd x (k + 1)]) (rowsEq_fnc (fun i hi => ?_) trivial) rfl (ih (k + 1) h (by omega))
      by_cases hik : i = k
      · subst hik
        rw [updF_same, wrap8, wf, if_pos (by omega)]
      · rw [updF_ne _ _ hik]
        unfold wf
        by_cases hl : i < k
        · rw [if_pos hl, if_pos (by omega)]
        · rw [if_neg hl, if_neg (by omega)]
    · obtain rfl : k = 8 := by omega
      refine At.fin rfl [] trivial [.n] (x := .v (.string (bl ((List.range 8).map fun q => ubyte [.int .u8 (wf x 8 q)])))) (ob := [decide (((8 : Nat) : Int) < 8) = false, 8 ≤ 8, ∀ q, q < 8 → ∃ c : UInt8, [Value.int .u8 (wf x 8 q)] = [.int .u8 (c.toNat : Int)]]) (by kernel_rfl) ⟨rfl, by omega, fun q hq => ⟨UInt8.ofNat (x / 2 ^ (8 * q)), by rw [wf_byte x hq]⟩, trivial⟩ fun ρ w' hf _ => ⟨?_, hf.below⟩
      rw [wf_word]
      rfl
  have e0 : IntKind.u64.wrap (bif true then (if n > 0 then n else 0) else (if n < 0 then n else 0)) = ((x / 2 ^ (8 * 0) : Nat) : Int) := by
    rw [IntKind.wrap_u64, cond_true]
    simp only [Nat.mul_zero, Nat.pow_zero, Nat.div_one]
    split <;> omega
  refine At.run rfl [] trivial [] (tm2 := [(3, .s (.lf (.ptr 2000 0 0 0 0))), (4, .int .u64 (IntKind.u64.wrap (bif true then (if n > 0 then n else 0) else (if n < 0 then n else 0)))), (9, .int .i64 (0 : Nat))]) (rows2 := [(2000, ⟨[.arr #[.int .u8 0, .int .u8 0, .int .u8 0, .int .u8 0, .int .u8 0, .int .u8 0, .int .u8 0, .int .u8 0] 8], true, none⟩)]) (ob := []) (td := lp Tryd.f19 0) (by kernel_rfl) trivial rfl rfl (by intro h; cases h) ?_
  rw [e0]
  exact At.rows (rows2 := [rowWd x 0]) ⟨⟨rfl, rfl, rfl, fun _ => fun p hp => by simp at hp; subst hp; exact fun i _ => ⟨rfl, fun v hv => by simp at hv; subst hv; rfl⟩, fun ρ _ => rfl⟩, trivial⟩ rfl (hloop 0 (by omega))
theorem ent19 : E.Enters Tryd.prog 19 := enters_of Tryd.func19 (by kernel_rfl) rfl
theorem ent43 : E.Enters Tryd.prog 43 := enters_of Tryd.func43 (by kernel_rfl) rfl
theorem rep_zero : ∀ c, Lib.repeatL [0] c = List.replicate c 0
  | 0 => rfl
  | c + 1 => by rw [Lib.repeatL, rep_zero c]; rfl
theorem repeat_any (c : Nat) (hc : c ≤ 1000000) (w : World) : Calls Tryd.prog 43 #[.string ⟨#[0]⟩, .int .i64 (c : Int)] w fun e w' => e = .returned (strV (List.replicate c 0)) ∧ Below w.heap.size w w' :=
  (strings_Repeat ⟨#[0]⟩ c w (by omega) (by show 1 * c ≤ _; omega)).mono (by rintro e w' ⟨rfl, hb⟩; exact ⟨by rw [← rep_zero c]; rfl, hb⟩)
set_option maxRecDepth 100000 in
open E in
theorem pstr_any (l : List UInt8) (hl : l.length ≤ 1000000) (w : World) : Calls Tryd.prog 21 #[strV l] w fun e w' => e = .returned (strV (strL l)) ∧ Below w.heap.size w w' := by
  obtain ⟨n, hn⟩ : ∃ n : Nat, n = l.length := ⟨_, rfl⟩
  have hL : (lb ⟨l.toArray⟩).length = n := hn.symm
  have hW : ((lb ⟨(wordL n).toArray⟩).length : Int) = 8 := rfl
  have hc : (8 - (n : Int) % 8) % 8 = ((fillN n : Nat) : Int) := by unfold fillN; omega
  have hf : fillN n ≤ 8 := by unfold fillN; omega
  refine straight [.v (strV l)] [(3002, pc 19 #[.int .i64 (n : Int)] (.v (strV (wordL n)))), (3006, pc 43 #[.string ⟨#[0]⟩, .int .i64 ((fillN n : Nat) : Int)] (.v (strV (List.replicate (fillN n) 0))))] [] Tryd.func21 rfl mixed ⟨pc_ok ent19 (v := strV (wordL n)) rfl (fun _ => rfl) fun w => ?_, pc_ok ent43 (v := strV (List.replicate (fillN n) 0)) rfl (fun _ => rfl) fun w => repeat_any _ (by omega) w, trivial⟩ ⟨rfl, trivial⟩ rfl rfl rfl (ρ0 := fun _ => ⟨0, 0, 0⟩)
    (ob := [0 ≤ ((lb ⟨l.toArray⟩).length : Int) ∧ (0 : Int) < 8, inI (8 - ((lb ⟨l.toArray⟩).length : Int) % 8), 0 ≤ 8 - ((lb ⟨l.toArray⟩).length : Int) % 8 ∧ (0 : Int) < 8, ∀ ρ : Env, #[Value.int .i64 ((lb ⟨l.toArray⟩).length : Int)] = #[.int .i64 (n : Int)], ((lb ⟨(wordL n).toArray⟩).length : Int) + ((lb ⟨l.toArray⟩).length : Int) ≤ 9223372036854775807,
      ∀ ρ : Env, #[Value.string ⟨#[0]⟩, .int .i64 ((8 - ((lb ⟨l.toArray⟩).length : Int) % 8) % 8)] = #[.string ⟨#[0]⟩, .int .i64 ((fillN n : Nat) : Int)], ((lb (bl (lb ⟨(wordL n).toArray⟩ ++ lb ⟨l.toArray⟩))).length : Int) + ((lb ⟨(List.replicate (fillN n) 0).toArray⟩).length : Int) ≤ 9223372036854775807])
    (x := .v (.string (bl (lb (bl (lb ⟨(wordL n).toArray⟩ ++ lb ⟨l.toArray⟩)) ++ lb ⟨(List.replicate (fillN n) 0).toArray⟩)))) (by kernel_rfl) ?_ (fun _ => ?_)
  · have := pword_any n (by omega) (by omega) w
    rwa [Int.toNat_natCast] at this
  · rw [hL, hW, hc]
    refine ⟨by omega, ⟨by omega, by omega⟩, by omega, fun _ => rfl, by omega, fun _ => rfl, ?_, trivial⟩
    show (((wordL n ++ l).length : Nat) : Int) + (((List.replicate (fillN n) (0 : UInt8)).length : Nat) : Int) ≤ _
    rw [List.length_append, List.length_replicate, wordL_len]
    omega
  · show Value.string ⟨((wordL n ++ l) ++ List.replicate (fillN n) 0).toArray⟩ = _
    rw [List.append_assoc, hn]
    rfl
end Go.Proofs.YtgbaaiedpiiepaaDoor
/- Of the program: a builder that is written to, one text or many. Its conditions: lengths that fit. -/
namespace Go.Proofs.YtgbaaiedpiiepaaDoor
open Go.RowKit Go.Shelf
set_option linter.unusedVariables false
set_option linter.unusedSimpArgs false
theorem sizeB : (Tryd.prog.info? 54).map (·.size) = some 2 := by kernel_rfl
theorem liesB : liesAt Tryd.prog Tryd.prog.depth 54 (2 / Tryd.prog.cellsOf 54) 0 54 1 = true := by kernel_rfl
theorem infoB5 : (Tryd.prog.info? 5).map (fun i => (i.zero, i.size, i.bytes)) = some (some (.int .u8 0), 1, 1) := by kernel_rfl
set_option maxRecDepth 100000 in
theorem check_used (b : Nat) (w : World) (h0 : w.cell? ⟨b, 0, none⟩ = some (.pointer (some ⟨b, 0, none⟩))) :
    Calls Tryd.prog 62 #[.pointer (some ⟨b, 0, none⟩)] w fun e w' => e = .returned (.tuple #[]) ∧ w' = w := by
  obtain ⟨j, hj, _⟩ := Option.map_eq_some_iff.1 sizeB
  have t52 := Tryd.underlying52
  go_enter Tryd.func62, Tryd.ntmps62
  go_wp2
  rw [Lib.run_neq_ptr_same w _ t52 hj]
  go_wp2
  go_end0
  exact ⟨rfl, rfl⟩
set_option maxRecDepth 100000 in
theorem check_fresh (b : Nat) (w : World) (h0 : w.cell? ⟨b, 0, none⟩ = some (.pointer none)) (hsh : w.shape? b = some (54, 2)) (hfz : w.frozen? ⟨b, 0, none⟩ = false) :
    Calls Tryd.prog 62 #[.pointer (some ⟨b, 0, none⟩)] w fun e w' => e = .returned (.tuple #[]) ∧ w' = w.setCell ⟨b, 0, none⟩ (.pointer (some ⟨b, 0, none⟩)) := by
  obtain ⟨j, hj, hjs⟩ := Option.map_eq_some_iff.1 sizeB
  have t52 := Tryd.underlying52
  have t104 := Tryd.underlying104
  go_enter Tryd.func62, Tryd.ntmps62
  go_wp2
  rw [Lib.run_to_unsafe w ⟨b, 0, none⟩ t52 t104 hj (by rw [hjs]; decide) hsh (Nat.zero_lt_succ 1)]
  simp only [Result.andThen]
  rw [Oper.upon_value]
  go_wp2
  rw [run_callFunc_extern Tryd.func75 (by kernel_rfl) (by kernel_rfl) (by kernel_rfl) (e := Extern.AbiNoEscape.same) (by kernel_rfl)]
  rw [Lib.run_noEscape]
  simp only [Result.andThen]
  rw [Oper.upon_value]
  go_wp2
  rw [Lib.run_from_unsafe w ⟨b, 0, none⟩ t104 t52 hj hsh liesB]
  simp only [Result.andThen]
  rw [Oper.upon_value]
  go_wp2
  go_end0
  exact ⟨rfl, rfl⟩
/-- A builder in memory holds a text. -/
def Bl (B b : Nat) (l : List UInt8) (w : World) : Prop := Lib.IsBuilderF 54 5 B b (Lib.byteCells l) w
/-- What a builder's call leaves as it was. -/
def Kp (B b : Nat) (w w' : World) : Prop := Below B w w' ∧ Lib.OthersKept 5 (some b) w w'
theorem Kp.refl (B b : Nat) (w : World) : Kp B b w w := ⟨Below.refl _ _, Lib.OthersKept.refl _ _ _⟩
theorem Kp.trans {B b : Nat} {w w2 w3 : World} (h : Kp B b w w2) (k : Kp B b w2 w3) : Kp B b w w3 := ⟨h.1.trans k.1, h.2.trans k.2⟩
theorem check_any (B b : Nat) (bs : List Value) (w : World) (h : Lib.IsBuilderF 54 5 B b bs w) :
    Calls Tryd.prog 62 #[.pointer (some ⟨b, 0, none⟩)] w fun e w' => e = .returned (.tuple #[]) ∧ Lib.BuilderAtF 54 5 B b (.pointer (some ⟨b, 0, none⟩)) bs w' ∧ Kp B b w w' := by
  rcases h with h | h
  · refine (check_fresh b w h.cell0 h.shape h.frozen0).mono ?_
    rintro e w' ⟨rfl, rfl⟩
    exact ⟨rfl, h.used _, (Below.refl B w).setCell (p := ⟨b, 0, none⟩) h.1 _, (Lib.OthersKept.refl _ _ w).setCell ⟨b, 0, none⟩ rfl _⟩
  · refine (check_used b w h.cell0).mono ?_
    rintro e w' ⟨rfl, rfl⟩
    exact ⟨rfl, h, Kp.refl _ _ _⟩
theorem cells_app (l s : List UInt8) : Lib.byteCells (l ++ s) = Lib.byteCells l ++ Lib.byteCells s := by simp [Lib.byteCells]
theorem cells_str (s : List UInt8) : Lib.strCells ⟨s.toArray⟩ = Lib.byteCells s := by
  simp [Lib.strCells, Lib.byteCells]
set_option maxHeartbeats 2000000 in
set_option maxRecDepth 100000 in
theorem wstr_any (B b : Nat) (l s : List UInt8) (w : World) (h : Bl B b l w) (hlen : l.length + s.length ≤ 140737488355328) (hBw : B ≤ w.heap.size) :
    Calls Tryd.prog 47 #[.pointer (some ⟨b, 0, none⟩), strV s] w fun e w' => e = .returned (.tuple #[.int .i64 (s.length : Int), .nilIface]) ∧ Bl B b (l ++ s) w' ∧ Kp B b w w' := by
  obtain ⟨i0, hi, hz0, hz1, hz2⟩ := info_parts infoB5
  have t52 := Tryd.underlying52
  have t37 := Tryd.underlying37
  have t9 := Tryd.underlying9
  have en : ∀ args w, (callFunc 62 args).run Tryd.prog w = .ok (.enter 62 args) w := enters_of Tryd.func62 (by kernel_rfl) rfl
  have H := Lib.hid (check_any B b _ w h)
  obtain ⟨S, hS⟩ : ∃ x : ByteArray, x = ⟨s.toArray⟩ := ⟨_, rfl⟩
  have hsz : S.size = s.length := by rw [hS]; rfl
  have hcs : Lib.strCells S = Lib.byteCells s := by rw [hS]; exact cells_str s
  rw [show strV s = .string S by rw [hS]; rfl, ← hsz]
  clear hS
  go_enter Tryd.func47, Tryd.ntmps47
  go_wp2_with (go_at_fn 62; refine H.out.mono ?_)
  rintro e w1 ⟨rfl, h1, hk⟩
  obtain ⟨hb1, hk1⟩ := hk
  obtain ⟨hB, v, hbk, hown, hne⟩ := h1
  have c0 : w1.cell? ⟨b, 0, none⟩ = some (.pointer (some ⟨b, 0, none⟩)) := by rw [Lib.cell_of_heap hbk]; rfl
  have c1 : w1.cell? ⟨b, 1, none⟩ = some v := by rw [Lib.cell_of_heap hbk]; rfl
  have hcl : (Lib.byteCells l).length = l.length := Lib.byteCells_length l
  go_wp2_with (at_builtin; refine Lib.wpList_append_own_stringF _ rfl _ _ 37 9 rfl B 5 i0 t37 t9 hi hz0 hz1 hz2 _ _ _ rfl hown S rfl ?c3 ?c4 ?c5 ?_)
  case c3 => unfold maxLen; omega
  case c4 => omega
  case c5 => have := hb1.size; omega
  intro v' w2 hown' hgrow _
  have hlt : b < w1.heap.size := by
    rcases Nat.lt_or_ge b w1.heap.size with h' | h'
    · exact h'
    · simp [Array.getElem?_eq_none h'] at hbk
  have hb2 : w2.heap[b]? = some (.cells #[.pointer (some ⟨b, 0, none⟩), v] 54 (0, 0)) := by
    rw [hgrow.block b hlt (fun e => hne e.symm)]
    exact hbk
  have d0 : w2.cell? ⟨b, 0, none⟩ = some (.pointer (some ⟨b, 0, none⟩)) := by rw [Lib.cell_of_heap hb2]; rfl
  have d1 : w2.cell? ⟨b, 1, none⟩ = some v := by rw [Lib.cell_of_heap hb2]; rfl
  have f1 : w2.frozen? ⟨b, 1, none⟩ = false := Lib.frozen_of_heap hb2 1
  obtain ⟨ao, n', cap, rfl⟩ : ∃ ao n' cap, v' = .slice ao n' cap := by
    rcases hown'.2 with ⟨hv, _⟩ | ⟨g, cap, cur, fz, hv, _⟩
    · exact ⟨_, _, _, hv⟩
    · exact ⟨_, _, _, hv⟩
  go_wp2
  go_ret2
  refine ⟨by rw [hsz]; rfl, .inr ?_, ?_, (hk1.grown hgrow (Lib.ownsRowF_kind hown)).setCell ⟨b, 1, none⟩ rfl _⟩
  · refine Lib.BuilderAtF.put (T := 54) (e := 5) hB hb2 (bs' := Lib.byteCells (l ++ s)) ?_ (by decide)
    rw [cells_app, List.length_append, Lib.byteCells_length, Lib.byteCells_length]
    exact hown'
  · exact (hb1.grown hgrow (by have := hb1.size; omega) (fun k hk => (hown.lt k hk).1)).setCell (p := ⟨b, 1, none⟩) hB _
theorem Bl.block {B b : Nat} {l : List UInt8} {w : World} (h : Bl B b l w) : ∃ c, w.heap[b]? = some (.cells c 54 (0, 0)) := by
  rcases h with h | h <;> (obtain ⟨_, v, h1, _⟩ := h; exact ⟨_, h1⟩)
theorem Kp.row {B b : Nat} {w w' : World} (h : Kp B b w w') {k : Nat} {c : Array Value} {t : TypeId} (hk : w.heap[k]? = some (.cells c t (0, 0))) (ht : t ≠ 5) (hb : k ≠ b) : w'.heap[k]? = some (.cells c t (0, 0)) :=
  h.2 k _ hk (fun e => hb (Option.some.inj e)) (fun c2 fz e => ht (by cases e; rfl))
theorem Bl.below {B b : Nat} {l : List UInt8} {w w' : World} (h : Bl B b l w) (hb : Below w.heap.size w w') : Bl B b l w' := by
  rcases h with h | h
  · refine .inl ?_
    obtain ⟨h1, v, h2, h3, h4⟩ := h
    have hlt := (Array.getElem?_eq_some_iff.1 h2).1
    refine ⟨h1, v, (hb.block b hlt).trans h2, ⟨h3.1, ?_⟩, h4⟩
    rcases h3.2 with h | ⟨g, cap, cur, fz, e1, e2, e3, e4⟩
    · exact .inl h
    · exact .inr ⟨g, cap, cur, fz, e1, e2, (hb.block g (Array.getElem?_eq_some_iff.1 e3).1).trans e3, e4⟩
  · refine .inr ?_
    obtain ⟨h1, v, h2, h3, h4⟩ := h
    have hlt := (Array.getElem?_eq_some_iff.1 h2).1
    refine ⟨h1, v, (hb.block b hlt).trans h2, ⟨h3.1, ?_⟩, h4⟩
    rcases h3.2 with h | ⟨g, cap, cur, fz, e1, e2, e3, e4⟩
    · exact .inl h
    · exact .inr ⟨g, cap, cur, fz, e1, e2, (hb.block g (Array.getElem?_eq_some_iff.1 e3).1).trans e3, e4⟩
theorem Kp.of_below {B b : Nat} {w w' : World} (h : Below w.heap.size w w') (hB : B ≤ w.heap.size) : Kp B b w w' :=
  ⟨h.mono hB, fun k o hk _ _ => (h.block k (Array.getElem?_eq_some_iff.1 hk).1).trans hk⟩
theorem ent21 : E.Enters Tryd.prog 21 := enters_of Tryd.func21 (by kernel_rfl) rfl
theorem ent47 : E.Enters Tryd.prog 47 := enters_of Tryd.func47 (by kernel_rfl) rfl
set_option maxHeartbeats 2000000 in
set_option maxRecDepth 100000 in
theorem put_any (B b bk : Nat) (L : List UInt8) (ts : List (List UInt8)) (n : Nat) (hn : ts.length = n) (hN : n ≤ 1000) (hl : ∀ t ∈ ts, t.length ≤ 1000000) (hlen : L.length + (strsL ts).length ≤ 140737488355328) (w : World) (hBw : B ≤ w.heap.size)
    (hb : Bl B b L w) (hrow : w.heap[bk]? = some (.cells (sRow ts) 9 (0, 0))) :
    Calls Tryd.prog 27 #[.pointer (some ⟨b, 0, none⟩), .slice (some ⟨bk, 0, none⟩) n n] w fun e w' => e = .returned (.tuple #[]) ∧ Bl B b (L ++ strsL ts) w' ∧ Kp B b w w' := by
  have hbk : bk ≠ b := by
    rintro rfl
    obtain ⟨c, h2⟩ := hb.block
    rw [h2] at hrow
    simp at hrow
  have HR := Lib.hid hrow
  have HB := Lib.hid hb
  have HNE := Lib.hid hbk
  clear hrow hb hbk
  go_enter Tryd.func27, Tryd.ntmps27
  go_wp2_with fail
  go_loopw [8] (fun i wr => ∃ k : Nat, k ≤ n ∧ i = .int .i64 k ∧ Bl B b (L ++ strsL (ts.take k)) wr ∧ Kp B b w wr) (fun i _ => n - (intOf i).toNat)
  case atStart => exact ⟨0, Nat.zero_le _, rfl, by simpa [strsL] using HB.out, Kp.refl _ _ _⟩
  case round =>
    obtain ⟨k, hk, rfl, hb, hkp⟩ := hrel
    have HB2 := Lib.hid hb
    have HK := Lib.hid hkp
    clear hb hkp
    by_cases hlt : k < n
    · have hltI : (k : Int) < (n : Int) := by omega
      have hkl : k < ts.length := by omega
      have hcell : wr.cell? ⟨bk, k, none⟩ = some (strV ts[k]) := sRow_cell (HK.out.row HR.out (by decide) HNE.out) k hkl
      have hsz : wr.heap.size ≥ w.heap.size := HK.out.1.size
      have H1 : Hid (∀ w, Calls Tryd.prog 21 #[strV ts[k]] w fun e w' => e = .returned (strV (strL ts[k])) ∧ Below w.heap.size w w') := Lib.hid (fun w => pstr_any _ (hl _ (List.getElem_mem hkl)) w)
      have hlp : (L ++ strsL (ts.take k)).length + (strL ts[k]).length ≤ 140737488355328 := by
        have := strsL_le ts (k + 1)
        rw [strsL_take ts k hkl, List.length_append] at this
        rw [List.length_append]; omega
      have H2 : Hid (∀ w2, Below wr.heap.size wr w2 → Calls Tryd.prog 47 #[.pointer (some ⟨b, 0, none⟩), strV (strL ts[k])] w2 fun e w' => e = .returned (.tuple #[.int .i64 ((strL ts[k]).length : Int), .nilIface]) ∧ Bl B b (L ++ strsL (ts.take (k + 1))) w' ∧ Kp B b w w') := Lib.hid (fun w2 hb2 => by
        refine (wstr_any B b _ _ w2 (HB2.out.below hb2) hlp (by have := hb2.size; omega)).mono ?_
        rintro e w' ⟨rfl, h1, h2⟩
        refine ⟨rfl, ?_, (HK.out.trans (Kp.of_below hb2 (by omega))).trans h2⟩
        rw [strsL_take ts k hkl, ← List.append_assoc]
        exact h1)
      clear hlp
      generalize strV (strL ts[k]) = u at *
      generalize strV ts[k] = t at *
      generalize ((strL ts[k]).length : Int) = q at *
      go_wp2_with fail
      with_reducible refine (H1.out _).mono ?_
      rintro e w2 ⟨rfl, hb2⟩
      have H3 := Lib.hid (H2.out w2 hb2)
      clear hb2
      go_wp2_with fail
      with_reducible refine H3.out.mono ?_
      rintro e w3 ⟨rfl, h3, h4⟩
      have H5 := Lib.hid h3
      have H6 := Lib.hid h4
      clear h3 h4
      go_wp2_with fail
      refine ⟨⟨k + 1, by omega, by first | rfl | simp | go_num, H5.out, H6.out⟩, ?_⟩
      simp [intOf] <;> omega
    · obtain rfl : k = n := by omega
      have hltI : ¬ (k : Int) < (k : Int) := by omega
      go_wp2_with fail
      go_end0
      refine ⟨rfl, ?_, HK.out⟩
      have := HB2.out
      rwa [List.take_of_length_le (by omega)] at this
end Go.Proofs.YtgbaaiedpiiepaaDoor
