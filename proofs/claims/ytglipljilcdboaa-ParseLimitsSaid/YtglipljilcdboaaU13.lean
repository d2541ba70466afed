/- Several texts, one behind the other; each says by itself what it proves, and on what conditions. -/
import Derived.Test.YtglipljilcdboaaU11
import Derived.Test.YtglipljilcdboaaU12
import Derived.BigQuiet
import Derived.Laws.Cover1
import Derived.Deep.QuietTactic
/- The document's reader: a node, over any contract of dir. Its conditions: lengths that fit. -/
namespace Go.Proofs.Ytglipljilcdboaa
open Go.RowKit
set_option linter.unusedVariables false
set_option linter.unusedSimpArgs false
section
open E
theorem ent39 : Enters Try.prog 39 := enters_of Try.func39 (by kernel_rfl) rfl
theorem ent38 : Enters Try.prog 38 := enters_of Try.func38 (by kernel_rfl) rfl
theorem ent25 : Enters Try.prog 25 := enters_of Try.func25 (by kernel_rfl) rfl
theorem wsA (a : List UInt8) (ha : a.length ≤ 1000) : [a].length ≤ 1000 ∧ (∀ s ∈ [a], s.length ≤ 1000) ∧ ∀ i, i < [a].length → chunkF ([a].map stv) 1 [a].length i = [stv ([a].getD i [])] := ⟨by simp, fun s hs => by obtain rfl := List.mem_singleton.1 hs; exact ha, fun i hi => by
  obtain rfl : i = 0 := by simpa using hi
  rfl⟩
theorem wsB (a b : List UInt8) (ha : a.length ≤ 1000) (hb : b.length ≤ 1000) : [a, b].length ≤ 1000 ∧ (∀ s ∈ [a, b], s.length ≤ 1000) ∧ ∀ i, i < [a, b].length → chunkF ([a, b].map stv) 1 [a, b].length i = [stv ([a, b].getD i [])] := ⟨by simp, fun s hs => by
  simp only [List.mem_cons, List.not_mem_nil, or_false] at hs
  rcases hs with rfl | rfl <;> assumption, fun i hi => by
  have : i = 0 ∨ i = 1 := by simp at hi; omega
  rcases this with rfl | rfl <;> rfl⟩
theorem wsC (a b c : List UInt8) (ha : a.length ≤ 1000) (hb : b.length ≤ 1000) (hc : c.length ≤ 1000) : [a, b, c].length ≤ 1000 ∧ (∀ s ∈ [a, b, c], s.length ≤ 1000) ∧ ∀ i, i < [a, b, c].length → chunkF ([a, b, c].map stv) 1 [a, b, c].length i = [stv ([a, b, c].getD i [])] := ⟨by simp, fun s hs => by
  simp only [List.mem_cons, List.not_mem_nil, or_false] at hs
  rcases hs with rfl | rfl | rfl <;> assumption, fun i hi => by
  have : i = 0 ∨ i = 1 ∨ i = 2 := by simp at hi; omega
  rcases this with rfl | rfl | rfl <;> rfl⟩
theorem root_row2 (c : Nd) : ∀ i, i < 1 → chunkF [stv c.path, .int .i64 c.kind, stv c.data] 3 1 (addN 0 i) = ndc [c] i := by
  intro i hi
  obtain rfl : i = 0 := by omega
  rfl
theorem rows_push {S : List UInt8} {q : RS} {c : Nd} {f : Nat → List Value} {n1 : Nat} (h1 : n1 = (q.l ++ [c]).length) (hf : ∀ i, i < n1 → f i = ndc (q.l ++ [c]) i) : rowsEq [(0, rdR S q (slN 19007 n1)), (19007, ⟨[.fnc f 3 n1], true, some (55, 3)⟩)] [(0, rdL S { q with l := q.l ++ [c] } 19007), (19007, liR { q with l := q.l ++ [c] })] := by
  subst h1
  exact rowsEq_same (rowsEq_fnc hf trivial)
abbrev wrL (ρ : Env) (D : List Nat) : List Nat := (ρ 0).1 :: D.map fun r => (ρ r).1
abbrev DirC (S : List UInt8) (f : Nat) : Prop := ∀ (p : List UInt8) (q : RS), inB S q → lenB p → (q.e = 0 → 2 * (S.length - q.at') + 1 ≤ f) → ∀ (ρ : Env) (w : World), RowAt ρ 0 (rdL S q 1) w → RowAt ρ 1 (liR q) w → (ρ 0).1 ≠ (ρ 1).1 → Calls Try.prog 39 #[(ptrTo 0).val ρ, stv p] w (NdQ S ρ w [1] (dirD S f p [] q))
abbrev tmN (p k : List UInt8) : List (Nat × TV) := [(0, ptrTo 0), (1, .v (stv p)), (4, .v (stv k))]
abbrev QN (S : List UInt8) (ρ : Env) (w : World) (D : List Nat) (q : RS) := EndX Try.prog Try.f25 (NdQ S ρ w D q)
set_option maxRecDepth 100000 in
theorem node_close (S : List UInt8) (hS : S.length ≤ 1000000000000) (D : List Nat) (p k : List UInt8) (hk : k ≠ tDir) (q : RS) (hb : inB S q) (w : World) (ρ : Env) : At Try.prog w ⟨wrL ρ D, ρ, []⟩ Try.f25.ntmps [] (rp Try.f25 19) (QN S ρ w D (oneD S [tClose] q).2) (tmN p k) [(0, rdL S q 19007), (19007, liR q)] := by
  obtain ⟨s, hs⟩ : ∃ s, s = (oneD S [tClose] q).1 := ⟨_, rfl⟩
  obtain ⟨q7, hq7⟩ : ∃ q7, q7 = (oneD S [tClose] q).2 := ⟨_, rfl⟩
  have h7 := one_b S (l := [tClose]) hb
  rw [← hq7] at h7 ⊢
  have kO : HintOk Try.prog 22002 (hOne 0 22001 S (slN 19007 q.l.length) [tClose] q s q7) := hOne_ok hs hq7 trivial ⟨by decide, by simp [Lf.ids]⟩ (by decide) hS (wsA _ (by decide)) hb.1
  refine At.finD rfl [(22002, hOne 0 22001 S (slN 19007 q.l.length) [tClose] q s q7)] ⟨kO, trivial⟩ [.n] (rows2 := [(0, rdR S q7 (slN 19007 q.l.length)), (19007, rowN q.l q.l.length)]) (x := .tup []) (ob := [[(k == tDir) = false], qL (hOne 0 22001 S (slN 19007 q.l.length) [tClose] q s q7)].flatten) (by kernel_rfl) (all_flat ⟨⟨by simpa using hk, trivial⟩, all_qL _, trivial⟩) fun ρ' w' hf he _ hq hd => ?_
  rw [← h7.2] at hq hd
  exact nd_fin hf he hq hd (by decide)
set_option maxRecDepth 100000 in
theorem node_down (S : List UInt8) (f : Nat) (hdir : DirC S f) (D : List Nat) (p : List UInt8) (hp : lenB p) (q : RS) (hb : inB S q) (hf : q.e = 0 → 2 * (S.length - q.at') + 1 ≤ f) (w : World) (ρ : Env) : At Try.prog w ⟨wrL ρ D, ρ, []⟩ Try.f25.ntmps [] (rp Try.f25 19) (QN S ρ w D (dirD S f p [] q)) (tmN p tDir) [(0, rdL S q 19007), (19007, liR q)] := by
  obtain ⟨q7, hq7⟩ : ∃ q7, q7 = dirD S f p [] q := ⟨_, rfl⟩
  rw [← hq7]
  have kD : HintOk Try.prog 21002 (hNd 39 0 19007 21002 S (stv p) q q7) := by
    rw [hq7]
    exact hNd_ok ent39 ⟨by decide, by decide⟩ fun ρ w h0 h1 h2 => hdir p q hb hp hf ρ w h0 h1 h2
  exact At.finD rfl [(21002, hNd 39 0 19007 21002 S (stv p) q q7)] ⟨kD, trivial⟩ [.y] (rows2 := [(0, rdL S q7 21002), (21002, liR q7)]) (x := .tup []) (ob := [[(tDir == tDir) = true], qL (hNd 39 0 19007 21002 S (stv p) q q7)].flatten) (by kernel_rfl) (all_flat ⟨⟨by decide, trivial⟩, all_qL _, trivial⟩) fun ρ' w' hf he _ hq hd => nd_fin hf he hq hd (by decide)
set_option maxRecDepth 100000 in
set_option maxHeartbeats 1000000 in
theorem node_run1 (S : List UInt8) (hS : S.length ≤ 1000000000000) (f : Nat) (hdir : DirC S f) (p : List UInt8) (hp : lenB p) (q0 : RS) (hb : inB S q0) (hl : q0.l.length < 256) (hf : 2 * (S.length - q0.at') + 2 ≤ f + 1) (ρ : Env) (w : World) (h0 : RowAt ρ 0 (rdL S q0 1) w) (h1 : RowAt ρ 1 (liR q0) w) (hne : (ρ 0).1 ≠ (ρ 1).1) : Calls Try.prog 25 #[(ptrTo 0).val ρ, stv p] w (NdQ S ρ w [1] (nodeD S (f + 1) p q0)) := by
  have hpl : p.length ≤ 1000000 := by have := hp.1; have := hp.2; omega
  refine At.calls (args := [ptrTo 0, .v (stv p)]) (rows := [(0, rdR S q0 (slN 1 q0.l.length)), (1, liR q0)]) (gl := []) (wr := wrL ρ [1]) (ρ := ρ) Try.func25 rfl rfl ?_ rfl ?_
  · refine init_rw ⟨trivial, rfl, trivial⟩ rfl rfl rfl (fun a ha => ?_) (fun a ha hw => ?_) (fun a ha r hr hn hw => ?_)
    · simp only [List.mem_cons, List.not_mem_nil, or_false] at ha
      rcases ha with rfl | rfl
      · exact ⟨h0, rd_ok S q0 _ trivial⟩
      · exact ⟨h1, rowN_ok _ _⟩
    · simp only [List.mem_cons, List.not_mem_nil, or_false] at ha
      rcases ha with rfl | rfl <;> simp
    · simp only [List.mem_cons, List.not_mem_nil, or_false] at ha hr
      rcases ha with rfl | rfl <;> rcases hr with rfl | rfl
      · exact absurd rfl hn
      · exact hne
      · exact hne.symm
      · exact absurd rfl hn
  rw [nodeD]
  have hadv := head_adv S (q := q0)
  unfold headD at hadv ⊢
  have bq0 : inB S q0 ∧ q0.l = q0.l := ⟨hb, rfl⟩
  obtain ⟨s1, hs1⟩ : ∃ s1, s1 = (oneD S [tOpen] q0).1 := ⟨_, rfl⟩
  obtain ⟨q1, hq1⟩ : ∃ q1, q1 = (oneD S [tOpen] q0).2 := ⟨_, rfl⟩
  have bq1 := one_b S (l := [tOpen]) hb
  rw [← hq1] at bq1
  rw [← hq1] at hadv ⊢
  obtain ⟨s2, hs2⟩ : ∃ s2, s2 = (oneD S [tType] q1).1 := ⟨_, rfl⟩
  obtain ⟨q2, hq2⟩ : ∃ q2, q2 = (oneD S [tType] q1).2 := ⟨_, rfl⟩
  have bq2 := one_b S (l := [tType]) bq1.1
  rw [← hq2] at bq2
  rw [← hq2] at hadv ⊢
  obtain ⟨k, hk⟩ : ∃ k, k = (oneD S [tReg, tSym, tDir] q2).1 := ⟨_, rfl⟩
  obtain ⟨q3, hq3⟩ : ∃ q3, q3 = (oneD S [tReg, tSym, tDir] q2).2 := ⟨_, rfl⟩
  have bq3 := one_b S (l := [tReg, tSym, tDir]) bq2.1
  rw [← hq3] at bq3
  rw [← hk, ← hq3] at hadv ⊢
  have l3 : q3.l = q0.l := bq3.2.trans (bq2.2.trans bq1.2)
  have kA : HintOk Try.prog 1002 (hOne 0 1001 S (slN 1 q0.l.length) [tOpen] q0 s1 q1) := hOne_ok hs1 hq1 trivial ⟨by decide, by simp [Lf.ids]⟩ (by decide) hS (wsA _ (by decide)) bq0.1.1
  have kB : HintOk Try.prog 2002 (hOne 0 2001 S (slN 1 q0.l.length) [tType] q1 s2 q2) := hOne_ok hs2 hq2 trivial ⟨by decide, by simp [Lf.ids]⟩ (by decide) hS (wsA _ (by decide)) bq1.1.1
  have kC : HintOk Try.prog 3002 (hOne 0 3001 S (slN 1 q0.l.length) [tReg, tSym, tDir] q2 k q3) := hOne_ok hk hq3 trivial ⟨by decide, by simp [Lf.ids]⟩ (by decide) hS (wsC _ _ _ (by decide) (by decide) (by decide)) bq2.1.1
  by_cases kr : k = tReg
  · have tr : (k == tReg) = true := by rw [kr]; decide
    unfold kindD
    rw [if_pos kr]
    unfold fileD
    obtain ⟨s4, hs4⟩ : ∃ s4, s4 = (oneD S [tCont, tExec] q3).1 := ⟨_, rfl⟩
    obtain ⟨q4, hq4⟩ : ∃ q4, q4 = (oneD S [tCont, tExec] q3).2 := ⟨_, rfl⟩
    have bq4 := one_b S (l := [tCont, tExec]) bq3.1
    rw [← hq4] at bq4
    rw [← hs4, ← hq4]
    have kE : HintOk Try.prog 9002 (hOne 0 9001 S (slN 1 q0.l.length) [tCont, tExec] q3 s4 q4) := hOne_ok hs4 hq4 trivial ⟨by decide, by simp [Lf.ids]⟩ (by decide) hS (wsB _ _ (by decide) (by decide)) bq3.1.1
    by_cases ke : s4 = tExec
    · have te : (s4 == tExec) = true := by rw [ke]; decide
      rw [if_pos ke]
      obtain ⟨s5, hs5⟩ : ∃ s5, s5 = (oneD S [[]] q4).1 := ⟨_, rfl⟩
      obtain ⟨q5, hq5⟩ : ∃ q5, q5 = (oneD S [[]] q4).2 := ⟨_, rfl⟩
      have bq5 := one_b S (l := [[]]) bq4.1
      rw [← hq5] at bq5
      obtain ⟨s6, hs6⟩ : ∃ s6, s6 = (oneD S [tCont] q5).1 := ⟨_, rfl⟩
      obtain ⟨q6, hq6⟩ : ∃ q6, q6 = (oneD S [tCont] q5).2 := ⟨_, rfl⟩
      have bq6 := one_b S (l := [tCont]) bq5.1
      rw [← hq6] at bq6
      obtain ⟨d, hd⟩ : ∃ d, d = (textD S 65536 q6).1 := ⟨_, rfl⟩
      obtain ⟨q7, hq7⟩ : ∃ q7, q7 = (textD S 65536 q6).2 := ⟨_, rfl⟩
      have bq7 := text_b S (m := 65536) bq6.1
      rw [← hq7] at bq7
      have lq7 : q7.l = q0.l := bq7.2.1.trans (bq6.2.trans (bq5.2.trans (bq4.2.trans l3)))
      unfold file2D
      rw [← hq5, ← hq6, ← hd, ← hq7]
      have k11002 : HintOk Try.prog 11002 (hOne 0 11001 S (slN 1 q0.l.length) [[]] q4 s5 q5) := hOne_ok hs5 hq5 trivial ⟨by decide, by simp [Lf.ids]⟩ (by decide) hS (wsA _ (by decide)) bq4.1.1
      have k12002 : HintOk Try.prog 12002 (hOne 0 12001 S (slN 1 q0.l.length) [tCont] q5 s6 q6) := hOne_ok hs6 hq6 trivial ⟨by decide, by simp [Lf.ids]⟩ (by decide) hS (wsA _ (by decide)) bq5.1.1
      have k13001 : HintOk Try.prog 13001 (hRd 37 0 S (slN 1 q0.l.length) (.int .i64 (65536 : Nat)) (.v (stv d)) q6 q7) := (by rw [hd, hq7]; exact hTx_ok trivial ⟨by decide, by simp [Lf.ids]⟩ hS (by decide) bq6.1.1)
      refine At.run rfl [(1002, hOne 0 1001 S (slN 1 q0.l.length) [tOpen] q0 s1 q1), (2002, hOne 0 2001 S (slN 1 q0.l.length) [tType] q1 s2 q2), (3002, hOne 0 3001 S (slN 1 q0.l.length) [tReg, tSym, tDir] q2 k q3), (9002, hOne 0 9001 S (slN 1 q0.l.length) [tCont, tExec] q3 s4 q4), (11002, hOne 0 11001 S (slN 1 q0.l.length) [[]] q4 s5 q5), (12002, hOne 0 12001 S (slN 1 q0.l.length) [tCont] q5 s6 q6), (13001, hRd 37 0 S (slN 1 q0.l.length) (.int .i64 (65536 : Nat)) (.v (stv d)) q6 q7), (2020000, .val (.tup []))] ⟨kA, kB, kC, kE, k11002, k12002, k13001, trivial, trivial⟩ [.y, .y] (tm2 := tmN p k) (rows2 := [(0, rdR S q7 (slN 19007 (q0.l.length + 1))), (19007, ⟨[.fnc (appF (ndc q0.l) q0.l.length fun z => chunkF [stv p, .int .i64 2, stv d] 3 1 (addN 0 z)) 3 (q0.l.length + 1)], true, some (55, 3)⟩)]) (ob := [qL (hOne 0 1001 S (slN 1 q0.l.length) [tOpen] q0 s1 q1), qL (hOne 0 2001 S (slN 1 q0.l.length) [tType] q1 s2 q2), qL (hOne 0 3001 S (slN 1 q0.l.length) [tReg, tSym, tDir] q2 k q3), [(k == tReg) = true], qL (hOne 0 9001 S (slN 1 q0.l.length) [tCont, tExec] q3 s4 q4), [(s4 == tExec) = true], qL (hOne 0 11001 S (slN 1 q0.l.length) [[]] q4 s5 q5), qL (hOne 0 12001 S (slN 1 q0.l.length) [tCont] q5 s6 q6), qL (hRd 37 0 S (slN 1 q0.l.length) (.int .i64 (65536 : Nat)) (.v (stv d)) q6 q7), [q0.l.length = q0.l.length, q0.l.length + 1 ≤ 9223372036854775807, (q0.l.length + 1) * 40 ≤ 140737488355328, 1 ≤ 1]].flatten) (td := rp Try.f25 19) (by kernel_rfl) (all_flat ⟨all_qL _, all_qL _, all_qL _, ⟨tr, trivial⟩, all_qL _, ⟨te, trivial⟩, all_qL _, all_qL _, all_qL _, ⟨rfl, by omega, by omega, by omega, trivial⟩, trivial⟩) rfl rfl (by intro h; cases h) ?_
      refine At.rows (rows2 := [(0, rdL S { q7 with l := q7.l ++ [(⟨p, 2, d⟩ : Nd)] } 19007), (19007, liR { q7 with l := q7.l ++ [(⟨p, 2, d⟩ : Nd)] })]) (rows_push (c := (⟨p, 2, d⟩ : Nd)) (by simp [lq7]) (by rw [lq7]; exact (row_step q0.l ⟨p, 2, d⟩ q0.l.length rfl))) rfl ?_
      exact node_close S hS [1] p k (by rw [kr]; decide) _ (push_b S bq7.1 (by rw [lq7]; exact hl)) w ρ
    · have te : (s4 == tExec) = false := by simpa using ke
      rw [if_neg ke]
      obtain ⟨d, hd⟩ : ∃ d, d = (textD S 65536 q4).1 := ⟨_, rfl⟩
      obtain ⟨q5, hq5⟩ : ∃ q5, q5 = (textD S 65536 q4).2 := ⟨_, rfl⟩
      have bq5 := text_b S (m := 65536) bq4.1
      rw [← hq5] at bq5
      have lq5 : q5.l = q0.l := bq5.2.1.trans (bq4.2.trans l3)
      unfold file2D
      rw [← hd, ← hq5]
      have k13001 : HintOk Try.prog 13001 (hRd 37 0 S (slN 1 q0.l.length) (.int .i64 (65536 : Nat)) (.v (stv d)) q4 q5) := (by rw [hd, hq5]; exact hTx_ok trivial ⟨by decide, by simp [Lf.ids]⟩ hS (by decide) bq4.1.1)
      refine At.run rfl [(1002, hOne 0 1001 S (slN 1 q0.l.length) [tOpen] q0 s1 q1), (2002, hOne 0 2001 S (slN 1 q0.l.length) [tType] q1 s2 q2), (3002, hOne 0 3001 S (slN 1 q0.l.length) [tReg, tSym, tDir] q2 k q3), (9002, hOne 0 9001 S (slN 1 q0.l.length) [tCont, tExec] q3 s4 q4), (13001, hRd 37 0 S (slN 1 q0.l.length) (.int .i64 (65536 : Nat)) (.v (stv d)) q4 q5), (2020000, .val (.tup []))] ⟨kA, kB, kC, kE, k13001, trivial, trivial⟩ [.y, .n] (tm2 := tmN p k) (rows2 := [(0, rdR S q5 (slN 19007 (q0.l.length + 1))), (19007, ⟨[.fnc (appF (ndc q0.l) q0.l.length fun z => chunkF [stv p, .int .i64 1, stv d] 3 1 (addN 0 z)) 3 (q0.l.length + 1)], true, some (55, 3)⟩)]) (ob := [qL (hOne 0 1001 S (slN 1 q0.l.length) [tOpen] q0 s1 q1), qL (hOne 0 2001 S (slN 1 q0.l.length) [tType] q1 s2 q2), qL (hOne 0 3001 S (slN 1 q0.l.length) [tReg, tSym, tDir] q2 k q3), [(k == tReg) = true], qL (hOne 0 9001 S (slN 1 q0.l.length) [tCont, tExec] q3 s4 q4), [(s4 == tExec) = false], qL (hRd 37 0 S (slN 1 q0.l.length) (.int .i64 (65536 : Nat)) (.v (stv d)) q4 q5), [q0.l.length = q0.l.length, q0.l.length + 1 ≤ 9223372036854775807, (q0.l.length + 1) * 40 ≤ 140737488355328, 1 ≤ 1]].flatten) (td := rp Try.f25 19) (by kernel_rfl) (all_flat ⟨all_qL _, all_qL _, all_qL _, ⟨tr, trivial⟩, all_qL _, ⟨te, trivial⟩, all_qL _, ⟨rfl, by omega, by omega, by omega, trivial⟩, trivial⟩) rfl rfl (by intro h; cases h) ?_
      refine At.rows (rows2 := [(0, rdL S { q5 with l := q5.l ++ [(⟨p, 1, d⟩ : Nd)] } 19007), (19007, liR { q5 with l := q5.l ++ [(⟨p, 1, d⟩ : Nd)] })]) (rows_push (c := (⟨p, 1, d⟩ : Nd)) (by simp [lq5]) (by rw [lq5]; exact (row_step q0.l ⟨p, 1, d⟩ q0.l.length rfl))) rfl ?_
      exact node_close S hS [1] p k (by rw [kr]; decide) _ (push_b S bq5.1 (by rw [lq5]; exact hl)) w ρ
  have tr : (k == tReg) = false := by simpa using kr
  by_cases ks : k = tSym
  · have ts : (k == tSym) = true := by rw [ks]; decide
    unfold kindD
    rw [if_neg kr, if_pos ks]
    unfold linkD link2D
    obtain ⟨s4, hs4⟩ : ∃ s4, s4 = (oneD S [tTarg] q3).1 := ⟨_, rfl⟩
    obtain ⟨q4, hq4⟩ : ∃ q4, q4 = (oneD S [tTarg] q3).2 := ⟨_, rfl⟩
    have bq4 := one_b S (l := [tTarg]) bq3.1
    rw [← hq4] at bq4
    obtain ⟨d, hd⟩ : ∃ d, d = (textD S 4096 q4).1 := ⟨_, rfl⟩
    obtain ⟨q5, hq5⟩ : ∃ q5, q5 = (textD S 4096 q4).2 := ⟨_, rfl⟩
    have bq5 := text_b S (m := 4096) bq4.1
    rw [← hq5] at bq5
    rw [← hq4, ← hd, ← hq5]
    obtain ⟨b, hbb⟩ : ∃ b, b = mayDataL ⟨p, 3, d⟩ := ⟨_, rfl⟩
    obtain ⟨q6, hq6⟩ : ∃ q6, q6 = wrongD (!b) q5 := ⟨_, rfl⟩
    have bq6 := wrong_b S (b := !b) bq5.1
    rw [← hbb, ← hq6]
    rw [← hq6] at bq6
    have lq6 : q6.l = q0.l := bq6.2.trans (bq5.2.1.trans (bq4.2.trans l3))
    have hdl : d.length ≤ 4096 := by have := (text_b S (m := 4096) (q := q4) bq4.1).2.2; rw [← hd] at this; exact this
    have kM : HintOk Try.prog 18002 (pc 38 #[.agg #[stv p, .int .i64 3, stv d]] (.v (.bool b))) := pc_ok ent38 (v := .bool b) rfl (fun _ => rfl) fun w => by
      rw [hbb]
      exact mayData_any ⟨p, 3, d⟩ hpl (by show d.length ≤ _; omega) w
    have k16002 : HintOk Try.prog 16002 (hOne 0 16001 S (slN 1 q0.l.length) [tTarg] q3 s4 q4) := hOne_ok hs4 hq4 trivial ⟨by decide, by simp [Lf.ids]⟩ (by decide) hS (wsA _ (by decide)) bq3.1.1
    have k17001 : HintOk Try.prog 17001 (hRd 37 0 S (slN 1 q0.l.length) (.int .i64 (4096 : Nat)) (.v (stv d)) q4 q5) := (by rw [hd, hq5]; exact hTx_ok trivial ⟨by decide, by simp [Lf.ids]⟩ hS (by decide) bq4.1.1)
    have k18004 : HintOk Try.prog 18004 (hRd 26 0 S (slN 1 q0.l.length) (.bool (!b)) (.tup []) q5 q6) := (by rw [hq6]; exact hWr_ok trivial ⟨by decide, by simp [Lf.ids]⟩)
    refine At.run rfl [(1002, hOne 0 1001 S (slN 1 q0.l.length) [tOpen] q0 s1 q1), (2002, hOne 0 2001 S (slN 1 q0.l.length) [tType] q1 s2 q2), (3002, hOne 0 3001 S (slN 1 q0.l.length) [tReg, tSym, tDir] q2 k q3), (16002, hOne 0 16001 S (slN 1 q0.l.length) [tTarg] q3 s4 q4), (17001, hRd 37 0 S (slN 1 q0.l.length) (.int .i64 (4096 : Nat)) (.v (stv d)) q4 q5), (18002, pc 38 #[.agg #[stv p, .int .i64 3, stv d]] (.v (.bool b))), (18004, hRd 26 0 S (slN 1 q0.l.length) (.bool (!b)) (.tup []) q5 q6), (2020000, .val (.tup []))] ⟨kA, kB, kC, k16002, k17001, kM, k18004, trivial, trivial⟩ [.n, .y] (tm2 := tmN p k) (rows2 := [(0, rdR S q6 (slN 19007 (q0.l.length + 1))), (19007, ⟨[.fnc (appF (ndc q0.l) q0.l.length fun z => chunkF [stv p, .int .i64 3, stv d] 3 1 (addN 0 z)) 3 (q0.l.length + 1)], true, some (55, 3)⟩)]) (ob := [qL (hOne 0 1001 S (slN 1 q0.l.length) [tOpen] q0 s1 q1), qL (hOne 0 2001 S (slN 1 q0.l.length) [tType] q1 s2 q2), qL (hOne 0 3001 S (slN 1 q0.l.length) [tReg, tSym, tDir] q2 k q3), [(k == tReg) = false, (k == tSym) = true], qL (hOne 0 16001 S (slN 1 q0.l.length) [tTarg] q3 s4 q4), qL (hRd 37 0 S (slN 1 q0.l.length) (.int .i64 (4096 : Nat)) (.v (stv d)) q4 q5), qL (pc 38 #[.agg #[stv p, .int .i64 3, stv d]] (.v (.bool b))), qL (hRd 26 0 S (slN 1 q0.l.length) (.bool (!b)) (.tup []) q5 q6), [q0.l.length = q0.l.length, q0.l.length + 1 ≤ 9223372036854775807, (q0.l.length + 1) * 40 ≤ 140737488355328, 1 ≤ 1]].flatten) (td := rp Try.f25 19) (by kernel_rfl) (all_flat ⟨all_qL _, all_qL _, all_qL _, ⟨tr, ts, trivial⟩, all_qL _, all_qL _, all_qL _, all_qL _, ⟨rfl, by omega, by omega, by omega, trivial⟩, trivial⟩) rfl rfl (by intro h; cases h) ?_
    refine At.rows (rows2 := [(0, rdL S { q6 with l := q6.l ++ [(⟨p, 3, d⟩ : Nd)] } 19007), (19007, liR { q6 with l := q6.l ++ [(⟨p, 3, d⟩ : Nd)] })]) (rows_push (c := (⟨p, 3, d⟩ : Nd)) (by simp [lq6]) (by rw [lq6]; exact (row_step q0.l ⟨p, 3, d⟩ q0.l.length rfl))) rfl ?_
    exact node_close S hS [1] p k (by rw [ks]; decide) _ (push_b S bq6.1 (by rw [lq6]; exact hl)) w ρ
  have ts : (k == tSym) = false := by simpa using ks
  have lq3 : q3.l = q0.l := l3
  by_cases kd : k = tDir
  · unfold kindD
    rw [if_neg kr, if_neg ks, if_pos kd]
    obtain ⟨ha1, ha2⟩ := hadv (by rw [kd]; decide)
    refine At.run rfl [(1002, hOne 0 1001 S (slN 1 q0.l.length) [tOpen] q0 s1 q1), (2002, hOne 0 2001 S (slN 1 q0.l.length) [tType] q1 s2 q2), (3002, hOne 0 3001 S (slN 1 q0.l.length) [tReg, tSym, tDir] q2 k q3), (2020000, .val (.tup []))] ⟨kA, kB, kC, trivial, trivial⟩ [.n, .n] (tm2 := tmN p k) (rows2 := [(0, rdR S q3 (slN 19007 (q0.l.length + 1))), (19007, ⟨[.fnc (appF (ndc q0.l) q0.l.length fun z => chunkF [stv p, .int .i64 4, stv []] 3 1 (addN 0 z)) 3 (q0.l.length + 1)], true, some (55, 3)⟩)]) (ob := [qL (hOne 0 1001 S (slN 1 q0.l.length) [tOpen] q0 s1 q1), qL (hOne 0 2001 S (slN 1 q0.l.length) [tType] q1 s2 q2), qL (hOne 0 3001 S (slN 1 q0.l.length) [tReg, tSym, tDir] q2 k q3), [(k == tReg) = false, (k == tSym) = false], [q0.l.length = q0.l.length, q0.l.length + 1 ≤ 9223372036854775807, (q0.l.length + 1) * 40 ≤ 140737488355328, 1 ≤ 1]].flatten) (td := rp Try.f25 19) (by kernel_rfl) (all_flat ⟨all_qL _, all_qL _, all_qL _, ⟨tr, ts, trivial⟩, ⟨rfl, by omega, by omega, by omega, trivial⟩, trivial⟩) rfl rfl (by intro h; cases h) ?_
    refine At.rows (rows2 := [(0, rdL S { q3 with l := q3.l ++ [(⟨p, 4, []⟩ : Nd)] } 19007), (19007, liR { q3 with l := q3.l ++ [(⟨p, 4, []⟩ : Nd)] })]) (rows_push (c := (⟨p, 4, []⟩ : Nd)) (by simp [lq3]) (by rw [lq3]; exact (row_step q0.l ⟨p, 4, []⟩ q0.l.length rfl))) rfl ?_
    exact (by rw [kd]; exact node_down S f hdir [1] p hp _ (push_b S bq3.1 (by rw [lq3]; exact hl)) (fun _ => by show 2 * (S.length - q3.at') + 1 ≤ f; have := bq3.1.1; omega) w ρ)
  · unfold kindD
    rw [if_neg kr, if_neg ks, if_neg kd]
    refine At.run rfl [(1002, hOne 0 1001 S (slN 1 q0.l.length) [tOpen] q0 s1 q1), (2002, hOne 0 2001 S (slN 1 q0.l.length) [tType] q1 s2 q2), (3002, hOne 0 3001 S (slN 1 q0.l.length) [tReg, tSym, tDir] q2 k q3), (2020000, .val (.tup []))] ⟨kA, kB, kC, trivial, trivial⟩ [.n, .n] (tm2 := tmN p k) (rows2 := [(0, rdR S q3 (slN 19007 (q0.l.length + 1))), (19007, ⟨[.fnc (appF (ndc q0.l) q0.l.length fun z => chunkF [stv p, .int .i64 4, stv []] 3 1 (addN 0 z)) 3 (q0.l.length + 1)], true, some (55, 3)⟩)]) (ob := [qL (hOne 0 1001 S (slN 1 q0.l.length) [tOpen] q0 s1 q1), qL (hOne 0 2001 S (slN 1 q0.l.length) [tType] q1 s2 q2), qL (hOne 0 3001 S (slN 1 q0.l.length) [tReg, tSym, tDir] q2 k q3), [(k == tReg) = false, (k == tSym) = false], [q0.l.length = q0.l.length, q0.l.length + 1 ≤ 9223372036854775807, (q0.l.length + 1) * 40 ≤ 140737488355328, 1 ≤ 1]].flatten) (td := rp Try.f25 19) (by kernel_rfl) (all_flat ⟨all_qL _, all_qL _, all_qL _, ⟨tr, ts, trivial⟩, ⟨rfl, by omega, by omega, by omega, trivial⟩, trivial⟩) rfl rfl (by intro h; cases h) ?_
    refine At.rows (rows2 := [(0, rdL S { q3 with l := q3.l ++ [(⟨p, 4, []⟩ : Nd)] } 19007), (19007, liR { q3 with l := q3.l ++ [(⟨p, 4, []⟩ : Nd)] })]) (rows_push (c := (⟨p, 4, []⟩ : Nd)) (by simp [lq3]) (by rw [lq3]; exact (row_step q0.l ⟨p, 4, []⟩ q0.l.length rfl))) rfl ?_
    exact node_close S hS [1] p k kd _ (push_b S bq3.1 (by rw [lq3]; exact hl)) w ρ
set_option maxRecDepth 100000 in
set_option maxHeartbeats 1000000 in
theorem node_run0 (S : List UInt8) (hS : S.length ≤ 1000000000000) (f : Nat) (hdir : DirC S f) (p : List UInt8) (hp : lenB p) (q0 : RS) (hb : inB S q0) (hl : q0.l.length < 256) (hf : 2 * (S.length - q0.at') + 2 ≤ f + 1) (ρ : Env) (w : World) (hl0 : q0.l = []) (h0 : RowAt ρ 0 (rdR S q0 (.v (.slice none 0 0))) w) : Calls Try.prog 25 #[(ptrTo 0).val ρ, stv p] w (NdQ S ρ w [] (nodeD S (f + 1) p q0)) := by
  have hpl : p.length ≤ 1000000 := by have := hp.1; have := hp.2; omega
  refine At.calls (args := [ptrTo 0, .v (stv p)]) (rows := [(0, rdR S q0 (.v (.slice none 0 0)))]) (gl := []) (wr := wrL ρ []) (ρ := ρ) Try.func25 rfl rfl ?_ rfl ?_
  · refine init_rw ⟨trivial, rfl, trivial⟩ rfl rfl rfl (fun a ha => ?_) (fun a ha hw => ?_) (fun a ha r hr hn hw => ?_)
    · obtain rfl := List.mem_singleton.1 ha; exact ⟨h0, rd_ok S q0 _ rfl⟩
    · obtain rfl := List.mem_singleton.1 ha; simp
    · obtain rfl := List.mem_singleton.1 ha; obtain rfl := List.mem_singleton.1 hr; exact absurd rfl hn
  rw [nodeD]
  have hadv := head_adv S (q := q0)
  unfold headD at hadv ⊢
  have bq0 : inB S q0 ∧ q0.l = q0.l := ⟨hb, rfl⟩
  obtain ⟨s1, hs1⟩ : ∃ s1, s1 = (oneD S [tOpen] q0).1 := ⟨_, rfl⟩
  obtain ⟨q1, hq1⟩ : ∃ q1, q1 = (oneD S [tOpen] q0).2 := ⟨_, rfl⟩
  have bq1 := one_b S (l := [tOpen]) hb
  rw [← hq1] at bq1
  rw [← hq1] at hadv ⊢
  obtain ⟨s2, hs2⟩ : ∃ s2, s2 = (oneD S [tType] q1).1 := ⟨_, rfl⟩
  obtain ⟨q2, hq2⟩ : ∃ q2, q2 = (oneD S [tType] q1).2 := ⟨_, rfl⟩
  have bq2 := one_b S (l := [tType]) bq1.1
  rw [← hq2] at bq2
  rw [← hq2] at hadv ⊢
  obtain ⟨k, hk⟩ : ∃ k, k = (oneD S [tReg, tSym, tDir] q2).1 := ⟨_, rfl⟩
  obtain ⟨q3, hq3⟩ : ∃ q3, q3 = (oneD S [tReg, tSym, tDir] q2).2 := ⟨_, rfl⟩
  have bq3 := one_b S (l := [tReg, tSym, tDir]) bq2.1
  rw [← hq3] at bq3
  rw [← hk, ← hq3] at hadv ⊢
  have l3 : q3.l = q0.l := bq3.2.trans (bq2.2.trans bq1.2)
  have kA : HintOk Try.prog 1002 (hOne 0 1001 S (.v (.slice none 0 0)) [tOpen] q0 s1 q1) := hOne_ok hs1 hq1 rfl ⟨by decide, by simp [Lf.ids]⟩ (by decide) hS (wsA _ (by decide)) bq0.1.1
  have kB : HintOk Try.prog 2002 (hOne 0 2001 S (.v (.slice none 0 0)) [tType] q1 s2 q2) := hOne_ok hs2 hq2 rfl ⟨by decide, by simp [Lf.ids]⟩ (by decide) hS (wsA _ (by decide)) bq1.1.1
  have kC : HintOk Try.prog 3002 (hOne 0 3001 S (.v (.slice none 0 0)) [tReg, tSym, tDir] q2 k q3) := hOne_ok hk hq3 rfl ⟨by decide, by simp [Lf.ids]⟩ (by decide) hS (wsC _ _ _ (by decide) (by decide) (by decide)) bq2.1.1
  by_cases kr : k = tReg
  · have tr : (k == tReg) = true := by rw [kr]; decide
    unfold kindD
    rw [if_pos kr]
    unfold fileD
    obtain ⟨s4, hs4⟩ : ∃ s4, s4 = (oneD S [tCont, tExec] q3).1 := ⟨_, rfl⟩
    obtain ⟨q4, hq4⟩ : ∃ q4, q4 = (oneD S [tCont, tExec] q3).2 := ⟨_, rfl⟩
    have bq4 := one_b S (l := [tCont, tExec]) bq3.1
    rw [← hq4] at bq4
    rw [← hs4, ← hq4]
    have kE : HintOk Try.prog 9002 (hOne 0 9001 S (.v (.slice none 0 0)) [tCont, tExec] q3 s4 q4) := hOne_ok hs4 hq4 rfl ⟨by decide, by simp [Lf.ids]⟩ (by decide) hS (wsB _ _ (by decide) (by decide)) bq3.1.1
    by_cases ke : s4 = tExec
    · have te : (s4 == tExec) = true := by rw [ke]; decide
      rw [if_pos ke]
      obtain ⟨s5, hs5⟩ : ∃ s5, s5 = (oneD S [[]] q4).1 := ⟨_, rfl⟩
      obtain ⟨q5, hq5⟩ : ∃ q5, q5 = (oneD S [[]] q4).2 := ⟨_, rfl⟩
      have bq5 := one_b S (l := [[]]) bq4.1
      rw [← hq5] at bq5
      obtain ⟨s6, hs6⟩ : ∃ s6, s6 = (oneD S [tCont] q5).1 := ⟨_, rfl⟩
      obtain ⟨q6, hq6⟩ : ∃ q6, q6 = (oneD S [tCont] q5).2 := ⟨_, rfl⟩
      have bq6 := one_b S (l := [tCont]) bq5.1
      rw [← hq6] at bq6
      obtain ⟨d, hd⟩ : ∃ d, d = (textD S 65536 q6).1 := ⟨_, rfl⟩
      obtain ⟨q7, hq7⟩ : ∃ q7, q7 = (textD S 65536 q6).2 := ⟨_, rfl⟩
      have bq7 := text_b S (m := 65536) bq6.1
      rw [← hq7] at bq7
      have lq7 : q7.l = q0.l := bq7.2.1.trans (bq6.2.trans (bq5.2.trans (bq4.2.trans l3)))
      unfold file2D
      rw [← hq5, ← hq6, ← hd, ← hq7]
      have k11002 : HintOk Try.prog 11002 (hOne 0 11001 S (.v (.slice none 0 0)) [[]] q4 s5 q5) := hOne_ok hs5 hq5 rfl ⟨by decide, by simp [Lf.ids]⟩ (by decide) hS (wsA _ (by decide)) bq4.1.1
      have k12002 : HintOk Try.prog 12002 (hOne 0 12001 S (.v (.slice none 0 0)) [tCont] q5 s6 q6) := hOne_ok hs6 hq6 rfl ⟨by decide, by simp [Lf.ids]⟩ (by decide) hS (wsA _ (by decide)) bq5.1.1
      have k13001 : HintOk Try.prog 13001 (hRd 37 0 S (.v (.slice none 0 0)) (.int .i64 (65536 : Nat)) (.v (stv d)) q6 q7) := (by rw [hd, hq7]; exact hTx_ok rfl ⟨by decide, by simp [Lf.ids]⟩ hS (by decide) bq6.1.1)
      refine At.run rfl [(1002, hOne 0 1001 S (.v (.slice none 0 0)) [tOpen] q0 s1 q1), (2002, hOne 0 2001 S (.v (.slice none 0 0)) [tType] q1 s2 q2), (3002, hOne 0 3001 S (.v (.slice none 0 0)) [tReg, tSym, tDir] q2 k q3), (9002, hOne 0 9001 S (.v (.slice none 0 0)) [tCont, tExec] q3 s4 q4), (11002, hOne 0 11001 S (.v (.slice none 0 0)) [[]] q4 s5 q5), (12002, hOne 0 12001 S (.v (.slice none 0 0)) [tCont] q5 s6 q6), (13001, hRd 37 0 S (.v (.slice none 0 0)) (.int .i64 (65536 : Nat)) (.v (stv d)) q6 q7), (2020000, .val (.tup []))] ⟨kA, kB, kC, kE, k11002, k12002, k13001, trivial, trivial⟩ [.y, .y] (tm2 := tmN p k) (rows2 := [(0, rdR S q7 (slN 19007 1)), (19007, ⟨[.fnc (fun z => chunkF [stv p, .int .i64 2, stv d] 3 1 (addN 0 z)) 3 1], true, some (55, 3)⟩)]) (ob := [qL (hOne 0 1001 S (.v (.slice none 0 0)) [tOpen] q0 s1 q1), qL (hOne 0 2001 S (.v (.slice none 0 0)) [tType] q1 s2 q2), qL (hOne 0 3001 S (.v (.slice none 0 0)) [tReg, tSym, tDir] q2 k q3), [(k == tReg) = true], qL (hOne 0 9001 S (.v (.slice none 0 0)) [tCont, tExec] q3 s4 q4), [(s4 == tExec) = true], qL (hOne 0 11001 S (.v (.slice none 0 0)) [[]] q4 s5 q5), qL (hOne 0 12001 S (.v (.slice none 0 0)) [tCont] q5 s6 q6), qL (hRd 37 0 S (.v (.slice none 0 0)) (.int .i64 (65536 : Nat)) (.v (stv d)) q6 q7), [(0 : Nat) < 1, (1 : Nat) ≤ 9223372036854775807, (40 : Nat) ≤ 140737488355328, (1 : Nat) ≤ 1]].flatten) (td := rp Try.f25 19) (by kernel_rfl) (all_flat ⟨all_qL _, all_qL _, all_qL _, ⟨tr, trivial⟩, all_qL _, ⟨te, trivial⟩, all_qL _, all_qL _, all_qL _, ⟨by decide, by decide, by decide, by decide, trivial⟩, trivial⟩) rfl rfl (by intro h; cases h) ?_
      refine At.rows (rows2 := [(0, rdL S { q7 with l := q7.l ++ [(⟨p, 2, d⟩ : Nd)] } 19007), (19007, liR { q7 with l := q7.l ++ [(⟨p, 2, d⟩ : Nd)] })]) (rows_push (c := (⟨p, 2, d⟩ : Nd)) (by simp [lq7, hl0]) (by rw [lq7, hl0]; exact (root_row2 ⟨p, 2, d⟩))) rfl ?_
      exact node_close S hS [] p k (by rw [kr]; decide) _ (push_b S bq7.1 (by rw [lq7]; exact hl)) w ρ
    · have te : (s4 == tExec) = false := by simpa using ke
      rw [if_neg ke]
      obtain ⟨d, hd⟩ : ∃ d, d = (textD S 65536 q4).1 := ⟨_, rfl⟩
      obtain ⟨q5, hq5⟩ : ∃ q5, q5 = (textD S 65536 q4).2 := ⟨_, rfl⟩
      have bq5 := text_b S (m := 65536) bq4.1
      rw [← hq5] at bq5
      have lq5 : q5.l = q0.l := bq5.2.1.trans (bq4.2.trans l3)
      unfold file2D
      rw [← hd, ← hq5]
      have k13001 : HintOk Try.prog 13001 (hRd 37 0 S (.v (.slice none 0 0)) (.int .i64 (65536 : Nat)) (.v (stv d)) q4 q5) := (by rw [hd, hq5]; exact hTx_ok rfl ⟨by decide, by simp [Lf.ids]⟩ hS (by decide) bq4.1.1)
      refine At.run rfl [(1002, hOne 0 1001 S (.v (.slice none 0 0)) [tOpen] q0 s1 q1), (2002, hOne 0 2001 S (.v (.slice none 0 0)) [tType] q1 s2 q2), (3002, hOne 0 3001 S (.v (.slice none 0 0)) [tReg, tSym, tDir] q2 k q3), (9002, hOne 0 9001 S (.v (.slice none 0 0)) [tCont, tExec] q3 s4 q4), (13001, hRd 37 0 S (.v (.slice none 0 0)) (.int .i64 (65536 : Nat)) (.v (stv d)) q4 q5), (2020000, .val (.tup []))] ⟨kA, kB, kC, kE, k13001, trivial, trivial⟩ [.y, .n] (tm2 := tmN p k) (rows2 := [(0, rdR S q5 (slN 19007 1)), (19007, ⟨[.fnc (fun z => chunkF [stv p, .int .i64 1, stv d] 3 1 (addN 0 z)) 3 1], true, some (55, 3)⟩)]) (ob := [qL (hOne 0 1001 S (.v (.slice none 0 0)) [tOpen] q0 s1 q1), qL (hOne 0 2001 S (.v (.slice none 0 0)) [tType] q1 s2 q2), qL (hOne 0 3001 S (.v (.slice none 0 0)) [tReg, tSym, tDir] q2 k q3), [(k == tReg) = true], qL (hOne 0 9001 S (.v (.slice none 0 0)) [tCont, tExec] q3 s4 q4), [(s4 == tExec) = false], qL (hRd 37 0 S (.v (.slice none 0 0)) (.int .i64 (65536 : Nat)) (.v (stv d)) q4 q5), [(0 : Nat) < 1, (1 : Nat) ≤ 9223372036854775807, (40 : Nat) ≤ 140737488355328, (1 : Nat) ≤ 1]].flatten) (td := rp Try.f25 19) (by kernel_rfl) (all_flat ⟨all_qL _, all_qL _, all_qL _, ⟨tr, trivial⟩, all_qL _, ⟨te, trivial⟩, all_qL _, ⟨by decide, by decide, by decide, by decide, trivial⟩, trivial⟩) rfl rfl (by intro h; cases h) ?_
      refine At.rows (rows2 := [(0, rdL S { q5 with l := q5.l ++ [(⟨p, 1, d⟩ : Nd)] } 19007), (19007, liR { q5 with l := q5.l ++ [(⟨p, 1, d⟩ : Nd)] })]) (rows_push (c := (⟨p, 1, d⟩ : Nd)) (by simp [lq5, hl0]) (by rw [lq5, hl0]; exact (root_row2 ⟨p, 1, d⟩))) rfl ?_
      exact node_close S hS [] p k (by rw [kr]; decide) _ (push_b S bq5.1 (by rw [lq5]; exact hl)) w ρ
  have tr : (k == tReg) = false := by simpa using kr
  by_cases ks : k = tSym
  · have ts : (k == tSym) = true := by rw [ks]; decide
    unfold kindD
    rw [if_neg kr, if_pos ks]
    unfold linkD link2D
    obtain ⟨s4, hs4⟩ : ∃ s4, s4 = (oneD S [tTarg] q3).1 := ⟨_, rfl⟩
    obtain ⟨q4, hq4⟩ : ∃ q4, q4 = (oneD S [tTarg] q3).2 := ⟨_, rfl⟩
    have bq4 := one_b S (l := [tTarg]) bq3.1
    rw [← hq4] at bq4
    obtain ⟨d, hd⟩ : ∃ d, d = (textD S 4096 q4).1 := ⟨_, rfl⟩
    obtain ⟨q5, hq5⟩ : ∃ q5, q5 = (textD S 4096 q4).2 := ⟨_, rfl⟩
    have bq5 := text_b S (m := 4096) bq4.1
    rw [← hq5] at bq5
    rw [← hq4, ← hd, ← hq5]
    obtain ⟨b, hbb⟩ : ∃ b, b = mayDataL ⟨p, 3, d⟩ := ⟨_, rfl⟩
    obtain ⟨q6, hq6⟩ : ∃ q6, q6 = wrongD (!b) q5 := ⟨_, rfl⟩
    have bq6 := wrong_b S (b := !b) bq5.1
    rw [← hbb, ← hq6]
    rw [← hq6] at bq6
    have lq6 : q6.l = q0.l := bq6.2.trans (bq5.2.1.trans (bq4.2.trans l3))
    have hdl : d.length ≤ 4096 := by have := (text_b S (m := 4096) (q := q4) bq4.1).2.2; rw [← hd] at this; exact this
    have kM : HintOk Try.prog 18002 (pc 38 #[.agg #[stv p, .int .i64 3, stv d]] (.v (.bool b))) := pc_ok ent38 (v := .bool b) rfl (fun _ => rfl) fun w => by
      rw [hbb]
      exact mayData_any ⟨p, 3, d⟩ hpl (by show d.length ≤ _; omega) w
    have k16002 : HintOk Try.prog 16002 (hOne 0 16001 S (.v (.slice none 0 0)) [tTarg] q3 s4 q4) := hOne_ok hs4 hq4 rfl ⟨by decide, by simp [Lf.ids]⟩ (by decide) hS (wsA _ (by decide)) bq3.1.1
    have k17001 : HintOk Try.prog 17001 (hRd 37 0 S (.v (.slice none 0 0)) (.int .i64 (4096 : Nat)) (.v (stv d)) q4 q5) := (by rw [hd, hq5]; exact hTx_ok rfl ⟨by decide, by simp [Lf.ids]⟩ hS (by decide) bq4.1.1)
    have k18004 : HintOk Try.prog 18004 (hRd 26 0 S (.v (.slice none 0 0)) (.bool (!b)) (.tup []) q5 q6) := (by rw [hq6]; exact hWr_ok rfl ⟨by decide, by simp [Lf.ids]⟩)
    refine At.run rfl [(1002, hOne 0 1001 S (.v (.slice none 0 0)) [tOpen] q0 s1 q1), (2002, hOne 0 2001 S (.v (.slice none 0 0)) [tType] q1 s2 q2), (3002, hOne 0 3001 S (.v (.slice none 0 0)) [tReg, tSym, tDir] q2 k q3), (16002, hOne 0 16001 S (.v (.slice none 0 0)) [tTarg] q3 s4 q4), (17001, hRd 37 0 S (.v (.slice none 0 0)) (.int .i64 (4096 : Nat)) (.v (stv d)) q4 q5), (18002, pc 38 #[.agg #[stv p, .int .i64 3, stv d]] (.v (.bool b))), (18004, hRd 26 0 S (.v (.slice none 0 0)) (.bool (!b)) (.tup []) q5 q6), (2020000, .val (.tup []))] ⟨kA, kB, kC, k16002, k17001, kM, k18004, trivial, trivial⟩ [.n, .y] (tm2 := tmN p k) (rows2 := [(0, rdR S q6 (slN 19007 1)), (19007, ⟨[.fnc (fun z => chunkF [stv p, .int .i64 3, stv d] 3 1 (addN 0 z)) 3 1], true, some (55, 3)⟩)]) (ob := [qL (hOne 0 1001 S (.v (.slice none 0 0)) [tOpen] q0 s1 q1), qL (hOne 0 2001 S (.v (.slice none 0 0)) [tType] q1 s2 q2), qL (hOne 0 3001 S (.v (.slice none 0 0)) [tReg, tSym, tDir] q2 k q3), [(k == tReg) = false, (k == tSym) = true], qL (hOne 0 16001 S (.v (.slice none 0 0)) [tTarg] q3 s4 q4), qL (hRd 37 0 S (.v (.slice none 0 0)) (.int .i64 (4096 : Nat)) (.v (stv d)) q4 q5), qL (pc 38 #[.agg #[stv p, .int .i64 3, stv d]] (.v (.bool b))), qL (hRd 26 0 S (.v (.slice none 0 0)) (.bool (!b)) (.tup []) q5 q6), [(0 : Nat) < 1, (1 : Nat) ≤ 9223372036854775807, (40 : Nat) ≤ 140737488355328, (1 : Nat) ≤ 1]].flatten) (td := rp Try.f25 19) (by kernel_rfl) (all_flat ⟨all_qL _, all_qL _, all_qL _, ⟨tr, ts, trivial⟩, all_qL _, all_qL _, all_qL _, all_qL _, ⟨by decide, by decide, by decide, by decide, trivial⟩, trivial⟩) rfl rfl (by intro h; cases h) ?_
    refine At.rows (rows2 := [(0, rdL S { q6 with l := q6.l ++ [(⟨p, 3, d⟩ : Nd)] } 19007), (19007, liR { q6 with l := q6.l ++ [(⟨p, 3, d⟩ : Nd)] })]) (rows_push (c := (⟨p, 3, d⟩ : Nd)) (by simp [lq6, hl0]) (by rw [lq6, hl0]; exact (root_row2 ⟨p, 3, d⟩))) rfl ?_
    exact node_close S hS [] p k (by rw [ks]; decide) _ (push_b S bq6.1 (by rw [lq6]; exact hl)) w ρ
  have ts : (k == tSym) = false := by simpa using ks
  have lq3 : q3.l = q0.l := l3
  by_cases kd : k = tDir
  · unfold kindD
    rw [if_neg kr, if_neg ks, if_pos kd]
    obtain ⟨ha1, ha2⟩ := hadv (by rw [kd]; decide)
    refine At.run rfl [(1002, hOne 0 1001 S (.v (.slice none 0 0)) [tOpen] q0 s1 q1), (2002, hOne 0 2001 S (.v (.slice none 0 0)) [tType] q1 s2 q2), (3002, hOne 0 3001 S (.v (.slice none 0 0)) [tReg, tSym, tDir] q2 k q3), (2020000, .val (.tup []))] ⟨kA, kB, kC, trivial, trivial⟩ [.n, .n] (tm2 := tmN p k) (rows2 := [(0, rdR S q3 (slN 19007 1)), (19007, ⟨[.fnc (fun z => chunkF [stv p, .int .i64 4, stv []] 3 1 (addN 0 z)) 3 1], true, some (55, 3)⟩)]) (ob := [qL (hOne 0 1001 S (.v (.slice none 0 0)) [tOpen] q0 s1 q1), qL (hOne 0 2001 S (.v (.slice none 0 0)) [tType] q1 s2 q2), qL (hOne 0 3001 S (.v (.slice none 0 0)) [tReg, tSym, tDir] q2 k q3), [(k == tReg) = false, (k == tSym) = false], [(0 : Nat) < 1, (1 : Nat) ≤ 9223372036854775807, (40 : Nat) ≤ 140737488355328, (1 : Nat) ≤ 1]].flatten) (td := rp Try.f25 19) (by kernel_rfl) (all_flat ⟨all_qL _, all_qL _, all_qL _, ⟨tr, ts, trivial⟩, ⟨by decide, by decide, by decide, by decide, trivial⟩, trivial⟩) rfl rfl (by intro h; cases h) ?_
    refine At.rows (rows2 := [(0, rdL S { q3 with l := q3.l ++ [(⟨p, 4, []⟩ : Nd)] } 19007), (19007, liR { q3 with l := q3.l ++ [(⟨p, 4, []⟩ : Nd)] })]) (rows_push (c := (⟨p, 4, []⟩ : Nd)) (by simp [lq3, hl0]) (by rw [lq3, hl0]; exact (root_row2 ⟨p, 4, []⟩))) rfl ?_
    exact (by rw [kd]; exact node_down S f hdir [] p hp _ (push_b S bq3.1 (by rw [lq3]; exact hl)) (fun _ => by show 2 * (S.length - q3.at') + 1 ≤ f; have := bq3.1.1; omega) w ρ)
  · unfold kindD
    rw [if_neg kr, if_neg ks, if_neg kd]
    refine At.run rfl [(1002, hOne 0 1001 S (.v (.slice none 0 0)) [tOpen] q0 s1 q1), (2002, hOne 0 2001 S (.v (.slice none 0 0)) [tType] q1 s2 q2), (3002, hOne 0 3001 S (.v (.slice none 0 0)) [tReg, tSym, tDir] q2 k q3), (2020000, .val (.tup []))] ⟨kA, kB, kC, trivial, trivial⟩ [.n, .n] (tm2 := tmN p k) (rows2 := [(0, rdR S q3 (slN 19007 1)), (19007, ⟨[.fnc (fun z => chunkF [stv p, .int .i64 4, stv []] 3 1 (addN 0 z)) 3 1], true, some (55, 3)⟩)]) (ob := [qL (hOne 0 1001 S (.v (.slice none 0 0)) [tOpen] q0 s1 q1), qL (hOne 0 2001 S (.v (.slice none 0 0)) [tType] q1 s2 q2), qL (hOne 0 3001 S (.v (.slice none 0 0)) [tReg, tSym, tDir] q2 k q3), [(k == tReg) = false, (k == tSym) = false], [(0 : Nat) < 1, (1 : Nat) ≤ 9223372036854775807, (40 : Nat) ≤ 140737488355328, (1 : Nat) ≤ 1]].flatten) (td := rp Try.f25 19) (by kernel_rfl) (all_flat ⟨all_qL _, all_qL _, all_qL _, ⟨tr, ts, trivial⟩, ⟨by decide, by decide, by decide, by decide, trivial⟩, trivial⟩) rfl rfl (by intro h; cases h) ?_
    refine At.rows (rows2 := [(0, rdL S { q3 with l := q3.l ++ [(⟨p, 4, []⟩ : Nd)] } 19007), (19007, liR { q3 with l := q3.l ++ [(⟨p, 4, []⟩ : Nd)] })]) (rows_push (c := (⟨p, 4, []⟩ : Nd)) (by simp [lq3, hl0]) (by rw [lq3, hl0]; exact (root_row2 ⟨p, 4, []⟩))) rfl ?_
    exact node_close S hS [] p k kd _ (push_b S bq3.1 (by rw [lq3]; exact hl)) w ρ
end
end Go.Proofs.Ytglipljilcdboaa
/- under of the document: the place behind a node and all below it. Its condition: lengths that fit. -/
namespace Go.Proofs.Ytglipljilcdboaa
open Go.RowKit Go.Shelf
set_option linter.unusedVariables false
set_option linter.unusedSimpArgs false
theorem lt_eq : ∀ a b : List UInt8, ltL a b = Op.bytesLess a b
  | [], [] => rfl
  | [], _ :: _ => rfl
  | _ :: _, [] => rfl
  | a :: l, b :: m => by
    rw [ltL, Op.bytesLess, lt_eq l m]
    by_cases h : a < b
    · simp [h]
    · by_cases e : a = b
      · simp [h, e]
      · simp [h, e]
theorem lt_total : ∀ a b : List UInt8, (Op.bytesLess a b || a == b) = !ltL b a
  | [], [] => rfl
  | [], _ :: _ => rfl
  | _ :: _, [] => rfl
  | a :: l, b :: m => by
    have ih := lt_total l m
    rw [Op.bytesLess, ltL]
    by_cases h : a < b
    · have h1 : ¬ b < a := by simp only [UInt8.lt_iff_toNat_lt] at *; omega
      have h2 : ¬ b = a := by rintro rfl; exact h1 h
      simp [h, h1, h2]
    · by_cases e : a = b
      · subst e
        have h0 : ¬ a < a := h
        simp [h0]
        simpa using ih
      · have h1 : b < a := by
          simp only [UInt8.lt_iff_toNat_lt] at *
          have : a.toNat ≠ b.toNat := fun x => e (UInt8.toNat_inj.1 x)
          omega
        simp [h, e, h1]
theorem Below.drewN {b : Nat} {w w2 : World} (h : Below b w w2) : ∀ n, Below b w (w2.drewN n)
  | 0 => h
  | n + 1 => by
    have := (Below.drewN h n).drew
    exact this
/-- Where the rest begins. -/
def placeU (l : List Nd) (r : List Nd) : Nat := l.length - r.length
theorem drop_of_suf {l r : List Nd} (h : r <:+ l) : l.drop (placeU l r) = r := by
  obtain ⟨t, rfl⟩ := h
  unfold placeU
  rw [List.length_append, Nat.add_sub_cancel, List.drop_left]
def underP (l : List Nd) (k : Nat) (h : k < l.length) : Nat := placeU l (restU (fuelN (l.drop (k + 1))) l[k] (l.drop (k + 1)))
set_option maxRecDepth 100000 in
set_option maxHeartbeats 1000000 in
theorem under_step (b o cap : Nat) (l : List Nd) (hl : l.length ≤ 100000) (hp : ∀ c ∈ l, c.path.length ≤ 1000000) (at_ : Nat) (hat : at_ < l.length)
    (IH : ∀ k, at_ < k → (hk : k < l.length) → ∀ w, Nodes w b o l → Calls Try.prog 44 #[slV b o l.length cap, .int .i64 (k : Int)] w fun e w' => e = .returned (.int .i64 (underP l k hk : Int)) ∧ Below w.heap.size w w') (w : World) (hN : Nodes w b o l) :
    Calls Try.prog 44 #[slV b o l.length cap, .int .i64 (at_ : Int)] w fun e w' => e = .returned (.int .i64 (underP l at_ hat : Int)) ∧ Below w.heap.size w w' := by
  have HN := Lib.hid hN
  clear hN
  obtain ⟨n, hn⟩ : ∃ n, n = l.length := ⟨_, rfl⟩
  obtain ⟨U, hU⟩ : ∃ U, Hid (U = underP l at_ hat) := ⟨_, Lib.hid rfl⟩
  rw [← hU.out]
  rw [← hn] at hl ⊢
  have hatn : at_ < n := by omega
  unfold slV
  go_enter Try.func44, Try.ntmps44
  go_wp2_with fail
  obtain ⟨d, hd⟩ : ∃ d, Hid (d = l[at_]) := ⟨_, Lib.hid rfl⟩
  obtain ⟨RE, hRE⟩ : ∃ r, Hid (r = restU (fuelN (l.drop (at_ + 1))) l[at_] (l.drop (at_ + 1))) := ⟨_, Lib.hid rfl⟩
  have hUR : Hid (U = n - RE.length) := Lib.hid (by rw [hU.out, hRE.out, hn]; rfl)
  have hstart : Hid (d.kind = 4 → loopU (2 * (n - (at_ + 1)) + 1) d.path [] (l.drop (at_ + 1)) = RE) := Lib.hid (by
    intro h4
    rw [hRE.out, fuelN, restU_succ, ← hd.out, if_pos h4, List.length_drop, ← hn])
  have hother : Hid (d.kind ≠ 4 → U = at_ + 1) := Lib.hid (by
    intro h4
    rw [hUR.out, hRE.out, fuelN, restU_succ, ← hd.out, if_neg h4, List.length_drop]; omega)
  go_loopw [5, 6] (fun x y wr => ∃ (k : Nat) (ls : List UInt8), at_ + 1 ≤ k ∧ k ≤ n ∧ x = .int .i64 k ∧ y = strV ls ∧ ls.length ≤ 1000000 ∧ ((d.kind = 4 ∧ loopU (2 * (n - k) + 1) d.path ls (l.drop k) = RE) ∨ (d.kind ≠ 4 ∧ k = at_ + 1)) ∧ Below w.heap.size w wr) (fun x y _ => n - (intOf x).toNat)
  case atStart =>
    refine ⟨at_ + 1, [], Nat.le_refl _, by omega, by first | rfl | simp | go_num, rfl, by simp, ?_, Below.refl _ w⟩
    by_cases h4 : d.kind = 4
    · exact .inl ⟨h4, hstart.out h4⟩
    · exact .inr ⟨h4, rfl⟩
  case round =>
    obtain ⟨k, ls, hk1, hk, rfl, rfl, hls, hinv, hb⟩ := hrel
    have HB := Lib.hid hb
    have HI := Lib.hid hinv
    clear hb hinv
    have HNr := Lib.hid (HN.out.below (W2 := wr) HB.out)
    have c1 := (HNr.out.2 at_ (by omega)).2.1
    rw [← hd.out] at c1
    by_cases hlt : k < n
    · have hltI : (k : Int) < (n : Int) := by omega
      have hatI : (at_ : Int) < (n : Int) := by omega
      by_cases h4 : d.kind = 4
      · have hkl : k < l.length := by omega
        have p1 := (HNr.out.2 k hkl).1
        have p2 := (HNr.out.2 at_ (by omega)).1
        rw [← hd.out] at p2
        obtain ⟨c, hc⟩ : ∃ c, Hid (c = l[k]) := ⟨_, Lib.hid rfl⟩
        rw [← hc.out] at p1
        obtain ⟨A, hA⟩ : ∃ x : ByteArray, Hid (x = ⟨c.path.toArray⟩) := ⟨_, Lib.hid rfl⟩
        obtain ⟨B, hB⟩ : ∃ x : ByteArray, Hid (x = ⟨d.path.toArray⟩) := ⟨_, Lib.hid rfl⟩
        obtain ⟨M, hM⟩ : ∃ x : ByteArray, Hid (x = ⟨(nameL c.path d.path).toArray⟩) := ⟨_, Lib.hid rfl⟩
        have HC : Hid (∀ w, Calls Try.prog 45 #[.string A, .string B] w fun e w' => e = .returned (.string M) ∧ w' = w) := Lib.hid (fun w => by
          have h := name_any A B (by rw [hA.out]; exact hp _ (by rw [hc.out]; exact List.getElem_mem _)) (by rw [hB.out]; exact hp _ (by rw [hd.out]; exact List.getElem_mem _)) w
          rw [show A.data.toList = c.path by rw [hA.out], show B.data.toList = d.path by rw [hB.out]] at h
          rw [hM.out]
          exact h)
        rw [show strV c.path = .string A by rw [hA.out]; rfl] at p1
        rw [show strV d.path = .string B by rw [hB.out]; rfl] at p2
        obtain ⟨L, hL⟩ : ∃ x : ByteArray, Hid (x = ⟨ls.toArray⟩) := ⟨_, Lib.hid rfl⟩
        rw [show strV ls = .string L by rw [hL.out]; rfl]
        go_wp2_with fail
        go_quiet (with_reducible exact Calls.quiet_of_same (HC.out _))
        have HBq : Hid (Below w.heap.size w (wr.drewN nq)) := Lib.hid (Below.drewN HB.out nq)
        generalize wr.drewN nq = wq at *
        have hloop : Hid (loopU (2 * (n - (k + 1)) + 3) d.path ls (c :: l.drop (k + 1)) = RE) := Lib.hid (by
          rcases HI.out with ⟨_, h⟩ | ⟨h, _⟩
          · rw [List.drop_eq_getElem_cons hkl, show 2 * (n - k) + 1 = 2 * (n - (k + 1)) + 3 by omega, ← hc.out] at h
            exact h
          · exact absurd h4 h)
        have hML : M.toList = nameL c.path d.path := by rw [ByteArray.toList_eq, hM.out]
        have hLL : L.toList = ls := by rw [ByteArray.toList_eq, hL.out]
        by_cases hne : nameL c.path d.path = []
        · have hz : Hid (U = k) := Lib.hid (by
            have h := hloop.out
            rw [loopU_cons, if_pos (Or.inl hne)] at h
            rw [hUR.out, ← h, List.length_cons, List.length_drop]
            omega)
          rw [hne] at hML
          clear hne
          go_wp2_with fail
          go_ret
          exact ⟨by rw [hz.out]; rfl, HBq.out⟩
        · by_cases hlt2 : ltL ls (nameL c.path d.path) = false
          · have hz : Hid (U = k) := Lib.hid (by
              have h := hloop.out
              rw [loopU_cons, if_pos (Or.inr hlt2)] at h
              rw [hUR.out, ← h, List.length_cons, List.length_drop]
              omega)
            have hv : (Op.bytesLess M.toList L.toList || M.toList == L.toList) = true := by rw [lt_total, hML, hLL, hlt2]; rfl
            have hne2 : ¬ M.toList = [] := by rw [hML]; exact hne
            clear hne hlt2 hML hLL
            go_wp2_with fail
            go_ret
            exact ⟨by rw [hz.out]; rfl, HBq.out⟩
          · have hlt3 : ltL ls (nameL c.path d.path) = true := by simpa using hlt2
            have hv : (Op.bytesLess M.toList L.toList || M.toList == L.toList) = false := by rw [lt_total, hML, hLL, hlt3]; rfl
            obtain ⟨hv1, hv2⟩ := Bool.or_eq_false_iff.1 hv
            have hv3 : ¬ M.toList = L.toList := by simpa using hv2
            have hne2 : ¬ M.toList = [] := by rw [hML]; exact hne
            have hne4 : M.toList.isEmpty = false := by
              cases h : M.toList with
              | nil => exact absurd h hne2
              | cons => rfl
            have hMx : Hid (M = ⟨(nameL c.path d.path).toArray⟩) := hM
            have hneH := Lib.hid hne
            have hltH := Lib.hid hlt2
            clear hne hlt2 hlt3 hML hLL
            have HI2 : Hid (∀ w, Nodes w b o l → Calls Try.prog 44 #[.slice (some ⟨b, o, none⟩) l.length cap, .int .i64 (k : Int)] w fun e w' => e = .returned (.int .i64 (underP l k hkl : Int)) ∧ Below w.heap.size w w') := Lib.hid (IH k (by omega) hkl)
            have HNq := Lib.hid (HN.out.below (W2 := wq) HBq.out)
            go_wp2_with fail
            with_reducible refine (HI2.out _ HNq.out).mono ?_
            rintro e w2 ⟨rfl, hb⟩
            have HB2 := Lib.hid (HBq.out.trans (hb.mono HBq.out.size))
            clear hb HI2
            obtain ⟨R2, hR2⟩ : ∃ r, r = restU (fuelN (l.drop (k + 1))) l[k] (l.drop (k + 1)) := ⟨_, rfl⟩
            have hsuf : R2 <:+ l.drop (k + 1) := by rw [hR2]; exact (rest_suf _).1 _ _
            have hsuf2 : R2 <:+ l := hsuf.trans (List.drop_suffix _ _)
            have hlen : R2.length ≤ n - (k + 1) := by have := hsuf.length_le; rw [List.length_drop] at this; omega
            obtain ⟨k2, hk2⟩ : ∃ k2, k2 = underP l k hkl := ⟨_, rfl⟩
            have hk2v : k2 = n - R2.length := by rw [hk2, hn, hR2]; rfl
            have hdrop : l.drop k2 = R2 := by rw [hk2v, hn]; exact drop_of_suf hsuf2
            have hnext : Hid (loopU (2 * (n - k2) + 1) d.path (nameL c.path d.path) (l.drop k2) = RE) := Lib.hid (by
              have h := hloop.out
              rw [loopU_cons, if_neg (fun h => h.elim hneH.out hltH.out)] at h
              rw [← h, hdrop]
              have hfu : fuelN (l.drop (k + 1)) = 2 * (n - (k + 1)) + 2 := by unfold fuelN; rw [List.length_drop, ← hn]
              rw [show restU (2 * (n - (k + 1)) + 2) c (l.drop (k + 1)) = R2 by rw [hR2, hfu, hc.out]]
              exact (rest_fuel _ _).2 _ _ _ (by omega) (by omega))
            rw [← hk2]
            clear hk2 hR2 hsuf hsuf2 hdrop
            have hnl : (nameL c.path d.path).length ≤ 1000000 := Nat.le_trans (name_len _ _) (hp _ (by rw [hc.out]; exact List.getElem_mem _))
            have f1 : at_ + 1 ≤ k2 := by omega
            have f2 : k2 ≤ n := by omega
            have f3 : n - k2 < n - k := by omega
            clear hk2v hlen hn
            go_wp2_with fail
            go_roundw
            case rel => exact ⟨k2, nameL c.path d.path, f1, f2, rfl, by rw [hMx.out]; rfl, hnl, .inl ⟨h4, hnext.out⟩, HB2.out⟩
            case measure => simp [intOf] <;> omega
      · have hz : Hid (U = k) := Lib.hid (by
          rcases HI.out with ⟨h, _⟩ | ⟨_, h⟩
          · exact absurd h h4
          · rw [hother.out h4, h])
        go_wp2_with fail
        go_ret
        exact ⟨by rw [hz.out]; rfl, HB.out⟩
    · have hltI : ¬ (k : Int) < (n : Int) := by omega
      have hz : Hid (U = k) := Lib.hid (by
        rcases HI.out with ⟨h, hh⟩ | ⟨h, hh⟩
        · rw [List.drop_of_length_le (by omega), loopU_nil] at hh
          rw [hUR.out, ← hh]
          show n - 0 = k
          omega
        · rw [hother.out h, hh])
      go_wp2_with fail
      go_ret
      exact ⟨by rw [hz.out]; rfl, HB.out⟩
theorem under_any (b o cap : Nat) (l : List Nd) (hl : l.length ≤ 100000) (hp : ∀ c ∈ l, c.path.length ≤ 1000000) : ∀ (m k : Nat), l.length - k ≤ m → (hk : k < l.length) → ∀ w, Nodes w b o l →
    Calls Try.prog 44 #[slV b o l.length cap, .int .i64 (k : Int)] w fun e w' => e = .returned (.int .i64 (underP l k hk : Int)) ∧ Below w.heap.size w w'
  | 0, k, hm, hk => by omega
  | m + 1, k, hm, hk => fun w hN => under_step b o cap l hl hp k hk (fun j hj hjl => under_any b o cap l hl hp m j (by omega) hjl) w hN
end Go.Proofs.Ytglipljilcdboaa
