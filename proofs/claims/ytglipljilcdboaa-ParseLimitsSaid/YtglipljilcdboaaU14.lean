/- Several texts, one behind the other; each says by itself what it proves, and on what conditions. -/
import Derived.Test.YtglipljilcdboaaU13
/- The document's reader: what is in a directory; nodes and directories, at any depth. Its conditions: lengths that fit. -/
namespace Go.Proofs.Ytglipljilcdboaa
open Go.RowKit
set_option linter.unusedVariables false
set_option linter.unusedSimpArgs false
section
open E
theorem ent42 : Enters Try.prog 42 := enters_of Try.func42 (by kernel_rfl) rfl
theorem ent43 : Enters Try.prog 43 := enters_of Try.func43 (by kernel_rfl) rfl
abbrev hMN (s : List UInt8) : Hint := pc 42 #[stv s] (.v (.bool (mayNameL s)))
theorem hMN_ok (id : Nat) (s : List UInt8) (hs : s.length ≤ 1000000) : HintOk Try.prog id (hMN s) := pc_ok ent42 (v := .bool (mayNameL s)) rfl (fun _ => rfl) fun w => (mayName_any ⟨s.toArray⟩ hs w).mono (by rintro e w' ⟨rfl, rfl⟩; exact ⟨rfl, Below.refl _ _⟩)
abbrev hDp (s : List UInt8) : Hint := pc 43 #[stv s] (.int .i64 (deepL s : Int))
theorem hDp_ok (id : Nat) (s : List UInt8) (hs : s.length ≤ 1000000) : HintOk Try.prog id (hDp s) := pc_ok ent43 (v := .int .i64 (deepL s : Int)) rfl (fun _ => rfl) fun w => (deep_any ⟨s.toArray⟩ hs w).mono (by rintro e w' ⟨rfl, rfl⟩; exact ⟨rfl, Below.refl _ _⟩)
abbrev NodeC (S : List UInt8) (f : Nat) : Prop := ∀ (p : List UInt8) (q : RS), inB S q → q.l.length < 256 → lenB p → 2 * (S.length - q.at') + 2 ≤ f → ∀ (ρ : Env) (w : World), RowAt ρ 0 (rdL S q 1) w → RowAt ρ 1 (liR q) w → (ρ 0).1 ≠ (ρ 1).1 → Calls Try.prog 25 #[(ptrTo 0).val ρ, stv p] w (NdQ S ρ w [1] (nodeD S f p q))
abbrev tmD (p last : List UInt8) : List (Nat × TV) := [(0, ptrTo 0), (1, .v (stv p)), (4, .v (stv last))]
abbrev tmE (p last n j : List UInt8) : List (Nat × TV) := [(0, ptrTo 0), (1, .v (stv p)), (4, .v (stv last)), (5, .v (stv n)), (6, .v (stv j))]
abbrev tmF (p n j : List UInt8) : List (Nat × TV) := [(0, ptrTo 0), (1, .v (stv p)), (4, .v (stv n)), (6, .v (stv j))]
abbrev rwD (S : List UInt8) (q : RS) : List (Nat × Row) := [(0, rdL S q 2904), (2904, liR q)]
abbrev QD (S : List UInt8) (ρ : Env) (w : World) (q : RS) := EndX Try.prog Try.f39 (NdQ S ρ w [1] q)
abbrev AtD (S : List UInt8) (ρ : Env) (w : World) (td : List Item) (tm : List (Nat × TV)) (rows : List (Nat × Row)) (q : RS) : Prop := At Try.prog w ⟨wrL ρ [1], ρ, []⟩ Try.f39.ntmps [] td (QD S ρ w q) tm rows
set_option maxRecDepth 100000 in
theorem dir_bad (S : List UInt8) (p last n j : List UInt8) (hn : n.length ≤ 255) (hj : j = joinL p n) (hjl : j.length ≤ 1000000) (q qf : RS) (hb : inB S q) (w : World) (ρ : Env) (K : AtD S ρ w (rp Try.f39 11) (tmF p n j) (rwD S (wrongD (badN p last n q.l.length) q)) qf) : AtD S ρ w (rp Try.f39 9) (tmE p last n j) (rwD S q) qf := by
  have kM : HintOk Try.prog 10002 (pc 42 #[stv n] (.v (.bool (mayNameL n)))) := hMN_ok 10002 n (by omega)
  have kD := hDp_ok 10019 j hjl
  have hlt := lt_total n last
  have hwl := (wrong_b S (b := badN p last n q.l.length) hb).2
  have fin : ∀ b : Bool, badN p last n q.l.length = b → AtD S ρ w (rp Try.f39 11) (tmF p n j) [(0, rdR S (wrongD b q) (slN 2904 q.l.length)), (2904, liR q)] qf := by
    intro b hbb
    subst hbb
    have e : rwD S (wrongD (badN p last n q.l.length) q) = [(0, rdR S (wrongD (badN p last n q.l.length) q) (slN 2904 q.l.length)), (2904, liR q)] := by show [(0, rdR S (wrongD (badN p last n q.l.length) q) (slN 2904 (wrongD (badN p last n q.l.length) q).l.length)), (2904, rowN (wrongD (badN p last n q.l.length) q).l (wrongD (badN p last n q.l.length) q).l.length)] = _; rw [hwl]
    rw [← e]
    exact K
  cases h1 : mayNameL n with
  | false =>
    have kW : HintOk Try.prog 10022 (hWr 0 S (slN 2904 q.l.length) true q) := hWr_ok trivial ⟨by decide, by simp [Lf.ids]⟩
    rw [h1] at kM
    refine At.run rfl [(10002, pc 42 #[stv n] (.v (.bool false))), (2010004, .val (.v (.bool true))), (10022, hWr 0 S (slN 2904 q.l.length) true q), (2012000, .val (.tup []))] ⟨kM, trivial, kW, trivial, trivial⟩ [] (tm2 := tmF p n j) (rows2 := [(0, rdR S (wrongD true q) (slN 2904 q.l.length)), (2904, liR q)]) (ob := [qL (pc 42 #[stv n] (.v (.bool false))), [TV.v (.bool (!false)) = TV.v (.bool true)], qL (hWr 0 S (slN 2904 q.l.length) true q)].flatten) (td := rp Try.f39 11) (by kernel_rfl) (all_flat ⟨all_qL _, ⟨rfl, trivial⟩, all_qL _, trivial⟩) rfl rfl (by intro h; cases h) ?_
    exact fin true (by unfold badN; rw [h1]; rfl)
  | true =>
    rw [h1] at kM
    cases h2 : ltL last n with
    | false =>
      have kW : HintOk Try.prog 10022 (hWr 0 S (slN 2904 q.l.length) true q) := hWr_ok trivial ⟨by decide, by simp [Lf.ids]⟩
      rw [h2] at hlt
      refine At.run rfl [(10002, pc 42 #[stv n] (.v (.bool true))), (2010004, .val (.v (.bool false))), (2010009, .val (.v (.bool true))), (10022, hWr 0 S (slN 2904 q.l.length) true q), (2012000, .val (.tup []))] ⟨kM, trivial, trivial, kW, trivial, trivial⟩ [] (tm2 := tmF p n j) (rows2 := [(0, rdR S (wrongD true q) (slN 2904 q.l.length)), (2904, liR q)]) (ob := [qL (pc 42 #[stv n] (.v (.bool true))), [TV.v (.bool (!true)) = TV.v (.bool false), TV.v (.bool (Op.bytesLess n last || n == last)) = TV.v (.bool true)], qL (hWr 0 S (slN 2904 q.l.length) true q)].flatten) (td := rp Try.f39 11) (by kernel_rfl) (all_flat ⟨all_qL _, ⟨rfl, by rw [hlt]; rfl, trivial⟩, all_qL _, trivial⟩) rfl rfl (by intro h; cases h) ?_
      exact fin true (by unfold badN; rw [h1, h2]; rfl)
    | true =>
      rw [h2] at hlt
      by_cases h3 : 256 ≤ q.l.length
      · have kW : HintOk Try.prog 10022 (hWr 0 S (slN 2904 q.l.length) true q) := hWr_ok trivial ⟨by decide, by simp [Lf.ids]⟩
        refine At.run rfl [(10002, pc 42 #[stv n] (.v (.bool true))), (2010004, .val (.v (.bool false))), (2010009, .val (.v (.bool false))), (2010017, .val (.v (.bool true))), (10022, hWr 0 S (slN 2904 q.l.length) true q), (2012000, .val (.tup []))] ⟨kM, trivial, trivial, trivial, kW, trivial, trivial⟩ [] (tm2 := tmF p n j) (rows2 := [(0, rdR S (wrongD true q) (slN 2904 q.l.length)), (2904, liR q)]) (ob := [qL (pc 42 #[stv n] (.v (.bool true))), [TV.v (.bool (!true)) = TV.v (.bool false), TV.v (.bool (Op.bytesLess n last || n == last)) = TV.v (.bool false), TV.v (.bool (decide ((q.l.length : Int) ≥ 256))) = TV.v (.bool true)], qL (hWr 0 S (slN 2904 q.l.length) true q)].flatten) (td := rp Try.f39 11) (by kernel_rfl) (all_flat ⟨all_qL _, ⟨rfl, by rw [hlt]; rfl, by rw [decide_eq_true (by omega)], trivial⟩, all_qL _, trivial⟩) rfl rfl (by intro h; cases h) ?_
        exact fin true (by unfold badN; rw [h1, h2, decide_eq_true h3]; rfl)
      · by_cases h4 : 64 < deepL j
        · have kW : HintOk Try.prog 10022 (hWr 0 S (slN 2904 q.l.length) true q) := hWr_ok trivial ⟨by decide, by simp [Lf.ids]⟩
          refine At.run rfl [(10002, pc 42 #[stv n] (.v (.bool true))), (10019, hDp j), (2010004, .val (.v (.bool false))), (2010009, .val (.v (.bool false))), (2010017, .val (.v (.bool false))), (2010020, .val (.v (.bool true))), (10022, hWr 0 S (slN 2904 q.l.length) true q), (2012000, .val (.tup []))] ⟨kM, kD, trivial, trivial, trivial, trivial, kW, trivial, trivial⟩ [] (tm2 := tmF p n j) (rows2 := [(0, rdR S (wrongD true q) (slN 2904 q.l.length)), (2904, liR q)]) (ob := [qL (pc 42 #[stv n] (.v (.bool true))), [TV.v (.bool (!true)) = TV.v (.bool false), TV.v (.bool (Op.bytesLess n last || n == last)) = TV.v (.bool false), TV.v (.bool (decide ((q.l.length : Int) ≥ 256))) = TV.v (.bool false)], qL (hDp j), [TV.v (.bool (decide ((deepL j : Int) > 64))) = TV.v (.bool true)], qL (hWr 0 S (slN 2904 q.l.length) true q)].flatten) (td := rp Try.f39 11) (by kernel_rfl) (all_flat ⟨all_qL _, ⟨rfl, by rw [hlt]; rfl, by rw [decide_eq_false (by omega)], trivial⟩, all_qL _, ⟨by rw [decide_eq_true (by omega)], trivial⟩, all_qL _, trivial⟩) rfl rfl (by intro h; cases h) ?_
          exact fin true (by unfold badN; rw [h1, h2, decide_eq_false h3, ← hj, decide_eq_true h4]; rfl)
        · have kW : HintOk Try.prog 10022 (hWr 0 S (slN 2904 q.l.length) false q) := hWr_ok trivial ⟨by decide, by simp [Lf.ids]⟩
          refine At.run rfl [(10002, pc 42 #[stv n] (.v (.bool true))), (10019, hDp j), (2010004, .val (.v (.bool false))), (2010009, .val (.v (.bool false))), (2010017, .val (.v (.bool false))), (2010020, .val (.v (.bool false))), (10022, hWr 0 S (slN 2904 q.l.length) false q), (2012000, .val (.tup []))] ⟨kM, kD, trivial, trivial, trivial, trivial, kW, trivial, trivial⟩ [] (tm2 := tmF p n j) (rows2 := [(0, rdR S (wrongD false q) (slN 2904 q.l.length)), (2904, liR q)]) (ob := [qL (pc 42 #[stv n] (.v (.bool true))), [TV.v (.bool (!true)) = TV.v (.bool false), TV.v (.bool (Op.bytesLess n last || n == last)) = TV.v (.bool false), TV.v (.bool (decide ((q.l.length : Int) ≥ 256))) = TV.v (.bool false)], qL (hDp j), [TV.v (.bool (decide ((deepL j : Int) > 64))) = TV.v (.bool false)], qL (hWr 0 S (slN 2904 q.l.length) false q)].flatten) (td := rp Try.f39 11) (by kernel_rfl) (all_flat ⟨all_qL _, ⟨rfl, by rw [hlt]; rfl, by rw [decide_eq_false (by omega)], trivial⟩, all_qL _, ⟨by rw [decide_eq_false (by omega)], trivial⟩, all_qL _, trivial⟩) rfl rfl (by intro h; cases h) ?_
          exact fin false (by unfold badN; rw [h1, h2, decide_eq_false h3, ← hj, decide_eq_false h4]; rfl)
set_option maxRecDepth 100000 in
theorem dir_tail (S : List UInt8) (hS : S.length ≤ 1000000000000) (f : Nat) (hnode : NodeC S f) (p n j : List UInt8) (hlj : ∀ q : RS, True → True) (q qf : RS) (hb : inB S q) (w : World) (ρ : Env)
    (hgo : (oneD S [tNode] q).2.e = 0 → q.l.length < 256 ∧ lenB j ∧ 2 * (S.length - q.at') + 2 ≤ f)
    (K : ∀ q8, q8 = (oneD S [tClose] (if (oneD S [tNode] q).2.e = 0 then nodeD S f j (oneD S [tNode] q).2 else (oneD S [tNode] q).2)).2 → AtD S ρ w (lp Try.f39 0) (tmD p n) (rwD S q8) qf) : AtD S ρ w (rp Try.f39 11) (tmF p n j) (rwD S q) qf := by
  obtain ⟨s5, hs5⟩ : ∃ s5, s5 = (oneD S [tNode] q).1 := ⟨_, rfl⟩
  obtain ⟨q5, hq5⟩ : ∃ q5, q5 = (oneD S [tNode] q).2 := ⟨_, rfl⟩
  have b5 := one_b S (l := [tNode]) hb
  have u5 := one_up S [tNode] q
  rw [← hq5] at b5 u5 hgo K
  have k5 : HintOk Try.prog 12002 (hOne 0 12001 S (slN 2904 q.l.length) [tNode] q s5 q5) := hOne_ok hs5 hq5 trivial ⟨by decide, by simp [Lf.ids]⟩ (by decide) hS (wsA _ (by decide)) hb.1
  by_cases h0 : q5.e = 0
  · obtain ⟨g1, g2, g3⟩ := hgo h0
    rw [if_pos h0] at K
    obtain ⟨q6, hq6⟩ : ∃ q6, q6 = nodeD S f j q5 := ⟨_, rfl⟩
    have b6 : inB S q6 := by rw [hq6]; exact (node_dir_b S f).1 j q5 b5.1 (by rw [b5.2]; exact g1)
    rw [← hq6] at K
    obtain ⟨s7, hs7⟩ : ∃ s7, s7 = (oneD S [tClose] q6).1 := ⟨_, rfl⟩
    obtain ⟨q7, hq7⟩ : ∃ q7, q7 = (oneD S [tClose] q6).2 := ⟨_, rfl⟩
    have b7 := one_b S (l := [tClose]) b6
    rw [← hq7] at b7
    have k7 : HintOk Try.prog 15002 (hOne 0 15001 S (slN 14002 q6.l.length) [tClose] q6 s7 q7) := hOne_ok hs7 hq7 trivial ⟨by decide, by simp [Lf.ids]⟩ (by decide) hS (wsA _ (by decide)) b6.1
    have k6 : HintOk Try.prog 14002 (hNd 25 0 2904 14002 S (stv j) q5 q6) := by
      rw [hq6]
      exact hNd_ok ent25 ⟨by decide, by decide⟩ fun ρ w h0 h1 h2 => hnode j q5 b5.1 (by rw [b5.2]; exact g1) g2 (by omega) ρ w h0 h1 h2
    have e5 : rdL S q5 2904 = rdR S q5 (slN 2904 q.l.length) ∧ liR q5 = liR q := by show rdR S q5 (slN 2904 q5.l.length) = _ ∧ rowN q5.l q5.l.length = rowN q.l q.l.length; rw [show q5.l = q.l from b5.2]; exact ⟨rfl, rfl⟩
    have k6' : HintOk Try.prog 14002 (.call ⟨25, fun ρ => #[(ptrTo 0).val ρ, stv j], .tup [], [(0, rdR S q5 (slN 2904 q.l.length)), (2904, liR q)], [(0, rdL S q6 14002)], some (liR q6), [2904]⟩) := by rw [← e5.1, ← e5.2]; exact k6
    refine At.run rfl [(12002, hOne 0 12001 S (slN 2904 q.l.length) [tNode] q s5 q5), (14002, .call ⟨25, fun ρ => #[(ptrTo 0).val ρ, stv j], .tup [], [(0, rdR S q5 (slN 2904 q.l.length)), (2904, liR q)], [(0, rdL S q6 14002)], some (liR q6), [2904]⟩), (15002, hOne 0 15001 S (slN 14002 q6.l.length) [tClose] q6 s7 q7)] ⟨k5, k6', k7, trivial⟩ [.y] (tm2 := tmD p n) (rows2 := [(0, rdR S q7 (slN 14002 q6.l.length)), (14002, liR q6)]) (ob := [qL (hOne 0 12001 S (slN 2904 q.l.length) [tNode] q s5 q5), [(q5.e == 0) = true], qL (.call ⟨25, fun ρ => #[(ptrTo 0).val ρ, stv j], .tup [], [(0, rdR S q5 (slN 2904 q.l.length)), (2904, liR q)], [(0, rdL S q6 14002)], some (liR q6), [2904]⟩), qL (hOne 0 15001 S (slN 14002 q6.l.length) [tClose] q6 s7 q7)].flatten) (td := lp Try.f39 0) (by kernel_rfl) (all_flat ⟨all_qL _, ⟨by rw [h0]; rfl, trivial⟩, all_qL _, all_qL _, trivial⟩) rfl rfl (by intro h; cases h) ?_
    have e7 : [(0, rdR S q7 (slN 14002 q6.l.length)), (14002, liR q6)] = [(0, rdL S q7 14002), (14002, liR q7)] := by show _ = [(0, rdR S q7 (slN 14002 q7.l.length)), (14002, rowN q7.l q7.l.length)]; rw [b7.2]
    rw [e7]
    exact At.ren [(2904, 14002)] (tmD p n) (rwD S q7) rfl rfl rfl rfl rfl (K q7 hq7)
  · rw [if_neg h0] at K
    obtain ⟨s7, hs7⟩ : ∃ s7, s7 = (oneD S [tClose] q5).1 := ⟨_, rfl⟩
    obtain ⟨q7, hq7⟩ : ∃ q7, q7 = (oneD S [tClose] q5).2 := ⟨_, rfl⟩
    have b7 := one_b S (l := [tClose]) b5.1
    rw [← hq7] at b7
    have k7 : HintOk Try.prog 15002 (hOne 0 15001 S (slN 2904 q.l.length) [tClose] q5 s7 q7) := hOne_ok hs7 hq7 trivial ⟨by decide, by simp [Lf.ids]⟩ (by decide) hS (wsA _ (by decide)) b5.1.1
    refine At.run rfl [(12002, hOne 0 12001 S (slN 2904 q.l.length) [tNode] q s5 q5), (15002, hOne 0 15001 S (slN 2904 q.l.length) [tClose] q5 s7 q7)] ⟨k5, k7, trivial⟩ [.n] (tm2 := tmD p n) (rows2 := [(0, rdR S q7 (slN 2904 q.l.length)), (2904, liR q)]) (ob := [qL (hOne 0 12001 S (slN 2904 q.l.length) [tNode] q s5 q5), [(q5.e == 0) = false], qL (hOne 0 15001 S (slN 2904 q.l.length) [tClose] q5 s7 q7)].flatten) (td := lp Try.f39 0) (by kernel_rfl) (all_flat ⟨all_qL _, ⟨by simpa using h0, trivial⟩, all_qL _, trivial⟩) rfl rfl (by intro h; cases h) ?_
    have e7 : [(0, rdR S q7 (slN 2904 q.l.length)), (2904, liR q)] = rwD S q7 := by show _ = [(0, rdR S q7 (slN 2904 q7.l.length)), (2904, rowN q7.l q7.l.length)]; rw [b7.2, b5.2]
    rw [e7]
    exact K q7 hq7
set_option maxRecDepth 100000 in
set_option maxHeartbeats 1000000 in
theorem dir_run (S : List UInt8) (hS : S.length ≤ 1000000000000) (f : Nat) (hnode : ∀ g, g < f → NodeC S g) : DirC S f := by
  intro p q0 hb0 hp hf0 ρ w h0 h1 hne
  have hpl : p.length ≤ 16384 := by have := hp.1; have := hp.2; omega
  obtain ⟨qf, hqf⟩ : ∃ qf, qf = dirD S f p [] q0 := ⟨_, rfl⟩
  rw [← hqf]
  refine At.calls (args := [ptrTo 0, .v (stv p)]) (rows := [(0, rdL S q0 1), (1, liR q0)]) (gl := []) (wr := wrL ρ [1]) (ρ := ρ) Try.func39 rfl rfl ?_ rfl ?_
  · refine init_rw ⟨trivial, rfl, trivial⟩ rfl rfl rfl (fun a ha => ?_) (fun a ha hw => ?_) (fun a ha r hr hn hw => ?_)
    · simp only [List.mem_cons, List.not_mem_nil, or_false] at ha
      rcases ha with rfl | rfl
      · exact ⟨h0, rd_ok S q0 _ trivial⟩
      · exact ⟨h1, rowN_ok _ _⟩
    · simp only [List.mem_cons, List.not_mem_nil, or_false] at ha
      rcases ha with rfl | rfl <;> simp
    · simp only [List.mem_cons, List.not_mem_nil, or_false] at ha hr
      rcases ha with rfl | rfl <;> rcases hr with rfl | rfl
      · exact absurd rfl hn
      · exact hne
      · exact hne.symm
      · exact absurd rfl hn
  have hloop : ∀ a : Nat × List UInt8 × RS, (dirD S a.1 p a.2.1 a.2.2 = qf ∧ inB S a.2.2 ∧ (a.2.2.e = 0 → 2 * (S.length - a.2.2.at') + 1 ≤ a.1) ∧ a.1 ≤ f) → AtD S ρ w (lp Try.f39 0) (tmD p a.2.1) (rwD S a.2.2) qf := by
    refine At.loop (fun a : Nat × List UInt8 × RS => tmD p a.2.1) (fun a => rwD S a.2.2) (fun a => dirD S a.1 p a.2.1 a.2.2 = qf ∧ inB S a.2.2 ∧ (a.2.2.e = 0 → 2 * (S.length - a.2.2.at') + 1 ≤ a.1) ∧ a.1 ≤ f) (fun a => a.1) ?_
    rintro ⟨g, last, q⟩ ⟨hq, hb, hf, hgf⟩ ih
    simp only at hq hb hf hgf ih ⊢
    by_cases he : q.e = 0
    · have hz : (q.e == 0) = true := by rw [he]; rfl
      obtain ⟨g, rfl⟩ : ∃ g', g = g' + 1 := ⟨g - 1, by have := hf he; omega⟩
      have hf' := hf he
      rw [dirD, if_neg (by intro h; exact h he)] at hq
      obtain ⟨s1, hs1⟩ : ∃ s1, s1 = (oneD S [tEntry, tClose] q).1 := ⟨_, rfl⟩
      obtain ⟨q1, hq1⟩ : ∃ q1, q1 = (oneD S [tEntry, tClose] q).2 := ⟨_, rfl⟩
      have b1 := one_b S (l := [tEntry, tClose]) hb
      have ad := one_adv S (l := [tEntry, tClose]) (q := q)
      rw [← hs1, ← hq1] at hq ad
      rw [← hq1] at b1
      have k1 : HintOk Try.prog 3002 (hOne 0 3001 S (slN 2904 q.l.length) [tEntry, tClose] q s1 q1) := hOne_ok hs1 hq1 trivial ⟨by decide, by simp [Lf.ids]⟩ (by decide) hS (wsB _ _ (by decide) (by decide)) hb.1
      by_cases hs : s1 = tEntry
      · have ts : (!(s1 == tEntry)) = false := by rw [hs]; decide
        rw [if_neg (by intro h; exact h hs)] at hq
        obtain ⟨_, e1, a1⟩ := ad (by rw [hs]; decide)
        obtain ⟨s2, hs2⟩ : ∃ s2, s2 = (oneD S [tOpen] q1).1 := ⟨_, rfl⟩
        obtain ⟨q2, hq2⟩ : ∃ q2, q2 = (oneD S [tOpen] q1).2 := ⟨_, rfl⟩
        have b2 := one_b S (l := [tOpen]) b1.1
        have u2 := one_up S [tOpen] q1
        rw [← hq2] at b2 u2
        obtain ⟨s3, hs3⟩ : ∃ s3, s3 = (oneD S [tName] q2).1 := ⟨_, rfl⟩
        obtain ⟨q3, hq3⟩ : ∃ q3, q3 = (oneD S [tName] q2).2 := ⟨_, rfl⟩
        have b3 := one_b S (l := [tName]) b2.1
        have u3 := one_up S [tName] q2
        rw [← hq3] at b3 u3
        obtain ⟨n, hn⟩ : ∃ n, n = (textD S 255 q3).1 := ⟨_, rfl⟩
        obtain ⟨q4, hq4⟩ : ∃ q4, q4 = (textD S 255 q3).2 := ⟨_, rfl⟩
        have b4 := text_b S (m := 255) b3.1
        have u4 := text_up S 255 q3
        rw [← hn, ← hq4] at b4
        rw [← hq4] at u4
        have hnd : nameD S q1 = (n, q4) := by unfold nameD; rw [← hq2, ← hq3, hn, hq4]
        simp only [hnd] at hq
        have l4 : q4.l = q.l := b4.2.1.trans (b3.2.trans (b2.2.trans b1.2))
        have k2 : HintOk Try.prog 4002 (hOne 0 4001 S (slN 2904 q.l.length) [tOpen] q1 s2 q2) := hOne_ok hs2 hq2 trivial ⟨by decide, by simp [Lf.ids]⟩ (by decide) hS (wsA _ (by decide)) b1.1.1
        have k3 : HintOk Try.prog 5002 (hOne 0 5001 S (slN 2904 q.l.length) [tName] q2 s3 q3) := hOne_ok hs3 hq3 trivial ⟨by decide, by simp [Lf.ids]⟩ (by decide) hS (wsA _ (by decide)) b2.1.1
        have k4 : HintOk Try.prog 6001 (hRd 37 0 S (slN 2904 q.l.length) (.int .i64 (255 : Nat)) (.v (stv n)) q3 q4) := by rw [hn, hq4]; exact hTx_ok trivial ⟨by decide, by simp [Lf.ids]⟩ hS (by decide) b3.1.1
        have rest : AtD S ρ w (rp Try.f39 9) (tmE p last n (joinL p n)) (rwD S q4) qf := by
          have hjl : (joinL p n).length ≤ 1000000 := by
            have := b4.2.2
            unfold joinL
            split
            · omega
            · rw [List.length_append, List.length_cons]; omega
          refine dir_bad S p last n (joinL p n) b4.2.2 rfl hjl q4 qf b4.1 w ρ ?_
          obtain ⟨q5, hq5⟩ : ∃ q5, q5 = wrongD (badN p last n q4.l.length) q4 := ⟨_, rfl⟩
          have b5 := wrong_b S (b := badN p last n q4.l.length) b4.1
          have u5 := wrong_up (badN p last n q4.l.length) q4
          have ent := ent_b S (p := p) (last := last) (n := n) b4.1
          unfold entD at ent hq
          rw [← hq5] at b5 u5 ent hq ⊢
          have u6 := one_up S [tNode] q5
          refine dir_tail S hS g (hnode g (by omega)) p n (joinL p n) (fun _ h => h) q5 qf b5.1 w ρ (fun h => ?_) (fun q8 hq8 => ?_)
          · have hno := bad_no (ent.2.2 h)
            exact ⟨by rw [b5.2]; exact hno.1, len_join hp b4.2.2 hno.2.1 hno.2.2.1 hno.2.2.2, by have := b5.1.1; omega⟩
          · refine ih (g, n, q8) ⟨?_, ?_, fun h8 => ?_, by omega⟩ (by show g < g + 1; omega)
            · rw [hq8]; exact hq
            · rw [hq8]
              refine (one_b S ?_).1
              split
              · rename_i hz5
                exact (node_dir_b S g).1 _ _ ent.1 (by rw [ent.2.1]; exact (bad_no (ent.2.2 hz5)).1)
              · exact ent.1
            · have u8 : q5.at' ≤ q8.at' := by
                rw [hq8]
                refine Nat.le_trans u6 (Nat.le_trans ?_ (one_up S [tClose] _))
                split
                · exact (node_dir_up S g).1 _ _
                · exact Nat.le_refl _
              have b8 : q8.at' ≤ S.length := by
                rw [hq8]
                refine ((one_b S ?_).1).1
                split
                · rename_i hz5
                  exact (node_dir_b S g).1 _ _ ent.1 (by rw [ent.2.1]; exact (bad_no (ent.2.2 hz5)).1)
                · exact ent.1
              show 2 * (S.length - q8.at') + 1 ≤ g
              omega
        have e4 : [(0, rdR S q4 (slN 2904 q.l.length)), (2904, liR q)] = rwD S q4 := by show _ = [(0, rdR S q4 (slN 2904 q4.l.length)), (2904, rowN q4.l q4.l.length)]; rw [l4]
        by_cases hpe : p = []
        · have tp : (!(p == [])) = false := by rw [hpe]; decide
          have ej : n = joinL p n := by unfold joinL; rw [if_pos hpe]
          refine At.run rfl [(3002, hOne 0 3001 S (slN 2904 q.l.length) [tEntry, tClose] q s1 q1), (4002, hOne 0 4001 S (slN 2904 q.l.length) [tOpen] q1 s2 q2), (5002, hOne 0 5001 S (slN 2904 q.l.length) [tName] q2 s3 q3), (6001, hRd 37 0 S (slN 2904 q.l.length) (.int .i64 (255 : Nat)) (.v (stv n)) q3 q4)] ⟨k1, k2, k3, k4, trivial⟩ [.y, .n, .n] (tm2 := tmE p last n n) (rows2 := [(0, rdR S q4 (slN 2904 q.l.length)), (2904, liR q)]) (ob := [[(q.e == 0) = true], qL (hOne 0 3001 S (slN 2904 q.l.length) [tEntry, tClose] q s1 q1), [(!(s1 == tEntry)) = false], qL (hOne 0 4001 S (slN 2904 q.l.length) [tOpen] q1 s2 q2), qL (hOne 0 5001 S (slN 2904 q.l.length) [tName] q2 s3 q3), qL (hRd 37 0 S (slN 2904 q.l.length) (.int .i64 (255 : Nat)) (.v (stv n)) q3 q4), [(!(p == [])) = false]].flatten) (td := rp Try.f39 9) (by kernel_rfl) (all_flat ⟨⟨hz, trivial⟩, all_qL _, ⟨ts, trivial⟩, all_qL _, all_qL _, all_qL _, ⟨tp, trivial⟩, trivial⟩) rfl rfl (by intro h; cases h) ?_
          rw [e4]
          rw [← ej] at rest
          exact rest
        · have tp : (!(p == [])) = true := by simpa using hpe
          have ej : (p ++ [47]) ++ n = joinL p n := by unfold joinL; rw [if_neg hpe]; simp
          have hn2 := b4.2.2
          refine At.run rfl [(3002, hOne 0 3001 S (slN 2904 q.l.length) [tEntry, tClose] q s1 q1), (4002, hOne 0 4001 S (slN 2904 q.l.length) [tOpen] q1 s2 q2), (5002, hOne 0 5001 S (slN 2904 q.l.length) [tName] q2 s3 q3), (6001, hRd 37 0 S (slN 2904 q.l.length) (.int .i64 (255 : Nat)) (.v (stv n)) q3 q4)] ⟨k1, k2, k3, k4, trivial⟩ [.y, .n, .y] (tm2 := tmE p last n ((p ++ [47]) ++ n)) (rows2 := [(0, rdR S q4 (slN 2904 q.l.length)), (2904, liR q)]) (ob := [[(q.e == 0) = true], qL (hOne 0 3001 S (slN 2904 q.l.length) [tEntry, tClose] q s1 q1), [(!(s1 == tEntry)) = false], qL (hOne 0 4001 S (slN 2904 q.l.length) [tOpen] q1 s2 q2), qL (hOne 0 5001 S (slN 2904 q.l.length) [tName] q2 s3 q3), qL (hRd 37 0 S (slN 2904 q.l.length) (.int .i64 (255 : Nat)) (.v (stv n)) q3 q4), [(!(p == [])) = true, (p.length : Int) + ((1 : Nat) : Int) ≤ 9223372036854775807, ((p ++ [47]).length : Int) + (n.length : Int) ≤ 9223372036854775807]].flatten) (td := rp Try.f39 9) (by kernel_rfl) (all_flat ⟨⟨hz, trivial⟩, all_qL _, ⟨ts, trivial⟩, all_qL _, all_qL _, all_qL _, ⟨tp, by omega, by simp; omega, trivial⟩, trivial⟩) rfl rfl (by intro h; cases h) ?_
          rw [e4, ej]
          exact rest
      · have ts : (!(s1 == tEntry)) = true := by simpa using hs
        rw [if_pos hs] at hq
        refine At.finD rfl [(3002, hOne 0 3001 S (slN 2904 q.l.length) [tEntry, tClose] q s1 q1)] ⟨k1, trivial⟩ [.y, .y] (rows2 := [(0, rdR S q1 (slN 2904 q.l.length)), (2904, liR q)]) (x := .tup []) (ob := [[(q.e == 0) = true], qL (hOne 0 3001 S (slN 2904 q.l.length) [tEntry, tClose] q s1 q1), [(!(s1 == tEntry)) = true]].flatten) (by kernel_rfl) (all_flat ⟨⟨hz, trivial⟩, all_qL _, ⟨ts, trivial⟩, trivial⟩) fun ρ' w' hf he _ hq2 hd => ?_
        have e1 : [(0, rdR S q1 (slN 2904 q.l.length)), (2904, liR q)] = rwD S q1 := by show _ = [(0, rdR S q1 (slN 2904 q1.l.length)), (2904, rowN q1.l q1.l.length)]; rw [b1.2]
        rw [e1] at hq2 hd
        rw [← hq]
        exact nd_fin hf he hq2 hd (by decide)
    · rw [dir_err S he] at hq
      rw [← hq]
      exact At.finD rfl [] trivial [.n] (rows2 := rwD S q) (x := .tup []) (ob := [(q.e == 0) = false]) (by kernel_rfl) ⟨by simpa using he, trivial⟩ fun ρ' w' hf he _ hq hd => nd_fin hf he hq hd (by decide)
  refine At.run rfl [] trivial [] (tm2 := tmD p []) (rows2 := [(0, rdL S q0 1), (1, liR q0)]) (ob := []) (td := lp Try.f39 0) (by kernel_rfl) trivial rfl rfl (by intro h; cases h) ?_
  exact At.ren [(2904, 1)] (tmD p []) (rwD S q0) rfl rfl rfl rfl rfl (hloop (f, [], q0) ⟨hqf.symm, hb0, hf0, Nat.le_refl _⟩)
theorem both_run (S : List UInt8) (hS : S.length ≤ 1000000000000) (f : Nat) : NodeC S f ∧ DirC S f := by
  induction f using Nat.strongRecOn with
  | ind f ih =>
    refine ⟨?_, dir_run S hS f fun g hg => (ih g hg).1⟩
    cases f with
    | zero => intro p q _ _ _ hf; omega
    | succ f => exact fun p q hb hl hp hf ρ w h0 h1 hne => node_run1 S hS f (ih f (by omega)).2 p hp q hb hl hf ρ w h0 h1 hne
end
end Go.Proofs.Ytglipljilcdboaa
/- The document's Get: a tree of any bytes, or the error. Its condition: bytes that fit. -/
namespace Go.Proofs.Ytglipljilcdboaa
open Go.RowKit
set_option linter.unusedVariables false
set_option linter.unusedSimpArgs false
section
open E
/-- What a Get tells: a list of its own, or none beside the error. -/
def GOut (mk : Value → Int → Value) (w : World) (r : List Nd × Int) : Ending → World → Prop := fun en w' =>
  (r.2 = 0 ∧ ∃ B : Blk, en = .returned (mk (.slice (some ⟨B.1, 0, none⟩) r.1.length B.3) 0) ∧ B.2 = 0 ∧ Fr w [] w' ∧ w.heap.size ≤ B.1 ∧ RowAt (fun _ => B) 0 (rowN r.1 r.1.length) w') ∨ (r.2 ≠ 0 ∧ r.1 = [] ∧ en = .returned (mk (.slice none 0 0) r.2) ∧ Fr w [] w')
abbrev mkA : Value → Int → Value := fun v e => .agg #[v, .int .i64 e]
theorem gout_fin {w w' : World} {ρ : Env} {X : Nat} {L : List Nd} (hf : Fr w [] w') (h : RowAt ρ X (rowN L L.length) w') (hb : w.heap.size ≤ (ρ X).1 ∨ (ρ X).1 ∈ ([] : List Nat)) : ∃ B : Blk, (SV.agg [.one (slN X L.length), .one (.v (.int .i64 0))]).val ρ = mkA (.slice (some ⟨B.1, 0, none⟩) L.length B.3) 0 ∧ B.2 = 0 ∧ Fr w [] w' ∧ w.heap.size ≤ B.1 ∧ RowAt (fun _ => B) 0 (rowN L L.length) w' := by
  have h0 : (ρ X).2 = 0 := (h.2.2.1 55 3 rfl).1
  refine ⟨ρ X, ?_, h0, hf, hb.resolve_right (by simp), rowAt_mv h rfl⟩
  show Value.agg #[.slice (some ⟨(ρ X).1, (ρ X).2 + (0 + 0 * 3), none⟩) L.length ((ρ X).3 - 0), .int .i64 0] = _
  rw [h0]; rfl
set_option maxRecDepth 100000 in
theorem rget_any (S : List UInt8) (hS : S.length ≤ 1000000000000) (w : World) : Calls Try.prog 13 #[stv S] w (GOut mkA w (getL S)) := by
  refine At.calls (args := [.v (stv S)]) (rows := []) (gl := []) (wr := []) (ρ := fun _ => ⟨0, 0, 0⟩) Try.func13 rfl rfl (init_rw ⟨rfl, trivial⟩ rfl rfl rfl (fun p hp => by cases hp) (fun p hp => by cases hp) (fun p hp => by cases hp)) rfl ?_
  obtain ⟨F, hF⟩ : ∃ F, F = 2 * S.length + 2 := ⟨_, rfl⟩
  rw [← get_eq S (F + 1) (by omega)]
  unfold getD getD1
  obtain ⟨s1, hs1⟩ : ∃ s1, s1 = (oneD S [tMagic] ⟨0, [], 0⟩).1 := ⟨_, rfl⟩
  obtain ⟨q1, hq1⟩ : ∃ q1, q1 = (oneD S [tMagic] ⟨0, [], 0⟩).2 := ⟨_, rfl⟩
  have b0 : inB S ⟨0, [], 0⟩ := ⟨Nat.zero_le _, Nat.zero_le _⟩
  have b1 := one_b S (l := [tMagic]) b0
  rw [← hq1] at b1
  have l1 : q1.l = [] := b1.2
  simp only [← hq1]
  have k1 : HintOk Try.prog 3002 (hOne 2002 3001 S (.v (.slice none 0 0)) [tMagic] ⟨0, [], 0⟩ s1 q1) := hOne_ok hs1 hq1 rfl ⟨by decide, by simp [Lf.ids]⟩ (by decide) hS (wsA _ (by decide)) b0.1
  by_cases h0 : q1.e = 0
  · have hz : (q1.e == 0) = true := by rw [h0]; rfl
    rw [if_pos h0]
    obtain ⟨q2, hq2⟩ : ∃ q2, q2 = nodeD S (F + 1) [] q1 := ⟨_, rfl⟩
    have b2 : inB S q2 := by rw [hq2]; exact (node_dir_b S (F + 1)).1 [] q1 b1.1 (by rw [l1]; decide)
    rw [← hq2]
    obtain ⟨b, hb⟩ : ∃ b, b = decide (q2.at' < S.length) := ⟨_, rfl⟩
    obtain ⟨q3, hq3⟩ : ∃ q3, q3 = wrongD b q2 := ⟨_, rfl⟩
    have b3 := wrong_b S (b := b) b2
    rw [← hq3] at b3
    rw [← hb, ← hq3]
    have k2 : HintOk Try.prog 5001 (hNd0 25 2002 5001 S (stv []) q1 q2) := by
      rw [hq2]
      exact hNd0_ok ent25 (by decide) fun ρ w hr => node_run0 S hS F (both_run S hS F).2 [] ⟨Nat.zero_le _, Nat.zero_le _⟩ q1 b1.1 (by rw [l1]; decide) (by have := b1.1.1; omega) ρ w l1 hr
    have k3 : HintOk Try.prog 6008 (hRd 26 2002 S (slN 5001 q2.l.length) (.bool b) (.tup []) q2 q3) := by rw [hq3]; exact hWr_ok trivial ⟨by decide, by simp [Lf.ids]⟩
    have hbi : decide ((q2.at' : Int) < (S.length : Int)) = b := by rw [hb]; exact decide_eq_decide.2 (by omega)
    have hob : all ([qL (hOne 2002 3001 S (.v (.slice none 0 0)) [tMagic] ⟨0, [], 0⟩ s1 q1), [(q1.e == 0) = true], qL (hNd0 25 2002 5001 S (stv []) q1 q2), [TV.v (.bool (decide ((q2.at' : Int) < (S.length : Int)))) = TV.v (.bool b)], qL (hRd 26 2002 S (slN 5001 q2.l.length) (.bool b) (.tup []) q2 q3)].flatten) := all_flat ⟨all_qL _, ⟨hz, trivial⟩, all_qL _, ⟨by rw [hbi], trivial⟩, all_qL _, trivial⟩
    by_cases h3 : q3.e ≠ 0
    · rw [if_pos h3]
      exact At.fin rfl [(3002, hOne 2002 3001 S (.v (.slice none 0 0)) [tMagic] ⟨0, [], 0⟩ s1 q1), (5001, hNd0 25 2002 5001 S (stv []) q1 q2), (2006007, .val (.v (.bool b))), (6008, hRd 26 2002 S (slN 5001 q2.l.length) (.bool b) (.tup []) q2 q3)] ⟨k1, k2, trivial, k3, trivial⟩ [.y, .y] (x := .s (.agg [.one (.v (.slice none 0 0)), .one (.v (.int .i64 q3.e))])) (ob := [qL (hOne 2002 3001 S (.v (.slice none 0 0)) [tMagic] ⟨0, [], 0⟩ s1 q1), [(q1.e == 0) = true], qL (hNd0 25 2002 5001 S (stv []) q1 q2), [TV.v (.bool (decide ((q2.at' : Int) < (S.length : Int)))) = TV.v (.bool b)], qL (hRd 26 2002 S (slN 5001 q2.l.length) (.bool b) (.tup []) q2 q3)].flatten ++ [(q3.e != 0) = true]) (by kernel_rfl) (all_append.2 ⟨hob, by simpa using h3, trivial⟩) fun ρ w' hf _ => .inr ⟨h3, rfl, rfl, hf⟩
    · rw [if_neg h3]
      have e3 : q3.e = 0 := by simpa using h3
      refine At.finR rfl [(3002, hOne 2002 3001 S (.v (.slice none 0 0)) [tMagic] ⟨0, [], 0⟩ s1 q1), (5001, hNd0 25 2002 5001 S (stv []) q1 q2), (2006007, .val (.v (.bool b))), (6008, hRd 26 2002 S (slN 5001 q2.l.length) (.bool b) (.tup []) q2 q3)] ⟨k1, k2, trivial, k3, trivial⟩ [.y, .n] (rows2 := [(5001, liR q2)]) (x := .s (.agg [.one (slN 5001 q2.l.length), .one (.v (.int .i64 0))])) (ob := [qL (hOne 2002 3001 S (.v (.slice none 0 0)) [tMagic] ⟨0, [], 0⟩ s1 q1), [(q1.e == 0) = true], qL (hNd0 25 2002 5001 S (stv []) q1 q2), [TV.v (.bool (decide ((q2.at' : Int) < (S.length : Int)))) = TV.v (.bool b)], qL (hRd 26 2002 S (slN 5001 q2.l.length) (.bool b) (.tup []) q2 q3)].flatten ++ [(q3.e != 0) = false]) (by kernel_rfl) (all_append.2 ⟨hob, by simp [e3], trivial⟩) fun ρ w' hf _ _ hq => ?_
      obtain ⟨g1, _, g3⟩ := hq _ (List.mem_singleton.2 rfl)
      rw [b3.2]
      refine .inl ⟨rfl, ?_⟩
      obtain ⟨B, hB⟩ := gout_fin hf g1 (g3 rfl)
      exact ⟨B, congrArg Ending.returned hB.1, hB.2⟩
  · have hz : (q1.e == 0) = false := by simpa using h0
    rw [if_neg h0, wrong_err h0, if_pos h0]
    obtain ⟨b, hb⟩ : ∃ b, b = decide (q1.at' < S.length) := ⟨_, rfl⟩
    have hbi : decide ((q1.at' : Int) < (S.length : Int)) = b := by rw [hb]; exact decide_eq_decide.2 (by omega)
    have k3 : HintOk Try.prog 6008 (hRd 26 2002 S (.v (.slice none 0 0)) (.bool b) (.tup []) q1 q1) := by
      have : HintOk Try.prog 6008 (hRd 26 2002 S (.v (.slice none 0 0)) (.bool b) (.tup []) q1 (wrongD b q1)) := hWr_ok rfl ⟨by decide, by simp [Lf.ids]⟩
      rw [wrong_err h0] at this
      exact this
    have h3 : (q1.e != 0) = true := by simpa using h0
    exact At.fin rfl [(3002, hOne 2002 3001 S (.v (.slice none 0 0)) [tMagic] ⟨0, [], 0⟩ s1 q1), (2006007, .val (.v (.bool b))), (6008, hRd 26 2002 S (.v (.slice none 0 0)) (.bool b) (.tup []) q1 q1)] ⟨k1, trivial, k3, trivial⟩ [.n, .y] (x := .s (.agg [.one (.v (.slice none 0 0)), .one (.v (.int .i64 q1.e))])) (ob := [qL (hOne 2002 3001 S (.v (.slice none 0 0)) [tMagic] ⟨0, [], 0⟩ s1 q1), [(q1.e == 0) = false], [TV.v (.bool (decide ((q1.at' : Int) < (S.length : Int)))) = TV.v (.bool b)], qL (hRd 26 2002 S (.v (.slice none 0 0)) (.bool b) (.tup []) q1 q1), [(q1.e != 0) = true]].flatten) (by kernel_rfl) (all_flat ⟨all_qL _, ⟨hz, trivial⟩, ⟨by rw [hbi], trivial⟩, all_qL _, ⟨h3, trivial⟩, trivial⟩) fun ρ w' hf _ => .inr ⟨h0, rfl, rfl, hf⟩
end
end Go.Proofs.Ytglipljilcdboaa
/- Of the program: the reader in memory; bytes that are begun; a length; how many bytes a text has in all. Its conditions: lengths that fit. -/
namespace Go.Proofs.Ytglipljilcdboaa
open Go.RowKit
set_option linter.unusedVariables false
set_option linter.unusedSimpArgs false
section
open E
/-- The reader: what is begun, the place, the path, the nodes, what is open, whether it is wrong. -/
abbrev rdP (xb xn xo : Lf) (pl : Nat) (pa : List UInt8) (b : Bool) : Row := ⟨[.one xb, .one (.v (.int .i64 (pl : Int))), .one (.v (stv pa)), .one xn, .one xo, .one (.v (.bool b))], true, none⟩
abbrev slB (r n : Nat) : Lf := .sl r 0 0 1 n none
abbrev byR (bs : List UInt8) : Row := ⟨[.fnc (byteF bs) 1 bs.length], true, some (5, 1)⟩
theorem by_ok (bs : List UInt8) : pok (byR bs).ps := pok1 fun i => ⟨rfl, fun v hv => by obtain rfl := List.mem_singleton.1 hv; rfl⟩
theorem rdP_ok {xb xn xo : Lf} (pl : Nat) (pa : List UInt8) (b : Bool) (h1 : xb.ok) (h2 : xn.ok) (h3 : xo.ok) : pok (rdP xb xn xo pl pa b).ps := by
  intro p hp
  simp only [List.mem_cons, List.not_mem_nil, or_false] at hp
  rcases hp with rfl | rfl | rfl | rfl | rfl | rfl <;> first | rfl | exact h1 | exact h2 | exact h3
theorem rdP_mv {ρ σ : Env} {r0 r : Nat} {xb xn xo yb yn yo : Lf} {pl : Nat} {pa : List UInt8} {b : Bool} {w : World} (h : RowAt ρ r (rdP xb xn xo pl pa b) w) (e : σ r0 = ρ r) (e1 : yb.val σ = xb.val ρ) (e2 : yn.val σ = xn.val ρ) (e3 : yo.val σ = xo.val ρ) : RowAt σ r0 (rdP yb yn yo pl pa b) w := by
  have hl : lst σ (rdP yb yn yo pl pa b).ps = lst ρ (rdP xb xn xo pl pa b).ps := by
    show [yb.val σ, .int .i64 (pl : Int), stv pa, yn.val σ, yo.val σ, .bool b] = [xb.val ρ, .int .i64 (pl : Int), stv pa, xn.val ρ, xo.val ρ, .bool b]
    rw [e1, e2, e3]
  unfold RowAt at h ⊢
  rw [e, hl]
  exact h
theorem by_app (a b : List UInt8) : ∀ i, i < a.length + b.length → appF (byteF a) a.length (byteF b) i = byteF (a ++ b) i := by
  intro i hi
  by_cases h : i < a.length
  · rw [appF_lo h]
    simp [byteF, h, List.getElem?_append_left h]
  · rw [appF_hi (by omega)]
    simp [byteF, List.getElem?_append_right (Nat.le_of_not_lt h)]
theorem byR_mv {ρ σ : Env} {r q : Nat} {bs : List UInt8} {w : World} (h : RowAt ρ r (byR bs) w) (e : σ q = ρ r) : RowAt σ q (byR bs) w := rowAt_mv h e
/-- A longer row of bytes said by its beginning. -/
theorem byR_short {ρ : Env} {r : Nat} {bs : List UInt8} {w : World} (h : RowAt ρ r (byR bs) w) (n : Nat) : RowAt ρ r (byR (bs.take n)) w := by
  obtain ⟨h1, h2, h3, h4⟩ := h
  have e : ∀ l : List UInt8, lst ρ (byR l).ps = l.map fun b => Value.int .u8 (b.toNat : Int) := fun l => by rw [lst_fnc, flat_byteF]
  refine ⟨h1, fun j v hv => h2 j v ?_, fun t k hk => ?_, h4⟩
  · rw [e] at hv ⊢
    rw [List.map_take] at hv
    obtain ⟨hj, rfl⟩ := List.getElem?_eq_some_iff.1 hv
    rw [List.getElem_take]
    rw [List.length_take] at hj
    exact List.getElem?_eq_getElem (by omega)
  · obtain ⟨g1, g2, g3, g4⟩ := h3 t k hk
    refine ⟨g1, g2, Nat.le_trans ?_ g3, g4⟩
    rw [e, e, List.length_map, List.length_map, List.length_take]
    omega
theorem ent47 : Enters Try.prog 47 := enters_of Try.func47 (by kernel_rfl) rfl
theorem ent48 : Enters Try.prog 48 := enters_of Try.func48 (by kernel_rfl) rfl
theorem ent49 : Enters Try.prog 49 := enters_of Try.func49 (by kernel_rfl) rfl
theorem ent50 : Enters Try.prog 50 := enters_of Try.func50 (by kernel_rfl) rfl
/-- How many bytes of s are taken. -/
def takeN (n : Nat) (bs s : List UInt8) : Nat := min (n - bs.length) s.length
theorem mm_val (n nb ls : Nat) (h : nb ≤ n) : (bif false then (if ((ls : Nat) : Int) > (n : Int) - (nb : Int) then ((ls : Nat) : Int) else (n : Int) - (nb : Int)) else (if ((ls : Nat) : Int) < (n : Int) - (nb : Int) then ((ls : Nat) : Int) else (n : Int) - (nb : Int))) = ((min (n - nb) ls : Nat) : Int) := by
  rw [cond_false]
  split <;> omega
abbrev hBg (r lr id : Nat) (xn xo : Lf) (pl : Nat) (pa : List UInt8) (b : Bool) (bs s : List UInt8) (n : Nat) : Hint := .call ⟨47, fun ρ => #[(ptrTo r).val ρ, stv s, .int .i64 (n : Int)], .v (stv (s.drop (takeN n bs s))), [(r, rdP (slB lr bs.length) xn xo pl pa b), (lr, byR bs)], [(r, rdP (slB id (bs ++ s.take (takeN n bs s)).length) xn xo pl pa b)], some (byR (bs ++ s.take (takeN n bs s))), [lr]⟩
abbrev hBg0 (r id : Nat) (xn xo : Lf) (pl : Nat) (pa : List UInt8) (b : Bool) (s : List UInt8) (n : Nat) : Hint := .call ⟨47, fun ρ => #[(ptrTo r).val ρ, stv s, .int .i64 (n : Int)], .v (stv (s.drop (takeN n [] s))), [(r, rdP (.v (.slice none 0 0)) xn xo pl pa b)], [(r, rdP (slB id (s.take (takeN n [] s)).length) xn xo pl pa b)], some (byR (s.take (takeN n [] s))), []⟩
/-- What begin leaves. -/
def BgQ (ρ : Env) (w : World) (D : List Nat) (xn xo : Value) (pl : Nat) (pa : List UInt8) (b : Bool) (bs2 rest : List UInt8) : Ending → World → Prop := fun e w' => ∃ B : Blk, e = .returned (stv rest) ∧ Fr w ((ρ 0).1 :: D.map fun r => (ρ r).1) w' ∧ (w.heap.size ≤ B.1 ∨ ∃ r ∈ D, B.1 = (ρ r).1) ∧ RowAt (setE ρ 1 B) 0 (rdP (slB 1 bs2.length) (.v xn) (.v xo) pl pa b) w' ∧ RowAt (setE ρ 1 B) 1 (byR bs2) w'
theorem bg_fin {w w' : World} {ρ ρ' : Env} {D : List Nat} {xn xo : Value} {pl : Nat} {pa : List UInt8} {b : Bool} {bs2 rest : List UInt8} {X : Nat} (hf : Fr w ((ρ 0).1 :: D.map fun r => (ρ r).1) w') (he : ∀ r, r < 1000 → ρ' r = ρ r)
    (hq : ∀ p ∈ [(0, rdP (slB X bs2.length) (.v xn) (.v xo) pl pa b), (X, byR bs2)], RowAt ρ' p.1 p.2 w' ∧ pok p.2.ps ∧ (p.2.w = true → w.heap.size ≤ (ρ' p.1).1 ∨ (ρ' p.1).1 ∈ ((ρ 0).1 :: D.map fun r => (ρ r).1)))
    (hd : ∀ p ∈ [(0, rdP (slB X bs2.length) (.v xn) (.v xo) pl pa b), (X, byR bs2)], ∀ q ∈ [(0, rdP (slB X bs2.length) (.v xn) (.v xo) pl pa b), (X, byR bs2)], p.1 ≠ q.1 → p.2.w = true → (ρ' p.1).1 ≠ (ρ' q.1).1) (hX : X ≠ 0) : BgQ ρ w D xn xo pl pa b bs2 rest (.returned ((TV.v (stv rest)).val ρ')) w' := by
  have h0 := hq (0, rdP (slB X bs2.length) (.v xn) (.v xo) pl pa b) (by simp)
  have h1 := hq (X, byR bs2) (by simp)
  have hne := hd (0, rdP (slB X bs2.length) (.v xn) (.v xo) pl pa b) (by simp) (X, byR bs2) (by simp) (Ne.symm hX) rfl
  simp only at hne
  refine ⟨ρ' X, rfl, hf, ?_, rdP_mv h0.1 (by rw [setE_ne ρ _ (by decide)]; exact (he 0 (by decide)).symm) (by simp only [Lf.val, setE_same]) rfl rfl, byR_mv h1.1 (setE_same ρ 1 _)⟩
  rcases h1.2.2 rfl with h | h
  · exact .inl h
  · rcases List.mem_cons.1 h with h | h
    · rw [he 0 (by decide)] at hne
      exact absurd h.symm hne
    · obtain ⟨r, hr, hr2⟩ := List.mem_map.1 h
      exact .inr ⟨r, hr, hr2.symm⟩
theorem bg_hint {r lr id : Nat} {xn xo : Lf} {pl : Nat} {pa : List UInt8} {b : Bool} {bs s : List UInt8} {n : Nat} (hxn : xn.ok) (hxo : xo.ok) (hid : id ∉ xn.ids ∧ id ∉ xo.ids) (hr : r ≠ lr ∧ r ≠ id)
    (h : ∀ (vn vo : Value), vn.oneCell' = true → vo.oneCell' = true → ∀ (ρ : Env) (w : World), RowAt ρ 0 (rdP (slB 1 bs.length) (.v vn) (.v vo) pl pa b) w → RowAt ρ 1 (byR bs) w → (ρ 0).1 ≠ (ρ 1).1 → Calls Try.prog 47 #[(ptrTo 0).val ρ, stv s, .int .i64 (n : Int)] w (BgQ ρ w [1] vn vo pl pa b (bs ++ s.take (takeN n bs s)) (s.drop (takeN n bs s)))) : HintOk Try.prog id (hBg r lr id xn xo pl pa b bs s n) := by
  refine ⟨rfl, fun p hp => ?_, ent47, fun ρ w hp hd => ?_⟩
  · obtain rfl := List.mem_singleton.1 hp; exact hr.2
  have h0 := hp (r, rdP (slB lr bs.length) xn xo pl pa b) (by simp)
  have h1 := hp (lr, byR bs) (by simp)
  have hne := hd (r, rdP (slB lr bs.length) xn xo pl pa b) (by simp) (lr, byR bs) (by simp) hr.1 rfl
  obtain ⟨σ, hσ⟩ : ∃ σ : Env, σ = fun i => if i = 0 then ρ r else ρ lr := ⟨_, rfl⟩
  have e0 : σ 0 = ρ r := by rw [hσ]; rfl
  have e1 : σ 1 = ρ lr := by rw [hσ]; rfl
  have hc := h (xn.val ρ) (xo.val ρ) (Lf.one_val hxn) (Lf.one_val hxo) σ w (rdP_mv h0 e0 (by simp only [Lf.val, e1]) rfl rfl) (byR_mv h1 e1) (by rw [e0, e1]; exact hne)
  have e : #[(ptrTo 0).val σ, stv s, .int .i64 (n : Int)] = #[(ptrTo r).val ρ, stv s, .int .i64 (n : Int)] := by simp only [ptrTo, TV.val, SV.val, Lf.val, e0]
  rw [e] at hc
  refine hc.mono ?_
  rintro e w' ⟨B, rfl, hf, hB, k0, k1⟩
  simp only [List.map_cons, List.map_nil, e0, e1] at hf
  have en : xn.val (setE ρ id B) = xn.val ρ := Lf.val_congr fun q hq => setE_ne ρ B (by rintro rfl; exact hid.1 hq)
  have eo : xo.val (setE ρ id B) = xo.val ρ := Lf.val_congr fun q hq => setE_ne ρ B (by rintro rfl; exact hid.2 hq)
  refine ⟨setE ρ id B, rfl, rfl, fun r hr => setE_ne ρ B hr, ?_, fun p hp => ?_, fun p hp hpe => ?_⟩
  · have hb1 : (!(r == id)) = true := by simpa using hr.2
    simp only [Option.map_some, Option.toList_some, List.cons_append, List.nil_append, List.filter_cons, List.filter_nil, hb1, if_true, beq_self_eq_true, Bool.not_true, Bool.false_eq_true, if_false, List.map_cons, List.map_nil]
    exact hf
  · simp only [Option.map_some, Option.toList_some, List.cons_append, List.nil_append, List.mem_cons, List.not_mem_nil, or_false] at hp
    rcases hp with rfl | rfl
    · exact ⟨rdP_mv k0 (by rw [setE_ne ρ B hr.2, setE_ne σ B (by decide), e0]) (by simp only [Lf.val, setE_same]) en eo, rdP_ok _ _ _ trivial hxn hxo⟩
    · exact ⟨byR_mv k1 (by rw [setE_same, setE_same]), by_ok _⟩
  · rw [setE_same]
    rcases hB with hB | ⟨r2, hr2, hB⟩
    · exact .inl hB
    · obtain rfl := List.mem_singleton.1 hr2
      exact .inr ⟨lr, by simp, by rw [hB, e1]⟩
theorem bg0_hint {r id : Nat} {xn xo : Lf} {pl : Nat} {pa : List UInt8} {b : Bool} {s : List UInt8} {n : Nat} (hxn : xn.ok) (hxo : xo.ok) (hid : id ∉ xn.ids ∧ id ∉ xo.ids) (hr : r ≠ id)
    (h : ∀ (vn vo : Value), vn.oneCell' = true → vo.oneCell' = true → ∀ (ρ : Env) (w : World), RowAt ρ 0 (rdP (.v (.slice none 0 0)) (.v vn) (.v vo) pl pa b) w → Calls Try.prog 47 #[(ptrTo 0).val ρ, stv s, .int .i64 (n : Int)] w (BgQ ρ w [] vn vo pl pa b (s.take (takeN n [] s)) (s.drop (takeN n [] s)))) : HintOk Try.prog id (hBg0 r id xn xo pl pa b s n) := by
  refine ⟨rfl, fun p hp => ?_, ent47, fun ρ w hp hd => ?_⟩
  · obtain rfl := List.mem_singleton.1 hp; exact hr
  have h0 := hp (r, rdP (.v (.slice none 0 0)) xn xo pl pa b) (by simp)
  obtain ⟨σ, hσ⟩ : ∃ σ : Env, σ = fun i => ρ r := ⟨_, rfl⟩
  have e0 : ∀ i, σ i = ρ r := fun i => by rw [hσ]
  have hc := h (xn.val ρ) (xo.val ρ) (Lf.one_val hxn) (Lf.one_val hxo) σ w (rdP_mv h0 (e0 0) rfl rfl rfl)
  have e : #[(ptrTo 0).val σ, stv s, .int .i64 (n : Int)] = #[(ptrTo r).val ρ, stv s, .int .i64 (n : Int)] := by simp only [ptrTo, TV.val, SV.val, Lf.val, e0]
  rw [e] at hc
  refine hc.mono ?_
  rintro e w' ⟨B, rfl, hf, hB, k0, k1⟩
  simp only [List.map_nil, e0] at hf
  have en : xn.val (setE ρ id B) = xn.val ρ := Lf.val_congr fun q hq => setE_ne ρ B (by rintro rfl; exact hid.1 hq)
  have eo : xo.val (setE ρ id B) = xo.val ρ := Lf.val_congr fun q hq => setE_ne ρ B (by rintro rfl; exact hid.2 hq)
  refine ⟨setE ρ id B, rfl, rfl, fun r hr => setE_ne ρ B hr, ?_, fun p hp => ?_, fun p hp hpe => ?_⟩
  · have hb1 : (!(r == id)) = true := by simpa using hr
    simp only [Option.map_some, Option.toList_some, List.cons_append, List.nil_append, List.filter_cons, List.filter_nil, hb1, if_true, beq_self_eq_true, Bool.not_true, Bool.false_eq_true, if_false, List.map_cons, List.map_nil, List.append_nil]
    exact hf
  · simp only [Option.map_some, Option.toList_some, List.cons_append, List.nil_append, List.mem_cons, List.not_mem_nil, or_false] at hp
    rcases hp with rfl | rfl
    · exact ⟨rdP_mv k0 (by rw [setE_ne ρ B hr, setE_ne σ B (by decide), e0]) (by simp only [Lf.val, setE_same]) en eo, rdP_ok _ _ _ trivial hxn hxo⟩
    · exact ⟨byR_mv k1 (by rw [setE_same, setE_same]), by_ok _⟩
  · rw [setE_same]
    rcases hB with hB | ⟨r2, hr2, hB⟩
    · exact .inl hB
    · cases hr2
end
end Go.Proofs.Ytglipljilcdboaa
/- Of the program: begin, length, whole. Its conditions: lengths that fit. -/
namespace Go.Proofs.Ytglipljilcdboaa
open Go.RowKit
set_option linter.unusedVariables false
set_option linter.unusedSimpArgs false
section
open E
abbrev wrP (ρ : Env) (D : List Nat) : List Nat := (ρ 0).1 :: D.map fun r => (ρ r).1
theorem init_two {ρ : Env} {w : World} {args : List TV} {r0 r1 : Row} (hok : okL args) (hi : args.all (fun x => x.ids.all (hasN [0, 1])) = true) (hp0 : (pids r0.ps).all (hasN [0, 1]) = true) (hp1 : (pids r1.ps).all (hasN [0, 1]) = true) (h0 : RowAt ρ 0 r0 w) (k0 : pok r0.ps) (h1 : RowAt ρ 1 r1 w) (k1 : pok r1.ps) (hne : (ρ 0).1 ≠ (ρ 1).1) : Init w (wrP ρ [1]) ρ args [(0, r0), (1, r1)] [] := by
  refine init_rw hok hi ?_ rfl (fun a ha => ?_) (fun a ha hw => ?_) (fun a ha r hr hn hw => ?_)
  · simp only [List.all_cons, List.all_nil, Bool.and_true, Bool.and_eq_true]; exact ⟨hp0, hp1⟩
  · simp only [List.mem_cons, List.not_mem_nil, or_false] at ha
    rcases ha with rfl | rfl
    · exact ⟨h0, k0⟩
    · exact ⟨h1, k1⟩
  · simp only [List.mem_cons, List.not_mem_nil, or_false] at ha
    rcases ha with rfl | rfl <;> simp [wrP]
  · simp only [List.mem_cons, List.not_mem_nil, or_false] at ha hr
    rcases ha with rfl | rfl <;> rcases hr with rfl | rfl
    · exact absurd rfl hn
    · exact hne
    · exact hne.symm
    · exact absurd rfl hn
theorem init_one {ρ : Env} {w : World} {args : List TV} {r0 : Row} (hok : okL args) (hi : args.all (fun x => x.ids.all (hasN [0])) = true) (hp0 : (pids r0.ps).all (hasN [0]) = true) (h0 : RowAt ρ 0 r0 w) (k0 : pok r0.ps) : Init w (wrP ρ []) ρ args [(0, r0)] [] := by
  refine init_rw hok hi ?_ rfl (fun a ha => ?_) (fun a ha hw => ?_) (fun a ha r hr hn hw => ?_)
  · simp only [List.all_cons, List.all_nil, Bool.and_true]; exact hp0
  · obtain rfl := List.mem_singleton.1 ha; exact ⟨h0, k0⟩
  · obtain rfl := List.mem_singleton.1 ha; simp [wrP]
  · obtain rfl := List.mem_singleton.1 ha; obtain rfl := List.mem_singleton.1 hr; exact absurd rfl hn
set_option maxRecDepth 100000 in
theorem begin_any (bs s : List UInt8) (n : Nat) (hbs : bs.length ≤ 1000000000000) (hs : s.length ≤ 1000000000000) (hn : n ≤ 1000000000000) (vn vo : Value) (hvn : vn.oneCell' = true) (hvo : vo.oneCell' = true) (pl : Nat) (pa : List UInt8) (b : Bool) (ρ : Env) (w : World) (h0 : RowAt ρ 0 (rdP (slB 1 bs.length) (.v vn) (.v vo) pl pa b) w) (h1 : RowAt ρ 1 (byR bs) w) (hne : (ρ 0).1 ≠ (ρ 1).1) :
    Calls Try.prog 47 #[(ptrTo 0).val ρ, stv s, .int .i64 (n : Int)] w (BgQ ρ w [1] vn vo pl pa b (bs ++ s.take (takeN n bs s)) (s.drop (takeN n bs s))) := by
  refine At.calls (args := [ptrTo 0, .v (stv s), .int .i64 (n : Int)]) (rows := [(0, rdP (slB 1 bs.length) (.v vn) (.v vo) pl pa b), (1, byR bs)]) (gl := []) (wr := wrP ρ [1]) (ρ := ρ) Try.func47 rfl rfl (init_two ⟨trivial, rfl, rfl, trivial⟩ rfl rfl rfl h0 (rdP_ok _ _ _ trivial hvn hvo) h1 (by_ok _) hne) rfl ?_
  obtain ⟨K, hK⟩ : ∃ K, K = takeN n bs s := ⟨_, rfl⟩
  have hKs : K ≤ s.length := by rw [hK]; unfold takeN; omega
  have hKe : K = min (n - bs.length) s.length := hK
  rw [← hK]
  have hlt : (s.take K).length = K := by rw [List.length_take]; omega
  obtain ⟨z, hz⟩ : ∃ z : Int, z = min ((n : Int) - (bs.length : Int)) (s.length : Int) := ⟨_, rfl⟩
  have hzK : (K : Int) = max 0 z := by rw [hKe, hz]; omega
  refine At.finD rfl [(2002009, .val (.int .i64 z)), (2002010, .val (.int .i64 (K : Int)))] ⟨trivial, trivial, trivial⟩ [] (rows2 := [(0, rdP (slB 3008 (bs.length + (s.take ((K : Int)).toNat).length)) (.v vn) (.v vo) pl pa b), (3008, ⟨[.fnc (appF (byteF bs) bs.length (byteF (s.take ((K : Int)).toNat))) 1 (bs.length + (s.take ((K : Int)).toNat).length)], true, some (5, 1)⟩)]) (x := .v (stv (s.drop ((K : Int)).toNat))) (ob := [inI ((n : Int) - (bs.length : Int)), TV.int .i64 (bif false then (if ((s.length : Nat) : Int) > (n : Int) - (bs.length : Int) then ((s.length : Nat) : Int) else (n : Int) - (bs.length : Int)) else (if ((s.length : Nat) : Int) < (n : Int) - (bs.length : Int) then ((s.length : Nat) : Int) else (n : Int) - (bs.length : Int))) = TV.int .i64 z, TV.int .i64 (bif true then (if z > 0 then z else 0) else (if z < 0 then z else 0)) = TV.int .i64 (K : Int), 0 ≤ (K : Int) ∧ (K : Int) ≤ (s.length : Int), bs.length = bs.length, bs.length + (s.take ((K : Int)).toNat).length ≤ 140737488355328, 0 ≤ (K : Int) ∧ (K : Int) ≤ (s.length : Int)]) (by kernel_rfl) ⟨⟨by omega, by omega⟩, tv_int (by rw [cond_false]; split <;> omega), tv_int (by rw [cond_true]; split <;> omega), ⟨by omega, by omega⟩, rfl, by rw [Int.toNat_natCast, hlt]; omega, ⟨by omega, by omega⟩, trivial⟩ fun ρ' w' hf he _ hq hd => ?_
  rw [Int.toNat_natCast] at hq hd ⊢
  have hl : bs.length + (s.take K).length = (bs ++ s.take K).length := by rw [List.length_append]
  have hrow : ∀ σ : Env, lst σ (⟨[.fnc (appF (byteF bs) bs.length (byteF (s.take K))) 1 (bs.length + (s.take K).length)], true, some (5, 1)⟩ : Row).ps = lst σ (byR (bs ++ s.take K)).ps := fun σ => by
    rw [lst_fnc, lst_fnc, ← hl]
    exact flatMap_congr' fun i hi => by_app bs (s.take K) i (List.mem_range.1 hi)
  have g0 := hq _ (List.mem_cons_self ..)
  have g1 := hq _ (List.mem_cons_of_mem _ (List.mem_singleton.2 rfl))
  have gd := hd _ (List.mem_cons_self ..) _ (List.mem_cons_of_mem _ (List.mem_singleton.2 rfl)) (show (0 : Nat) ≠ 3008 by decide) rfl
  simp only [hl] at g0 gd
  refine bg_fin hf he (X := 3008) (fun p hp => ?_) (fun p hp q hq2 hpq hw => ?_) (by decide)
  · simp only [List.mem_cons, List.not_mem_nil, or_false] at hp
    rcases hp with rfl | rfl
    · exact ⟨g0.1, g0.2.1, fun _ => g0.2.2 trivial⟩
    · refine ⟨?_, by_ok _, fun _ => g1.2.2 rfl⟩
      obtain ⟨a1, a2, a3, a4⟩ := g1.1
      unfold RowAt
      rw [← hrow ρ']
      exact ⟨a1, a2, a3, a4⟩
  · simp only [List.mem_cons, List.not_mem_nil, or_false] at hp hq2
    rcases hp with rfl | rfl <;> rcases hq2 with rfl | rfl
    · exact absurd rfl hpq
    · exact gd
    · exact gd.symm
    · exact absurd rfl hpq
set_option maxRecDepth 100000 in
theorem begin_nil (s : List UInt8) (n : Nat) (hs : s.length ≤ 1000000000000) (hs0 : 0 < s.length) (hn : n ≤ 1000000000000) (hn0 : 0 < n) (vn vo : Value) (hvn : vn.oneCell' = true) (hvo : vo.oneCell' = true) (pl : Nat) (pa : List UInt8) (b : Bool) (ρ : Env) (w : World) (h0 : RowAt ρ 0 (rdP (.v (.slice none 0 0)) (.v vn) (.v vo) pl pa b) w) :
    Calls Try.prog 47 #[(ptrTo 0).val ρ, stv s, .int .i64 (n : Int)] w (BgQ ρ w [] vn vo pl pa b (s.take (takeN n [] s)) (s.drop (takeN n [] s))) := by
  refine At.calls (args := [ptrTo 0, .v (stv s), .int .i64 (n : Int)]) (rows := [(0, rdP (.v (.slice none 0 0)) (.v vn) (.v vo) pl pa b)]) (gl := []) (wr := wrP ρ []) (ρ := ρ) Try.func47 rfl rfl (init_one ⟨trivial, rfl, rfl, trivial⟩ rfl rfl h0 (rdP_ok _ _ _ rfl hvn hvo)) rfl ?_
  obtain ⟨K, hK⟩ : ∃ K, K = takeN n [] s := ⟨_, rfl⟩
  have hKs : K ≤ s.length := by rw [hK]; unfold takeN; omega
  have hKe : K = min (n - 0) s.length := hK
  rw [← hK]
  have hlt : (s.take K).length = K := by rw [List.length_take]; omega
  have hm := mm_val n 0 s.length (Nat.zero_le _)
  rw [← hKe] at hm
  refine At.finD rfl [(2002009, .val (.int .i64 (K : Int))), (2002010, .val (.int .i64 (K : Int)))] ⟨trivial, trivial, trivial⟩ [] (rows2 := [(0, rdP (slB 3008 (s.take ((K : Int)).toNat).length) (.v vn) (.v vo) pl pa b), (3008, byR (s.take ((K : Int)).toNat))]) (x := .v (stv (s.drop ((K : Int)).toNat))) (ob := [inI ((n : Int) - ((0 : Nat) : Int)), TV.int .i64 (bif false then (if ((s.length : Nat) : Int) > (n : Int) - ((0 : Nat) : Int) then ((s.length : Nat) : Int) else (n : Int) - ((0 : Nat) : Int)) else (if ((s.length : Nat) : Int) < (n : Int) - ((0 : Nat) : Int) then ((s.length : Nat) : Int) else (n : Int) - ((0 : Nat) : Int))) = TV.int .i64 (K : Int), TV.int .i64 (bif true then (if (K : Int) > 0 then (K : Int) else 0) else (if (K : Int) < 0 then (K : Int) else 0)) = TV.int .i64 (K : Int), 0 ≤ (K : Int) ∧ (K : Int) ≤ (s.length : Int), 0 < (s.take ((K : Int)).toNat).length, (s.take ((K : Int)).toNat).length ≤ 140737488355328, 0 ≤ (K : Int) ∧ (K : Int) ≤ (s.length : Int)]) (by kernel_rfl) ⟨⟨by omega, by omega⟩, tv_int hm, tv_int (by rw [cond_true]; split <;> omega), ⟨by omega, by omega⟩, by rw [Int.toNat_natCast, hlt]; omega, by rw [Int.toNat_natCast, hlt]; omega, ⟨by omega, by omega⟩, trivial⟩ fun ρ' w' hf he _ hq hd => ?_
  rw [Int.toNat_natCast] at hq hd ⊢
  exact bg_fin hf he (X := 3008) hq hd (by decide)
theorem hBg_ok {r lr id : Nat} {xn xo : Lf} {pl : Nat} {pa : List UInt8} {b : Bool} {bs s : List UInt8} {n : Nat} (hxn : xn.ok) (hxo : xo.ok) (hid : id ∉ xn.ids ∧ id ∉ xo.ids) (hr : r ≠ lr ∧ r ≠ id) (hbs : bs.length ≤ 1000000000000) (hs : s.length ≤ 1000000000000) (hn : n ≤ 1000000000000) : HintOk Try.prog id (hBg r lr id xn xo pl pa b bs s n) :=
  bg_hint hxn hxo hid hr fun vn vo hvn hvo ρ w h0 h1 hne => begin_any bs s n hbs hs hn vn vo hvn hvo pl pa b ρ w h0 h1 hne
theorem hBg0_ok {r id : Nat} {xn xo : Lf} {pl : Nat} {pa : List UInt8} {b : Bool} {s : List UInt8} {n : Nat} (hxn : xn.ok) (hxo : xo.ok) (hid : id ∉ xn.ids ∧ id ∉ xo.ids) (hr : r ≠ id) (hs : s.length ≤ 1000000000000) (hs0 : 0 < s.length) (hn : n ≤ 1000000000000) (hn0 : 0 < n) : HintOk Try.prog id (hBg0 r id xn xo pl pa b s n) :=
  bg0_hint hxn hxo hid hr fun vn vo hvn hvo ρ w h0 => begin_nil s n hs hs0 hn hn0 vn vo hvn hvo pl pa b ρ w h0
/-- whole. -/
theorem whole_any (n : Nat) (hn : n ≤ 1000000000000) (w : World) : Calls Try.prog 49 #[.int .i64 (n : Int)] w fun e w' => e = .returned (.int .i64 ((8 + padN n : Nat) : Int)) ∧ Below w.heap.size w w' := by
  refine At.calls (args := [.int .i64 (n : Int)]) (rows := []) (gl := []) (wr := []) (ρ := fun _ => ⟨0, 0, 0⟩) Try.func49 rfl rfl (init_rw ⟨rfl, trivial⟩ rfl rfl rfl (fun p hp => by cases hp) (fun p hp => by cases hp) (fun p hp => by cases hp)) rfl ?_
  refine At.fin rfl [] trivial [] (x := .int .i64 (8 + ((n : Int) + 8 - 1) / 8 * 8)) (ob := [inI ((n : Int) + 8), inI ((n : Int) + 8 - 1), 0 ≤ (n : Int) + 8 - 1 ∧ (0 : Int) < 8, IntKind.i64.wrap (((n : Int) + 8 - 1) / 8) = ((n : Int) + 8 - 1) / 8, inI (((n : Int) + 8 - 1) / 8 * 8), inI (8 + ((n : Int) + 8 - 1) / 8 * 8)]) (by kernel_rfl) ⟨⟨by omega, by omega⟩, ⟨by omega, by omega⟩, ⟨by omega, by omega⟩, by rw [IntKind.wrap_i64]; omega, ⟨by omega, by omega⟩, ⟨by omega, by omega⟩, trivial⟩ fun ρ w' hf _ => ⟨?_, hf.below⟩
  have : (8 + ((n : Int) + 8 - 1) / 8 * 8) = ((8 + padN n : Nat) : Int) := by unfold padN; omega
  show Ending.returned (.int .i64 (8 + ((n : Int) + 8 - 1) / 8 * 8)) = _
  rw [this]
abbrev hWh (n : Nat) : Hint := pc 49 #[.int .i64 (n : Int)] (.int .i64 ((8 + padN n : Nat) : Int))
theorem hWh_ok (id n : Nat) (hn : n ≤ 1000000000000) : HintOk Try.prog id (hWh n) := pc_ok ent49 (v := .int .i64 ((8 + padN n : Nat) : Int)) rfl (fun _ => rfl) fun w => whole_any n hn w
/-- length: over any row in which the bytes stand. -/
theorem length_any (bs : List UInt8) (c : Nat) (h8 : 8 ≤ bs.length) (hbs : bs.length ≤ 1000000000000) (ρ : Env) (w : World) (h1 : RowAt ρ 1 ⟨(byR bs).ps, false, none⟩ w) : Calls Try.prog 48 #[(TV.s (.lf (.sl 1 0 0 1 bs.length (some c)))).val ρ] w fun e w' => e = .returned (.int .u64 (gN bs 8 : Nat)) ∧ Below w.heap.size w w' := by
  refine At.calls (args := [TV.s (.lf (.sl 1 0 0 1 bs.length (some c)))]) (rows := [(1, ⟨(byR bs).ps, false, none⟩)]) (gl := []) (wr := []) (ρ := ρ) Try.func48 rfl rfl (init_ro1 ⟨trivial, trivial⟩ rfl rfl ⟨⟨h1, by_ok bs⟩, trivial⟩) rfl ?_
  have hloop : ∀ j : Nat, j ≤ 8 → At Try.prog w ⟨[], ρ, []⟩ Try.f48.ntmps [] (lp Try.f48 0) (EndX Try.prog Try.f48 fun e w' => e = .returned (.int .u64 (gN bs 8 : Nat)) ∧ Below w.heap.size w w') [(0, TV.s (.lf (.sl 1 0 0 1 bs.length (some c)))), (3, .int .u64 (gN bs j : Nat)), (5, .int .i64 (j : Int))] [(1, ⟨(byR bs).ps, false, none⟩)] := by
    refine At.loop (fun j : Nat => [(0, TV.s (.lf (.sl 1 0 0 1 bs.length (some c)))), (3, .int .u64 (gN bs j : Nat)), (5, .int .i64 (j : Int))]) (fun _ => [(1, ⟨(byR bs).ps, false, none⟩)]) (fun j => j ≤ 8) (fun j => 8 - j) fun j hj ih => ?_
    by_cases h : j < 8
    · have h9 := ih (j + 1) (by omega) (by omega)
      have ha : addN 0 ((j : Int)).toNat = j := by rw [addN_eq]; omega
      have hb := (bs.getD j 0).toNat_lt
      exact At.run rfl [(2006009, .val (.int .u64 (gN bs (j + 1) : Nat)))] ⟨trivial, trivial⟩ [.y] (tm2 := [(0, TV.s (.lf (.sl 1 0 0 1 bs.length (some c)))), (3, .int .u64 (gN bs (j + 1) : Nat)), (5, .int .i64 ((j + 1 : Nat) : Int))]) (rows2 := [(1, ⟨(byR bs).ps, false, none⟩)]) (ob := [decide ((j : Int) < 8) = true, 0 ≤ (j : Int) ∧ (j : Int) < (bs.length : Int), addN 0 ((j : Int)).toNat < bs.length, IntKind.u64.wrap ((bs.getD (addN 0 ((j : Int)).toNat) 0).toNat : Int) = ((bs.getD (addN 0 ((j : Int)).toNat) 0).toNat : Int), inI (8 * (j : Int)), 0 ≤ 8 * (j : Int) ∧ 8 * (j : Int) ≤ 64, TV.int .u64 (bits .or .u64 (gN bs j : Int) (IntKind.u64.wrap (((bs.getD (addN 0 ((j : Int)).toNat) 0).toNat : Int) * 2 ^ (8 * (j : Int)).toNat))) = TV.int .u64 (gN bs (j + 1) : Nat), inI ((j : Int) + 1)]) (td := lp Try.f48 0) (by kernel_rfl) ⟨decide_eq_true (by omega), ⟨by omega, by omega⟩, by rw [ha]; omega, by rw [ha, IntKind.wrap_u64]; omega, ⟨by omega, by omega⟩, ⟨by omega, by omega⟩, by rw [ha, or_word _ _ _ (gN_lt bs j) (by omega) h, gN_succ bs j (by omega)], ⟨by omega, by omega⟩, trivial⟩ rfl rfl (by intro h; cases h) h9
    · obtain rfl : j = 8 := by omega
      exact At.fin rfl [] trivial [.n] (x := .int .u64 (gN bs 8 : Nat)) (ob := [decide ((8 : Int) < 8) = false]) (by kernel_rfl) ⟨rfl, trivial⟩ fun ρ w' hf _ => ⟨rfl, hf.below⟩
  exact At.run rfl [] trivial [] (tm2 := [(0, TV.s (.lf (.sl 1 0 0 1 bs.length (some c)))), (3, .int .u64 (gN bs 0 : Nat)), (5, .int .i64 ((0 : Nat) : Int))]) (rows2 := [(1, ⟨(byR bs).ps, false, none⟩)]) (ob := []) (td := lp Try.f48 0) (by kernel_rfl) trivial rfl rfl (by intro h; cases h) (hloop 0 (by omega))
abbrev hLn (lr : Nat) (bs : List UInt8) : Hint := pr 48 (fun ρ => #[(TV.s (.lf (slB lr bs.length))).val ρ]) (.int .u64 (gN bs 8 : Nat)) [(lr, byR bs)]
theorem hLn_ok {lr id : Nat} {bs : List UInt8} (h8 : 8 ≤ bs.length) (hbs : bs.length ≤ 1000000000000) : HintOk Try.prog id (hLn lr bs) := by
  refine pr_ok ent48 (v := .int .u64 (gN bs 8 : Nat)) rfl (fun _ => rfl) fun ρ w h => ?_
  have h1 := h (lr, byR bs) (by simp)
  have hr : RowAt (fun _ => ρ lr) 1 ⟨(byR bs).ps, false, none⟩ w := ⟨h1.1, fun j v hv => ⟨(h1.2.1 j v hv).1, fun h => by cases h⟩, (fun e k h => by cases h), h1.2.2.2⟩
  exact length_any bs ((ρ lr).3 - 0) h8 hbs (fun _ => ρ lr) w hr
end
end Go.Proofs.Ytglipljilcdboaa
