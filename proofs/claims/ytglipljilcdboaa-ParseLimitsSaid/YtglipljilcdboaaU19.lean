/- Several texts, one behind the other; each says by itself what it proves, and on what conditions. -/
import Derived.Test.YtglipljilcdboaaU18
/- Of the program: the iterator over texts, from the length of a text on. No condition but what each names. -/
namespace Go.Proofs.Ytglipljilcdboaa
open Go.RowKit Go.Shelf
set_option linter.unusedVariables false
set_option linter.unusedSimpArgs false
section
open E
section
variable {W0 : World} {b p1 p2 p3 l : Nat} {D0 KB : List Nat} {J Jx : World → Prop}
theorem fin_go (c : YCtx b l KB J Jx) {W w' : World} {t : TS} {vn vo : Value} {D E : List Nat} (hI : Inv W0 b p2 p3 D0 KB J W t vn vo D E) {wl : List Nat} (hwl : ∀ x ∈ wl, x ∈ b :: E) {ρ' : Env} {X : Nat} {bs : List UInt8} (hf : Fr W wl w') (e0 : ρ' 0 = ⟨b, 0, 0⟩) (r0 : RowAt ρ' 0 (rdP (slB X bs.length) (.v vn) (.v vo) t.pl t.path false) w') (r4 : RowAt ρ' X (byR bs) w') (hw : W.heap.size ≤ (ρ' X).1 ∨ (ρ' X).1 ∈ wl) (hne : (ρ' 0).1 ≠ (ρ' X).1) (v : Value) : TxQ W0 b D0 KB J Jx (some (t, bs)) (.returned v) w' := by
  have hB : (ρ' X).1 ∈ E ∨ W.heap.size ≤ (ρ' X).1 := by
    rcases hw with h | h
    · exact .inr h
    · rcases List.mem_cons.1 (hwl _ h) with h2 | h2
      · rw [e0] at hne; exact absurd h2.symm hne
      · exact .inl h2
  have hI2 := hI.step c hf hwl (ρ' X) hB r4.1
  exact hI2.fin c (.inr ⟨ρ' X, rfl, byR_mv r4 rfl, rfl⟩) (rdP_mv r0 e0.symm (slB_val rfl (byR_z r4)).symm rfl rfl) v
set_option maxRecDepth 100000 in
theorem seg7 (c : YCtx b l KB J Jx) (hbx : BxT W0 b p2 p3 D0 KB) {W : World} {t : TS} {vn vo : Value} {D E : List Nat} (hI : Inv W0 b p2 p3 D0 KB J W t vn vo D E) {wl : List Nat} {B0 : Blk} (hwl : ∀ x ∈ wl, x ∈ b :: E) (bs rest : List UInt8) (m : Nat) (hm : mostM t.pl = some m) (h8 : 8 ≤ bs.length) (hbl : bs.length ≤ 8 + padN (gN bs 8)) (hlen : bs.length + rest.length ≤ 100000000000) {R : Option (TS × List UInt8)} (hR : R = runM t (bs ++ rest))
    (hIH : ∀ x : HX, x.bs = [] → Inv W0 b p2 p3 D0 KB J x.W x.t x.vn x.vo x.D [x.B.1] → x.rest.length < bs.length + rest.length → R = runM x.t x.rest → hxAt b p1 p2 p3 l (EndX Try.prog Try.f46 (TxQ W0 b D0 KB J Jx R)) x) :
    At Try.prog W ⟨wl, envK b p1 p2 p3 B0, []⟩ Try.f46.ntmps [] (rp Try.f46 7) (EndX Try.prog Try.f46 (TxQ W0 b D0 KB J Jx R)) (tmM l rest (m : Int)) (rwB 6002 bs.length bs vn vo t.pl t.path b) := by
  obtain ⟨hvn, hvo⟩ := trv_cells hI.hv
  have hm6 := mostM_le _ _ hm
  have hgl : gN bs 8 < 18446744073709551616 := gN_lt bs 8
  have hga : gN (bs ++ rest) 8 = gN bs 8 := gN_app h8
  have hne : bs ++ rest ≠ [] := fun h => by have h2 := congrArg List.length h; rw [List.length_append, List.length_nil] at h2; omega
  have hla : (bs ++ rest).length = bs.length + rest.length := List.length_append
  have kL : HintOk Try.prog 8004 (hLn 6002 bs) := hLn_ok h8 (by omega)
  have hwm : IntKind.u64.wrap (m : Int) = (m : Int) := by rw [IntKind.wrap_u64]; omega
  by_cases hgt : m < gN bs 8
  · have hRn : R = none := by rw [hR]; exact runM_form hne hm (cut_great (by rw [hla]; omega) (by rw [hga]; exact hgt))
    subst hRn
    exact At.run rfl [(8004, hLn 6002 bs)] ⟨kL, trivial⟩ [.y] (tm2 := tmM l rest (m : Int)) (rows2 := rwB 6002 bs.length bs vn vo t.pl t.path b) (ob := [qL (hLn 6002 bs), [decide (((gN bs 8 : Nat) : Int) > IntKind.u64.wrap (m : Int)) = true]].flatten) (td := rp Try.f46 9) (by kernel_rfl) (all_flat ⟨all_qL _, ⟨decide_eq_true (by rw [hwm]; omega), trivial⟩, trivial⟩) rfl rfl (by intro h; cases h) (seg_no9 c hI hwl bs rest (m : Int))
  have hpg := pad_le (gN bs 8)
  have hpl : padN (gN bs 8) ≤ gN bs 8 + 7 := by unfold padN; omega
  have kW : HintOk Try.prog 11002 (hWh (gN bs 8)) := hWh_ok _ _ (by omega)
  have kB : HintOk Try.prog 12003 (hBg 0 6002 12003 (.v vn) (.v vo) t.pl t.path false bs rest (8 + padN (gN bs 8))) := hBg_ok hvn hvo ⟨(fun h => by cases h), (fun h => by cases h)⟩ ⟨(by decide), (by decide)⟩ (by omega) (by omega) (by omega)
  have hgw : TV.int .i64 (IntKind.i64.wrap ((gN bs 8 : Nat) : Int)) = TV.int .i64 ((gN bs 8 : Nat) : Int) := tv_int (by rw [IntKind.wrap_i64]; omega)
  have hg0 : decide (((gN bs 8 : Nat) : Int) > IntKind.u64.wrap (m : Int)) = false := decide_eq_false (by rw [hwm]; omega)
  obtain ⟨tk1, tk2⟩ := take_more (n := 8 + padN (gN bs 8)) (s := rest) hbl
  by_cases hsz : bs.length + rest.length < 8 + padN (gN bs 8)
  · have hRs : R = some (t, bs ++ rest) := by rw [hR]; exact runM_more hm (cut_part (by omega) (by omega) (by rw [hga]; omega))
    subst hRs
    have e2 : bs ++ rest.take (takeN (8 + padN (gN bs 8)) bs rest) = bs ++ rest := by rw [tk1, List.take_of_length_le (by omega)]
    refine At.finD rfl [(8004, hLn 6002 bs), (2011001, .val (.int .i64 (gN bs 8 : Nat))), (11002, hWh (gN bs 8)), (12003, hBg 0 6002 12003 (.v vn) (.v vo) t.pl t.path false bs rest (8 + padN (gN bs 8)))] ⟨kL, trivial, kW, kB, trivial⟩ [.n, .y] (rows2 := [(0, rdP (slB 12003 (bs ++ rest.take (takeN (8 + padN (gN bs 8)) bs rest)).length) (.v vn) (.v vo) t.pl t.path false), (12003, byR (bs ++ rest.take (takeN (8 + padN (gN bs 8)) bs rest)))]) (x := .tup []) (ob := [qL (hLn 6002 bs), [decide (((gN bs 8 : Nat) : Int) > IntKind.u64.wrap (m : Int)) = false, TV.int .i64 (IntKind.i64.wrap ((gN bs 8 : Nat) : Int)) = TV.int .i64 ((gN bs 8 : Nat) : Int)], qL (hWh (gN bs 8)), qL (hBg 0 6002 12003 (.v vn) (.v vo) t.pl t.path false bs rest (8 + padN (gN bs 8))), [decide (((bs ++ rest.take (takeN (8 + padN (gN bs 8)) bs rest)).length : Int) < ((8 + padN (gN bs 8) : Nat) : Int)) = true]].flatten) (by kernel_rfl) (all_flat ⟨all_qL _, ⟨hg0, hgw, trivial⟩, all_qL _, all_qL _, ⟨decide_eq_true (by rw [e2, hla]; omega), trivial⟩, trivial⟩) fun ρ' w' hf he _ hq hd => ?_
    rw [e2] at hq hd
    have g0 := hq _ (List.mem_cons_self ..)
    have g1 := hq _ (List.mem_cons_of_mem _ (List.mem_singleton.2 rfl))
    have gd := hd _ (List.mem_cons_self ..) _ (List.mem_cons_of_mem _ (List.mem_singleton.2 rfl)) (show (0 : Nat) ≠ 12003 by decide) rfl
    exact fin_go c hI hwl hf (he 0 (by decide)) g0.1 g1.1 (g1.2.2 rfl) gd _
  · obtain ⟨bs2, hbs2⟩ : ∃ bs2, bs2 = bs ++ rest.take (takeN (8 + padN (gN bs 8)) bs rest) := ⟨_, rfl⟩
    have hl2 : bs2.length = 8 + padN (gN bs 8) := by rw [hbs2, tk1, List.length_take]; omega
    obtain ⟨rest2, hrest2⟩ : ∃ rest2, rest2 = rest.drop (takeN (8 + padN (gN bs 8)) bs rest) := ⟨_, rfl⟩
    have hcw := cut_whole (m := m) (r := bs ++ rest) (by omega) (by omega) (by rw [hga]; omega)
    rw [hga, ← tk1, ← tk2, ← hbs2, ← hrest2] at hcw
    have hl3 : rest2.length < bs.length + rest.length := by rw [hrest2, tk2, List.length_drop]; omega
    obtain ⟨tx, ok, hto⟩ : ∃ tx ok, endL bs2 (gN bs 8) = (tx, ok) := ⟨_, _, rfl⟩
    have kE : HintOk Try.prog 14003 (hEn 0 12003 (.v vn) (.v vo) t.pl t.path false bs2 (gN bs 8) tx ok) := hEn_ok hvn hvo ⟨(fun h => by cases h), (fun h => by cases h)⟩ ⟨(by decide), (by decide), (by decide)⟩ hl2 (by omega) hto
    rw [hto] at hcw
    have htl : tx.length ≤ m := by
      unfold endL at hto
      split at hto
      · cases hto
        rw [List.length_take]; omega
      · cases hto; simp
    have h14 : t.pl = 14 → tx.length ≤ 255 := fun h => by
      rw [h, most_14] at hm
      cases hm
      exact htl
    have hrun : ∀ (o : Bool), o = ok → ∀ (hs : At Try.prog W ⟨wl, envK b p1 p2 p3 B0, []⟩ Try.f46.ntmps [] (rp Try.f46 14) (EndX Try.prog Try.f46 (TxQ W0 b D0 KB J Jx R)) (tmY l rest2 tx ok) (rwB 12003 (if ok then 0 else bs2.length) bs2 vn vo t.pl t.path b)), At Try.prog W ⟨wl, envK b p1 p2 p3 B0, []⟩ Try.f46.ntmps [] (rp Try.f46 7) (EndX Try.prog Try.f46 (TxQ W0 b D0 KB J Jx R)) (tmM l rest (m : Int)) (rwB 6002 bs.length bs vn vo t.pl t.path b) := by
      intro o ho hs
      subst hbs2 hrest2
      exact At.run rfl [(8004, hLn 6002 bs), (2011001, .val (.int .i64 (gN bs 8 : Nat))), (11002, hWh (gN bs 8)), (12003, hBg 0 6002 12003 (.v vn) (.v vo) t.pl t.path false bs rest (8 + padN (gN bs 8))), (2014002, .val (.int .i64 (gN bs 8 : Nat))), (14003, hEn 0 12003 (.v vn) (.v vo) t.pl t.path false (bs ++ rest.take (takeN (8 + padN (gN bs 8)) bs rest)) (gN bs 8) tx ok)] ⟨kL, trivial, kW, kB, trivial, kE, trivial⟩ [.n, .n] (tm2 := tmY l (rest.drop (takeN (8 + padN (gN bs 8)) bs rest)) tx ok) (rows2 := rwB 12003 (if ok then 0 else (bs ++ rest.take (takeN (8 + padN (gN bs 8)) bs rest)).length) (bs ++ rest.take (takeN (8 + padN (gN bs 8)) bs rest)) vn vo t.pl t.path b) (ob := [qL (hLn 6002 bs), [decide (((gN bs 8 : Nat) : Int) > IntKind.u64.wrap (m : Int)) = false, TV.int .i64 (IntKind.i64.wrap ((gN bs 8 : Nat) : Int)) = TV.int .i64 ((gN bs 8 : Nat) : Int)], qL (hWh (gN bs 8)), qL (hBg 0 6002 12003 (.v vn) (.v vo) t.pl t.path false bs rest (8 + padN (gN bs 8))), [decide (((bs ++ rest.take (takeN (8 + padN (gN bs 8)) bs rest)).length : Int) < ((8 + padN (gN bs 8) : Nat) : Int)) = false, TV.int .i64 (IntKind.i64.wrap ((gN bs 8 : Nat) : Int)) = TV.int .i64 ((gN bs 8 : Nat) : Int)], qL (hEn 0 12003 (.v vn) (.v vo) t.pl t.path false (bs ++ rest.take (takeN (8 + padN (gN bs 8)) bs rest)) (gN bs 8) tx ok)].flatten) (td := rp Try.f46 14) (by kernel_rfl) (all_flat ⟨all_qL _, ⟨hg0, hgw, trivial⟩, all_qL _, all_qL _, ⟨decide_eq_false (by omega), hgw, trivial⟩, all_qL _, trivial⟩) rfl rfl (by intro h; cases h) hs
    refine hrun ok rfl ?_
    cases ok with
    | false =>
      have hRn : R = none := by rw [hR]; exact runM_form hne hm hcw
      subst hRn
      exact seg14_no c hI hwl _ bs2 rest2 tx false (fun h => by cases h)
    | true =>
      have hRo : R = match takeM t tx with
        | none => none
        | some t' => runM t' rest2 := by rw [hR]; exact runM_ok hm hcw
      cases ht : takeM t tx with
      | none =>
        rw [ht] at hRo
        subst hRo
        exact seg14_no c hI hwl _ bs2 rest2 tx true (fun _ => ⟨h14, ht⟩)
      | some t' =>
        rw [ht] at hRo
        exact seg14_go c hbx hI hwl bs2 rest2 tx t' h14 ht fun x hx1 hx2 hx3 hx4 => hIH x hx2 (by rw [hx1]; exact hx4) (by rw [hx3]; exact hl3) (by rw [hx1, hx3]; exact hRo)
end
end
end Go.Proofs.Ytglipljilcdboaa
/- Of the program: the iterator over texts, from the head of its loop. No condition but what each names. -/
namespace Go.Proofs.Ytglipljilcdboaa
open Go.RowKit Go.Shelf
set_option linter.unusedVariables false
set_option linter.unusedSimpArgs false
section
open E
section
variable {W0 : World} {b p1 p2 p3 l : Nat} {D0 KB : List Nat} {J Jx : World → Prop}
set_option maxRecDepth 100000 in
theorem seg3S (c : YCtx b l KB J Jx) (hbx : BxT W0 b p2 p3 D0 KB) {W : World} {t : TS} {vn vo : Value} {D : List Nat} {B : Blk} (hI : Inv W0 b p2 p3 D0 KB J W t vn vo D [B.1]) (bs : List UInt8) (rest : List UInt8) (hr0 : rest ≠ []) (hst : bs = [] ∨ ∃ m, mostM t.pl = some m ∧ cutT m bs = .more) (hlen : bs.length + rest.length ≤ 100000000000) {R : Option (TS × List UInt8)} (hR : R = runM t (bs ++ rest))
    (hIH : ∀ x : HX, x.bs = [] → Inv W0 b p2 p3 D0 KB J x.W x.t x.vn x.vo x.D [x.B.1] → x.rest.length < bs.length + rest.length → R = runM x.t x.rest → hxAt b p1 p2 p3 l (EndX Try.prog Try.f46 (TxQ W0 b D0 KB J Jx R)) x) :
    At Try.prog W ⟨wlOf (envK b p1 p2 p3 B) (rwB 4 bs.length bs vn vo t.pl t.path b), envK b p1 p2 p3 B, []⟩ Try.f46.ntmps [] (rp Try.f46 2).tail (EndX Try.prog Try.f46 (TxQ W0 b D0 KB J Jx R)) (tmM l rest (mostI t.pl)) (rwB 4 bs.length bs vn vo t.pl t.path b) := by
  obtain ⟨hvn, hvo⟩ := trv_cells hI.hv
  have hwl : ∀ x ∈ wlOf (envK b p1 p2 p3 B) (rwB 4 bs.length bs vn vo t.pl t.path b), x ∈ b :: [B.1] := fun x hx => hx
  have hla : (bs ++ rest).length = bs.length + rest.length := List.length_append
  have hne : bs ++ rest ≠ [] := by simp [hr0]
  cases hm : mostM t.pl with
  | none =>
    have hRn : R = none := by rw [hR]; exact runM_none hne hm
    have hmi : mostI t.pl = -1 := by unfold mostI; rw [hm]
    subst hRn
    exact At.run rfl [] trivial [.y] (tm2 := tmM l rest (mostI t.pl)) (rows2 := (rwB 4 bs.length bs vn vo t.pl t.path b)) (ob := [decide (mostI t.pl < 0) = true]) (td := rp Try.f46 4) (by kernel_rfl) ⟨decide_eq_true (by omega), trivial⟩ rfl rfl (by intro h; cases h) (seg_no4 c hI hwl bs rest (mostI t.pl))
  | some m =>
    have hmi : mostI t.pl = (m : Int) := by unfold mostI; rw [hm]
    rw [hmi]
    have kB : HintOk Try.prog 6002 (hBg 0 4 6002 (.v vn) (.v vo) t.pl t.path false bs rest 8) := hBg_ok hvn hvo ⟨(fun h => by cases h), (fun h => by cases h)⟩ ⟨(by decide), (by decide)⟩ (by omega) (by omega) (by decide)
    have hm0 : decide ((m : Int) < 0) = false := decide_eq_false (by omega)
    by_cases h8 : bs.length + rest.length < 8
    · have hRs : R = some (t, bs ++ rest) := by rw [hR]; exact runM_more hm (cut_short (by rw [hla]; exact h8))
      subst hRs
      have e2 : (bs ++ rest.take (takeN 8 bs rest)) = bs ++ rest := by rw [(take_more (by omega)).1, List.take_of_length_le (by omega)]
      refine At.finD rfl [(6002, hBg 0 4 6002 (.v vn) (.v vo) t.pl t.path false bs rest 8)] ⟨kB, trivial⟩ [.n, .y] (rows2 := [(0, rdP (slB 6002 (bs ++ rest.take (takeN 8 bs rest)).length) (.v vn) (.v vo) t.pl t.path false), (6002, byR (bs ++ rest.take (takeN 8 bs rest)))]) (x := .tup []) (ob := [[decide ((m : Int) < 0) = false], qL (hBg 0 4 6002 (.v vn) (.v vo) t.pl t.path false bs rest 8), [decide (((bs ++ rest.take (takeN 8 bs rest)).length : Int) < 8) = true]].flatten) (by kernel_rfl) (all_flat ⟨⟨hm0, trivial⟩, all_qL _, ⟨decide_eq_true (by rw [e2, hla]; omega), trivial⟩, trivial⟩) fun ρ' w' hf he _ hq hd => ?_
      rw [e2] at hq hd
      have g0 := hq _ (List.mem_cons_self ..)
      have g1 := hq _ (List.mem_cons_of_mem _ (List.mem_singleton.2 rfl))
      have gd := hd _ (List.mem_cons_self ..) _ (List.mem_cons_of_mem _ (List.mem_singleton.2 rfl)) (show (0 : Nat) ≠ 6002 by decide) rfl
      exact fin_go c hI hwl hf (he 0 (by decide)) g0.1 g1.1 (g1.2.2 rfl) gd _
    · obtain ⟨bs1, hbs1⟩ : ∃ bs1, bs1 = (bs ++ rest.take (takeN 8 bs rest)) := ⟨_, rfl⟩
      obtain ⟨rest1, hrest1⟩ : ∃ rest1, rest1 = (rest.drop (takeN 8 bs rest)) := ⟨_, rfl⟩
      have hjoin : bs1 ++ rest1 = bs ++ rest := by rw [hbs1, hrest1]; rw [List.append_assoc, List.take_append_drop]
      have hjl : bs1.length + rest1.length = bs.length + rest.length := by rw [← List.length_append, hjoin, hla]
      have hb8 : 8 ≤ bs1.length := by
        rw [hbs1]
        rw [List.length_append, List.length_take]; unfold takeN; omega
      have hbl : bs1.length ≤ 8 + padN (gN bs1 8) := by
        by_cases hb : bs.length < 8
        · have : bs1.length = 8 := by rw [hbs1, List.length_append, List.length_take]; unfold takeN; omega
          omega
        · have e1 : bs1 = bs := by rw [hbs1, takeN_none (by omega), List.take_zero, List.append_nil]
          rcases hst with h | ⟨m2, h1, h2⟩
          · rw [h] at hb; exact absurd (by decide) hb
          · rcases more_inv h2 with h3 | ⟨_, _, h3⟩
            · omega
            · rw [e1]; omega
      have h7 := seg7 c hbx hI hwl (B0 := B) bs1 rest1 m hm hb8 hbl (by omega) (R := R) (by rw [hR, hjoin]) fun x h1 h2 h3 h4 => hIH x h1 h2 (by omega) h4
      have hb8' : decide ((bs1.length : Int) < 8) = false := decide_eq_false (by omega)
      subst hbs1 hrest1
      exact At.run rfl [(6002, hBg 0 4 6002 (.v vn) (.v vo) t.pl t.path false bs rest 8)] ⟨kB, trivial⟩ [.n, .n] (tm2 := tmM l (rest.drop (takeN 8 bs rest)) (m : Int)) (rows2 := rwB 6002 (bs ++ rest.take (takeN 8 bs rest)).length (bs ++ rest.take (takeN 8 bs rest)) vn vo t.pl t.path b) (ob := [[decide ((m : Int) < 0) = false], qL (hBg 0 4 6002 (.v vn) (.v vo) t.pl t.path false bs rest 8), [decide (((bs ++ rest.take (takeN 8 bs rest)).length : Int) < 8) = false]].flatten) (td := rp Try.f46 7) (by kernel_rfl) (all_flat ⟨⟨hm0, trivial⟩, all_qL _, ⟨hb8', trivial⟩, trivial⟩) rfl rfl (by intro h; cases h) h7
set_option maxRecDepth 100000 in
theorem seg2S (c : YCtx b l KB J Jx) (hbx : BxT W0 b p2 p3 D0 KB) {W : World} {t : TS} {vn vo : Value} {D : List Nat} {B : Blk} (hI : Inv W0 b p2 p3 D0 KB J W t vn vo D [B.1]) (bs : List UInt8) (rest : List UInt8) (hr0 : rest ≠ []) (hst : bs = [] ∨ ∃ m, mostM t.pl = some m ∧ cutT m bs = .more) (hlen : bs.length + rest.length ≤ 100000000000) {R : Option (TS × List UInt8)} (hR : R = runM t (bs ++ rest))
    (hIH : ∀ x : HX, x.bs = [] → Inv W0 b p2 p3 D0 KB J x.W x.t x.vn x.vo x.D [x.B.1] → x.rest.length < bs.length + rest.length → R = runM x.t x.rest → hxAt b p1 p2 p3 l (EndX Try.prog Try.f46 (TxQ W0 b D0 KB J Jx R)) x) :
    At Try.prog W ⟨wlOf (envK b p1 p2 p3 B) (rwB 4 bs.length bs vn vo t.pl t.path b), envK b p1 p2 p3 B, []⟩ Try.f46.ntmps [] (rp Try.f46 2) (EndX Try.prog Try.f46 (TxQ W0 b D0 KB J Jx R)) (tmH l rest) (rwB 4 bs.length bs vn vo t.pl t.path b) := by
  obtain ⟨hvn, hvo⟩ := trv_cells hI.hv
  have hp17 : t.pl ≤ 17 := hI.hg.pl
  have hwl : ∀ x ∈ wlOf (envK b p1 p2 p3 B) (rwB 4 bs.length bs vn vo t.pl t.path b), x ∈ b :: [B.1] := fun x hx => hx
  refine At.opX (α := World) 1 15 [] trivial (fun x => x) (fun _ => ⟨wlOf (envK b p1 p2 p3 B) (rwB 4 bs.length bs vn vo t.pl t.path b), envK b p1 p2 p3 B, []⟩) (fun _ => [(0, .v (yv l)), (2, ptrTo 2), (3, ptrTo 3), (5, .v (stv rest)), (15, .int .i64 (mostI t.pl))]) (fun _ => tmM l rest (mostI t.pl)) (fun _ => (rwB 4 bs.length bs vn vo t.pl t.path b)) (fun _ => (rwB 4 bs.length bs vn vo t.pl t.path b)) (fun x => Inv W0 b p2 p3 D0 KB J x t vn vo D [B.1]) rfl (tm1 := [(0, .v (yv l)), (2, ptrTo 2), (3, ptrTo 3), (5, .v (stv rest)), (14, .v (mfv b))]) (rows1 := (rwB 4 bs.length bs vn vo t.pl t.path b)) (o1 := []) (o2 := fun _ => []) (by kernel_rfl) trivial rfl ?_ (fun x _ => by kernel_rfl) (fun x _ => trivial) (fun x => rfl) (fun x hx => ?_)
  · intro a w ρ K QQ hden hk
    have e0 : ρ 0 = ⟨b, 0, 0⟩ := hden.e0 0 (.inl (by decide))
    have e2 : ρ 2 = ⟨p2, 0, 0⟩ := hden.e0 2 (.inl (by decide))
    have e3 : ρ 3 = ⟨p3, 0, 0⟩ := hden.e0 3 (.inl (by decide))
    have r0 := (hden.rw 0 _ rfl).1
    have hI2 := hI.still c hden.fr hwl
    refine xCallF_ok (fi := #[.pointer (some ⟨b, 1, none⟩)]) (ca := #[]) (vs := []) (d := 15) (f := 33) (by kernel_rfl) hden ent33 ?_
    rw [show #[Value.pointer (some ⟨b, 1, none⟩)] ++ (List.map (TV.val ρ) []).toArray ++ #[] = #[(TV.s (.lf (.ptr 0 1 0 0 0))).val ρ] by rw [show (TV.s (.lf (.ptr 0 1 0 0 0))).val ρ = .pointer (some ⟨b, 1, none⟩) from ptT_val e0]; rfl]
    refine (most_any t.pl hp17 ((slB 4 bs.length).val ρ) vn vo (by rfl) hvn hvo t.path false ρ w (rdP_mv r0 rfl rfl rfl rfl)).mono ?_
    rintro e w' ⟨rfl, hbe⟩
    have hfr : Fr w [] w' := Fr.of_below hbe _
    refine ⟨.int .i64 (mostI t.pl), rfl, hk w' (.int .i64 (mostI t.pl)) w' (envK b p1 p2 p3 B) (hI2.still c hfr (fun x hx => by cases hx)) ?_⟩
    have hpok : ∀ p ∈ (rwB 4 bs.length bs vn vo t.pl t.path b), pok p.2.ps ∧ RowAt ρ p.1 p.2 w := fun p hp => by
      simp only [List.mem_cons, List.not_mem_nil, or_false] at hp
      rcases hp with rfl | rfl | rfl | rfl
      · exact ⟨(hden.rw 0 _ rfl).2.1, (hden.rw 0 _ rfl).1⟩
      · exact ⟨(hden.rw 2 _ rfl).2.1, (hden.rw 2 _ rfl).1⟩
      · exact ⟨(hden.rw 3 _ rfl).2.1, (hden.rw 3 _ rfl).1⟩
      · exact ⟨(hden.rw 4 _ rfl).2.1, (hden.rw 4 _ rfl).1⟩
    have heq : ∀ r, r < 1000 → ρ r = envK b p1 p2 p3 B r := fun r hr => hden.e0 r (.inl hr)
    refine den_again (d := 15) hden (by decide) (fun p hp => ?_) rfl (fun p hp => ⟨?_, (hpok p hp).1⟩) (fun p hp q hq hpq hw => ?_) rfl rfl
    · simp only [List.mem_cons, List.not_mem_nil, or_false] at hp
      rcases hp with rfl | rfl | rfl | rfl | rfl
      · exact .inr ⟨(show (0 : Nat) ≠ 15 by decide), rfl, fun r hr => by cases hr⟩
      · exact .inr ⟨(show (2 : Nat) ≠ 15 by decide), rfl, fun r hr => by obtain rfl := List.mem_singleton.1 hr; exact e2.symm⟩
      · exact .inr ⟨(show (3 : Nat) ≠ 15 by decide), rfl, fun r hr => by obtain rfl := List.mem_singleton.1 hr; exact e3.symm⟩
      · exact .inr ⟨(show (5 : Nat) ≠ 15 by decide), rfl, fun r hr => by cases hr⟩
      · exact .inl ⟨rfl, rfl, rfl⟩
    · have h1 := rowAt_fr (hpok p hp).2 hfr (by simp)
      have hp1 : p.1 < 1000 ∧ ∀ q ∈ pids p.2.ps, q < 1000 := by
        simp only [List.mem_cons, List.not_mem_nil, or_false] at hp
        rcases hp with rfl | rfl | rfl | rfl
        · exact ⟨(show (0 : Nat) < 1000 by decide), fun q hq => by obtain rfl := List.mem_singleton.1 hq; decide⟩
        · exact ⟨(show (2 : Nat) < 1000 by decide), fun q hq => by cases hq⟩
        · exact ⟨(show (3 : Nat) < 1000 by decide), fun q hq => by obtain rfl := List.mem_singleton.1 hq; decide⟩
        · exact ⟨(show (4 : Nat) < 1000 by decide), fun q hq => by cases hq⟩
      unfold RowAt at h1 ⊢
      rw [← heq p.1 hp1.1, lst_congr (σ := ρ) (fun q hq => (heq q (hp1.2 q hq)).symm)]
      exact h1
    · rw [← heq p.1 (by simp only [List.mem_cons, List.not_mem_nil, or_false] at hp; rcases hp with rfl | rfl | rfl | rfl <;> simp only [bx2, bx3] <;> decide), ← heq q.1 (by simp only [List.mem_cons, List.not_mem_nil, or_false] at hq; rcases hq with rfl | rfl | rfl | rfl <;> simp only [bx2, bx3] <;> decide)]
      refine hden.ds p.1 q.1 p.2 q.2 ?_ ?_ hpq hw
      · simp only [List.mem_cons, List.not_mem_nil, or_false] at hp; rcases hp with rfl | rfl | rfl | rfl <;> rfl
      · simp only [List.mem_cons, List.not_mem_nil, or_false] at hq; rcases hq with rfl | rfl | rfl | rfl <;> rfl
  · exact seg3S c hbx hx bs rest hr0 hst hlen hR hIH
set_option maxRecDepth 100000 in
theorem seg3N (c : YCtx b l KB J Jx) (hbx : BxT W0 b p2 p3 D0 KB) {W : World} {t : TS} {vn vo : Value} {D : List Nat} {B : Blk} (hI : Inv W0 b p2 p3 D0 KB J W t vn vo D []) (rest : List UInt8) (hr0 : rest ≠ []) (hlen : rest.length ≤ 100000000000) {R : Option (TS × List UInt8)} (hR : R = runM t (rest))
    (hIH : ∀ x : HX, x.bs = [] → Inv W0 b p2 p3 D0 KB J x.W x.t x.vn x.vo x.D [x.B.1] → x.rest.length < rest.length → R = runM x.t x.rest → hxAt b p1 p2 p3 l (EndX Try.prog Try.f46 (TxQ W0 b D0 KB J Jx R)) x) :
    At Try.prog W ⟨wlOf (envK b p1 p2 p3 B) (rw0 vn vo t.pl t.path b), envK b p1 p2 p3 B, []⟩ Try.f46.ntmps [] (rp Try.f46 2).tail (EndX Try.prog Try.f46 (TxQ W0 b D0 KB J Jx R)) (tmM l rest (mostI t.pl)) (rw0 vn vo t.pl t.path b) := by
  obtain ⟨hvn, hvo⟩ := trv_cells hI.hv
  have hwl : ∀ x ∈ wlOf (envK b p1 p2 p3 B) (rw0 vn vo t.pl t.path b), x ∈ b :: [] := fun x hx => hx
  have hla : (rest).length = rest.length := rfl
  have hne : rest ≠ [] := hr0
  cases hm : mostM t.pl with
  | none =>
    have hRn : R = none := by rw [hR]; exact runM_none hne hm
    have hmi : mostI t.pl = -1 := by unfold mostI; rw [hm]
    subst hRn
    exact At.run rfl [] trivial [.y] (tm2 := tmM l rest (mostI t.pl)) (rows2 := (rw0 vn vo t.pl t.path b)) (ob := [decide (mostI t.pl < 0) = true]) (td := rp Try.f46 4) (by kernel_rfl) ⟨decide_eq_true (by omega), trivial⟩ rfl rfl (by intro h; cases h) (seg_no4n c hI hwl rest (mostI t.pl))
  | some m =>
    have hmi : mostI t.pl = (m : Int) := by unfold mostI; rw [hm]
    rw [hmi]
    have kB : HintOk Try.prog 6002 (hBg0 0 6002 (.v vn) (.v vo) t.pl t.path false rest 8) := hBg0_ok hvn hvo ⟨(fun h => by cases h), (fun h => by cases h)⟩ (by decide) (by omega) (List.length_pos_iff.2 hr0) (by decide) (by decide)
    have hm0 : decide ((m : Int) < 0) = false := decide_eq_false (by omega)
    by_cases h8 : rest.length < 8
    · have hRs : R = some (t, rest) := by rw [hR]; exact runM_more hm (cut_short (by rw [hla]; exact h8))
      subst hRs
      have e2 : (rest.take (takeN 8 [] rest)) = rest := by rw [List.take_of_length_le (by unfold takeN; simp; omega)]
      refine At.finD rfl [(6002, hBg0 0 6002 (.v vn) (.v vo) t.pl t.path false rest 8)] ⟨kB, trivial⟩ [.n, .y] (rows2 := [(0, rdP (slB 6002 (rest.take (takeN 8 [] rest)).length) (.v vn) (.v vo) t.pl t.path false), (6002, byR (rest.take (takeN 8 [] rest)))]) (x := .tup []) (ob := [[decide ((m : Int) < 0) = false], qL (hBg0 0 6002 (.v vn) (.v vo) t.pl t.path false rest 8), [decide (((rest.take (takeN 8 [] rest)).length : Int) < 8) = true]].flatten) (by kernel_rfl) (all_flat ⟨⟨hm0, trivial⟩, all_qL _, ⟨decide_eq_true (by rw [e2, hla]; omega), trivial⟩, trivial⟩) fun ρ' w' hf he _ hq hd => ?_
      rw [e2] at hq hd
      have g0 := hq _ (List.mem_cons_self ..)
      have g1 := hq _ (List.mem_cons_of_mem _ (List.mem_singleton.2 rfl))
      have gd := hd _ (List.mem_cons_self ..) _ (List.mem_cons_of_mem _ (List.mem_singleton.2 rfl)) (show (0 : Nat) ≠ 6002 by decide) rfl
      exact fin_go c hI hwl hf (he 0 (by decide)) g0.1 g1.1 (g1.2.2 rfl) gd _
    · obtain ⟨bs1, hbs1⟩ : ∃ bs1, bs1 = (rest.take (takeN 8 [] rest)) := ⟨_, rfl⟩
      obtain ⟨rest1, hrest1⟩ : ∃ rest1, rest1 = (rest.drop (takeN 8 [] rest)) := ⟨_, rfl⟩
      have hjoin : bs1 ++ rest1 = rest := by rw [hbs1, hrest1]; rw [List.take_append_drop]
      have hjl : bs1.length + rest1.length = rest.length := by rw [← List.length_append, hjoin, hla]
      have hb8 : 8 ≤ bs1.length := by
        rw [hbs1]
        rw [List.length_take]; unfold takeN; simp; omega
      have hbl : bs1.length ≤ 8 + padN (gN bs1 8) := by
        have : bs1.length = 8 := by rw [hbs1, List.length_take]; unfold takeN; simp; omega
        omega
      have h7 := seg7 c hbx hI hwl (B0 := B) bs1 rest1 m hm hb8 hbl (by omega) (R := R) (by rw [hR, hjoin]) fun x h1 h2 h3 h4 => hIH x h1 h2 (by omega) h4
      have hb8' : decide ((bs1.length : Int) < 8) = false := decide_eq_false (by omega)
      subst hbs1 hrest1
      exact At.run rfl [(6002, hBg0 0 6002 (.v vn) (.v vo) t.pl t.path false rest 8)] ⟨kB, trivial⟩ [.n, .n] (tm2 := tmM l (rest.drop (takeN 8 [] rest)) (m : Int)) (rows2 := rwB 6002 (rest.take (takeN 8 [] rest)).length (rest.take (takeN 8 [] rest)) vn vo t.pl t.path b) (ob := [[decide ((m : Int) < 0) = false], qL (hBg0 0 6002 (.v vn) (.v vo) t.pl t.path false rest 8), [decide (((rest.take (takeN 8 [] rest)).length : Int) < 8) = false]].flatten) (td := rp Try.f46 7) (by kernel_rfl) (all_flat ⟨⟨hm0, trivial⟩, all_qL _, ⟨hb8', trivial⟩, trivial⟩) rfl rfl (by intro h; cases h) h7
set_option maxRecDepth 100000 in
theorem seg2N (c : YCtx b l KB J Jx) (hbx : BxT W0 b p2 p3 D0 KB) {W : World} {t : TS} {vn vo : Value} {D : List Nat} {B : Blk} (hI : Inv W0 b p2 p3 D0 KB J W t vn vo D []) (rest : List UInt8) (hr0 : rest ≠ []) (hlen : rest.length ≤ 100000000000) {R : Option (TS × List UInt8)} (hR : R = runM t (rest))
    (hIH : ∀ x : HX, x.bs = [] → Inv W0 b p2 p3 D0 KB J x.W x.t x.vn x.vo x.D [x.B.1] → x.rest.length < rest.length → R = runM x.t x.rest → hxAt b p1 p2 p3 l (EndX Try.prog Try.f46 (TxQ W0 b D0 KB J Jx R)) x) :
    At Try.prog W ⟨wlOf (envK b p1 p2 p3 B) (rw0 vn vo t.pl t.path b), envK b p1 p2 p3 B, []⟩ Try.f46.ntmps [] (rp Try.f46 2) (EndX Try.prog Try.f46 (TxQ W0 b D0 KB J Jx R)) (tmH l rest) (rw0 vn vo t.pl t.path b) := by
  obtain ⟨hvn, hvo⟩ := trv_cells hI.hv
  have hp17 : t.pl ≤ 17 := hI.hg.pl
  have hwl : ∀ x ∈ wlOf (envK b p1 p2 p3 B) (rw0 vn vo t.pl t.path b), x ∈ b :: [] := fun x hx => hx
  refine At.opX (α := World) 1 15 [] trivial (fun x => x) (fun _ => ⟨wlOf (envK b p1 p2 p3 B) (rw0 vn vo t.pl t.path b), envK b p1 p2 p3 B, []⟩) (fun _ => [(0, .v (yv l)), (2, ptrTo 2), (3, ptrTo 3), (5, .v (stv rest)), (15, .int .i64 (mostI t.pl))]) (fun _ => tmM l rest (mostI t.pl)) (fun _ => (rw0 vn vo t.pl t.path b)) (fun _ => (rw0 vn vo t.pl t.path b)) (fun x => Inv W0 b p2 p3 D0 KB J x t vn vo D []) rfl (tm1 := [(0, .v (yv l)), (2, ptrTo 2), (3, ptrTo 3), (5, .v (stv rest)), (14, .v (mfv b))]) (rows1 := (rw0 vn vo t.pl t.path b)) (o1 := []) (o2 := fun _ => []) (by kernel_rfl) trivial rfl ?_ (fun x _ => by kernel_rfl) (fun x _ => trivial) (fun x => rfl) (fun x hx => ?_)
  · intro a w ρ K QQ hden hk
    have e0 : ρ 0 = ⟨b, 0, 0⟩ := hden.e0 0 (.inl (by decide))
    have e2 : ρ 2 = ⟨p2, 0, 0⟩ := hden.e0 2 (.inl (by decide))
    have e3 : ρ 3 = ⟨p3, 0, 0⟩ := hden.e0 3 (.inl (by decide))
    have r0 := (hden.rw 0 _ rfl).1
    have hI2 := hI.still c hden.fr hwl
    refine xCallF_ok (fi := #[.pointer (some ⟨b, 1, none⟩)]) (ca := #[]) (vs := []) (d := 15) (f := 33) (by kernel_rfl) hden ent33 ?_
    rw [show #[Value.pointer (some ⟨b, 1, none⟩)] ++ (List.map (TV.val ρ) []).toArray ++ #[] = #[(TV.s (.lf (.ptr 0 1 0 0 0))).val ρ] by rw [show (TV.s (.lf (.ptr 0 1 0 0 0))).val ρ = .pointer (some ⟨b, 1, none⟩) from ptT_val e0]; rfl]
    refine (most_any t.pl hp17 (.slice none 0 0) vn vo (by rfl) hvn hvo t.path false ρ w (rdP_mv r0 rfl rfl rfl rfl)).mono ?_
    rintro e w' ⟨rfl, hbe⟩
    have hfr : Fr w [] w' := Fr.of_below hbe _
    refine ⟨.int .i64 (mostI t.pl), rfl, hk w' (.int .i64 (mostI t.pl)) w' (envK b p1 p2 p3 B) (hI2.still c hfr (fun x hx => by cases hx)) ?_⟩
    have hpok : ∀ p ∈ (rw0 vn vo t.pl t.path b), pok p.2.ps ∧ RowAt ρ p.1 p.2 w := fun p hp => by
      simp only [List.mem_cons, List.not_mem_nil, or_false] at hp
      rcases hp with rfl | rfl | rfl
      · exact ⟨(hden.rw 0 _ rfl).2.1, (hden.rw 0 _ rfl).1⟩
      · exact ⟨(hden.rw 2 _ rfl).2.1, (hden.rw 2 _ rfl).1⟩
      · exact ⟨(hden.rw 3 _ rfl).2.1, (hden.rw 3 _ rfl).1⟩

    have heq : ∀ r, r < 1000 → ρ r = envK b p1 p2 p3 B r := fun r hr => hden.e0 r (.inl hr)
    refine den_again (d := 15) hden (by decide) (fun p hp => ?_) rfl (fun p hp => ⟨?_, (hpok p hp).1⟩) (fun p hp q hq hpq hw => ?_) rfl rfl
    · simp only [List.mem_cons, List.not_mem_nil, or_false] at hp
      rcases hp with rfl | rfl | rfl | rfl | rfl
      · exact .inr ⟨(show (0 : Nat) ≠ 15 by decide), rfl, fun r hr => by cases hr⟩
      · exact .inr ⟨(show (2 : Nat) ≠ 15 by decide), rfl, fun r hr => by obtain rfl := List.mem_singleton.1 hr; exact e2.symm⟩
      · exact .inr ⟨(show (3 : Nat) ≠ 15 by decide), rfl, fun r hr => by obtain rfl := List.mem_singleton.1 hr; exact e3.symm⟩
      · exact .inr ⟨(show (5 : Nat) ≠ 15 by decide), rfl, fun r hr => by cases hr⟩
      · exact .inl ⟨rfl, rfl, rfl⟩
    · have h1 := rowAt_fr (hpok p hp).2 hfr (by simp)
      have hp1 : p.1 < 1000 ∧ ∀ q ∈ pids p.2.ps, q < 1000 := by
        simp only [List.mem_cons, List.not_mem_nil, or_false] at hp
        rcases hp with rfl | rfl | rfl
        · exact ⟨(show (0 : Nat) < 1000 by decide), fun q hq => by cases hq⟩
        · exact ⟨(show (2 : Nat) < 1000 by decide), fun q hq => by cases hq⟩
        · exact ⟨(show (3 : Nat) < 1000 by decide), fun q hq => by obtain rfl := List.mem_singleton.1 hq; decide⟩

      unfold RowAt at h1 ⊢
      rw [← heq p.1 hp1.1, lst_congr (σ := ρ) (fun q hq => (heq q (hp1.2 q hq)).symm)]
      exact h1
    · rw [← heq p.1 (by simp only [List.mem_cons, List.not_mem_nil, or_false] at hp; rcases hp with rfl | rfl | rfl <;> simp only [bx2, bx3] <;> decide), ← heq q.1 (by simp only [List.mem_cons, List.not_mem_nil, or_false] at hq; rcases hq with rfl | rfl | rfl <;> simp only [bx2, bx3] <;> decide)]
      refine hden.ds p.1 q.1 p.2 q.2 ?_ ?_ hpq hw
      · simp only [List.mem_cons, List.not_mem_nil, or_false] at hp; rcases hp with rfl | rfl | rfl <;> rfl
      · simp only [List.mem_cons, List.not_mem_nil, or_false] at hq; rcases hq with rfl | rfl | rfl <;> rfl
  · exact seg3N c hbx hx rest hr0 hlen hR hIH
end
end
end Go.Proofs.Ytglipljilcdboaa
/- Of the program: the iterator over texts, whole. Its conditions: what a tree keeps, what is begun, what a round does. -/
namespace Go.Proofs.Ytglipljilcdboaa
open Go.RowKit Go.Shelf
set_option linter.unusedVariables false
set_option linter.unusedSimpArgs false
section
open E
/-- Bytes that are begun: no text can be cut from them yet. -/
def Stuck (t : TS) (bs : List UInt8) : Prop := bs = [] ∨ ∃ m, mostM t.pl = some m ∧ cutT m bs = .more
theorem stuck_run {t : TS} {bs : List UInt8} (h : Stuck t bs) : runM t bs = some (t, bs) := by
  rcases h with rfl | ⟨m, h1, h2⟩
  · exact runM_nil t
  · exact runM_more h1 h2
section
variable {W0 : World} {b p1 p2 p3 l : Nat} {D0 KB : List Nat} {J Jx : World → Prop}
set_option maxRecDepth 100000 in
theorem texts_loop (c : YCtx b l KB J Jx) (hbx : BxT W0 b p2 p3 D0 KB) (R : Option (TS × List UInt8)) : ∀ x : HX, (Inv W0 b p2 p3 D0 KB J x.W x.t x.vn x.vo x.D [x.B.1] ∧ Stuck x.t x.bs ∧ x.bs.length + x.rest.length ≤ 100000000000 ∧ R = runM x.t (x.bs ++ x.rest)) → hxAt b p1 p2 p3 l (EndX Try.prog Try.f46 (TxQ W0 b D0 KB J Jx R)) x := by
  refine At.loopW (fun x : HX => x.W) (fun x => ⟨wlOf (envK b p1 p2 p3 x.B) (hxRows b x), envK b p1 p2 p3 x.B, []⟩) (fun x => tmH l x.rest) (fun x => hxRows b x) (fun x => Inv W0 b p2 p3 D0 KB J x.W x.t x.vn x.vo x.D [x.B.1] ∧ Stuck x.t x.bs ∧ x.bs.length + x.rest.length ≤ 100000000000 ∧ R = runM x.t (x.bs ++ x.rest)) (fun x => x.bs.length + x.rest.length) ?_
  rintro ⟨W, t, bs, rest, vn, vo, D, B⟩ ⟨hI, hst, hlen, hR⟩ ih
  simp only at hI hst hlen hR ih ⊢
  by_cases hr : rest = []
  · subst hr
    rw [List.append_nil, stuck_run hst] at hR
    subst hR
    refine At.finD rfl [] trivial [.n] (rows2 := [(0, rdP (slB 4 bs.length) (.v vn) (.v vo) t.pl t.path false), (4, byR bs)]) (x := .tup []) (ob := [(!(([] : List UInt8) == [])) = false]) (by kernel_rfl) ⟨rfl, trivial⟩ fun ρ' w' hf he _ hq hd => ?_
    have g0 := hq _ (List.mem_cons_self ..)
    have g1 := hq _ (List.mem_cons_of_mem _ (List.mem_singleton.2 rfl))
    have gd := hd _ (List.mem_cons_self ..) _ (List.mem_cons_of_mem _ (List.mem_singleton.2 rfl)) (show (0 : Nat) ≠ 4 by decide) rfl
    exact fin_go c hI (fun x hx => hx) hf (he 0 (by decide)) g0.1 g1.1 (g1.2.2 rfl) gd _
  · have h2 := seg2S (p1 := p1) (l := l) c hbx (B := B) hI bs rest hr hst hlen hR fun x h1 h2 h3 h4 => ih x ⟨h2, .inl h1, by rw [h1]; simp; omega, by rw [h1]; exact h4⟩ (by rw [h1]; simp; omega)
    exact At.run rfl [] trivial [.y] (tm2 := tmH l rest) (rows2 := rwB 4 bs.length bs vn vo t.pl t.path b) (ob := [(!(rest == [])) = true]) (td := rp Try.f46 2) (by kernel_rfl) ⟨by simpa using hr, trivial⟩ rfl rfl (by intro h; cases h) h2
set_option maxRecDepth 100000 in
theorem texts_any (c : YCtx b l KB J Jx) (t : TS) (bs s : List UInt8) (D : List Nat) (hg : Good t) (hst : Stuck t bs) (hlen : bs.length + s.length ≤ 100000000000) (hrd : RdAt W0 b t bs D0) (hJ : J W0) (hk : ∀ y ∈ b :: D0, y ∉ KB) (hbx : BxT W0 b p2 p3 D0 KB) (h1 : RowAt (fun _ => ⟨p1, 0, 0⟩) 0 ⟨[.one (.v (stv s))], false, none⟩ W0) (hp : p1 ∉ b :: D0) :
    Calls Try.prog 46 #[yv l, .pointer (some ⟨p1, 0, none⟩), .pointer (some ⟨p2, 0, none⟩), .pointer (some ⟨p3, 0, none⟩)] W0 (TxQ W0 b D0 KB J Jx (runM t (bs ++ s))) := by
  obtain ⟨vb, E0, D1, rfl, hby, ⟨vn, vo, hr0, hv, hn1⟩, hn⟩ := hrd
  have hI : Inv W0 b p2 p3 (E0 ++ D1) KB J W0 t vn vo D1 E0 := ⟨hv, hn, hJ, Fr.refl _ _, fun y hy => .inl hy, hk, hby.lt, hr0.1, hg⟩
  obtain ⟨hvn, hvo⟩ := trv_cells hv
  have hpb : b ≠ p1 := fun e => hp (by rw [e]; simp)
  have x2 : b ≠ p2 := fun e => hbx.n2 (by rw [e]; simp)
  have x3 : b ≠ p3 := fun e => hbx.n3 (by rw [e]; simp)
  rcases hby with ⟨rfl, rfl, rfl⟩ | ⟨B, rfl, hb4, rfl⟩
  · have hargs : #[yv l, .pointer (some ⟨p1, 0, none⟩), .pointer (some ⟨p2, 0, none⟩), .pointer (some ⟨p3, 0, none⟩)] = (List.map (TV.val (envK b p1 p2 p3 ⟨b, 0, 0⟩)) [.v (yv l), ptrTo 1, ptrTo 2, ptrTo 3]).toArray := rfl
    refine At.calls (args := [.v (yv l), ptrTo 1, ptrTo 2, ptrTo 3]) (rows := [(0, rdP (.v (.slice none 0 0)) (.v vn) (.v vo) t.pl t.path false), (1, ⟨[.one (.v (stv s))], false, none⟩), bx2 b, bx3]) (gl := []) (wr := wlOf (envK b p1 p2 p3 ⟨b, 0, 0⟩) (rw0 vn vo t.pl t.path b)) (ρ := envK b p1 p2 p3 ⟨b, 0, 0⟩) Try.func46 rfl rfl (init_rw ⟨rfl, trivial, trivial, trivial, trivial⟩ rfl rfl rfl (fun p hp => ?_) (fun p hp hw => ?_) (fun p hp q hq hpq hw => ?_)) hargs ?_
    · simp only [List.mem_cons, List.not_mem_nil, or_false] at hp
      rcases hp with rfl | rfl | rfl | rfl
      · exact ⟨rdP_mv hr0 rfl rfl rfl rfl, rdP_ok _ _ _ rfl hvn hvo⟩
      · exact ⟨h1, fun p hp => by obtain rfl := List.mem_singleton.1 hp; rfl⟩
      · exact ⟨hbx.r2, fun p hp => by obtain rfl := List.mem_singleton.1 hp; rfl⟩
      · exact ⟨hbx.r3, fun p hp => by obtain rfl := List.mem_singleton.1 hp; trivial⟩
    · simp only [List.mem_cons, List.not_mem_nil, or_false] at hp
      rcases hp with rfl | rfl | rfl | rfl
      · exact List.mem_singleton.2 rfl
      all_goals cases hw
    · simp only [List.mem_cons, List.not_mem_nil, or_false] at hp hq
      rcases hp with rfl | rfl | rfl | rfl
      · rcases hq with rfl | rfl | rfl | rfl
        · exact absurd rfl hpq
        · exact hpb
        · exact x2
        · exact x3
      all_goals cases hw
    by_cases hr : s = []
    · rw [show runM t ([] ++ s) = some (t, []) by rw [hr]; exact runM_nil t]
      refine At.finR rfl [] trivial [.u, .n] (rows2 := [(0, rdP (.v (.slice none 0 0)) (.v vn) (.v vo) t.pl t.path false)]) (x := .tup []) (ob := [(!(s == [])) = false]) (by kernel_rfl) ⟨by rw [hr]; rfl, trivial⟩ fun ρ' w' hf he _ hq => ?_
      have g0 := hq _ (List.mem_singleton.2 rfl)
      exact (hI.still c hf (fun x hx => hx)).fin c (.inl ⟨rfl, rfl, rfl⟩) (rdP_mv g0.1 (he 0 (by decide)).symm rfl rfl rfl) _
    · refine At.run rfl [] trivial [.u, .y] (tm2 := tmH l s) (rows2 := rw0 vn vo t.pl t.path b) (ob := [(!(s == [])) = true]) (td := rp Try.f46 2) (by kernel_rfl) ⟨by simpa using hr, trivial⟩ rfl rfl (by intro h; cases h) ?_
      exact seg2N (p1 := p1) (l := l) c hbx (B := ⟨b, 0, 0⟩) hI s hr (by simpa using hlen) rfl fun x h1 h2 h3 h4 => texts_loop c hbx _ x ⟨h2, .inl h1, by rw [h1]; simp at hlen ⊢; omega, by rw [h1]; exact h4⟩
  · have hn' := List.nodup_cons.1 hn
    have hbB : b ≠ B.1 := fun e => hn'.1 (by rw [e]; simp)
    have hB1 : B.1 ≠ p1 := fun e => hp (by rw [← e]; simp)
    have y2 : B.1 ≠ p2 := fun e => hbx.n2 (by rw [← e]; simp)
    have y3 : B.1 ≠ p3 := fun e => hbx.n3 (by rw [← e]; simp)
    have hargs : #[yv l, .pointer (some ⟨p1, 0, none⟩), .pointer (some ⟨p2, 0, none⟩), .pointer (some ⟨p3, 0, none⟩)] = (List.map (TV.val (envK b p1 p2 p3 B)) [.v (yv l), ptrTo 1, ptrTo 2, ptrTo 3]).toArray := rfl
    refine At.calls (args := [.v (yv l), ptrTo 1, ptrTo 2, ptrTo 3]) (rows := [(0, rdP (slB 4 bs.length) (.v vn) (.v vo) t.pl t.path false), (1, ⟨[.one (.v (stv s))], false, none⟩), bx2 b, bx3, (4, byR bs)]) (gl := []) (wr := wlOf (envK b p1 p2 p3 B) (rwB 4 bs.length bs vn vo t.pl t.path b)) (ρ := envK b p1 p2 p3 B) Try.func46 rfl rfl (init_rw ⟨rfl, trivial, trivial, trivial, trivial⟩ rfl rfl rfl (fun p hp => ?_) (fun p hp hw => ?_) (fun p hp q hq hpq hw => ?_)) hargs ?_
    · simp only [List.mem_cons, List.not_mem_nil, or_false] at hp
      rcases hp with rfl | rfl | rfl | rfl | rfl
      · exact ⟨rdP_mv hr0 rfl (slB_val (show envK b p1 p2 p3 B 4 = B from rfl) (byR_z hb4)) rfl rfl, rdP_ok _ _ _ trivial hvn hvo⟩
      · exact ⟨h1, fun p hp => by obtain rfl := List.mem_singleton.1 hp; rfl⟩
      · exact ⟨hbx.r2, fun p hp => by obtain rfl := List.mem_singleton.1 hp; rfl⟩
      · exact ⟨hbx.r3, fun p hp => by obtain rfl := List.mem_singleton.1 hp; trivial⟩
      · exact ⟨byR_mv hb4 rfl, by_ok _⟩
    · simp only [List.mem_cons, List.not_mem_nil, or_false] at hp
      rcases hp with rfl | rfl | rfl | rfl | rfl
      · exact List.mem_cons_self ..
      · cases hw
      · cases hw
      · cases hw
      · exact List.mem_cons_of_mem _ (List.mem_singleton.2 rfl)
    · simp only [List.mem_cons, List.not_mem_nil, or_false] at hp hq
      rcases hp with rfl | rfl | rfl | rfl | rfl
      · rcases hq with rfl | rfl | rfl | rfl | rfl
        · exact absurd rfl hpq
        · exact hpb
        · exact x2
        · exact x3
        · exact hbB
      · cases hw
      · cases hw
      · cases hw
      · rcases hq with rfl | rfl | rfl | rfl | rfl
        · exact Ne.symm hbB
        · exact hB1
        · exact y2
        · exact y3
        · exact absurd rfl hpq
    refine At.run rfl [] trivial [] (tm2 := tmH l s) (rows2 := rwB 4 bs.length bs vn vo t.pl t.path b) (ob := []) (td := lp Try.f46 0) (by kernel_rfl) trivial rfl rfl (by intro h; cases h) ?_
    exact texts_loop c hbx _ ⟨W0, t, bs, s, vn, vo, D1, B⟩ ⟨hI, hst, hlen, rfl⟩
end
end
end Go.Proofs.Ytglipljilcdboaa
/- A region that draws its order, of which every operation but the last is pure: by values, whatever the order; a state told anew. No condition. -/
namespace Go.Proofs.Ytglipljilcdboaa.E
open Go Go.RowKit
set_option linter.unusedVariables false
set_option linter.unusedSimpArgs false

theorem countP_lt {α : Type} {p q : α → Bool} : ∀ {l : List α}, (∀ x ∈ l, q x = true → p x = true) → (∃ x ∈ l, p x = true ∧ q x = false) → l.countP q < l.countP p
  | [], _, ⟨x, hx, _⟩ => by cases hx
  | y :: l, h, ⟨x, hx, h1, h2⟩ => by
    have hl : l.countP q ≤ l.countP p := List.countP_mono_left fun z hz => h z (List.mem_cons_of_mem _ hz)
    rw [List.countP_cons, List.countP_cons]
    rcases List.mem_cons.1 hx with rfl | hx
    · rw [h1, h2]; simp; omega
    · have := countP_lt (fun z hz => h z (List.mem_cons_of_mem _ hz)) ⟨x, hx, h1, h2⟩
      have hy := h y (List.mem_cons_self ..)
      cases hq : q y with
      | true => rw [hy hq]; simp; omega
      | false => cases p y <;> simp <;> omega
/-- What is known of an activation: temporaries that stay (B), and those that are done (D: what each operation makes). -/
structure Kn (n : Nat) (df : List Deferred) (B D : List (Tmp × Value)) (L : Nat → Bool) (a : Act) : Prop where
  sz : a.tmps.size = n
  df : a.defers = df
  b : ∀ p ∈ B, a.tmps[p.1]? = some p.2
  d : ∀ i p, D[i]? = some p → L i = true → a.tmps[p.1]? = some p.2
theorem Kn.put {n : Nat} {df : List Deferred} {B D : List (Tmp × Value)} {L L' : Nat → Bool} {a : Act} (h : Kn n df B D L a) {i : Nat} {p : Tmp × Value} (hp : D[i]? = some p) (hL : ∀ j, L' j = true → L j = true ∨ j = i) (hn : (D.map (·.1)).Nodup) (hB : ∀ q ∈ B, q.1 ≠ p.1) (hs : p.1 < n) : Kn n df B D L' (a.put (some p.1) p.2) := by
  have hput : ∀ t, (a.put (some p.1) p.2).tmps[t]? = if t = p.1 then some p.2 else a.tmps[t]? := by
    intro t
    show (a.tmps.setIfInBounds p.1 p.2)[t]? = _
    rw [Array.getElem?_setIfInBounds]
    by_cases ht : t = p.1
    · subst ht; simp [h.sz, hs]
    · rw [if_neg (Ne.symm ht), if_neg ht]
  refine ⟨by rw [put_size]; exact h.sz, by rw [put_defers]; exact h.df, fun q hq => by rw [hput, if_neg (hB q hq)]; exact h.b q hq, fun j q hq hj => ?_⟩
  rw [hput]
  by_cases he : q.1 = p.1
  · have h1 : i < D.length := (List.getElem?_eq_some_iff.1 hp).1
    have h2 : j < D.length := (List.getElem?_eq_some_iff.1 hq).1
    have hpw := List.pairwise_iff_getElem.1 hn
    have e1 : (D.map (·.1))[i]'(by simpa using h1) = p.1 := by rw [List.getElem_map, (List.getElem?_eq_some_iff.1 hp).2]
    have e2 : (D.map (·.1))[j]'(by simpa using h2) = q.1 := by rw [List.getElem_map, (List.getElem?_eq_some_iff.1 hq).2]
    have : i = j := by
      rcases Nat.lt_trichotomy i j with h | h | h
      · exact absurd (e1.trans (he.symm.trans e2.symm)) (hpw i j _ _ h)
      · exact h
      · exact absurd (e2.trans (he.trans e1.symm)) (hpw j i _ _ h)
    subst this
    rw [hp] at hq
    cases hq
    rw [if_pos rfl]
  · rw [if_neg he]
    rcases hL j hj with h3 | h3
    · exact h.d j q hq h3
    · subst h3
      rw [hp] at hq
      cases hq
      exact absurd rfl he
theorem any_pure {P : Program} {r : Option Nat} {m n : Nat} {df : List Deferred} {ops : Array Oper} {B D : List (Tmp × Value)} {w : World} (hf : fwd ops = true) (hlen : D.length = ops.size) (hn : (D.map (·.1)).Nodup) (hB : ∀ q ∈ B, ∀ p ∈ D, q.1 ≠ p.1) (hs : ∀ p ∈ D, p.1 < n)
    (hg : ∀ (i : Nat) (x : Oper), ops[i]? = some x → x.guard = none ∧ (∀ c, x.op ≠ .defer c) ∧ ∀ p, D[i]? = some p → x.dst = some p.1)
    (hst : ∀ (i : Nat) (x : Oper) (p : Tmp × Value) (L : Nat → Bool) (a : Act), ops[i]? = some x → D[i]? = some p → (∀ e ∈ x.after, Region.binds .any e = true → L e.on = true) → Kn n df B D L a → (execOp a.eval x).run P w = .ok (.value p.2) w) :
    ∀ (fuel : Nat) (listed : Array Bool) (a : Act), listed.size = ops.size → (List.range ops.size).countP (fun i => !listed.getD i false) ≤ fuel → Kn n df B D (fun i => listed.getD i false) a →
      wpAnyIn (FW r) m P .any ops (fun e a w' => e = .normal ∧ w' = w ∧ Kn n df B D (fun _ => true) a) fuel listed a w := by
  have hall : ∀ (listed : Array Bool), listed.size = ops.size → Region.ready .any ops listed = [] → ∀ i, i < ops.size → listed.getD i false = true := by
    intro listed hsz h0 i
    induction i using Nat.strongRecOn with
    | ind i ih =>
      intro hi
      cases hgt : listed.getD i false with
      | true => rfl
      | false =>
        have hio : ops[i]? = some ops[i] := Array.getElem?_eq_getElem hi
        have : i ∈ Region.ready .any ops listed := by
          refine mem_ready.2 ⟨?_, ops[i], hio, fun e he hb => ?_⟩
          · rw [Array.getD_eq_getD_getElem?, Array.getElem?_eq_getElem (by omega)] at hgt ⊢
            exact hgt
          · exact ih e.on (fwd_ok hf hio e he hb) (by have := fwd_ok hf hio e he hb; omega)
        rw [h0] at this; cases this
  have hdone : ∀ (listed : Array Bool) (a : Act), listed.size = ops.size → Region.ready .any ops listed = [] → Kn n df B D (fun i => listed.getD i false) a → Kn n df B D (fun _ => true) a := by
    intro listed a hsz h0 hk
    exact ⟨hk.sz, hk.df, hk.b, fun i p hp _ => hk.d i p hp (hall listed hsz h0 i (by have := (List.getElem?_eq_some_iff.1 hp).1; omega))⟩
  have hstep : ∀ (listed : Array Bool) (a : Act) (i : Nat) (K : Act → World → Prop), listed.size = ops.size → i ∈ Region.ready .any ops listed → Kn n df B D (fun i => listed.getD i false) a → (∀ a', Kn n df B D (fun j => (listed.setIfInBounds i true).getD j false) a' → K a' w) → ∀ Q, wpOpIn (FW r) m P ops Q i K a w := by
    intro listed a i K hsz hi hk hK Q
    obtain ⟨_, x, hx, hal⟩ := mem_ready.1 hi
    have hin : i < ops.size := (Array.getElem?_eq_some_iff.1 hx).1
    obtain ⟨g1, g2, g3⟩ := hg i x hx
    obtain ⟨p, hp⟩ : ∃ p, D[i]? = some p := ⟨_, List.getElem?_eq_getElem (by omega)⟩
    have hex := hst i x p _ a hx hp (fun e he hb => hal e he hb) hk
    unfold wpOpIn
    rw [hx]
    simp only
    rw [if_pos (by simp [Region.wanted, g1])]
    refine ⟨fun _ _ => trivial, ?_⟩
    rw [Oper.semAt_eq _ _ _ g2, hex]
    show K (a.put x.dst p.2) w
    rw [g3 p hp]
    refine hK _ (hk.put hp (fun j hj => ?_) hn (fun q hq => hB q hq p (List.mem_of_getElem? hp)) (hs p (List.mem_of_getElem? hp)))
    by_cases hji : j = i
    · exact .inr hji
    · rw [getD_set_ne false (Ne.symm hji)] at hj; exact .inl hj
  intro fuel
  induction fuel with
  | zero =>
    intro listed a hsz hc hk
    have h0 : Region.ready .any ops listed = [] := by
      cases hq : Region.ready .any ops listed with
      | nil => rfl
      | cons j js =>
        have hj : j ∈ Region.ready .any ops listed := by rw [hq]; exact List.mem_cons_self ..
        obtain ⟨h0, x, hx, _⟩ := mem_ready.1 hj
        have hjn : j < ops.size := (Array.getElem?_eq_some_iff.1 hx).1
        have := List.countP_eq_zero.1 (Nat.le_zero.1 hc) j (List.mem_range.2 hjn)
        rw [false_of_true h0] at this
        exact absurd rfl this
    exact ⟨h0, rfl, rfl, hdone listed a hsz h0 hk⟩
  | succ fuel ih =>
    intro listed a hsz hc hk
    refine ⟨fun h0 => ⟨rfl, rfl, hdone listed a hsz h0 hk⟩, fun i hi => hstep listed a i _ hsz hi hk (fun a' hk' => ih _ a' (by simp [hsz]) ?_ hk') _⟩
    obtain ⟨h0, x, hx, _⟩ := mem_ready.1 hi
    have hin : i < ops.size := (Array.getElem?_eq_some_iff.1 hx).1
    have := countP_lt (l := List.range ops.size) (p := fun j => !listed.getD j false) (q := fun j => !(listed.setIfInBounds i true).getD j false) (fun j _ hj => by
      by_cases hji : j = i
      · subst hji
        rw [Array.getD_eq_getD_getElem?, Array.getElem?_setIfInBounds] at hj
        simp [hsz, hin] at hj
      · rw [getD_set_ne false (Ne.symm hji)] at hj; exact hj) ⟨i, List.mem_range.2 hin, by rw [false_of_true h0]; rfl, by
        rw [Array.getD_eq_getD_getElem?, Array.getElem?_setIfInBounds]
        simp [hsz, hin]⟩
    omega
/-- A state told anew. -/
theorem den_new {σ : Env} {n : Nat} {tm : List (Nat × TV)} {rows : List (Nat × Row)} {a : Act} {w w0 : World} {wl : List Nat} {mk K : List Nat} (hsz : a.tmps.size = n) (hdf : a.defers = mk.map markD) (hmk : MkOk w0.heap.size w mk) (hko : KeepsOthers w0 w) (hf : Fr w0 wl w)
    (ht : ∀ p ∈ tm, a.tmps[p.1]? = some (p.2.val σ) ∧ p.2.ok) (hi : idsOk tm rows [] = true) (hr : ∀ p ∈ rows, RowAt σ p.1 p.2 w ∧ pok p.2.ps) (hds : ∀ p ∈ rows, ∀ q ∈ rows, p.1 ≠ q.1 → p.2.w = true → (σ p.1).1 ≠ (σ q.1).1) (hw : ∀ p ∈ rows, p.2.w = true → w0.heap.size ≤ (σ p.1).1 ∨ (σ p.1).1 ∈ wl) (hK : K.all (hasN (rows.map (·.1))) = true) (hk5 : rows.all (fun p => Nat.ble (p.1 + 1) 500 || Nat.ble 1000 p.1) = true) :
    Den w0 ⟨wl, σ, K⟩ σ (mkSt n tm rows [] mk) a w := by
  simp only [idsOk, Bool.and_eq_true, List.all_eq_true] at hi
  have hu : ∀ r, (mkSt n tm rows [] mk).used r = hasN (rows.map (·.1)) r := fun r => by show hasN (rows.map (·.1) ++ []) r = _; rw [List.append_nil]
  refine ⟨hsz, hdf, hmk, hko, fun t x hx => ?_, fun r y hr2 => ?_, fun r q y z hr2 hq hrq hw2 => ?_, hf, fun _ _ => rfl, fun r hr2 => ?_, fun g hg hug => ?_, fun r B h => by cases h⟩
  · have hm := findT_mem (show findT tm t = some x from hx)
    obtain ⟨h1, h2⟩ := ht _ hm
    exact ⟨h1, h2, fun r hr2 => hi.1 _ hm r hr2⟩
  · have hm := findR_mem (show findR rows r = some y from hr2)
    obtain ⟨g1, g2⟩ := hr _ hm
    exact ⟨g1, g2, by rw [hu]; exact hasN_iff.2 (List.mem_map.2 ⟨_, hm, rfl⟩), fun p hp => hi.2 _ hm p hp, fun hw2 => hw _ hm hw2⟩
  · exact hds _ (findR_mem (show findR rows r = some y from hr2)) _ (findR_mem (show findR rows q = some z from hq)) hrq hw2
  · rw [hu]; exact List.all_eq_true.1 hK r hr2
  · rw [hu] at hug
    obtain ⟨p, hp, he⟩ := List.mem_map.1 (hasN_iff.1 hug)
    have := List.all_eq_true.1 hk5 p hp
    rw [Bool.or_eq_true] at this
    rcases this with h5 | h5 <;> have := Nat.le_of_ble_eq_true h5 <;> omega
end Go.Proofs.Ytglipljilcdboaa.E
/- A call under a guard, by its contract; a run to an exit. No condition. -/
namespace Go.Proofs.Ytglipljilcdboaa.E
open Go Go.RowKit
set_option linter.unusedVariables false
set_option linter.unusedSimpArgs false
/-- Which function is called, with what, and where the answer goes. -/
def xCallG (ops : Array Oper) (m : Nat) (s : St) : Option (Tmp × FuncId × Array Value × Array Value × List TV) :=
  match ops[m]? with
  | some o => match guardOk (fun _ => none) 0 s ops o, o.dst, o.op with
    | some ([], true), some d, .call c => match c.callee with
      | .value y => match evalO s y, evalL s c.args.toList with
        | some (.s (.lf (.v (.func (.func f) fi ca)))), some vs => some (d, f, fi, ca, vs)
        | _, _ => none
      | _ => none
    | _, _, _ => none
  | none => none
theorem xCallG_ok {P : Program} {ops : Array Oper} {m : Nat} {s : St} {d : Tmp} {f : FuncId} {fi ca : Array Value} {vs : List TV} {w0 : World} {wr : Bs} {ρ : Env} {a : Act} {w : World} {Q : Exit → Act → World → Prop} {K : Act → World → Prop} {r : Option Nat} {n : Nat} (h : xCallG ops m s = some (d, f, fi, ca, vs)) (hd : Den w0 wr ρ s a w) (he : Enters P f)
    (hc : Calls P f (fi ++ (vs.map (TV.val ρ)).toArray ++ ca) w fun e w' => ∃ v, e = .returned v ∧ K (a.put (some d) v) w') : wpOpIn (FW r) n P ops Q m K a w := by
  unfold xCallG at h
  split at h
  · rename_i o ho
    split at h
    · rename_i d2 c hg hdst hop
      split at h
      · rename_i y hcal
        split at h
        · rename_i f2 fi ca vs2 hy hvs
          cases h
          have h1 := (evalO_ok hd hy).1
          have h2 := (evalL_ok hd hvs).1
          unfold wpOpIn
          rw [ho]
          simp only
          rw [if_pos (guardOk_ok hd hg trivial)]
          refine ⟨fun _ _ => trivial, ?_⟩
          rw [Oper.semAt_eq _ _ _ (by rw [hop]; intro c hc; cases hc)]
          have h3 : c.args.map a.eval = (vs.map (TV.val ρ)).toArray := by
            apply Array.ext'
            rw [Array.toList_map, h2]
          have hrun : (execOp a.eval o).run P w = .ok (.enter f (fi ++ (vs.map (TV.val ρ)).toArray ++ ca)) w := by
            unfold execOp
            rw [hop]
            simp only [resolve, hcal, h1, TV.val, SV.val, Lf.val, h3, Deferred.ofValue, Sem.run_bind, Sem.run_pure, Result.andThen_ok, invoke, Array.append_empty, Array.empty_append]
            exact he _ w
          rw [hrun]
          refine ⟨fun h => by simp [FW, Fence.wide] at h, CallsIn.mono (callsIn_FW hc) ?_⟩
          rintro e w' ⟨v, rfl, hk⟩
          rw [hdst]
          exact hk
        · cases h
      · cases h
    · cases h
  · cases h

/-- A run to an exit. -/
theorem At.finQ {r : Option Nat} {mk : List Nat} {kn : List (Nat × Blk)} {P : Program} {w0 : World} {wr : Bs} {n : Nat} {gl : List Nat} {todo : List Item} {Q : Exit → Act → World → Prop} {tm : List (Nat × TV)} {rows rows2 : List (Nat × Row)} {ob : List Prop} {e : Exit} (hm : P.follows .mixedOrders = true) (cs : List (Nat × Hint)) (hC : allC P cs) (π : List Ch)
    (h : runE P (findC cs) π todo (mkSt n tm rows gl mk kn) [] (rows2.map (·.1)) = some (ob, e, [], rows2.map fun p => some p.2)) (ho : all ob)
    (hQ : ∀ a ρ w, KeepsOthers w0 w → Fr w0 wr.l w → (∀ r, r < 1000 → ρ r = wr.e r) → (∀ p ∈ rows2, RowAt ρ p.1 p.2 w ∧ pok p.2.ps ∧ (p.2.w = true → w0.heap.size ≤ (ρ p.1).1 ∨ (ρ p.1).1 ∈ wr.l)) → Q e a w) : At P w0 wr n gl todo Q tm rows r mk kn := by
  intro a w ρ hd
  unfold runE at h
  split at h
  · rename_i o1 e1 t hg
    simp only [Option.some.injEq, Prod.mk.injEq] at h
    obtain ⟨rfl, rfl, _, e2⟩ := h
    refine go_ok hm (findC_ok hC) 10000 π todo _ o1 (.fin e1) t hg ho (fun a w ρ hd => ?_) a w ρ hd
    refine hQ a ρ w hd.ko hd.fr (fun r hr => hd.e0 r (.inl hr)) fun p hp => ?_
    rw [List.map_map] at e2
    have := (List.map_inj_left.1 e2) p hp
    obtain ⟨k1, k2, _, _, k5⟩ := hd.rw p.1 p.2 this
    exact ⟨k1, k2, k5⟩
  · cases h
end Go.Proofs.Ytglipljilcdboaa.E
