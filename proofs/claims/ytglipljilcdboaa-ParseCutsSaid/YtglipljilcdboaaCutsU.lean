/- The statements: ParseCuts: its beginning; for any slices. Its conditions: numbers and texts as they lie in memory. -/
import Derived.Test.YtglipljilcdboaaV28
namespace Go.Proofs.Ytglipljilcdboaa
open Go.RowKit Go.Shelf
set_option linter.unusedVariables false
set_option linter.unusedSimpArgs false
section
open E
abbrev slL (r : Nat) (L : List Nd) : TV := .s (.lf (slN r L.length))
abbrev en2 (σ : Env) (B : Blk) : Env := fun k => if k = 1 then B else σ k
set_option maxRecDepth 100000 in
theorem cu_tail (σ : Env) (W0 W : World) (b1 b2 : Nat) (D1 D2 : List Nat) (L : List Nd) (done rest : List UInt8) (hfit : fitL L) (hS8 : (treeL L).length ≤ 10000000000) (hS : treeL L = done ++ rest) (hr1 : RdS W b1 (runM t0 done) D1) (hr2 : RdS W b2 (some (t0, noT)) D2) (hd : ∀ y ∈ b1 :: D1, y ≠ (σ 4002).1 ∧ y ∉ b2 :: D2) (hge : ∀ y ∈ b1 :: D1, W0.heap.size ≤ y) (h3 : RowAt σ 4002 (fzN L) W) (hf : Fr W0 [] W) :
    At Try.prog W ⟨[], σ, [4002]⟩ Try.f7.ntmps [] (rp Try.f7 16) (EndX Try.prog Try.f7 (LwQ W0)) [(7, slL 4002 L), (8, .v (stv rest)), (9, .v (ptV b1)), (10, .v (ptV b2))] [(4002, fzN L)] := by
  have hlen : (done ++ rest).length ≤ 10000000000 := by rw [← hS]; exact hS8
  rw [List.length_append] at hlen
  have hL256 := hfit.2.1
  obtain ⟨tS, hruns, h17, hnodes⟩ := may_runs hfit.1
  have hfin : finM (runM t0 (treeL L)) = (L, 0) := may_gets hfit.1
  refine At.opX (α := World × List Nat) 2 73 [] trivial (fun x => x.1) (fun x => ⟨[], σ, [4002]⟩) (fun x => [(7, slL 4002 L), (9, .v (ptV b1)), (10, .v (ptV b2)), (73, .int .i64 0)]) (fun x => [(7, slL 4002 L), (9, .v (ptV b1)), (10, .v (ptV b2)), (13, .int .i64 0)]) (fun _ => [(4002, fzN L)]) (fun _ => [(4002, fzN L)]) (fun x => RdS x.1 b1 (runM t0 (treeL L)) x.2 ∧ RdS x.1 b2 (some (t0, noT)) D2 ∧ RowAt σ 4002 (fzN L) x.1 ∧ Fr W0 [] x.1) rfl (tm1 := [(7, slL 4002 L), (9, .v (ptV b1)), (10, .v (ptV b2)), (71, .v (ptV b1)), (72, .v (stv rest))]) (rows1 := [(4002, fzN L)]) (o1 := []) (o2 := fun _ => []) (by kernel_rfl) trivial rfl ?_ (fun x _ => by kernel_rfl) (fun x _ => trivial) (fun x => rfl) (fun x hx => ?_)
  · intro a w ρ K QQ hden hk
    refine xCall_ok (d := 73) (f := 20) (vs := [.v (ptV b1), .v (stv rest)]) (by kernel_rfl) hden ent20 ((feedS w b1 (runM t0 done) D1 rest (by have := beg_len done; omega) (hr1.fr hden.fr)).mono ?_)
    rw [feed_cat, ← hS, hruns]
    rintro e w' ⟨rfl, h2, D', g3, g4⟩
    have hr2' : RdS w' b2 (some (t0, noT)) D2 := (hr2.fr hden.fr).frl h2 fun x hx hm => (hd x hm).2 hx
    have h3' : RowAt σ 4002 (fzN L) w' := rowAt_fr (rowAt_fr h3 hden.fr (by simp)) h2 fun hm => (hd _ hm).1 rfl
    refine ⟨_, rfl, hk (w', D') _ w' σ ⟨by rw [hruns]; exact g3, hr2', h3', fr_new (hf.comp hden.fr (fun x hx => by cases hx)) h2 hge⟩ (den_again (d := 73) (tm' := [(7, slL 4002 L), (9, .v (ptV b1)), (10, .v (ptV b2)), (73, .int .i64 0)]) (rows2 := [(4002, fzN L)]) (K := [4002]) hden (by decide) (fun p hp => ?_) rfl (fun p hp => ?_) (fun p hp q hq hpq hw => ?_) rfl rfl)⟩
    · simp only [List.mem_cons, List.not_mem_nil, or_false] at hp
      rcases hp with rfl | rfl | rfl | rfl
      · refine .inr ⟨(show (7 : Nat) ≠ 73 by decide), rfl, fun r hr2 => ?_⟩
        obtain rfl := List.mem_singleton.1 hr2
        exact (hden.e0 4002 (.inr (by simp))).symm
      · exact .inr ⟨(show (9 : Nat) ≠ 73 by decide), rfl, fun r hr2 => by cases hr2⟩
      · exact .inr ⟨(show (10 : Nat) ≠ 73 by decide), rfl, fun r hr2 => by cases hr2⟩
      · exact .inl ⟨rfl, rfl, rfl⟩
    · obtain rfl := List.mem_singleton.1 hp
      exact ⟨h3', fzN_ok L⟩
    · obtain rfl := List.mem_singleton.1 hp
      cases hw
  obtain ⟨W1, D1'⟩ := x
  obtain ⟨g1, g2, g3, g4⟩ := hx
  simp only at g1 g2 g3 g4 ⊢
  refine At.run rfl [] trivial [] (tm2 := [(7, slL 4002 L), (9, .v (ptV b1)), (10, .v (ptV b2)), (13, .int .i64 0)]) (rows2 := [(4002, fzN L)]) (ob := []) (td := rp Try.f7 17) (by kernel_rfl) trivial rfl rfl (by intro h; cases h) ?_
  refine At.opX (α := World × Blk) 1 76 [] trivial (fun x => x.1) (fun x => ⟨[], en2 σ x.2, [4002]⟩) (fun x => [(7, slL 4002 L), (10, .v (ptV b2)), (13, .int .i64 0), (76, .tup [.lf (slN 1 L.length), .lf (.v (.int .i64 0))])]) (fun x => [(7, slL 4002 L), (10, .v (ptV b2)), (13, .int .i64 0), (14, slL 1 L), (15, .int .i64 0)]) (fun _ => [(1, fzN L), (4002, fzN L)]) (fun _ => [(1, fzN L), (4002, fzN L)]) (fun x => RdS x.1 b2 (some (t0, noT)) D2 ∧ RowAt (en2 σ x.2) 1 (fzN L) x.1 ∧ RowAt (en2 σ x.2) 4002 (fzN L) x.1 ∧ Fr W0 [] x.1) rfl (tm1 := [(7, slL 4002 L), (10, .v (ptV b2)), (13, .int .i64 0), (75, .v (ptV b1))]) (rows1 := [(4002, fzN L)]) (o1 := []) (o2 := fun _ => []) (by kernel_rfl) trivial rfl ?_ (fun x _ => by kernel_rfl) (fun x _ => trivial) (fun x => rfl) (fun x hx => ?_)
  · intro a w ρ K QQ hden hk
    refine xCall_ok (d := 76) (f := 21) (vs := [.v (ptV b1)]) (by kernel_rfl) hden ent21 ((endS w b1 (runM t0 (treeL L)) D1' (g1.fr hden.fr)).mono ?_)
    rw [hfin]
    rintro e w' (⟨_, B, rfl, h0, h1, h2, h4⟩ | ⟨h1, _⟩)
    · have e1 : RowAt (en2 σ B) 1 (fzN L) w' := fz_row (rowAt_mv h4 rfl)
      have e2 : RowAt (en2 σ B) 4002 (fzN L) w' := rowAt_mv (rowAt_fr (rowAt_fr g3 hden.fr (by simp)) h1 (by simp)) rfl
      refine ⟨_, rfl, hk (w', B) _ w' (en2 σ B) ⟨(g2.fr hden.fr).fr h1, e1, e2, (g4.comp hden.fr (fun x hx => by cases hx)).comp h1 (fun x hx => by cases hx)⟩ (den_again (d := 76) (tm' := [(7, slL 4002 L), (10, .v (ptV b2)), (13, .int .i64 0), (76, .tup [.lf (slN 1 L.length), .lf (.v (.int .i64 0))])]) (rows2 := [(1, fzN L), (4002, fzN L)]) (K := [4002]) hden (by decide) (fun p hp => ?_) rfl (fun p hp => ?_) (fun p hp q hq hpq hw => ?_) rfl rfl)⟩
      · simp only [List.mem_cons, List.not_mem_nil, or_false] at hp
        rcases hp with rfl | rfl | rfl | rfl
        · refine .inr ⟨(show (7 : Nat) ≠ 76 by decide), rfl, fun r hr2 => ?_⟩
          obtain rfl := List.mem_singleton.1 hr2
          exact (hden.e0 4002 (.inr (by simp))).symm
        · exact .inr ⟨(show (10 : Nat) ≠ 76 by decide), rfl, fun r hr2 => by cases hr2⟩
        · exact .inr ⟨(show (13 : Nat) ≠ 76 by decide), rfl, fun r hr2 => by cases hr2⟩
        · refine .inl ⟨rfl, ?_, ?_⟩
          · show Value.tuple #[.slice (some ⟨B.1, 0, none⟩) L.length B.3, .int .i64 0] = .tuple #[.slice (some ⟨B.1, B.2 + (0 + 0 * 3), none⟩) L.length (B.3 - 0), .int .i64 0]
            rw [h0]; rfl
          · intro x hx
            simp only [List.mem_cons, List.not_mem_nil, or_false] at hx
            rcases hx with rfl | rfl <;> first | trivial | rfl
      · simp only [List.mem_cons, List.not_mem_nil, or_false] at hp
        rcases hp with rfl | rfl
        · exact ⟨e1, fzN_ok L⟩
        · exact ⟨e2, fzN_ok L⟩
      · simp only [List.mem_cons, List.not_mem_nil, or_false] at hp
        rcases hp with rfl | rfl <;> cases hw
    · exact absurd rfl h1
  obtain ⟨W2, B⟩ := x
  obtain ⟨k1, k2, k3, k4⟩ := hx
  simp only at k1 k2 k3 k4 ⊢
  refine At.run rfl [] trivial [] (tm2 := [(7, slL 4002 L), (10, .v (ptV b2)), (13, .int .i64 0), (14, slL 1 L), (15, .int .i64 0)]) (rows2 := [(1, fzN L), (4002, fzN L)]) (ob := []) (td := rp Try.f7 18) (by kernel_rfl) trivial rfl rfl (by intro h; cases h) ?_
  refine At.opX (α := World) 1 81 [] trivial (fun x => x) (fun x => ⟨[], en2 σ B, [4002]⟩) (fun x => [(7, slL 4002 L), (13, .int .i64 0), (14, slL 1 L), (15, .int .i64 0), (81, .tup [.lf (.v nilS), .lf (.v (.int .i64 5))])]) (fun x => [(7, slL 4002 L), (13, .int .i64 0), (14, slL 1 L), (15, .int .i64 0), (16, .v nilS), (17, .int .i64 5)]) (fun _ => [(1, fzN L), (4002, fzN L)]) (fun _ => [(1, fzN L), (4002, fzN L)]) (fun x => Fr W0 [] x) rfl (tm1 := [(7, slL 4002 L), (13, .int .i64 0), (14, slL 1 L), (15, .int .i64 0), (80, .v (ptV b2))]) (rows1 := [(1, fzN L), (4002, fzN L)]) (o1 := []) (o2 := fun _ => []) (by kernel_rfl) trivial rfl ?_ (fun x _ => by kernel_rfl) (fun x _ => trivial) (fun x => rfl) (fun x hx => ?_)
  · intro a w ρ K QQ hden hk
    refine xCall_ok (d := 81) (f := 21) (vs := [.v (ptV b2)]) (by kernel_rfl) hden ent21 ((endS w b2 (some (t0, noT)) D2 (k1.fr hden.fr)).mono ?_)
    have h5 : finM (some (t0, noT)) = ([], 5) := rfl
    rw [h5]
    rintro e w' (⟨h1, _⟩ | ⟨_, _, rfl, h1⟩)
    · exact absurd h1 (by decide)
    · have e1 : RowAt (en2 σ B) 1 (fzN L) w' := rowAt_fr (rowAt_fr k2 hden.fr (by simp)) h1 (by simp)
      have e2 : RowAt (en2 σ B) 4002 (fzN L) w' := rowAt_fr (rowAt_fr k3 hden.fr (by simp)) h1 (by simp)
      refine ⟨_, rfl, hk w' _ w' (en2 σ B) ((k4.comp hden.fr (fun x hx => by cases hx)).comp h1 (fun x hx => by cases hx)) (den_again (d := 81) (tm' := [(7, slL 4002 L), (13, .int .i64 0), (14, slL 1 L), (15, .int .i64 0), (81, .tup [.lf (.v nilS), .lf (.v (.int .i64 5))])]) (rows2 := [(1, fzN L), (4002, fzN L)]) (K := [4002]) hden (by decide) (fun p hp => ?_) rfl (fun p hp => ?_) (fun p hp q hq hpq hw => ?_) rfl rfl)⟩
      · simp only [List.mem_cons, List.not_mem_nil, or_false] at hp
        rcases hp with rfl | rfl | rfl | rfl | rfl
        · refine .inr ⟨(show (7 : Nat) ≠ 81 by decide), rfl, fun r hr2 => ?_⟩
          obtain rfl := List.mem_singleton.1 hr2
          exact (hden.e0 4002 (.inr (by simp))).symm
        · exact .inr ⟨(show (13 : Nat) ≠ 81 by decide), rfl, fun r hr2 => by cases hr2⟩
        · refine .inr ⟨(show (14 : Nat) ≠ 81 by decide), rfl, fun r hr2 => ?_⟩
          obtain rfl := List.mem_singleton.1 hr2
          exact (hden.e0 1 (.inl (by decide))).symm
        · exact .inr ⟨(show (15 : Nat) ≠ 81 by decide), rfl, fun r hr2 => by cases hr2⟩
        · refine .inl ⟨rfl, rfl, fun x hx => ?_⟩
          simp only [List.mem_cons, List.not_mem_nil, or_false] at hx
          rcases hx with rfl | rfl <;> rfl
      · simp only [List.mem_cons, List.not_mem_nil, or_false] at hp
        rcases hp with rfl | rfl
        · exact ⟨e1, fzN_ok L⟩
        · exact ⟨e2, fzN_ok L⟩
      · simp only [List.mem_cons, List.not_mem_nil, or_false] at hp
        rcases hp with rfl | rfl <;> cases hw
  · exact At.fin rfl [(21001, hEn0), (22001, hEr 0), (22003, hEr 0), (22009, hSmZ 1 4002 L), (22013, hEr 5), (22018, hFd0 [97]), (22019, hEr 2), (22024, hEr 2), (22028, hAw)] ⟨hEn0_ok _, hEr_ok _ _, hEr_ok _ _, hSmZ_ok _ _ _ _ (by omega), hEr_ok _ _, hFd0_ok _ _, hEr_ok _ _, hEr_ok _ _, hAw_ok _, trivial⟩ [] (x := .v (.bool true)) (ob := [qL hEn0, qL (hEr 0), qL (hEr 0), [inI ((0 : Int) + 0)], qL (hSmZ 1 4002 L), qL (hEr 5), qL (hFd0 [97]), qL (hEr 2), qL (hEr 2), qL hAw].flatten) (by kernel_rfl) (all_flat ⟨all_qL _, all_qL _, all_qL _, ⟨⟨by decide, by decide⟩, trivial⟩, all_qL _, all_qL _, all_qL _, all_qL _, all_qL _, all_qL _, trivial⟩) fun ρ' w' hf2 _ => ⟨rfl, hx.comp hf2 (fun x hx => by cases hx)⟩
structure CuX where
  W : World
  i : Nat
  rest : List UInt8
  D : List Nat
abbrev cuT (cs : List Nat) (cc b1 b2 : Nat) (L : List Nd) (x : CuX) : List (Nat × TV) := [(2, cuA cs cc), (7, slL 4002 L), (8, .v (stv x.rest)), (9, .v (ptV b1)), (10, .v (ptV b2)), (11, .int .i64 (x.i : Int))]
abbrev cuR (cs : List Nat) (L : List Nd) : List (Nat × Row) := [(2, cutRow cs), (4002, fzN L)]
def CuI (W0 : World) (σ : Env) (b1 b2 : Nat) (D2 : List Nat) (L : List Nd) (cs : List Nat) (x : CuX) : Prop := (∃ done, treeL L = done ++ x.rest ∧ RdS x.W b1 (runM t0 done) x.D) ∧ RdS x.W b2 (some (t0, noT)) D2 ∧ x.i ≤ cs.length ∧ (∀ y ∈ b1 :: x.D, y ≠ (σ 2).1 ∧ y ≠ (σ 4002).1 ∧ y ∉ b2 :: D2) ∧ (∀ y ∈ b1 :: x.D, W0.heap.size ≤ y) ∧ RowAt σ 2 (cutRow cs) x.W ∧ RowAt σ 4002 (fzN L) x.W ∧ Fr W0 [] x.W
set_option maxRecDepth 100000 in
theorem cu_loop (W0 : World) (σ : Env) (b1 b2 cc : Nat) (D2 : List Nat) (L : List Nd) (cs : List Nat) (hfit : fitL L) (hS8 : (treeL L).length ≤ 10000000000) (hn : cs.length ≤ 10) (h16 : ∀ c ∈ cs, c < 65536) : ∀ x : CuX, CuI W0 σ b1 b2 D2 L cs x → At Try.prog x.W ⟨[], σ, [4002]⟩ Try.f7.ntmps [] (lp Try.f7 0) (EndX Try.prog Try.f7 (LwQ W0)) (cuT cs cc b1 b2 L x) (cuR cs L) := by
  refine At.loopW (fun x : CuX => x.W) (fun x => ⟨[], σ, [4002]⟩) (fun x => cuT cs cc b1 b2 L x) (fun x => cuR cs L) (CuI W0 σ b1 b2 D2 L cs) (fun x => cs.length - x.i) ?_
  rintro ⟨W, i, rest, D⟩ ⟨⟨done, hS, hr1⟩, hr2, hi, hd, hge, hc2, hc3, hf⟩ ih
  simp only at hS hr1 hr2 hi hd hge hc2 hc3 hf ih ⊢
  have hlen : (done ++ rest).length ≤ 10000000000 := by rw [← hS]; exact hS8
  rw [List.length_append] at hlen
  by_cases h : i < cs.length
  · obtain ⟨cv, hcv⟩ : ∃ cv, cv = cuf cs (addN 0 (i : Int).toNat) := ⟨_, rfl⟩
    have hcv2 : cv < 65536 := by
      rw [hcv, addN_eq, Nat.zero_add, Int.toNat_natCast]
      refine h16 _ ?_
      unfold cuf
      rw [List.getD_eq_getElem?_getD, List.getElem?_eq_getElem h]; exact List.getElem_mem h
    obtain ⟨k, hk⟩ : ∃ k, k = cv % (rest.length + 1) := ⟨_, rfl⟩
    have hkl : k ≤ rest.length := by have := Nat.mod_lt cv (show 0 < rest.length + 1 by omega); omega
    have i1 : inI ((i : Int) + 1) := ⟨by omega, by omega⟩
    have i2 : inI ((rest.length : Int) + 1) := ⟨by omega, by omega⟩
    have ad : addN 0 (i : Int).toNat < cs.length := by rw [addN_eq, Nat.zero_add, Int.toNat_natCast]; exact h
    have bd : (0 : Int) ≤ (i : Int) ∧ (i : Int) < (cs.length : Int) := ⟨by omega, by omega⟩
    have dc : decide ((i : Int) < (cs.length : Int)) = true := decide_eq_true (by omega)
    have wp : IntKind.i64.wrap ((cuf cs (addN 0 (i : Int).toNat) : Nat) : Int) = ((cuf cs (addN 0 (i : Int).toNat) : Nat) : Int) := by rw [← hcv, IntKind.wrap_i64]; omega
    have hki : TV.int .i64 (((cuf cs (addN 0 (i : Int).toNat) : Nat) : Int) % ((rest.length : Int) + 1)) = TV.int .i64 (k : Int) := by
      rw [← hcv, hk, Int.natCast_emod]; rfl
    have b1' : (0 : Int) ≤ ((cuf cs (addN 0 (i : Int).toNat) : Nat) : Int) ∧ 0 < (rest.length : Int) + 1 := ⟨by omega, by omega⟩
    have b2' : (0 : Int) ≤ (k : Int) ∧ (k : Int) ≤ (rest.length : Int) := ⟨by omega, by omega⟩
    have ht : TV.v (.string ⟨(rest.take (k : Int).toNat).toArray⟩) = TV.v (stv (rest.take k)) := by rw [Int.toNat_natCast]
    have hdr : TV.v (.string ⟨(rest.drop (k : Int).toNat).toArray⟩) = TV.v (stv (rest.drop k)) := by rw [Int.toNat_natCast]
    have hS2 : treeL L = (done ++ rest.take k) ++ rest.drop k := by rw [hS, List.append_assoc, List.take_append_drop]
    obtain ⟨tf, cf, hfront⟩ := may_front hfit.1 hS2
    refine At.run rfl [(2013008, .val (.int .i64 (k : Int)))] ⟨trivial, trivial⟩ [.y] (tm2 := [(2, cuA cs cc), (7, slL 4002 L), (8, .v (stv rest)), (9, .v (ptV b1)), (10, .v (ptV b2)), (11, .int .i64 (i : Int)), (12, .int .i64 (k : Int))]) (rows2 := cuR cs L) (ob := [decide ((i : Int) < (cs.length : Int)) = true, 0 ≤ (i : Int) ∧ (i : Int) < (cs.length : Int), addN 0 (i : Int).toNat < cs.length, IntKind.i64.wrap ((cuf cs (addN 0 (i : Int).toNat) : Nat) : Int) = ((cuf cs (addN 0 (i : Int).toNat) : Nat) : Int), inI ((rest.length : Int) + 1), TV.int .i64 (((cuf cs (addN 0 (i : Int).toNat) : Nat) : Int) % ((rest.length : Int) + 1)) = TV.int .i64 (k : Int), 0 ≤ ((cuf cs (addN 0 (i : Int).toNat) : Nat) : Int) ∧ 0 < (rest.length : Int) + 1]) (td := rp Try.f7 13) (by kernel_rfl) ⟨dc, bd, ad, wp, i2, hki, b1', trivial⟩ rfl rfl (by intro h; cases h) ?_
    refine At.opX (α := World × List Nat) 4 65 [(2014003, .val (.v (stv (rest.take k)))), (14005, hEr 0)] ⟨trivial, hEr_ok _ _, trivial⟩ (fun x => x.1) (fun x => ⟨[], σ, [4002]⟩) (fun x => [(2, cuA cs cc), (7, slL 4002 L), (8, .v (stv rest)), (9, .v (ptV b1)), (10, .v (ptV b2)), (11, .int .i64 (i : Int)), (12, .int .i64 (k : Int)), (65, .int .i64 0)]) (fun x => [(2, cuA cs cc), (7, slL 4002 L), (8, .v (stv rest)), (9, .v (ptV b1)), (10, .v (ptV b2)), (11, .int .i64 (i : Int)), (12, .int .i64 (k : Int)), (67, .v (.bool false))]) (fun _ => cuR cs L) (fun _ => cuR cs L) (fun x => RdS x.1 b1 (runM t0 (done ++ rest.take k)) x.2 ∧ RdS x.1 b2 (some (t0, noT)) D2 ∧ (∀ y ∈ b1 :: x.2, y ≠ (σ 2).1 ∧ y ≠ (σ 4002).1 ∧ y ∉ b2 :: D2) ∧ (∀ y ∈ b1 :: x.2, W0.heap.size ≤ y) ∧ RowAt σ 2 (cutRow cs) x.1 ∧ RowAt σ 4002 (fzN L) x.1 ∧ Fr W0 [] x.1) rfl (tm1 := [(2, cuA cs cc), (7, slL 4002 L), (8, .v (stv rest)), (9, .v (ptV b1)), (10, .v (ptV b2)), (11, .int .i64 (i : Int)), (12, .int .i64 (k : Int)), (61, .v (ptV b1)), (64, .v (stv (rest.take k)))]) (rows1 := cuR cs L) (o1 := [TV.v (.string ⟨(rest.take (k : Int).toNat).toArray⟩) = TV.v (stv (rest.take k)), 0 ≤ (k : Int) ∧ (k : Int) ≤ (rest.length : Int)]) (o2 := fun _ => qL (hEr 0)) (by kernel_rfl) ⟨ht, b2', trivial⟩ rfl ?_ (fun x _ => by kernel_rfl) (fun x _ => all_qL _) (fun x => rfl) (fun x hx => ?_)
    · intro a w ρ K QQ hden hk
      refine xCall_ok (d := 65) (f := 20) (vs := [.v (ptV b1), .v (stv (rest.take k))]) (by kernel_rfl) hden ent20 ((feedS w b1 (runM t0 done) D (rest.take k) (by have := beg_len done; rw [List.length_take]; omega) (hr1.fr hden.fr)).mono ?_)
      rw [feed_cat, hfront]
      rintro e w' ⟨rfl, h2, D', g3, g4⟩
      have hf2 : Fr W0 [] w := hf.comp hden.fr (fun x hx => by cases hx)
      have hr2w : RdS w b2 (some (t0, noT)) D2 := hr2.fr hden.fr
      have hr2' : RdS w' b2 (some (t0, noT)) D2 := hr2w.frl h2 fun x hx hm => (hd x hm).2.2 hx
      have hc2w : RowAt σ 2 (cutRow cs) w := rowAt_fr hc2 hden.fr (by simp)
      have hc3w : RowAt σ 4002 (fzN L) w := rowAt_fr hc3 hden.fr (by simp)
      have hc2' : RowAt σ 2 (cutRow cs) w' := rowAt_fr hc2w h2 fun hm => (hd _ hm).1 rfl
      have hc3' : RowAt σ 4002 (fzN L) w' := rowAt_fr hc3w h2 fun hm => (hd _ hm).2.1 rfl
      have hd' : ∀ y ∈ b1 :: D', y ≠ (σ 2).1 ∧ y ≠ (σ 4002).1 ∧ y ∉ b2 :: D2 := by
        intro y hy
        rcases List.mem_cons.1 hy with rfl | hy
        · exact hd _ (by simp)
        · rcases g4 y hy with h5 | h5
          · exact hd y (by simp [h5])
          · refine ⟨fun e => ?_, fun e => ?_, fun hm => ?_⟩
            · have := hc2w.1; omega
            · have := hc3w.1; omega
            · rcases List.mem_cons.1 hm with e | hm
              · have := hr2w.lt; omega
              · have := hr2w.ltD y hm; omega
      have hge' : ∀ y ∈ b1 :: D', W0.heap.size ≤ y := by
        intro y hy
        rcases List.mem_cons.1 hy with rfl | hy
        · exact hge _ (by simp)
        · rcases g4 y hy with h5 | h5
          · exact hge y (by simp [h5])
          · exact Nat.le_trans hf2.size h5
      refine ⟨_, rfl, hk (w', D') _ w' σ ⟨by rw [hfront]; exact g3, hr2', hd', hge', hc2', hc3', fr_new hf2 h2 hge⟩ (den_again (d := 65) (tm' := [(2, cuA cs cc), (7, slL 4002 L), (8, .v (stv rest)), (9, .v (ptV b1)), (10, .v (ptV b2)), (11, .int .i64 (i : Int)), (12, .int .i64 (k : Int)), (65, .int .i64 0)]) (rows2 := cuR cs L) (K := [4002]) hden (by decide) (fun p hp => ?_) rfl (fun p hp => ?_) (fun p hp q hq hpq hw => ?_) rfl rfl)⟩
      · simp only [List.mem_cons, List.not_mem_nil, or_false] at hp
        rcases hp with rfl | rfl | rfl | rfl | rfl | rfl | rfl | rfl
        · refine .inr ⟨(show (2 : Nat) ≠ 65 by decide), rfl, fun r hr2 => ?_⟩
          obtain rfl := List.mem_singleton.1 hr2
          exact (hden.e0 2 (.inl (by decide))).symm
        · refine .inr ⟨(show (7 : Nat) ≠ 65 by decide), rfl, fun r hr2 => ?_⟩
          obtain rfl := List.mem_singleton.1 hr2
          exact (hden.e0 4002 (.inr (by simp))).symm
        · exact .inr ⟨(show (8 : Nat) ≠ 65 by decide), rfl, fun r hr2 => by cases hr2⟩
        · exact .inr ⟨(show (9 : Nat) ≠ 65 by decide), rfl, fun r hr2 => by cases hr2⟩
        · exact .inr ⟨(show (10 : Nat) ≠ 65 by decide), rfl, fun r hr2 => by cases hr2⟩
        · exact .inr ⟨(show (11 : Nat) ≠ 65 by decide), rfl, fun r hr2 => by cases hr2⟩
        · exact .inr ⟨(show (12 : Nat) ≠ 65 by decide), rfl, fun r hr2 => by cases hr2⟩
        · exact .inl ⟨rfl, rfl, rfl⟩
      · simp only [List.mem_cons, List.not_mem_nil, or_false] at hp
        rcases hp with rfl | rfl
        · exact ⟨hc2', cutRow_ok cs⟩
        · exact ⟨hc3', fzN_ok L⟩
      · simp only [List.mem_cons, List.not_mem_nil, or_false] at hp
        rcases hp with rfl | rfl <;> cases hw
    · obtain ⟨W1, D1⟩ := x
      obtain ⟨g1, g2, g3, g4, g5, g6, g7⟩ := hx
      have h9 := ih ⟨W1, i + 1, rest.drop k, D1⟩ ⟨⟨done ++ rest.take k, hS2, g1⟩, g2, by show i + 1 ≤ cs.length; omega, g3, g4, g5, g6, g7⟩ (by show cs.length - (i + 1) < cs.length - i; omega)
      exact At.run rfl [(2016002, .val (.v (stv (rest.drop k))))] ⟨trivial, trivial⟩ [.n] (tm2 := cuT cs cc b1 b2 L ⟨W1, i + 1, rest.drop k, D1⟩) (rows2 := cuR cs L) (ob := [false = false, TV.v (.string ⟨(rest.drop (k : Int).toNat).toArray⟩) = TV.v (stv (rest.drop k)), 0 ≤ (k : Int) ∧ (k : Int) ≤ (rest.length : Int), inI ((i : Int) + 1)]) (td := lp Try.f7 0) (by kernel_rfl) ⟨rfl, hdr, b2', i1, trivial⟩ rfl rfl (by intro h; cases h) h9
  · exact At.run rfl [] trivial [.n] (tm2 := [(7, slL 4002 L), (8, .v (stv rest)), (9, .v (ptV b1)), (10, .v (ptV b2))]) (rows2 := [(4002, fzN L)]) (ob := [decide ((i : Int) < (cs.length : Int)) = false]) (td := rp Try.f7 16) (by kernel_rfl) ⟨decide_eq_false (by omega), trivial⟩ rfl rfl (by intro h; cases h) (cu_tail σ W0 W b1 b2 D D2 L done rest hfit hS8 hS hr1 hr2 (fun y hy => (hd y hy).2) hge hc3 hf)
end
end Go.Proofs.Ytglipljilcdboaa
namespace Go.Proofs.Ytglipljilcdboaa
open Go.RowKit Go.Shelf
set_option linter.unusedVariables false
set_option linter.unusedSimpArgs false
section
open E
abbrev en4 (Bc B1 B2 B3 : Blk) : Env := fun k => if k = 2 then Bc else if k = 4002 then B3 else if k = 6000 then B1 else B2
theorem ptr_at {ρ : Env} {r : Nat} {B : Blk} (h : ρ r = B) (z : B.2 = 0) : (ptrTo r).val ρ = (TV.v (ptV B.1)).val ρ := by
  show Value.pointer (some ⟨(ρ r).1, (ρ r).2 + (0 + 0 * 0 + 0), none⟩) = .pointer (some ⟨B.1, 0, none⟩)
  rw [h, z]
set_option maxRecDepth 100000 in
theorem cuts_mid1 (ρ : Env) (w : World) (L : List Nd) (S : List UInt8) (cs : List Nat) (cc : Nat) (hcs : ∀ x ∈ cs, x < 65536) (h10 : cs.length ≤ 10) (hfit : fitL L) (hS : S = treeL L) (hS8 : S.length ≤ 10000000000) : At Try.prog w ⟨[], ρ, []⟩ Try.f7.ntmps [] (rp Try.f7 8) (EndX Try.prog Try.f7 (LwQ w)) [(2, (cuA cs cc)), (7, slL 4002 L), (8, .v (stv S)), (9, ptrTo 6000), (10, ptrTo 6001)] [(2, cutRow cs), (4002, rowN L L.length), (6000, newR), (6001, newR)] := by
  refine At.opX (α := World × Blk × Blk × Blk × Blk) 1 45 [] trivial (fun x => x.1) (fun x => ⟨[], en4 x.2.2.2.2 x.2.1 x.2.2.1 x.2.2.2.1, [4002, 6000, 6001]⟩) (fun x => [(2, (cuA cs cc)), (7, slL 4002 L), (8, .v (stv S)), (9, ptrTo 6000), (10, ptrTo 6001), (45, .int .i64 (errO (some (t0, noT))))]) (fun x => [(2, (cuA cs cc)), (7, slL 4002 L), (8, .v (stv S)), (9, ptrTo 6000), (10, ptrTo 6001)]) (fun _ => [(2, cutRow cs), (4002, fzN L), (6000, noR), (6001, noR)]) (fun _ => [(2, cutRow cs), (4002, fzN L), (6000, noR), (6001, noR)]) (fun x => x.2.1.2 = 0 ∧ x.2.2.1.2 = 0 ∧ RdS x.1 x.2.1.1 (some (t0, [])) [] ∧ (∃ D2, RdS x.1 x.2.2.1.1 (some (t0, noT)) D2 ∧ x.2.1.1 ∉ x.2.2.1.1 :: D2) ∧ x.2.1.1 ≠ x.2.2.2.1.1 ∧ x.2.1.1 ≠ x.2.2.2.2.1 ∧ w.heap.size ≤ x.2.1.1 ∧ RowAt (en4 x.2.2.2.2 x.2.1 x.2.2.1 x.2.2.2.1) 4002 (fzN L) x.1 ∧ Fr w [] x.1 ∧ RowAt (en4 x.2.2.2.2 x.2.1 x.2.2.1 x.2.2.2.1) 2 (cutRow cs) x.1) rfl (tm1 := [(2, (cuA cs cc)), (7, slL 4002 L), (8, .v (stv S)), (9, ptrTo 6000), (10, ptrTo 6001), (44, ptrTo 6001)]) (rows1 := [(2, cutRow cs), (4002, rowN L L.length), (6000, newR), (6001, newR)]) (o1 := []) (o2 := fun _ => []) (by kernel_rfl) trivial rfl ?_ (fun x _ => by kernel_rfl) (fun x _ => trivial) (fun x => rfl) (fun x hx => ?_)
  · intro a w1 ρ1 K QQ hden hk
    obtain ⟨m1, _, _, _, m5⟩ := hden.rw 4002 (rowN L L.length) rfl
    obtain ⟨n1, _, _, _, n5⟩ := hden.rw 6000 newR rfl
    obtain ⟨p1, _, _, _, p5⟩ := hden.rw 6001 newR rfl
    have d1 : (ρ1 6000).1 ≠ (ρ1 4002).1 := hden.ds 6000 4002 newR (rowN L L.length) rfl rfl (by decide) rfl
    have d2 : (ρ1 6000).1 ≠ (ρ1 6001).1 := hden.ds 6000 6001 newR newR rfl rfl (by decide) rfl
    have d4 : (ρ1 6001).1 ≠ (ρ1 4002).1 := hden.ds 6001 4002 newR (rowN L L.length) rfl rfl (by decide) rfl
    obtain ⟨q1, _, _, _, _⟩ := hden.rw 2 (cutRow cs) rfl
    have d3 : (ρ1 6000).1 ≠ (ρ1 2).1 := hden.ds 6000 2 newR (cutRow cs) rfl rfl (by decide) rfl
    have d5 : (ρ1 6001).1 ≠ (ρ1 2).1 := hden.ds 6001 2 newR (cutRow cs) rfl rfl (by decide) rfl
    obtain ⟨nz, nr⟩ := new_rd n1
    obtain ⟨pz, pr2⟩ := new_rd p1
    have hB1 : w.heap.size ≤ (ρ1 6000).1 := (n5 rfl).resolve_right (by simp)
    have hB2 : w.heap.size ≤ (ρ1 6001).1 := (p5 rfl).resolve_right (by simp)
    have hcall := feedS w1 (ρ1 6001).1 (some (t0, [])) [] noT (by decide) pr2
    have hvv : (ptrTo 6001).val ρ1 = ptV (ρ1 6001).1 := by
      show Value.pointer (some ⟨(ρ1 6001).1, (ρ1 6001).2 + (0 + 0 * 0 + 0), none⟩) = _
      rw [pz]
    rw [show Value.pointer (some ⟨(ρ1 6001).1, 0, none⟩) = (ptrTo 6001).val ρ1 from hvv.symm] at hcall
    refine xCall_ok (d := 45) (f := 20) (vs := [ptrTo 6001, .v (stv noT)]) (by kernel_rfl) hden ent20 (hcall.mono ?_)
    have hno : feedO (some (t0, [])) noT = some (t0, noT) := by show runM t0 ([] ++ noT) = _; exact no_run
    rw [hno]
    rintro e w' ⟨rfl, h2, D', g3, g4⟩
    have hD' : ∀ y ∈ D', w1.heap.size ≤ y := fun y hy => (g4 y hy).resolve_left (by simp)
    have hr1' : RdS w' (ρ1 6000).1 (some (t0, [])) [] := nr.frl h2 (fun x hx hm => by
      obtain rfl := List.mem_singleton.1 hx
      exact d2 (List.mem_singleton.1 hm))
    have hL' : RowAt (en4 (ρ1 2) (ρ1 6000) (ρ1 6001) (ρ1 4002)) 4002 (fzN L) w' := fz_row (rowAt_mv (rowAt_fr m1 h2 (fun hm => d4 (List.mem_singleton.1 hm).symm)) rfl)
    have hC' : RowAt (en4 (ρ1 2) (ρ1 6000) (ρ1 6001) (ρ1 4002)) 2 (cutRow cs) w' := rowAt_mv (rowAt_fr q1 h2 (fun hm => d5 (List.mem_singleton.1 hm).symm)) rfl
    refine ⟨_, rfl, hk (w', ρ1 6000, ρ1 6001, ρ1 4002, (ρ1 2)) _ w' (en4 (ρ1 2) (ρ1 6000) (ρ1 6001) (ρ1 4002)) ⟨nz, pz, hr1', ⟨D', g3, fun hm => ?_⟩, d1, d3, hB1, hL', fr_new hden.fr h2 (fun x hx => by obtain rfl := List.mem_singleton.1 hx; exact hB2), hC'⟩ (den_again (d := 45) (tm' := [(2, (cuA cs cc)), (7, slL 4002 L), (8, .v (stv S)), (9, ptrTo 6000), (10, ptrTo 6001), (45, .int .i64 (errO (some (t0, noT))))]) (rows2 := [(2, cutRow cs), (4002, fzN L), (6000, noR), (6001, noR)]) (K := [4002, 6000, 6001]) hden (by decide) (fun p hp => ?_) rfl (fun p hp => ?_) (fun p hp q hq hpq hw => ?_) rfl rfl)⟩
    · rcases List.mem_cons.1 hm with e | hm
      · exact d2 e
      · have h6 : w1.heap.size ≤ (ρ1 6000).1 := hD' _ hm; have h7 : (ρ1 6000).1 < w1.heap.size := n1.1; omega
    · simp only [List.mem_cons, List.not_mem_nil, or_false] at hp
      rcases hp with rfl | rfl | rfl | rfl | rfl | rfl
      · refine .inr ⟨(show (2 : Nat) ≠ 45 by decide), rfl, fun r hr2 => ?_⟩; obtain rfl := List.mem_singleton.1 hr2; rfl
      · refine .inr ⟨(show (7 : Nat) ≠ 45 by decide), rfl, fun r hr2 => ?_⟩
        obtain rfl := List.mem_singleton.1 hr2
        rfl
      · exact .inr ⟨(show (8 : Nat) ≠ 45 by decide), rfl, fun r hr2 => by cases hr2⟩
      · refine .inr ⟨(show (9 : Nat) ≠ 45 by decide), rfl, fun r hr2 => ?_⟩
        obtain rfl := List.mem_singleton.1 hr2
        rfl
      · refine .inr ⟨(show (10 : Nat) ≠ 45 by decide), rfl, fun r hr2 => ?_⟩
        obtain rfl := List.mem_singleton.1 hr2
        rfl
      · exact .inl ⟨rfl, rfl, rfl⟩
    · simp only [List.mem_cons, List.not_mem_nil, or_false] at hp
      rcases hp with rfl | rfl | rfl | rfl
      · exact ⟨hC', cutRow_ok cs⟩
      · exact ⟨hL', fzN_ok L⟩
      · exact ⟨noR_at hr1' _ _ rfl, fun p hp => by cases hp⟩
      · exact ⟨noR_at g3 _ _ rfl, fun p hp => by cases hp⟩
    · simp only [List.mem_cons, List.not_mem_nil, or_false] at hp
      rcases hp with rfl | rfl | rfl | rfl <;> cases hw
  obtain ⟨W1, B1, B2, B3, Bc⟩ := x
  obtain ⟨z1, z2, r1, ⟨D2, r2, nd⟩, e3, e4, hge, hL', hf1, hC'⟩ := hx
  simp only at z1 z2 r1 r2 nd e3 e4 hge hL' hf1 hC' ⊢
  have r1' : RdS W1 B1.1 (runM t0 []) [] := by rw [runM_nil]; exact r1
  refine At.run rfl [] trivial [] (tm2 := [(2, (cuA cs cc)), (7, slL 4002 L), (8, .v (stv S)), (9, ptrTo 6000), (10, ptrTo 6001), (11, .int .i64 ((0 : Nat) : Int))]) (rows2 := [(2, cutRow cs), (4002, fzN L), (6000, noR), (6001, noR)]) (ob := []) (td := lp Try.f7 0) (by kernel_rfl) trivial rfl rfl (by intro h; cases h) ?_
  refine At.less (k2 := [4002]) (tm' := cuT cs cc B1.1 B2.1 L ⟨W1, 0, S, []⟩) (rows' := cuR cs L) (fun p hp => ?_) (fun p hp => ?_) rfl rfl rfl (fun r hr2 => by obtain rfl := List.mem_singleton.1 hr2; simp) (cu_loop w (en4 Bc B1 B2 B3) B1.1 B2.1 cc D2 L cs hfit (by rw [← hS]; exact hS8) (by omega) hcs ⟨W1, 0, S, []⟩ ⟨⟨[], hS.symm, r1'⟩, r2, Nat.zero_le _, (fun y hy => by obtain rfl := List.mem_singleton.1 hy; exact ⟨e4, e3, nd⟩), (fun y hy => by obtain rfl := List.mem_singleton.1 hy; exact hge), hC', hL', hf1⟩)
  · simp only [List.mem_cons, List.not_mem_nil, or_false] at hp
    rcases hp with rfl | rfl | rfl | rfl | rfl | rfl
    · exact ⟨_, rfl, fun ρ hρ => rfl, trivial⟩
    · exact ⟨_, rfl, fun ρ hρ => rfl, trivial⟩
    · exact ⟨_, rfl, fun ρ hρ => rfl, rfl⟩
    · exact ⟨ptrTo 6000, rfl, fun ρ hρ => ptr_at (hρ 6000 (.inr (by simp))) z1, rfl⟩
    · exact ⟨ptrTo 6001, rfl, fun ρ hρ => ptr_at (hρ 6001 (.inr (by simp))) z2, rfl⟩
    · exact ⟨_, rfl, fun ρ hρ => rfl, rfl⟩
  · simp only [List.mem_cons, List.not_mem_nil, or_false] at hp
    rcases hp with rfl | rfl <;> rfl
set_option maxRecDepth 100000 in
theorem cuts_mid0 (ρ : Env) (w : World) (L : List Nd) (S : List UInt8) (ca : Option Addr) (cc : Nat) (hfit : fitL L) (hS : S = treeL L) (hS8 : S.length ≤ 10000000000) : At Try.prog w ⟨[], ρ, []⟩ Try.f7.ntmps [] (rp Try.f7 8) (EndX Try.prog Try.f7 (LwQ w)) [(2, (TV.v (.slice ca 0 cc))), (7, slL 4002 L), (8, .v (stv S)), (9, ptrTo 6000), (10, ptrTo 6001)] [(4002, rowN L L.length), (6000, newR), (6001, newR)] := by
  refine At.opX (α := World × Blk × Blk × Blk × Blk) 1 45 [] trivial (fun x => x.1) (fun x => ⟨[], en4 x.2.2.2.2 x.2.1 x.2.2.1 x.2.2.2.1, [4002, 6000, 6001]⟩) (fun x => [(2, (TV.v (.slice ca 0 cc))), (7, slL 4002 L), (8, .v (stv S)), (9, ptrTo 6000), (10, ptrTo 6001), (45, .int .i64 (errO (some (t0, noT))))]) (fun x => [(2, (TV.v (.slice ca 0 cc))), (7, slL 4002 L), (8, .v (stv S)), (9, ptrTo 6000), (10, ptrTo 6001)]) (fun _ => [(4002, fzN L), (6000, noR), (6001, noR)]) (fun _ => [(4002, fzN L), (6000, noR), (6001, noR)]) (fun x => x.2.1.2 = 0 ∧ x.2.2.1.2 = 0 ∧ RdS x.1 x.2.1.1 (some (t0, [])) [] ∧ (∃ D2, RdS x.1 x.2.2.1.1 (some (t0, noT)) D2 ∧ x.2.1.1 ∉ x.2.2.1.1 :: D2) ∧ x.2.1.1 ≠ x.2.2.2.1.1 ∧ x.2.1.1 ≠ x.2.2.2.2.1 ∧ w.heap.size ≤ x.2.1.1 ∧ RowAt (en4 x.2.2.2.2 x.2.1 x.2.2.1 x.2.2.2.1) 4002 (fzN L) x.1 ∧ Fr w [] x.1) rfl (tm1 := [(2, (TV.v (.slice ca 0 cc))), (7, slL 4002 L), (8, .v (stv S)), (9, ptrTo 6000), (10, ptrTo 6001), (44, ptrTo 6001)]) (rows1 := [(4002, rowN L L.length), (6000, newR), (6001, newR)]) (o1 := []) (o2 := fun _ => []) (by kernel_rfl) trivial rfl ?_ (fun x _ => by kernel_rfl) (fun x _ => trivial) (fun x => rfl) (fun x hx => ?_)
  · intro a w1 ρ1 K QQ hden hk
    obtain ⟨m1, _, _, _, m5⟩ := hden.rw 4002 (rowN L L.length) rfl
    obtain ⟨n1, _, _, _, n5⟩ := hden.rw 6000 newR rfl
    obtain ⟨p1, _, _, _, p5⟩ := hden.rw 6001 newR rfl
    have d1 : (ρ1 6000).1 ≠ (ρ1 4002).1 := hden.ds 6000 4002 newR (rowN L L.length) rfl rfl (by decide) rfl
    have d2 : (ρ1 6000).1 ≠ (ρ1 6001).1 := hden.ds 6000 6001 newR newR rfl rfl (by decide) rfl
    have d4 : (ρ1 6001).1 ≠ (ρ1 4002).1 := hden.ds 6001 4002 newR (rowN L L.length) rfl rfl (by decide) rfl
    obtain ⟨nz, nr⟩ := new_rd n1
    obtain ⟨pz, pr2⟩ := new_rd p1
    have hB1 : w.heap.size ≤ (ρ1 6000).1 := (n5 rfl).resolve_right (by simp)
    have hB2 : w.heap.size ≤ (ρ1 6001).1 := (p5 rfl).resolve_right (by simp)
    have hcall := feedS w1 (ρ1 6001).1 (some (t0, [])) [] noT (by decide) pr2
    have hvv : (ptrTo 6001).val ρ1 = ptV (ρ1 6001).1 := by
      show Value.pointer (some ⟨(ρ1 6001).1, (ρ1 6001).2 + (0 + 0 * 0 + 0), none⟩) = _
      rw [pz]
    rw [show Value.pointer (some ⟨(ρ1 6001).1, 0, none⟩) = (ptrTo 6001).val ρ1 from hvv.symm] at hcall
    refine xCall_ok (d := 45) (f := 20) (vs := [ptrTo 6001, .v (stv noT)]) (by kernel_rfl) hden ent20 (hcall.mono ?_)
    have hno : feedO (some (t0, [])) noT = some (t0, noT) := by show runM t0 ([] ++ noT) = _; exact no_run
    rw [hno]
    rintro e w' ⟨rfl, h2, D', g3, g4⟩
    have hD' : ∀ y ∈ D', w1.heap.size ≤ y := fun y hy => (g4 y hy).resolve_left (by simp)
    have hr1' : RdS w' (ρ1 6000).1 (some (t0, [])) [] := nr.frl h2 (fun x hx hm => by
      obtain rfl := List.mem_singleton.1 hx
      exact d2 (List.mem_singleton.1 hm))
    have hL' : RowAt (en4 (ρ1 4002) (ρ1 6000) (ρ1 6001) (ρ1 4002)) 4002 (fzN L) w' := fz_row (rowAt_mv (rowAt_fr m1 h2 (fun hm => d4 (List.mem_singleton.1 hm).symm)) rfl)
    refine ⟨_, rfl, hk (w', ρ1 6000, ρ1 6001, ρ1 4002, (ρ1 4002)) _ w' (en4 (ρ1 4002) (ρ1 6000) (ρ1 6001) (ρ1 4002)) ⟨nz, pz, hr1', ⟨D', g3, fun hm => ?_⟩, d1, d1, hB1, hL', fr_new hden.fr h2 (fun x hx => by obtain rfl := List.mem_singleton.1 hx; exact hB2)⟩ (den_again (d := 45) (tm' := [(2, (TV.v (.slice ca 0 cc))), (7, slL 4002 L), (8, .v (stv S)), (9, ptrTo 6000), (10, ptrTo 6001), (45, .int .i64 (errO (some (t0, noT))))]) (rows2 := [(4002, fzN L), (6000, noR), (6001, noR)]) (K := [4002, 6000, 6001]) hden (by decide) (fun p hp => ?_) rfl (fun p hp => ?_) (fun p hp q hq hpq hw => ?_) rfl rfl)⟩
    · rcases List.mem_cons.1 hm with e | hm
      · exact d2 e
      · have h6 : w1.heap.size ≤ (ρ1 6000).1 := hD' _ hm; have h7 : (ρ1 6000).1 < w1.heap.size := n1.1; omega
    · simp only [List.mem_cons, List.not_mem_nil, or_false] at hp
      rcases hp with rfl | rfl | rfl | rfl | rfl | rfl
      · exact .inr ⟨(show (2 : Nat) ≠ 45 by decide), rfl, fun r hr2 => by cases hr2⟩
      · refine .inr ⟨(show (7 : Nat) ≠ 45 by decide), rfl, fun r hr2 => ?_⟩
        obtain rfl := List.mem_singleton.1 hr2
        rfl
      · exact .inr ⟨(show (8 : Nat) ≠ 45 by decide), rfl, fun r hr2 => by cases hr2⟩
      · refine .inr ⟨(show (9 : Nat) ≠ 45 by decide), rfl, fun r hr2 => ?_⟩
        obtain rfl := List.mem_singleton.1 hr2
        rfl
      · refine .inr ⟨(show (10 : Nat) ≠ 45 by decide), rfl, fun r hr2 => ?_⟩
        obtain rfl := List.mem_singleton.1 hr2
        rfl
      · exact .inl ⟨rfl, rfl, rfl⟩
    · simp only [List.mem_cons, List.not_mem_nil, or_false] at hp
      rcases hp with rfl | rfl | rfl
      · exact ⟨hL', fzN_ok L⟩
      · exact ⟨noR_at hr1' _ _ rfl, fun p hp => by cases hp⟩
      · exact ⟨noR_at g3 _ _ rfl, fun p hp => by cases hp⟩
    · simp only [List.mem_cons, List.not_mem_nil, or_false] at hp
      rcases hp with rfl | rfl | rfl <;> cases hw
  obtain ⟨W1, B1, B2, B3, Bc⟩ := x
  obtain ⟨z1, z2, r1, ⟨D2, r2, nd⟩, e3, e4, hge, hL', hf1⟩ := hx
  simp only at z1 z2 r1 r2 nd e3 e4 hge hL' hf1 ⊢
  have r1' : RdS W1 B1.1 (runM t0 []) [] := by rw [runM_nil]; exact r1
  refine At.run rfl [] trivial [.u, .n] (tm2 := [(7, slL 4002 L), (8, .v (stv S)), (9, ptrTo 6000), (10, ptrTo 6001)]) (rows2 := [(4002, fzN L), (6000, noR), (6001, noR)]) (ob := [false = false]) (td := rp Try.f7 16) (by kernel_rfl) ⟨rfl, trivial⟩ rfl rfl (by intro h; cases h) ?_
  refine At.less (k2 := [4002]) (tm' := [(7, slL 4002 L), (8, .v (stv S)), (9, .v (ptV B1.1)), (10, .v (ptV B2.1))]) (rows' := [(4002, fzN L)]) (fun p hp => ?_) (fun p hp => ?_) rfl rfl rfl (fun r hr2 => by obtain rfl := List.mem_singleton.1 hr2; simp) (cu_tail (en4 Bc B1 B2 B3) w W1 B1.1 B2.1 [] D2 L [] S hfit (by rw [← hS]; exact hS8) hS.symm r1' r2 (fun y hy => by obtain rfl := List.mem_singleton.1 hy; exact ⟨e3, nd⟩) (fun y hy => by obtain rfl := List.mem_singleton.1 hy; exact hge) hL' hf1)
  · simp only [List.mem_cons, List.not_mem_nil, or_false] at hp
    rcases hp with rfl | rfl | rfl | rfl
    · exact ⟨_, rfl, fun ρ hρ => rfl, trivial⟩
    · exact ⟨_, rfl, fun ρ hρ => rfl, rfl⟩
    · exact ⟨ptrTo 6000, rfl, fun ρ hρ => ptr_at (hρ 6000 (.inr (by simp))) z1, rfl⟩
    · exact ⟨ptrTo 6001, rfl, fun ρ hρ => ptr_at (hρ 6001 (.inr (by simp))) z2, rfl⟩
  · obtain rfl := List.mem_singleton.1 hp
    rfl
set_option maxRecDepth 100000 in
theorem cuts_run111 (ns : List UInt8) (na : Option Addr) (c : Nat) (tx : List (List UInt8)) (ta : Option Addr) (ct : Nat) (cs : List Nat) (ca : Option Addr) (cc : Nat) (hcs : ∀ x ∈ cs, x < 65536) (hn0 : 0 < ns.length) (hc : ns.length ≤ c) (hc2 : c ≤ 140737488355328) (htl : tx.length ≤ 9223372036854775807) (ρ : Env) (w : World)
    (hr : ∀ q ∈ ([(0, numRow ns), (1, txtRow tx), (2, cutRow cs)] : List (Nat × Row)), RowAt ρ q.1 q.2 w) : Calls Try.prog 7 #[(TV.s (.lf (.sl 0 0 0 1 ns.length (some c)))).val ρ, (txA tx ct).val ρ, (cuA cs cc).val ρ] w (LwQ w) := by
  have hfw : HintOk Try.prog 2001 (hFw (txA tx ct) [(1, txtRow tx)] (fewL tx)) := hFw1_ok _ tx ct htl
  refine At.calls (args := [(TV.s (.lf (.sl 0 0 0 1 ns.length (some c)))), (txA tx ct), (cuA cs cc)]) (rows := [(0, numRow ns), (1, txtRow tx), (2, cutRow cs)]) (gl := []) (wr := []) (ρ := ρ) Try.func7 rfl rfl (init_ro1 ⟨trivial, trivial, trivial, trivial⟩ rfl rfl ⟨⟨hr (0, numRow ns) (by simp), num_ok ns⟩, ⟨hr (1, txtRow tx) (by simp), txtRow_ok tx⟩, ⟨hr (2, cutRow cs) (by simp), cutRow_ok cs⟩, trivial⟩) rfl ?_
  cases hfew : fewL tx with
  | false =>
    rw [hfew] at hfw
    exact At.fin rfl [(2001, hFw (txA tx ct) [(1, txtRow tx)] false), (2002003, .val (.v (.bool true))), (3000, hAw)] ⟨hfw, trivial, hAw_ok _, trivial⟩ [.y] (x := .v (.bool true)) (ob := [qL (hFw (txA tx ct) [(1, txtRow tx)] false), [TV.v (.bool true) = TV.v (.bool true), true = true], qL hAw].flatten) (by kernel_rfl) (all_flat ⟨all_qL _, ⟨rfl, rfl, trivial⟩, all_qL _, trivial⟩) fun ρ' w' hf _ => ⟨rfl, hf⟩
  | true =>
    rw [hfew] at hfw
    have h300 := (few_all hfew).2
    have hT : TxSrc (txA tx ct) [(1, txtRow tx)] tx := txs_row 1 ct tx htl
    by_cases h10 : 10 < cs.length
    · exact At.fin rfl [(2001, hFw (txA tx ct) [(1, txtRow tx)] true), (2002003, .val (.v (.bool false))), (3000, hAw)] ⟨hfw, trivial, hAw_ok _, trivial⟩ [.y] (x := .v (.bool true)) (ob := [qL (hFw (txA tx ct) [(1, txtRow tx)] true), [TV.v (.bool false) = TV.v (.bool false), decide ((cs.length : Int) > 10) = true], qL hAw].flatten) (by kernel_rfl) (all_flat ⟨all_qL _, ⟨rfl, decide_eq_true (by omega), trivial⟩, all_qL _, trivial⟩) fun ρ' w' hf _ => ⟨rfl, hf⟩
    obtain ⟨L, hL⟩ : ∃ L, L = madeL tx ns := ⟨_, rfl⟩
    have hfit : fitL L := by rw [hL]; exact made_fit _ h300 _
    have hTr : HintOk Try.prog 4002 (hTree 4002 (TV.s (.lf (.sl 0 0 0 1 ns.length (some c)))) (txA tx ct) [(0, numRow ns), (1, txtRow tx)] L L.length) := by
      rw [hL]
      exact hTree_of fun ρ w hr => by have := tree_run1 ns tx none ct hT h300 ns.length c rfl hn0 hc hc2 ρ w hr; first | exact this | (simpa using this)
    obtain ⟨S, hS⟩ : ∃ S, S = treeL L := ⟨_, rfl⟩
    have hS8 : S.length ≤ 10000000000 := by rw [hS]; exact tree_long hfit
    have hPk := hPkL_ok 5001 4002 hfit
    unfold hPkL at hPk
    rw [← hS] at hPk
    refine At.run rfl [(2001, hFw (txA tx ct) [(1, txtRow tx)] true), (2002003, .val (.v (.bool false))), (4002, hTree 4002 (TV.s (.lf (.sl 0 0 0 1 ns.length (some c)))) (txA tx ct) [(0, numRow ns), (1, txtRow tx)] L L.length), (5001, hPkS 4002 L S), (6000, hNw 6000), (6001, hNw 6001)] ⟨hfw, trivial, hTr, hPk, hNw_ok _, hNw_ok _, trivial⟩ [.n, .n] (tm2 := [(2, (cuA cs cc)), (7, slL 4002 L), (8, .v (stv S)), (9, ptrTo 6000), (10, ptrTo 6001)]) (rows2 := [(2, cutRow cs), (4002, rowN L L.length), (6000, newR), (6001, newR)]) (ob := [qL (hFw (txA tx ct) [(1, txtRow tx)] true), [TV.v (.bool false) = TV.v (.bool false), decide ((cs.length : Int) > 10) = false], qL (hTree 4002 (TV.s (.lf (.sl 0 0 0 1 ns.length (some c)))) (txA tx ct) [(0, numRow ns), (1, txtRow tx)] L L.length), qL (hPkS 4002 L S), qL (hNw 6000), qL (hNw 6001), [false = false]].flatten) (td := rp Try.f7 8) (by kernel_rfl) (all_flat ⟨all_qL _, ⟨rfl, decide_eq_false (by omega), trivial⟩, all_qL _, all_qL _, all_qL _, all_qL _, ⟨rfl, trivial⟩, trivial⟩) rfl rfl (by intro h; cases h) (cuts_mid1 ρ w L S cs cc hcs (by omega) hfit hS hS8)
set_option maxRecDepth 100000 in
theorem cuts_run110 (ns : List UInt8) (na : Option Addr) (c : Nat) (tx : List (List UInt8)) (ta : Option Addr) (ct : Nat) (cs : List Nat) (ca : Option Addr) (cc : Nat) (hn0 : 0 < ns.length) (hc : ns.length ≤ c) (hc2 : c ≤ 140737488355328) (htl : tx.length ≤ 9223372036854775807) (ρ : Env) (w : World)
    (hr : ∀ q ∈ ([(0, numRow ns), (1, txtRow tx)] : List (Nat × Row)), RowAt ρ q.1 q.2 w) : Calls Try.prog 7 #[(TV.s (.lf (.sl 0 0 0 1 ns.length (some c)))).val ρ, (txA tx ct).val ρ, (TV.v (.slice ca 0 cc)).val ρ] w (LwQ w) := by
  have hfw : HintOk Try.prog 2001 (hFw (txA tx ct) [(1, txtRow tx)] (fewL tx)) := hFw1_ok _ tx ct htl
  refine At.calls (args := [(TV.s (.lf (.sl 0 0 0 1 ns.length (some c)))), (txA tx ct), (TV.v (.slice ca 0 cc))]) (rows := [(0, numRow ns), (1, txtRow tx)]) (gl := []) (wr := []) (ρ := ρ) Try.func7 rfl rfl (init_ro1 ⟨trivial, trivial, rfl, trivial⟩ rfl rfl ⟨⟨hr (0, numRow ns) (by simp), num_ok ns⟩, ⟨hr (1, txtRow tx) (by simp), txtRow_ok tx⟩, trivial⟩) rfl ?_
  cases hfew : fewL tx with
  | false =>
    rw [hfew] at hfw
    exact At.fin rfl [(2001, hFw (txA tx ct) [(1, txtRow tx)] false), (2002003, .val (.v (.bool true))), (3000, hAw)] ⟨hfw, trivial, hAw_ok _, trivial⟩ [.y] (x := .v (.bool true)) (ob := [qL (hFw (txA tx ct) [(1, txtRow tx)] false), [TV.v (.bool true) = TV.v (.bool true), true = true], qL hAw].flatten) (by kernel_rfl) (all_flat ⟨all_qL _, ⟨rfl, rfl, trivial⟩, all_qL _, trivial⟩) fun ρ' w' hf _ => ⟨rfl, hf⟩
  | true =>
    rw [hfew] at hfw
    have h300 := (few_all hfew).2
    have hT : TxSrc (txA tx ct) [(1, txtRow tx)] tx := txs_row 1 ct tx htl
    obtain ⟨L, hL⟩ : ∃ L, L = madeL tx ns := ⟨_, rfl⟩
    have hfit : fitL L := by rw [hL]; exact made_fit _ h300 _
    have hTr : HintOk Try.prog 4002 (hTree 4002 (TV.s (.lf (.sl 0 0 0 1 ns.length (some c)))) (txA tx ct) [(0, numRow ns), (1, txtRow tx)] L L.length) := by
      rw [hL]
      exact hTree_of fun ρ w hr => by have := tree_run1 ns tx none ct hT h300 ns.length c rfl hn0 hc hc2 ρ w hr; first | exact this | (simpa using this)
    obtain ⟨S, hS⟩ : ∃ S, S = treeL L := ⟨_, rfl⟩
    have hS8 : S.length ≤ 10000000000 := by rw [hS]; exact tree_long hfit
    have hPk := hPkL_ok 5001 4002 hfit
    unfold hPkL at hPk
    rw [← hS] at hPk
    refine At.run rfl [(2001, hFw (txA tx ct) [(1, txtRow tx)] true), (2002003, .val (.v (.bool false))), (4002, hTree 4002 (TV.s (.lf (.sl 0 0 0 1 ns.length (some c)))) (txA tx ct) [(0, numRow ns), (1, txtRow tx)] L L.length), (5001, hPkS 4002 L S), (6000, hNw 6000), (6001, hNw 6001)] ⟨hfw, trivial, hTr, hPk, hNw_ok _, hNw_ok _, trivial⟩ [.n, .n] (tm2 := [(2, (TV.v (.slice ca 0 cc))), (7, slL 4002 L), (8, .v (stv S)), (9, ptrTo 6000), (10, ptrTo 6001)]) (rows2 := [(4002, rowN L L.length), (6000, newR), (6001, newR)]) (ob := [qL (hFw (txA tx ct) [(1, txtRow tx)] true), [TV.v (.bool false) = TV.v (.bool false), false = false], qL (hTree 4002 (TV.s (.lf (.sl 0 0 0 1 ns.length (some c)))) (txA tx ct) [(0, numRow ns), (1, txtRow tx)] L L.length), qL (hPkS 4002 L S), qL (hNw 6000), qL (hNw 6001), [false = false]].flatten) (td := rp Try.f7 8) (by kernel_rfl) (all_flat ⟨all_qL _, ⟨rfl, rfl, trivial⟩, all_qL _, all_qL _, all_qL _, all_qL _, ⟨rfl, trivial⟩, trivial⟩) rfl rfl (by intro h; cases h) (cuts_mid0 ρ w L S ca cc hfit hS hS8)
set_option maxRecDepth 100000 in
theorem cuts_run101 (ns : List UInt8) (na : Option Addr) (c : Nat) (tx : List (List UInt8)) (ta : Option Addr) (ct : Nat) (cs : List Nat) (ca : Option Addr) (cc : Nat) (hcs : ∀ x ∈ cs, x < 65536) (hn0 : 0 < ns.length) (hc : ns.length ≤ c) (hc2 : c ≤ 140737488355328) (htl : tx.length ≤ 9223372036854775807) (htx : tx = []) (ρ : Env) (w : World)
    (hr : ∀ q ∈ ([(0, numRow ns), (2, cutRow cs)] : List (Nat × Row)), RowAt ρ q.1 q.2 w) : Calls Try.prog 7 #[(TV.s (.lf (.sl 0 0 0 1 ns.length (some c)))).val ρ, (TV.v (.slice ta 0 ct)).val ρ, (cuA cs cc).val ρ] w (LwQ w) := by
  subst htx
  have hfw : HintOk Try.prog 2001 (hFw (TV.v (.slice ta 0 ct)) [] (fewL [])) := hFw0_ok _ ta ct
  refine At.calls (args := [(TV.s (.lf (.sl 0 0 0 1 ns.length (some c)))), (TV.v (.slice ta 0 ct)), (cuA cs cc)]) (rows := [(0, numRow ns), (2, cutRow cs)]) (gl := []) (wr := []) (ρ := ρ) Try.func7 rfl rfl (init_ro1 ⟨trivial, rfl, trivial, trivial⟩ rfl rfl ⟨⟨hr (0, numRow ns) (by simp), num_ok ns⟩, ⟨hr (2, cutRow cs) (by simp), cutRow_ok cs⟩, trivial⟩) rfl ?_
  cases hfew : fewL [] with
  | false =>
    rw [hfew] at hfw
    exact At.fin rfl [(2001, hFw (TV.v (.slice ta 0 ct)) [] false), (2002003, .val (.v (.bool true))), (3000, hAw)] ⟨hfw, trivial, hAw_ok _, trivial⟩ [.y] (x := .v (.bool true)) (ob := [qL (hFw (TV.v (.slice ta 0 ct)) [] false), [TV.v (.bool true) = TV.v (.bool true), true = true], qL hAw].flatten) (by kernel_rfl) (all_flat ⟨all_qL _, ⟨rfl, rfl, trivial⟩, all_qL _, trivial⟩) fun ρ' w' hf _ => ⟨rfl, hf⟩
  | true =>
    rw [hfew] at hfw
    have h300 := (few_all hfew).2
    have hT : TxSrc (TV.v (.slice ta 0 ct)) [] [] := txs_nil ta ct
    by_cases h10 : 10 < cs.length
    · exact At.fin rfl [(2001, hFw (TV.v (.slice ta 0 ct)) [] true), (2002003, .val (.v (.bool false))), (3000, hAw)] ⟨hfw, trivial, hAw_ok _, trivial⟩ [.y] (x := .v (.bool true)) (ob := [qL (hFw (TV.v (.slice ta 0 ct)) [] true), [TV.v (.bool false) = TV.v (.bool false), decide ((cs.length : Int) > 10) = true], qL hAw].flatten) (by kernel_rfl) (all_flat ⟨all_qL _, ⟨rfl, decide_eq_true (by omega), trivial⟩, all_qL _, trivial⟩) fun ρ' w' hf _ => ⟨rfl, hf⟩
    obtain ⟨L, hL⟩ : ∃ L, L = madeL [] ns := ⟨_, rfl⟩
    have hfit : fitL L := by rw [hL]; exact made_fit _ h300 _
    have hTr : HintOk Try.prog 4002 (hTree 4002 (TV.s (.lf (.sl 0 0 0 1 ns.length (some c)))) (TV.v (.slice ta 0 ct)) [(0, numRow ns)] L L.length) := by
      rw [hL]
      exact hTree_of fun ρ w hr => by have := tree_run0 ns [] ta ct hT h300 ns.length c rfl hn0 hc hc2 ρ w hr; first | exact this | (simpa using this)
    obtain ⟨S, hS⟩ : ∃ S, S = treeL L := ⟨_, rfl⟩
    have hS8 : S.length ≤ 10000000000 := by rw [hS]; exact tree_long hfit
    have hPk := hPkL_ok 5001 4002 hfit
    unfold hPkL at hPk
    rw [← hS] at hPk
    refine At.run rfl [(2001, hFw (TV.v (.slice ta 0 ct)) [] true), (2002003, .val (.v (.bool false))), (4002, hTree 4002 (TV.s (.lf (.sl 0 0 0 1 ns.length (some c)))) (TV.v (.slice ta 0 ct)) [(0, numRow ns)] L L.length), (5001, hPkS 4002 L S), (6000, hNw 6000), (6001, hNw 6001)] ⟨hfw, trivial, hTr, hPk, hNw_ok _, hNw_ok _, trivial⟩ [.n, .n] (tm2 := [(2, (cuA cs cc)), (7, slL 4002 L), (8, .v (stv S)), (9, ptrTo 6000), (10, ptrTo 6001)]) (rows2 := [(2, cutRow cs), (4002, rowN L L.length), (6000, newR), (6001, newR)]) (ob := [qL (hFw (TV.v (.slice ta 0 ct)) [] true), [TV.v (.bool false) = TV.v (.bool false), decide ((cs.length : Int) > 10) = false], qL (hTree 4002 (TV.s (.lf (.sl 0 0 0 1 ns.length (some c)))) (TV.v (.slice ta 0 ct)) [(0, numRow ns)] L L.length), qL (hPkS 4002 L S), qL (hNw 6000), qL (hNw 6001), [false = false]].flatten) (td := rp Try.f7 8) (by kernel_rfl) (all_flat ⟨all_qL _, ⟨rfl, decide_eq_false (by omega), trivial⟩, all_qL _, all_qL _, all_qL _, all_qL _, ⟨rfl, trivial⟩, trivial⟩) rfl rfl (by intro h; cases h) (cuts_mid1 ρ w L S cs cc hcs (by omega) hfit hS hS8)
set_option maxRecDepth 100000 in
theorem cuts_run100 (ns : List UInt8) (na : Option Addr) (c : Nat) (tx : List (List UInt8)) (ta : Option Addr) (ct : Nat) (cs : List Nat) (ca : Option Addr) (cc : Nat) (hn0 : 0 < ns.length) (hc : ns.length ≤ c) (hc2 : c ≤ 140737488355328) (htl : tx.length ≤ 9223372036854775807) (htx : tx = []) (ρ : Env) (w : World)
    (hr : ∀ q ∈ ([(0, numRow ns)] : List (Nat × Row)), RowAt ρ q.1 q.2 w) : Calls Try.prog 7 #[(TV.s (.lf (.sl 0 0 0 1 ns.length (some c)))).val ρ, (TV.v (.slice ta 0 ct)).val ρ, (TV.v (.slice ca 0 cc)).val ρ] w (LwQ w) := by
  subst htx
  have hfw : HintOk Try.prog 2001 (hFw (TV.v (.slice ta 0 ct)) [] (fewL [])) := hFw0_ok _ ta ct
  refine At.calls (args := [(TV.s (.lf (.sl 0 0 0 1 ns.length (some c)))), (TV.v (.slice ta 0 ct)), (TV.v (.slice ca 0 cc))]) (rows := [(0, numRow ns)]) (gl := []) (wr := []) (ρ := ρ) Try.func7 rfl rfl (init_ro1 ⟨trivial, rfl, rfl, trivial⟩ rfl rfl ⟨⟨hr (0, numRow ns) (by simp), num_ok ns⟩, trivial⟩) rfl ?_
  cases hfew : fewL [] with
  | false =>
    rw [hfew] at hfw
    exact At.fin rfl [(2001, hFw (TV.v (.slice ta 0 ct)) [] false), (2002003, .val (.v (.bool true))), (3000, hAw)] ⟨hfw, trivial, hAw_ok _, trivial⟩ [.y] (x := .v (.bool true)) (ob := [qL (hFw (TV.v (.slice ta 0 ct)) [] false), [TV.v (.bool true) = TV.v (.bool true), true = true], qL hAw].flatten) (by kernel_rfl) (all_flat ⟨all_qL _, ⟨rfl, rfl, trivial⟩, all_qL _, trivial⟩) fun ρ' w' hf _ => ⟨rfl, hf⟩
  | true =>
    rw [hfew] at hfw
    have h300 := (few_all hfew).2
    have hT : TxSrc (TV.v (.slice ta 0 ct)) [] [] := txs_nil ta ct
    obtain ⟨L, hL⟩ : ∃ L, L = madeL [] ns := ⟨_, rfl⟩
    have hfit : fitL L := by rw [hL]; exact made_fit _ h300 _
    have hTr : HintOk Try.prog 4002 (hTree 4002 (TV.s (.lf (.sl 0 0 0 1 ns.length (some c)))) (TV.v (.slice ta 0 ct)) [(0, numRow ns)] L L.length) := by
      rw [hL]
      exact hTree_of fun ρ w hr => by have := tree_run0 ns [] ta ct hT h300 ns.length c rfl hn0 hc hc2 ρ w hr; first | exact this | (simpa using this)
    obtain ⟨S, hS⟩ : ∃ S, S = treeL L := ⟨_, rfl⟩
    have hS8 : S.length ≤ 10000000000 := by rw [hS]; exact tree_long hfit
    have hPk := hPkL_ok 5001 4002 hfit
    unfold hPkL at hPk
    rw [← hS] at hPk
    refine At.run rfl [(2001, hFw (TV.v (.slice ta 0 ct)) [] true), (2002003, .val (.v (.bool false))), (4002, hTree 4002 (TV.s (.lf (.sl 0 0 0 1 ns.length (some c)))) (TV.v (.slice ta 0 ct)) [(0, numRow ns)] L L.length), (5001, hPkS 4002 L S), (6000, hNw 6000), (6001, hNw 6001)] ⟨hfw, trivial, hTr, hPk, hNw_ok _, hNw_ok _, trivial⟩ [.n, .n] (tm2 := [(2, (TV.v (.slice ca 0 cc))), (7, slL 4002 L), (8, .v (stv S)), (9, ptrTo 6000), (10, ptrTo 6001)]) (rows2 := [(4002, rowN L L.length), (6000, newR), (6001, newR)]) (ob := [qL (hFw (TV.v (.slice ta 0 ct)) [] true), [TV.v (.bool false) = TV.v (.bool false), false = false], qL (hTree 4002 (TV.s (.lf (.sl 0 0 0 1 ns.length (some c)))) (TV.v (.slice ta 0 ct)) [(0, numRow ns)] L L.length), qL (hPkS 4002 L S), qL (hNw 6000), qL (hNw 6001), [false = false]].flatten) (td := rp Try.f7 8) (by kernel_rfl) (all_flat ⟨all_qL _, ⟨rfl, rfl, trivial⟩, all_qL _, all_qL _, all_qL _, all_qL _, ⟨rfl, trivial⟩, trivial⟩) rfl rfl (by intro h; cases h) (cuts_mid0 ρ w L S ca cc hfit hS hS8)
set_option maxRecDepth 100000 in
theorem cuts_run011 (ns : List UInt8) (na : Option Addr) (c : Nat) (tx : List (List UInt8)) (ta : Option Addr) (ct : Nat) (cs : List Nat) (ca : Option Addr) (cc : Nat) (hcs : ∀ x ∈ cs, x < 65536) (htl : tx.length ≤ 9223372036854775807) (hns : ns = []) (ρ : Env) (w : World)
    (hr : ∀ q ∈ ([(1, txtRow tx), (2, cutRow cs)] : List (Nat × Row)), RowAt ρ q.1 q.2 w) : Calls Try.prog 7 #[(TV.v (.slice na 0 c)).val ρ, (txA tx ct).val ρ, (cuA cs cc).val ρ] w (LwQ w) := by
  subst hns
  have hfw : HintOk Try.prog 2001 (hFw (txA tx ct) [(1, txtRow tx)] (fewL tx)) := hFw1_ok _ tx ct htl
  refine At.calls (args := [(TV.v (.slice na 0 c)), (txA tx ct), (cuA cs cc)]) (rows := [(1, txtRow tx), (2, cutRow cs)]) (gl := []) (wr := []) (ρ := ρ) Try.func7 rfl rfl (init_ro1 ⟨rfl, trivial, trivial, trivial⟩ rfl rfl ⟨⟨hr (1, txtRow tx) (by simp), txtRow_ok tx⟩, ⟨hr (2, cutRow cs) (by simp), cutRow_ok cs⟩, trivial⟩) rfl ?_
  cases hfew : fewL tx with
  | false =>
    rw [hfew] at hfw
    exact At.fin rfl [(2001, hFw (txA tx ct) [(1, txtRow tx)] false), (2002003, .val (.v (.bool true))), (3000, hAw)] ⟨hfw, trivial, hAw_ok _, trivial⟩ [.y] (x := .v (.bool true)) (ob := [qL (hFw (txA tx ct) [(1, txtRow tx)] false), [TV.v (.bool true) = TV.v (.bool true), true = true], qL hAw].flatten) (by kernel_rfl) (all_flat ⟨all_qL _, ⟨rfl, rfl, trivial⟩, all_qL _, trivial⟩) fun ρ' w' hf _ => ⟨rfl, hf⟩
  | true =>
    rw [hfew] at hfw
    have h300 := (few_all hfew).2
    have hT : TxSrc (txA tx ct) [(1, txtRow tx)] tx := txs_row 1 ct tx htl
    by_cases h10 : 10 < cs.length
    · exact At.fin rfl [(2001, hFw (txA tx ct) [(1, txtRow tx)] true), (2002003, .val (.v (.bool false))), (3000, hAw)] ⟨hfw, trivial, hAw_ok _, trivial⟩ [.y] (x := .v (.bool true)) (ob := [qL (hFw (txA tx ct) [(1, txtRow tx)] true), [TV.v (.bool false) = TV.v (.bool false), decide ((cs.length : Int) > 10) = true], qL hAw].flatten) (by kernel_rfl) (all_flat ⟨all_qL _, ⟨rfl, decide_eq_true (by omega), trivial⟩, all_qL _, trivial⟩) fun ρ' w' hf _ => ⟨rfl, hf⟩
    obtain ⟨L, hL⟩ : ∃ L, L = madeL tx [] := ⟨_, rfl⟩
    have hfit : fitL L := by rw [hL]; exact made_fit _ h300 _
    have hTr : HintOk Try.prog 4002 (hTree 4002 (TV.v (.slice na 0 c)) (txA tx ct) [(1, txtRow tx)] L L.length) := by
      rw [hL]
      exact hTree_of fun ρ w hr => by have := tree_nil1 na c tx none ct hT ρ w hr; first | exact this | (simpa using this)
    obtain ⟨S, hS⟩ : ∃ S, S = treeL L := ⟨_, rfl⟩
    have hS8 : S.length ≤ 10000000000 := by rw [hS]; exact tree_long hfit
    have hPk := hPkL_ok 5001 4002 hfit
    unfold hPkL at hPk
    rw [← hS] at hPk
    refine At.run rfl [(2001, hFw (txA tx ct) [(1, txtRow tx)] true), (2002003, .val (.v (.bool false))), (4002, hTree 4002 (TV.v (.slice na 0 c)) (txA tx ct) [(1, txtRow tx)] L L.length), (5001, hPkS 4002 L S), (6000, hNw 6000), (6001, hNw 6001)] ⟨hfw, trivial, hTr, hPk, hNw_ok _, hNw_ok _, trivial⟩ [.n, .n] (tm2 := [(2, (cuA cs cc)), (7, slL 4002 L), (8, .v (stv S)), (9, ptrTo 6000), (10, ptrTo 6001)]) (rows2 := [(2, cutRow cs), (4002, rowN L L.length), (6000, newR), (6001, newR)]) (ob := [qL (hFw (txA tx ct) [(1, txtRow tx)] true), [TV.v (.bool false) = TV.v (.bool false), decide ((cs.length : Int) > 10) = false], qL (hTree 4002 (TV.v (.slice na 0 c)) (txA tx ct) [(1, txtRow tx)] L L.length), qL (hPkS 4002 L S), qL (hNw 6000), qL (hNw 6001), [false = false]].flatten) (td := rp Try.f7 8) (by kernel_rfl) (all_flat ⟨all_qL _, ⟨rfl, decide_eq_false (by omega), trivial⟩, all_qL _, all_qL _, all_qL _, all_qL _, ⟨rfl, trivial⟩, trivial⟩) rfl rfl (by intro h; cases h) (cuts_mid1 ρ w L S cs cc hcs (by omega) hfit hS hS8)
set_option maxRecDepth 100000 in
theorem cuts_run010 (ns : List UInt8) (na : Option Addr) (c : Nat) (tx : List (List UInt8)) (ta : Option Addr) (ct : Nat) (cs : List Nat) (ca : Option Addr) (cc : Nat) (htl : tx.length ≤ 9223372036854775807) (hns : ns = []) (ρ : Env) (w : World)
    (hr : ∀ q ∈ ([(1, txtRow tx)] : List (Nat × Row)), RowAt ρ q.1 q.2 w) : Calls Try.prog 7 #[(TV.v (.slice na 0 c)).val ρ, (txA tx ct).val ρ, (TV.v (.slice ca 0 cc)).val ρ] w (LwQ w) := by
  subst hns
  have hfw : HintOk Try.prog 2001 (hFw (txA tx ct) [(1, txtRow tx)] (fewL tx)) := hFw1_ok _ tx ct htl
  refine At.calls (args := [(TV.v (.slice na 0 c)), (txA tx ct), (TV.v (.slice ca 0 cc))]) (rows := [(1, txtRow tx)]) (gl := []) (wr := []) (ρ := ρ) Try.func7 rfl rfl (init_ro1 ⟨rfl, trivial, rfl, trivial⟩ rfl rfl ⟨⟨hr (1, txtRow tx) (by simp), txtRow_ok tx⟩, trivial⟩) rfl ?_
  cases hfew : fewL tx with
  | false =>
    rw [hfew] at hfw
    exact At.fin rfl [(2001, hFw (txA tx ct) [(1, txtRow tx)] false), (2002003, .val (.v (.bool true))), (3000, hAw)] ⟨hfw, trivial, hAw_ok _, trivial⟩ [.y] (x := .v (.bool true)) (ob := [qL (hFw (txA tx ct) [(1, txtRow tx)] false), [TV.v (.bool true) = TV.v (.bool true), true = true], qL hAw].flatten) (by kernel_rfl) (all_flat ⟨all_qL _, ⟨rfl, rfl, trivial⟩, all_qL _, trivial⟩) fun ρ' w' hf _ => ⟨rfl, hf⟩
  | true =>
    rw [hfew] at hfw
    have h300 := (few_all hfew).2
    have hT : TxSrc (txA tx ct) [(1, txtRow tx)] tx := txs_row 1 ct tx htl
    obtain ⟨L, hL⟩ : ∃ L, L = madeL tx [] := ⟨_, rfl⟩
    have hfit : fitL L := by rw [hL]; exact made_fit _ h300 _
    have hTr : HintOk Try.prog 4002 (hTree 4002 (TV.v (.slice na 0 c)) (txA tx ct) [(1, txtRow tx)] L L.length) := by
      rw [hL]
      exact hTree_of fun ρ w hr => by have := tree_nil1 na c tx none ct hT ρ w hr; first | exact this | (simpa using this)
    obtain ⟨S, hS⟩ : ∃ S, S = treeL L := ⟨_, rfl⟩
    have hS8 : S.length ≤ 10000000000 := by rw [hS]; exact tree_long hfit
    have hPk := hPkL_ok 5001 4002 hfit
    unfold hPkL at hPk
    rw [← hS] at hPk
    refine At.run rfl [(2001, hFw (txA tx ct) [(1, txtRow tx)] true), (2002003, .val (.v (.bool false))), (4002, hTree 4002 (TV.v (.slice na 0 c)) (txA tx ct) [(1, txtRow tx)] L L.length), (5001, hPkS 4002 L S), (6000, hNw 6000), (6001, hNw 6001)] ⟨hfw, trivial, hTr, hPk, hNw_ok _, hNw_ok _, trivial⟩ [.n, .n] (tm2 := [(2, (TV.v (.slice ca 0 cc))), (7, slL 4002 L), (8, .v (stv S)), (9, ptrTo 6000), (10, ptrTo 6001)]) (rows2 := [(4002, rowN L L.length), (6000, newR), (6001, newR)]) (ob := [qL (hFw (txA tx ct) [(1, txtRow tx)] true), [TV.v (.bool false) = TV.v (.bool false), false = false], qL (hTree 4002 (TV.v (.slice na 0 c)) (txA tx ct) [(1, txtRow tx)] L L.length), qL (hPkS 4002 L S), qL (hNw 6000), qL (hNw 6001), [false = false]].flatten) (td := rp Try.f7 8) (by kernel_rfl) (all_flat ⟨all_qL _, ⟨rfl, rfl, trivial⟩, all_qL _, all_qL _, all_qL _, all_qL _, ⟨rfl, trivial⟩, trivial⟩) rfl rfl (by intro h; cases h) (cuts_mid0 ρ w L S ca cc hfit hS hS8)
set_option maxRecDepth 100000 in
theorem cuts_run001 (ns : List UInt8) (na : Option Addr) (c : Nat) (tx : List (List UInt8)) (ta : Option Addr) (ct : Nat) (cs : List Nat) (ca : Option Addr) (cc : Nat) (hcs : ∀ x ∈ cs, x < 65536) (htl : tx.length ≤ 9223372036854775807) (hns : ns = []) (htx : tx = []) (ρ : Env) (w : World)
    (hr : ∀ q ∈ ([(2, cutRow cs)] : List (Nat × Row)), RowAt ρ q.1 q.2 w) : Calls Try.prog 7 #[(TV.v (.slice na 0 c)).val ρ, (TV.v (.slice ta 0 ct)).val ρ, (cuA cs cc).val ρ] w (LwQ w) := by
  subst hns
  subst htx
  have hfw : HintOk Try.prog 2001 (hFw (TV.v (.slice ta 0 ct)) [] (fewL [])) := hFw0_ok _ ta ct
  refine At.calls (args := [(TV.v (.slice na 0 c)), (TV.v (.slice ta 0 ct)), (cuA cs cc)]) (rows := [(2, cutRow cs)]) (gl := []) (wr := []) (ρ := ρ) Try.func7 rfl rfl (init_ro1 ⟨rfl, rfl, trivial, trivial⟩ rfl rfl ⟨⟨hr (2, cutRow cs) (by simp), cutRow_ok cs⟩, trivial⟩) rfl ?_
  cases hfew : fewL [] with
  | false =>
    rw [hfew] at hfw
    exact At.fin rfl [(2001, hFw (TV.v (.slice ta 0 ct)) [] false), (2002003, .val (.v (.bool true))), (3000, hAw)] ⟨hfw, trivial, hAw_ok _, trivial⟩ [.y] (x := .v (.bool true)) (ob := [qL (hFw (TV.v (.slice ta 0 ct)) [] false), [TV.v (.bool true) = TV.v (.bool true), true = true], qL hAw].flatten) (by kernel_rfl) (all_flat ⟨all_qL _, ⟨rfl, rfl, trivial⟩, all_qL _, trivial⟩) fun ρ' w' hf _ => ⟨rfl, hf⟩
  | true =>
    rw [hfew] at hfw
    have h300 := (few_all hfew).2
    have hT : TxSrc (TV.v (.slice ta 0 ct)) [] [] := txs_nil ta ct
    by_cases h10 : 10 < cs.length
    · exact At.fin rfl [(2001, hFw (TV.v (.slice ta 0 ct)) [] true), (2002003, .val (.v (.bool false))), (3000, hAw)] ⟨hfw, trivial, hAw_ok _, trivial⟩ [.y] (x := .v (.bool true)) (ob := [qL (hFw (TV.v (.slice ta 0 ct)) [] true), [TV.v (.bool false) = TV.v (.bool false), decide ((cs.length : Int) > 10) = true], qL hAw].flatten) (by kernel_rfl) (all_flat ⟨all_qL _, ⟨rfl, decide_eq_true (by omega), trivial⟩, all_qL _, trivial⟩) fun ρ' w' hf _ => ⟨rfl, hf⟩
    obtain ⟨L, hL⟩ : ∃ L, L = madeL [] [] := ⟨_, rfl⟩
    have hfit : fitL L := by rw [hL]; exact made_fit _ h300 _
    have hTr : HintOk Try.prog 4002 (hTree 4002 (TV.v (.slice na 0 c)) (TV.v (.slice ta 0 ct)) [] L L.length) := by
      rw [hL]
      exact hTree_of fun ρ w hr => by have := tree_nil0 na c [] ta ct hT ρ w hr; first | exact this | (simpa using this)
    obtain ⟨S, hS⟩ : ∃ S, S = treeL L := ⟨_, rfl⟩
    have hS8 : S.length ≤ 10000000000 := by rw [hS]; exact tree_long hfit
    have hPk := hPkL_ok 5001 4002 hfit
    unfold hPkL at hPk
    rw [← hS] at hPk
    refine At.run rfl [(2001, hFw (TV.v (.slice ta 0 ct)) [] true), (2002003, .val (.v (.bool false))), (4002, hTree 4002 (TV.v (.slice na 0 c)) (TV.v (.slice ta 0 ct)) [] L L.length), (5001, hPkS 4002 L S), (6000, hNw 6000), (6001, hNw 6001)] ⟨hfw, trivial, hTr, hPk, hNw_ok _, hNw_ok _, trivial⟩ [.n, .n] (tm2 := [(2, (cuA cs cc)), (7, slL 4002 L), (8, .v (stv S)), (9, ptrTo 6000), (10, ptrTo 6001)]) (rows2 := [(2, cutRow cs), (4002, rowN L L.length), (6000, newR), (6001, newR)]) (ob := [qL (hFw (TV.v (.slice ta 0 ct)) [] true), [TV.v (.bool false) = TV.v (.bool false), decide ((cs.length : Int) > 10) = false], qL (hTree 4002 (TV.v (.slice na 0 c)) (TV.v (.slice ta 0 ct)) [] L L.length), qL (hPkS 4002 L S), qL (hNw 6000), qL (hNw 6001), [false = false]].flatten) (td := rp Try.f7 8) (by kernel_rfl) (all_flat ⟨all_qL _, ⟨rfl, decide_eq_false (by omega), trivial⟩, all_qL _, all_qL _, all_qL _, all_qL _, ⟨rfl, trivial⟩, trivial⟩) rfl rfl (by intro h; cases h) (cuts_mid1 ρ w L S cs cc hcs (by omega) hfit hS hS8)
set_option maxRecDepth 100000 in
theorem cuts_run000 (ns : List UInt8) (na : Option Addr) (c : Nat) (tx : List (List UInt8)) (ta : Option Addr) (ct : Nat) (cs : List Nat) (ca : Option Addr) (cc : Nat) (htl : tx.length ≤ 9223372036854775807) (hns : ns = []) (htx : tx = []) (ρ : Env) (w : World)
    (hr : ∀ q ∈ ([] : List (Nat × Row)), RowAt ρ q.1 q.2 w) : Calls Try.prog 7 #[(TV.v (.slice na 0 c)).val ρ, (TV.v (.slice ta 0 ct)).val ρ, (TV.v (.slice ca 0 cc)).val ρ] w (LwQ w) := by
  subst hns
  subst htx
  have hfw : HintOk Try.prog 2001 (hFw (TV.v (.slice ta 0 ct)) [] (fewL [])) := hFw0_ok _ ta ct
  refine At.calls (args := [(TV.v (.slice na 0 c)), (TV.v (.slice ta 0 ct)), (TV.v (.slice ca 0 cc))]) (rows := []) (gl := []) (wr := []) (ρ := ρ) Try.func7 rfl rfl (init_ro1 ⟨rfl, rfl, rfl, trivial⟩ rfl rfl trivial) rfl ?_
  cases hfew : fewL [] with
  | false =>
    rw [hfew] at hfw
    exact At.fin rfl [(2001, hFw (TV.v (.slice ta 0 ct)) [] false), (2002003, .val (.v (.bool true))), (3000, hAw)] ⟨hfw, trivial, hAw_ok _, trivial⟩ [.y] (x := .v (.bool true)) (ob := [qL (hFw (TV.v (.slice ta 0 ct)) [] false), [TV.v (.bool true) = TV.v (.bool true), true = true], qL hAw].flatten) (by kernel_rfl) (all_flat ⟨all_qL _, ⟨rfl, rfl, trivial⟩, all_qL _, trivial⟩) fun ρ' w' hf _ => ⟨rfl, hf⟩
  | true =>
    rw [hfew] at hfw
    have h300 := (few_all hfew).2
    have hT : TxSrc (TV.v (.slice ta 0 ct)) [] [] := txs_nil ta ct
    obtain ⟨L, hL⟩ : ∃ L, L = madeL [] [] := ⟨_, rfl⟩
    have hfit : fitL L := by rw [hL]; exact made_fit _ h300 _
    have hTr : HintOk Try.prog 4002 (hTree 4002 (TV.v (.slice na 0 c)) (TV.v (.slice ta 0 ct)) [] L L.length) := by
      rw [hL]
      exact hTree_of fun ρ w hr => by have := tree_nil0 na c [] ta ct hT ρ w hr; first | exact this | (simpa using this)
    obtain ⟨S, hS⟩ : ∃ S, S = treeL L := ⟨_, rfl⟩
    have hS8 : S.length ≤ 10000000000 := by rw [hS]; exact tree_long hfit
    have hPk := hPkL_ok 5001 4002 hfit
    unfold hPkL at hPk
    rw [← hS] at hPk
    refine At.run rfl [(2001, hFw (TV.v (.slice ta 0 ct)) [] true), (2002003, .val (.v (.bool false))), (4002, hTree 4002 (TV.v (.slice na 0 c)) (TV.v (.slice ta 0 ct)) [] L L.length), (5001, hPkS 4002 L S), (6000, hNw 6000), (6001, hNw 6001)] ⟨hfw, trivial, hTr, hPk, hNw_ok _, hNw_ok _, trivial⟩ [.n, .n] (tm2 := [(2, (TV.v (.slice ca 0 cc))), (7, slL 4002 L), (8, .v (stv S)), (9, ptrTo 6000), (10, ptrTo 6001)]) (rows2 := [(4002, rowN L L.length), (6000, newR), (6001, newR)]) (ob := [qL (hFw (TV.v (.slice ta 0 ct)) [] true), [TV.v (.bool false) = TV.v (.bool false), false = false], qL (hTree 4002 (TV.v (.slice na 0 c)) (TV.v (.slice ta 0 ct)) [] L L.length), qL (hPkS 4002 L S), qL (hNw 6000), qL (hNw 6001), [false = false]].flatten) (td := rp Try.f7 8) (by kernel_rfl) (all_flat ⟨all_qL _, ⟨rfl, rfl, trivial⟩, all_qL _, all_qL _, all_qL _, all_qL _, ⟨rfl, trivial⟩, trivial⟩) rfl rfl (by intro h; cases h) (cuts_mid0 ρ w L S ca cc hfit hS hS8)
theorem cuts_any (w : World) (pa : Option Addr) (len ca : Nat) (ns : List UInt8) (hN : NumIn (W := w) pa len ca ns) (hca : ca ≤ 140737488355328) (v : Value) (tx : List (List UInt8)) (hT : TxtV w v tx) (pc : Option Addr) (lc cc : Nat) (cs : List Nat) (hC : NumIn16 (W := w) pc lc cc cs) : Calls Try.prog 7 #[.slice pa len ca, v, .slice pc lc cc] w (LwQ w) := by
  obtain ⟨hl, hcc, hN⟩ := hN
  obtain ⟨htl, ta, ct, rfl, hT⟩ := hT
  obtain ⟨hl2, hcc2, h16, hC⟩ := hC
  subst hl
  subst hl2
  rcases Nat.eq_zero_or_pos cs.length with e5 | e5
  · have e6 : cs = [] := List.length_eq_zero_iff.1 e5
    subst e6
    rcases Nat.eq_zero_or_pos ns.length with e | e
    · have e1 : ns = [] := List.length_eq_zero_iff.1 e
      subst e1
      rcases Nat.eq_zero_or_pos tx.length with e2 | e2
      · have e3 : tx = [] := List.length_eq_zero_iff.1 e2
        subst e3
        exact cuts_run000 [] pa ca [] ta ct [] pc cc (by simp) rfl rfl (fun i => ⟨0, 0, 0⟩) w (fun q hq => by cases hq)
      · obtain ⟨b2, o2, rfl, hx2⟩ := hT e2
        exact cuts_run010 [] pa ca tx none ct [] pc cc htl rfl (fun i => if i = 1 then ⟨b2, o2, 0⟩ else ⟨0, 0, 0⟩) w (fun q hq => by
        obtain rfl := List.mem_singleton.1 hq
        exact txt_row e2 hx2 _ 1 rfl)
    · obtain ⟨b, o, rfl, hb2, hx⟩ := hN e
      rcases Nat.eq_zero_or_pos tx.length with e2 | e2
      · have e3 : tx = [] := List.length_eq_zero_iff.1 e2
        subst e3
        exact cuts_run100 ns none ca [] ta ct [] pc cc e hcc hca (by simp) rfl (fun i => if i = 0 then ⟨b, o, 0⟩ else ⟨0, 0, 0⟩) w (fun q hq => by
        obtain rfl := List.mem_singleton.1 hq
        exact num_row e hb2 hx _ 0 rfl)
      · obtain ⟨b2, o2, rfl, hx2⟩ := hT e2
        exact cuts_run110 ns none ca tx none ct [] pc cc e hcc hca htl (fun i => if i = 0 then ⟨b, o, 0⟩ else if i = 1 then ⟨b2, o2, 0⟩ else ⟨0, 0, 0⟩) w (fun q hq => by
        simp only [List.mem_cons, List.not_mem_nil, or_false] at hq
        rcases hq with rfl | rfl
        · exact num_row e hb2 hx _ 0 rfl
        · exact txt_row e2 hx2 _ 1 rfl)
  · obtain ⟨b3, o3, rfl, hb3, hx3⟩ := hC e5
    rcases Nat.eq_zero_or_pos ns.length with e | e
    · have e1 : ns = [] := List.length_eq_zero_iff.1 e
      subst e1
      rcases Nat.eq_zero_or_pos tx.length with e2 | e2
      · have e3 : tx = [] := List.length_eq_zero_iff.1 e2
        subst e3
        exact cuts_run001 [] pa ca [] ta ct cs none cc h16 (by simp) rfl rfl (fun i => if i = 2 then ⟨b3, o3, 0⟩ else ⟨0, 0, 0⟩) w (fun q hq => by
        obtain rfl := List.mem_singleton.1 hq
        exact cut_row e5 hb3 hx3 _ 2 rfl)
      · obtain ⟨b2, o2, rfl, hx2⟩ := hT e2
        exact cuts_run011 [] pa ca tx none ct cs none cc h16 htl rfl (fun i => if i = 1 then ⟨b2, o2, 0⟩ else if i = 2 then ⟨b3, o3, 0⟩ else ⟨0, 0, 0⟩) w (fun q hq => by
        simp only [List.mem_cons, List.not_mem_nil, or_false] at hq
        rcases hq with rfl | rfl
        · exact txt_row e2 hx2 _ 1 rfl
        · exact cut_row e5 hb3 hx3 _ 2 rfl)
    · obtain ⟨b, o, rfl, hb2, hx⟩ := hN e
      rcases Nat.eq_zero_or_pos tx.length with e2 | e2
      · have e3 : tx = [] := List.length_eq_zero_iff.1 e2
        subst e3
        exact cuts_run101 ns none ca [] ta ct cs none cc h16 e hcc hca (by simp) rfl (fun i => if i = 0 then ⟨b, o, 0⟩ else if i = 2 then ⟨b3, o3, 0⟩ else ⟨0, 0, 0⟩) w (fun q hq => by
        simp only [List.mem_cons, List.not_mem_nil, or_false] at hq
        rcases hq with rfl | rfl
        · exact num_row e hb2 hx _ 0 rfl
        · exact cut_row e5 hb3 hx3 _ 2 rfl)
      · obtain ⟨b2, o2, rfl, hx2⟩ := hT e2
        exact cuts_run111 ns none ca tx none ct cs none cc h16 e hcc hca htl (fun i => if i = 0 then ⟨b, o, 0⟩ else if i = 1 then ⟨b2, o2, 0⟩ else if i = 2 then ⟨b3, o3, 0⟩ else ⟨0, 0, 0⟩) w (fun q hq => by
        simp only [List.mem_cons, List.not_mem_nil, or_false] at hq
        rcases hq with rfl | rfl | rfl
        · exact num_row e hb2 hx _ 0 rfl
        · exact txt_row e2 hx2 _ 1 rfl
        · exact cut_row e5 hb3 hx3 _ 2 rfl)
end
end Go.Proofs.Ytglipljilcdboaa
