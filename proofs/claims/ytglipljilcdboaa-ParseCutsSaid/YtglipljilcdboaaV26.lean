/- Of the laws: dir at any level. Its conditions: texts of at most 300, a list of at most 16, numbers of at most 2^47. -/
import Derived.Test.YtglipljilcdboaaV25
namespace Go.Proofs.Ytglipljilcdboaa
open Go.RowKit Go.Shelf
set_option linter.unusedVariables false
set_option linter.unusedSimpArgs false
section
open E
theorem cut_eq (N : List UInt8) (i0 n c j q : Nat) (hj : j + q ≤ n) (hc : n ≤ c) : (N.drop (slBb c j i0)).take q = (((N.drop i0).take n).drop j).take q := by
  by_cases h : j < c
  · rw [slBb_eq h, List.drop_take, List.take_take, List.drop_drop, Nat.min_eq_left (by omega)]
  · obtain rfl : q = 0 := by omega
    simp
theorem slBb_le {c j i0 n q : Nat} {N : List UInt8} (hj : j + q ≤ n) (hc : n ≤ c) (hN : i0 + n ≤ N.length) : slBb c j i0 + q ≤ N.length := by
  by_cases h : j < c
  · rw [slBb_eq h]; omega
  · obtain rfl : j = c := by omega
    rw [slBb_end]; omega
theorem join_len (p : List UInt8) (j : Nat) : (joinL p (nmL j)).length ≤ p.length + 4 := by
  have := nm_len j
  unfold joinL
  split
  · omega
  · rw [List.length_append, List.length_cons]; omega
set_option maxRecDepth 100000 in
set_option maxHeartbeats 1000000 in
theorem dir_lvl1 (N : List UInt8) (tx : List (List UInt8)) (ta : Option Addr) (ct : Nat) (hT : TxSrc (TV.s (.lf (.sl 1 0 0 1 tx.length (some ct)))) [(1, txtRow tx)] tx) (h300 : ∀ t ∈ tx, t.length ≤ 300) (dl : Nat) (hdl : dl ≤ 3) (hrec : ∀ d, dl = d + 1 → DirOk1 N tx ta ct d) : DirOk1 N tx ta ct dl := by
  intro l m hm hm2 p hp i0 n c hi hc hc2 f hf ρ w hr hd
  obtain ⟨ns, hns⟩ : ∃ ns, ns = (N.drop i0).take n := ⟨_, rfl⟩
  have hnl : ns.length = n := by rw [hns, List.length_take, List.length_drop]; omega
  rw [← hns]
  obtain ⟨TOT, hTOT⟩ : ∃ T, T = l ++ dirL tx f dl p ns 0 m := ⟨_, rfl⟩
  have hTL : m + (dirL tx f dl p ns 0 m).length = TOT.length := by rw [hTOT, List.length_append, hm]
  rw [hTL, ← hTOT]
  have hn : n ≤ 9223372036854775807 := by omega
  refine At.calls (args := [.s (.lf (.sl 2 0 0 3 m none)), .v (stv p), .s (.lf (.sl 0 0 i0 1 n (some c))), (TV.s (.lf (.sl 1 0 0 1 tx.length (some ct)))), .int .i64 (3 - (dl : Int))]) (rows := [(0, numRow N), (1, txtRow tx), (2, rowN l m)]) (gl := []) (wr := [(ρ 2).1]) (ρ := ρ) Try.func28 rfl rfl (init_rw ⟨trivial, rfl, trivial, trivial, rfl, trivial⟩ rfl rfl rfl (fun q hq => ⟨hr q hq, ?_⟩) (fun q hq hw => ?_) hd) rfl ?_
  · simp only [List.mem_cons, List.not_mem_nil, or_false] at hq
    rcases hq with rfl | rfl | rfl
    · exact num_ok N
    · exact txt_ok tx
    · exact rowN_ok l m
  · simp only [List.mem_cons, List.not_mem_nil, or_false] at hq
    rcases hq with rfl | rfl | rfl
    · cases hw
    · cases hw
    · simp
  have hfin : ∀ (R : Nat) (ρ' : Env) (w' : World), Fr w [(ρ 2).1] w' → (∀ r, r < 1000 → ρ' r = ρ r) → (TV.s (.lf (.sl R 0 0 3 TOT.length none))).ok → (∀ q ∈ ([(R, rowN TOT TOT.length)] : List (Nat × Row)), RowAt ρ' q.1 q.2 w' ∧ pok q.2.ps ∧ (q.2.w = true → w.heap.size ≤ (ρ' q.1).1 ∨ (ρ' q.1).1 ∈ [(ρ 2).1])) → LOut w (ρ 2).1 TOT TOT.length (.returned ((TV.s (.lf (.sl R 0 0 3 TOT.length none))).val ρ')) w' := fun R ρ' w' hf _ _ hq => by
    obtain ⟨g1, _, g3⟩ := hq _ (List.mem_singleton.2 rfl)
    exact lout_fin hf g1 (g3 rfl)
  have hloop : ∀ x : Nat × Nat × List Nd, (x.1 ≤ n ∧ x.1 ≤ 3 * x.2.1 ∧ x.2.1 ≤ 6 ∧ x.2.2.length ≤ 16 ∧ ∃ g, n - x.1 < g ∧ x.2.2 ++ dirL tx g dl p (ns.drop x.1) x.2.1 x.2.2.length = TOT) → At Try.prog w ⟨[(ρ 2).1], ρ, []⟩ Try.f28.ntmps [] (lp Try.f28 0) (DirQ w (ρ 2).1 TOT TOT.length) (tmd1 p i0 n c x.2.1 tx ta ct x.1 x.2.2.length 2904 (3 - (dl : Int))) (rowsd1 N tx x.2.2 x.2.2.length 2904) := by
    refine At.loop (fun x : Nat × Nat × List Nd => tmd1 p i0 n c x.2.1 tx ta ct x.1 x.2.2.length 2904 (3 - (dl : Int))) (fun x => rowsd1 N tx x.2.2 x.2.2.length 2904) (fun x => x.1 ≤ n ∧ x.1 ≤ 3 * x.2.1 ∧ x.2.1 ≤ 6 ∧ x.2.2.length ≤ 16 ∧ ∃ g, n - x.1 < g ∧ x.2.2 ++ dirL tx g dl p (ns.drop x.1) x.2.1 x.2.2.length = TOT) (fun x => n - x.1) fun x hx ih => ?_
    obtain ⟨i, k, L⟩ := x
    obtain ⟨h1, h2, h3, h4, g, hg, hE⟩ := hx
    dsimp only at h1 h2 h3 h4 hg hE ⊢
    have hend : (¬ i + 2 < ns.length ∨ 6 ≤ k ∨ 14 ≤ L.length) → L = TOT := fun h => by rw [← hE, dir_end tx g dl p ns k L.length i h, List.append_nil]
    by_cases e1 : i + 2 < n
    · by_cases e2 : k < 6
      · by_cases e3 : L.length < 14
        · have hA : nsf ns i = nsf N (addN i0 i) := by rw [addN_eq, hns, nsf_cut N i0 n i (by omega)]
          have hB : nsf ns (i + 1) = nsf N (addN i0 (i + 1)) := by rw [addN_eq, hns, nsf_cut N i0 n (i + 1) (by omega)]
          have hC : nsf ns (i + 2) = nsf N (addN i0 (i + 2)) := by rw [addN_eq, hns, nsf_cut N i0 n (i + 2) (by omega)]
          have a8 := (nsf N (addN i0 i)).toNat_lt
          obtain ⟨KI, hKI⟩ : ∃ z : Int, z = ((k : Int) + ((nsf N (addN i0 i)).toNat : Int) % 3) := ⟨_, rfl⟩
          obtain ⟨K, hK⟩ : ∃ z : Nat, z = k + (nsf N (addN i0 i)).toNat % 3 := ⟨_, rfl⟩
          have hKK : KI = (K : Int) := by omega
          have hKn : (((k : Int) + ((nsf N (addN i0 i)).toNat : Int) % 3)).toNat = K := by omega
          by_cases e4 : K < 6
          · obtain ⟨P, hP⟩ : ∃ P, P = joinL p (nmL K) := ⟨_, rfl⟩
            have hS : ∀ j, (textL tx j).length ≤ 300 := fun j => text_len tx h300 j
            obtain ⟨g', rfl⟩ : ∃ g', g = g' + 1 := ⟨g - 1, by omega⟩
            have hnext : ∀ (q : Int) (D : List UInt8), (L ++ [(⟨P, q, D⟩ : Nd)]) ++ dirL tx g' dl p (ns.drop (i + 3)) (K + 1) (L.length + 1) = TOT → At Try.prog w ⟨[(ρ 2).1], ρ, []⟩ Try.f28.ntmps [] (lp Try.f28 0) (DirQ w (ρ 2).1 TOT TOT.length) (tmz1 p i0 n c (KI + 1) tx ta ct (i + 3) (L.length + 1) 19003 (3 - (dl : Int)))
                [(0, numRow N), (1, txtRow tx), (19003, ⟨[.fnc (appF (ndc L) L.length fun y => chunkF [stv P, .int .i64 q, stv D] 3 1 (addN 0 y)) 3 (L.length + 1)], true, some (55, 3)⟩), (2000, nmRow)] := by
              intro q D hx
              refine At.rows (rows2 := [(0, numRow N), (1, txtRow tx), (19003, rowN (L ++ [(⟨P, q, D⟩ : Nd)]) (L.length + 1)), (2000, nmRow)]) (rowsEq_same (rowsEq_same (rowsEq_fnc (row_step L ⟨P, q, D⟩ L.length rfl) (rowsEq_same trivial)))) rfl ?_
              have eL : (L ++ [(⟨P, q, D⟩ : Nd)]).length = L.length + 1 := by simp
              have h9 := ih (i + 3, K + 1, L ++ [(⟨P, q, D⟩ : Nd)]) ⟨by show i + 3 ≤ n; omega, by show i + 3 ≤ 3 * (K + 1); omega, by show K + 1 ≤ 6; omega, by show (L ++ [(⟨P, q, D⟩ : Nd)]).length ≤ 16; omega, g', by show n - (i + 3) < g'; omega, by show (L ++ [(⟨P, q, D⟩ : Nd)]) ++ dirL tx g' dl p (ns.drop (i + 3)) (K + 1) (L ++ [(⟨P, q, D⟩ : Nd)]).length = TOT; rw [eL]; exact hx⟩ (by show n - (i + 3) < n - i; omega)
              dsimp only at h9
              rw [eL] at h9
              rw [show KI + 1 = ((K + 1 : Nat) : Int) by omega]
              exact At.ren [(2904, 19003)] (tmd1 p i0 n c (K + 1) tx ta ct (i + 3) (L.length + 1) 2904 (3 - (dl : Int))) (rowsd1 N tx (L ++ [(⟨P, q, D⟩ : Nd)]) (L.length + 1) 2904) rfl rfl rfl rfl rfl h9
            have hstep : ∀ (q : Nat) (D : List UInt8), 1 + (nsf N (addN i0 (i + 1))).toNat % 4 = q → dataL tx q (nsf N (addN i0 i)) (nsf N (addN i0 (i + 1))) (nsf N (addN i0 (i + 2))) = D → ¬ (q = 4 ∧ 0 < dl) → (L ++ [(⟨P, (q : Int), D⟩ : Nd)]) ++ dirL tx g' dl p (ns.drop (i + 3)) (K + 1) (L.length + 1) = TOT := by
              intro q D hq hD hnq
              rw [← hE, dir_step tx g' dl p ns k L.length i (by omega) e2 e3 (by rw [hA]; omega) (by rw [hB, hq]; exact hnq), hA, ← hK, List.append_assoc]
              unfold ndD
              rw [hA, hB, hC, hq, ← hK, ← hP, hD]
              rfl
            obtain ⟨q, hq0, hq4, hqB⟩ : ∃ q : Nat, 1 ≤ q ∧ q ≤ 4 ∧ 1 + (nsf N (addN i0 (i + 1))).toNat % 4 = q := ⟨_, by omega, by have := Nat.mod_lt (nsf N (addN i0 (i + 1))).toNat (show 0 < 4 by decide); omega, rfl⟩
            have hqI : 1 + ((nsf N (addN i0 (i + 1))).toNat : Int) % 4 = (q : Int) := by omega
            have hdown : ∀ d, dl = d + 1 → 1 + (nsf N (addN i0 (i + 1))).toNat % 4 = 4 → At Try.prog w ⟨[(ρ 2).1], ρ, []⟩ Try.f28.ntmps [] (rp Try.f28 20) (DirQ w (ρ 2).1 TOT TOT.length) [(14, .s (.lf (.ptr 9013 0 0 0 0))), (0, .s (.lf (.sl 19003 0 0 3 (L.length + 1) none))), (1, .v (stv p)), (2, .s (.lf (.sl 0 0 i0 1 n (some c)))), (3, (TV.s (.lf (.sl 1 0 0 1 tx.length (some ct))))), (4, .int .i64 (3 - (dl : Int))), (12, .int .i64 (KI + 1)), (13, .int .i64 i)]
                [(0, numRow N), (1, txtRow tx), (19003, ⟨[.fnc (appF (ndc L) L.length fun y => chunkF [stv P, .int .i64 4, stv []] 3 1 (addN 0 y)) 3 (L.length + 1)], true, some (55, 3)⟩), (9013, ⟨[.one (.v (stv P)), .one (.v (.int .i64 4)), .one (.v (stv []))], true, none⟩)] := by
              intro d hd4 hq4
              obtain ⟨L1, hL1⟩ : ∃ z, z = L ++ [(⟨P, 4, []⟩ : Nd)] := ⟨_, rfl⟩
              have hM1 : L.length + 1 = L1.length := by rw [hL1]; simp
              obtain ⟨h, hh⟩ : ∃ z, z = i + 3 + (n - (i + 3)) / 2 := ⟨_, rfl⟩
              have hns1 : (N.drop (slBb c (i + 3) i0)).take (h - (i + 3)) = (ns.drop (i + 3)).take ((ns.drop (i + 3)).length / 2) := by
                rw [cut_eq N i0 n c (i + 3) (h - (i + 3)) (by omega) hc, ← hns, List.length_drop, hnl, hh, Nat.add_sub_cancel_left]
              have hns2 : (N.drop (slBb c h i0)).take (n - h) = (ns.drop (i + 3)).drop ((ns.drop (i + 3)).length / 2) := by
                rw [cut_eq N i0 n c h (n - h) (by omega) hc, ← hns, List.take_of_length_le (by rw [List.length_drop]; omega), List.drop_drop, List.length_drop, hnl, ← hh]
              obtain ⟨L2, hL2⟩ : ∃ z, z = L1 ++ dirL tx g' d P ((N.drop (slBb c (i + 3) i0)).take (h - (i + 3))) 0 (L.length + 1) := ⟨_, rfl⟩
              obtain ⟨M2, hM2⟩ : ∃ z, z = L.length + 1 + (dirL tx g' d P ((N.drop (slBb c (i + 3) i0)).take (h - (i + 3))) 0 (L.length + 1)).length := ⟨_, rfl⟩
              have hM2L : M2 = L2.length := by rw [hM2, hL2, List.length_append, hM1]
              have hM16 : M2 ≤ 16 := by rw [hM2]; exact (dir_good tx h300 g' d P (depthL P + d + 1) _ 0 (L.length + 1) (Nat.le_refl _)).2 (by omega)
              have hPl : P.length ≤ p.length + 4 := by rw [hP]; exact join_len p K
              have hTT : L2 ++ dir2L tx p ((N.drop (slBb c h i0)).take (n - h)) (K + 1) M2 = TOT := by
                rw [← hE, hd4, dir_down tx g' (d + 1) p ns k L.length i (by omega) e2 e3 (by rw [hA]; omega) ⟨by rw [hB]; exact hq4, by omega⟩]
                rw [hL2, hL1, hM2, hns1, hns2, Nat.add_sub_cancel]
                unfold ndD
                rw [hA, hB, hC, hq4, ← hK, ← hP]
                rw [List.append_assoc, List.append_assoc]
                rfl
              have hTM : M2 + d2n (n - h) (K + 1) M2 = TOT.length := by
                rw [← hTT, List.length_append, d2_len, ← hM2L, List.length_take, List.length_drop]
                have := slBb_le (i0 := i0) (N := N) (show h + (n - h) ≤ n by omega) hc hi
                rw [Nat.min_eq_left (by omega)]
              have k1 : HintOk Try.prog 22011 (hDir 19003 28 22011 (TV.s (.lf (.sl 1 0 0 1 tx.length (some ct)))) [(1, txtRow tx)] N L1 L2 (L.length + 1) M2 P (slBb c (i + 3) i0) (h - (i + 3)) (c - (i + 3)) (3 - (dl : Int) + 1)) := by
                rw [show 3 - (dl : Int) + 1 = 3 - (d : Int) by omega, hL2, hM2]
                exact hDir_ok1 19003 22011 ⟨by decide, by decide⟩ (hrec d hd4) L1 (L.length + 1) hM1 (by omega) P (by omega) (slBb c (i + 3) i0) (h - (i + 3)) (c - (i + 3)) (slBb_le (by omega) hc hi) (by omega) (by omega) g' (by omega)
              have k2 : HintOk Try.prog 23007 (hDir 22011 40 23007 (TV.s (.lf (.sl 1 0 0 1 tx.length (some ct)))) [(1, txtRow tx)] N L2 TOT M2 TOT.length p (slBb c h i0) (n - h) (c - h) ((K + 1 : Nat) : Int)) := by
                rw [← hTM, ← hTT]
                exact hDir2_ok1 22011 23007 ⟨by decide, by decide⟩ N tx ta ct hT L2 M2 hM2L (by omega) p (by omega) (slBb c h i0) (n - h) (c - h) (K + 1) (slBb_le (by omega) hc hi) (by omega) (by omega)
              refine At.rows (rows2 := [(0, numRow N), (1, txtRow tx), (19003, rowN L1 (L.length + 1)), (9013, ⟨[.one (.v (stv P)), .one (.v (.int .i64 4)), .one (.v (stv []))], true, none⟩)]) (rowsEq_same (rowsEq_same (rowsEq_fnc (by rw [hL1]; exact row_step L ⟨P, 4, []⟩ L.length rfl) (rowsEq_same trivial)))) rfl ?_
              rw [show KI + 1 = ((K + 1 : Nat) : Int) by omega]
              refine At.finR rfl [(2021005, .val (.int .i64 h)), (22011, hDir 19003 28 22011 (TV.s (.lf (.sl 1 0 0 1 tx.length (some ct)))) [(1, txtRow tx)] N L1 L2 (L.length + 1) M2 P (slBb c (i + 3) i0) (h - (i + 3)) (c - (i + 3)) (3 - (dl : Int) + 1)), (23007, hDir 22011 40 23007 (TV.s (.lf (.sl 1 0 0 1 tx.length (some ct)))) [(1, txtRow tx)] N L2 TOT M2 TOT.length p (slBb c h i0) (n - h) (c - h) ((K + 1 : Nat) : Int))] ⟨trivial, k1, k2, trivial⟩ [] (rows2 := [(23007, rowN TOT TOT.length)]) (x := .s (.lf (.sl 23007 0 0 3 TOT.length none)))
                (ob := [[inI ((i : Int) + 3), inI ((i : Int) + 3 + (n : Int)), TV.int .i64 (((i : Int) + 3 + (n : Int)) / 2) = TV.int .i64 h, 0 ≤ (i : Int) + 3 + (n : Int) ∧ (0 : Int) < 2, IntKind.i64.wrap (((i : Int) + 3 + (n : Int)) / 2) = ((i : Int) + 3 + (n : Int)) / 2, inI ((i : Int) + 3), 0 ≤ (h : Int) ∧ (h : Int) ≤ (c : Int), 0 ≤ (i : Int) + 3 ∧ (i : Int) + 3 ≤ (h : Int), inI (3 - (dl : Int) + 1)],
                  qL (hDir 19003 28 22011 (TV.s (.lf (.sl 1 0 0 1 tx.length (some ct)))) [(1, txtRow tx)] N L1 L2 (L.length + 1) M2 P (slBb c (i + 3) i0) (h - (i + 3)) (c - (i + 3)) (3 - (dl : Int) + 1)), [0 ≤ (h : Int) ∧ (h : Int) ≤ (n : Int), n ≤ c], qL (hDir 22011 40 23007 (TV.s (.lf (.sl 1 0 0 1 tx.length (some ct)))) [(1, txtRow tx)] N L2 TOT M2 TOT.length p (slBb c h i0) (n - h) (c - h) ((K + 1 : Nat) : Int))].flatten) (by kernel_rfl) ?_ (hfin 23007)
              have eh : ((i : Int) + 3 + (n : Int)) / 2 = (h : Int) := by omega
              exact all_flat ⟨⟨⟨by omega, by omega⟩, ⟨by omega, by omega⟩, by rw [eh], ⟨by omega, by omega⟩, by rw [IntKind.wrap_i64]; omega, ⟨by omega, by omega⟩, ⟨by omega, by omega⟩, ⟨by omega, by omega⟩, ⟨by omega, by omega⟩, trivial⟩, all_qL _, ⟨⟨by omega, by omega⟩, hc, trivial⟩, all_qL _, trivial⟩
            have hmid : At Try.prog w ⟨[(ρ 2).1], ρ, []⟩ Try.f28.ntmps [] (rp Try.f28 11) (DirQ w (ρ 2).1 TOT TOT.length) ((14, .s (.lf (.ptr 9013 0 0 0 0))) :: tmz1 p i0 n c KI tx ta ct i L.length 2904 (3 - (dl : Int))) ((9013, ⟨[.one (.v (stv P)), .one (.v (.int .i64 q)), .one (.v (stv []))], true, none⟩) :: rowsd1 N tx L L.length 2904) := by
              have hcase : q = 1 ∨ q = 2 ∨ q = 3 ∨ q = 4 := by omega
              rcases hcase with rfl | rfl | rfl | rfl
              · exact tail1_1 N tx ta ct p i0 n c k i L L.length _ w ρ _ _ e1 hn hi hc e3 (by omega) KI ⟨by omega, by omega⟩ P hT (hS _) (hnext 1 _ (hstep 1 _ hqB rfl (by omega)))
              · exact tail1_2 N tx ta ct p i0 n c k i L L.length _ w ρ _ _ e1 hn hi hc e3 (by omega) KI ⟨by omega, by omega⟩ P hT (hS _) (hnext 2 _ (hstep 2 _ hqB rfl (by omega)))
              · exact tail1_3 N tx ta ct p i0 n c k i L L.length _ w ρ _ _ e1 hn hi hc e3 (by omega) KI ⟨by omega, by omega⟩ P (hnext 3 _ (hstep 3 _ hqB (by rw [textL_nms]; rfl) (by omega)))
              · cases dl with
                | zero => exact tail1_4 N tx ta ct p i0 n c k i L L.length _ w ρ _ _ e1 hn hi hc e3 (by omega) KI ⟨by omega, by omega⟩ P (by omega) (hnext 4 _ (hstep 4 _ hqB rfl (by omega)))
                | succ d => exact tail1_4d N tx ta ct p i0 n c k i L L.length _ w ρ _ _ e1 hn hi hc e3 (by omega) KI ⟨by omega, by omega⟩ P (by omega) (hdown d rfl hqB)
            rw [hKI] at hmid
            by_cases hpe : p = []
            · refine head1_0 N tx ta ct p i0 n c k i L L.length _ w ρ _ _ q e1 hn hi e2 e3 (by omega) hqI hpe (by omega) ?_
              rw [show nmL (((k : Int) + ((nsf N (addN i0 i)).toNat : Int) % 3)).toNat = P by rw [hKn, hP, hpe]; rfl]
              exact hmid
            · refine head1_1 N tx ta ct p i0 n c k i L L.length _ w ρ _ _ q e1 hn hi e2 e3 (by omega) hqI hpe (by omega) ?_
              rw [show (p ++ [47]) ++ nmL (((k : Int) + ((nsf N (addN i0 i)).toNat : Int) % 3)).toNat = P by rw [hKn, hP]; unfold joinL; rw [if_neg hpe]; simp]
              exact hmid
          · have hL : L = TOT := by rw [← hE, dir_out tx g dl p ns k L.length i (by omega) e2 e3 (by rw [hA]; omega), List.append_nil]
            rw [hL]
            rw [hL] at e3
            exact At.finR rfl [(2005004, .val (.v (.bool true))), (2005009, .val (.v (.bool true))), (2005014, .val (.v (.bool true)))] ⟨trivial, trivial, trivial, trivial⟩ [.y, .y] (rows2 := [(2904, rowN TOT TOT.length)]) (x := .s (.lf (.sl 2904 0 0 3 TOT.length none)))
              (ob := [o1 N i0 n k i TOT.length, [decide (((k : Int) + ((nsf N (addN i0 i)).toNat : Int) % 3) ≥ ((6 : Nat) : Int)) = true]].flatten) (by kernel_rfl) (all_flat ⟨o1_ok e1 hn hi e2 e3, ⟨decide_eq_true (by omega), trivial⟩, trivial⟩) (hfin 2904)
        · have hL := hend (by omega)
          rw [hL]
          rw [hL] at e3
          exact At.finR rfl [(2005004, .val (.v (.bool true))), (2005009, .val (.v (.bool true))), (2005014, .val (.v (.bool false)))] ⟨trivial, trivial, trivial, trivial⟩ [.n] (rows2 := [(2904, rowN TOT TOT.length)]) (x := .s (.lf (.sl 2904 0 0 3 TOT.length none)))
            (ob := [inI ((i : Int) + 2), vB (decide ((i : Int) + 2 < (n : Int))) true, vB (decide ((k : Int) < ((6 : Nat) : Int))) true, vB (decide ((TOT.length : Int) < 14)) false, false = false]) (by kernel_rfl) ⟨⟨by omega, by omega⟩, by show TV.v _ = TV.v _; rw [decide_eq_true (by omega)], by show TV.v _ = TV.v _; rw [decide_eq_true (by omega)], by show TV.v _ = TV.v _; rw [decide_eq_false (by omega)], rfl, trivial⟩ (hfin 2904)
      · have hL := hend (by omega)
        rw [hL]
        exact At.finR rfl [(2005004, .val (.v (.bool true))), (2005009, .val (.v (.bool false)))] ⟨trivial, trivial, trivial⟩ [.n] (rows2 := [(2904, rowN TOT TOT.length)]) (x := .s (.lf (.sl 2904 0 0 3 TOT.length none)))
          (ob := [inI ((i : Int) + 2), vB (decide ((i : Int) + 2 < (n : Int))) true, vB (decide ((k : Int) < ((6 : Nat) : Int))) false, false = false]) (by kernel_rfl) ⟨⟨by omega, by omega⟩, by show TV.v _ = TV.v _; rw [decide_eq_true (by omega)], by show TV.v _ = TV.v _; rw [decide_eq_false (by omega)], rfl, trivial⟩ (hfin 2904)
    · have hL := hend (by omega)
      rw [hL]
      exact At.finR rfl [(2005004, .val (.v (.bool false)))] ⟨trivial, trivial⟩ [.n] (rows2 := [(2904, rowN TOT TOT.length)]) (x := .s (.lf (.sl 2904 0 0 3 TOT.length none)))
        (ob := [inI ((i : Int) + 2), vB (decide ((i : Int) + 2 < (n : Int))) false, false = false]) (by kernel_rfl) ⟨⟨by omega, by omega⟩, by show TV.v _ = TV.v _; rw [decide_eq_false (by omega)], rfl, trivial⟩ (hfin 2904)
  have h0 := hloop (0, 0, l) ⟨Nat.zero_le _, Nat.zero_le _, Nat.zero_le _, by show l.length ≤ 16; omega, f, by show n - 0 < f; omega, by show l ++ dirL tx f dl p (ns.drop 0) 0 l.length = TOT; rw [hTOT, List.drop_zero, hm]⟩
  dsimp only at h0
  rw [← hm] at h0
  refine At.run rfl [] trivial [] (tm2 := tmd1 p i0 n c 0 tx ta ct 0 m 2 (3 - (dl : Int))) (rows2 := [(0, numRow N), (1, txtRow tx), (2, rowN l m), (2000, ⟨[.fnc (chunkF [stv [97], stv [98, 46, 99], stv [98, 105, 110], stv [108, 105, 98], stv [120, 32, 121], stv [122]] 1 6) 1 6], true, some (9, 1)⟩)]) (ob := []) (td := lp Try.f28 0) (by kernel_rfl) trivial rfl rfl (by intro h; cases h) ?_
  refine At.rows (rows2 := [(0, numRow N), (1, txtRow tx), (2, rowN l m), (2000, nmRow)]) (rowsEq_same (rowsEq_same (rowsEq_same (rowsEq_fnc names_row trivial)))) rfl ?_
  exact At.ren [(2904, 2)] (tmd1 p i0 n c 0 tx ta ct 0 m 2904 (3 - (dl : Int))) (rowsd1 N tx l m 2904) rfl rfl rfl rfl rfl h0
theorem dir_any1 (N : List UInt8) (tx : List (List UInt8)) (ta : Option Addr) (ct : Nat) (hT : TxSrc (TV.s (.lf (.sl 1 0 0 1 tx.length (some ct)))) [(1, txtRow tx)] tx) (h300 : ∀ t ∈ tx, t.length ≤ 300) : ∀ dl, dl ≤ 3 → DirOk1 N tx ta ct dl
  | 0, h => dir_lvl1 N tx ta ct hT h300 0 h fun d hd => by omega
  | dl + 1, h => dir_lvl1 N tx ta ct hT h300 (dl + 1) h fun d hd => by
    obtain rfl : dl = d := by omega
    exact dir_any1 N tx ta ct hT h300 dl (by omega)
set_option maxRecDepth 100000 in
set_option maxHeartbeats 1000000 in
theorem dir_lvl0 (N : List UInt8) (tx : List (List UInt8)) (ta : Option Addr) (ct : Nat) (hT : TxSrc (TV.v (.slice ta 0 ct)) [] tx) (h300 : ∀ t ∈ tx, t.length ≤ 300) (dl : Nat) (hdl : dl ≤ 3) (hrec : ∀ d, dl = d + 1 → DirOk0 N tx ta ct d) : DirOk0 N tx ta ct dl := by
  intro l m hm hm2 p hp i0 n c hi hc hc2 f hf ρ w hr hd
  obtain ⟨ns, hns⟩ : ∃ ns, ns = (N.drop i0).take n := ⟨_, rfl⟩
  have hnl : ns.length = n := by rw [hns, List.length_take, List.length_drop]; omega
  rw [← hns]
  obtain ⟨TOT, hTOT⟩ : ∃ T, T = l ++ dirL tx f dl p ns 0 m := ⟨_, rfl⟩
  have hTL : m + (dirL tx f dl p ns 0 m).length = TOT.length := by rw [hTOT, List.length_append, hm]
  rw [hTL, ← hTOT]
  have hn : n ≤ 9223372036854775807 := by omega
  refine At.calls (args := [.s (.lf (.sl 2 0 0 3 m none)), .v (stv p), .s (.lf (.sl 0 0 i0 1 n (some c))), (TV.v (.slice ta 0 ct)), .int .i64 (3 - (dl : Int))]) (rows := [(0, numRow N), (2, rowN l m)]) (gl := []) (wr := [(ρ 2).1]) (ρ := ρ) Try.func28 rfl rfl (init_rw ⟨trivial, rfl, trivial, rfl, rfl, trivial⟩ rfl rfl rfl (fun q hq => ⟨hr q hq, ?_⟩) (fun q hq hw => ?_) hd) rfl ?_
  · simp only [List.mem_cons, List.not_mem_nil, or_false] at hq
    rcases hq with rfl | rfl
    · exact num_ok N
    
    · exact rowN_ok l m
  · simp only [List.mem_cons, List.not_mem_nil, or_false] at hq
    rcases hq with rfl | rfl
    · cases hw
    
    · simp
  have hfin : ∀ (R : Nat) (ρ' : Env) (w' : World), Fr w [(ρ 2).1] w' → (∀ r, r < 1000 → ρ' r = ρ r) → (TV.s (.lf (.sl R 0 0 3 TOT.length none))).ok → (∀ q ∈ ([(R, rowN TOT TOT.length)] : List (Nat × Row)), RowAt ρ' q.1 q.2 w' ∧ pok q.2.ps ∧ (q.2.w = true → w.heap.size ≤ (ρ' q.1).1 ∨ (ρ' q.1).1 ∈ [(ρ 2).1])) → LOut w (ρ 2).1 TOT TOT.length (.returned ((TV.s (.lf (.sl R 0 0 3 TOT.length none))).val ρ')) w' := fun R ρ' w' hf _ _ hq => by
    obtain ⟨g1, _, g3⟩ := hq _ (List.mem_singleton.2 rfl)
    exact lout_fin hf g1 (g3 rfl)
  have hloop : ∀ x : Nat × Nat × List Nd, (x.1 ≤ n ∧ x.1 ≤ 3 * x.2.1 ∧ x.2.1 ≤ 6 ∧ x.2.2.length ≤ 16 ∧ ∃ g, n - x.1 < g ∧ x.2.2 ++ dirL tx g dl p (ns.drop x.1) x.2.1 x.2.2.length = TOT) → At Try.prog w ⟨[(ρ 2).1], ρ, []⟩ Try.f28.ntmps [] (lp Try.f28 0) (DirQ w (ρ 2).1 TOT TOT.length) (tmd0 p i0 n c x.2.1 tx ta ct x.1 x.2.2.length 2904 (3 - (dl : Int))) (rowsd0 N tx x.2.2 x.2.2.length 2904) := by
    refine At.loop (fun x : Nat × Nat × List Nd => tmd0 p i0 n c x.2.1 tx ta ct x.1 x.2.2.length 2904 (3 - (dl : Int))) (fun x => rowsd0 N tx x.2.2 x.2.2.length 2904) (fun x => x.1 ≤ n ∧ x.1 ≤ 3 * x.2.1 ∧ x.2.1 ≤ 6 ∧ x.2.2.length ≤ 16 ∧ ∃ g, n - x.1 < g ∧ x.2.2 ++ dirL tx g dl p (ns.drop x.1) x.2.1 x.2.2.length = TOT) (fun x => n - x.1) fun x hx ih => ?_
    obtain ⟨i, k, L⟩ := x
    obtain ⟨h1, h2, h3, h4, g, hg, hE⟩ := hx
    dsimp only at h1 h2 h3 h4 hg hE ⊢
    have hend : (¬ i + 2 < ns.length ∨ 6 ≤ k ∨ 14 ≤ L.length) → L = TOT := fun h => by rw [← hE, dir_end tx g dl p ns k L.length i h, List.append_nil]
    by_cases e1 : i + 2 < n
    · by_cases e2 : k < 6
      · by_cases e3 : L.length < 14
        · have hA : nsf ns i = nsf N (addN i0 i) := by rw [addN_eq, hns, nsf_cut N i0 n i (by omega)]
          have hB : nsf ns (i + 1) = nsf N (addN i0 (i + 1)) := by rw [addN_eq, hns, nsf_cut N i0 n (i + 1) (by omega)]
          have hC : nsf ns (i + 2) = nsf N (addN i0 (i + 2)) := by rw [addN_eq, hns, nsf_cut N i0 n (i + 2) (by omega)]
          have a8 := (nsf N (addN i0 i)).toNat_lt
          obtain ⟨KI, hKI⟩ : ∃ z : Int, z = ((k : Int) + ((nsf N (addN i0 i)).toNat : Int) % 3) := ⟨_, rfl⟩
          obtain ⟨K, hK⟩ : ∃ z : Nat, z = k + (nsf N (addN i0 i)).toNat % 3 := ⟨_, rfl⟩
          have hKK : KI = (K : Int) := by omega
          have hKn : (((k : Int) + ((nsf N (addN i0 i)).toNat : Int) % 3)).toNat = K := by omega
          by_cases e4 : K < 6
          · obtain ⟨P, hP⟩ : ∃ P, P = joinL p (nmL K) := ⟨_, rfl⟩
            have hS : ∀ j, (textL tx j).length ≤ 300 := fun j => text_len tx h300 j
            obtain ⟨g', rfl⟩ : ∃ g', g = g' + 1 := ⟨g - 1, by omega⟩
            have hnext : ∀ (q : Int) (D : List UInt8), (L ++ [(⟨P, q, D⟩ : Nd)]) ++ dirL tx g' dl p (ns.drop (i + 3)) (K + 1) (L.length + 1) = TOT → At Try.prog w ⟨[(ρ 2).1], ρ, []⟩ Try.f28.ntmps [] (lp Try.f28 0) (DirQ w (ρ 2).1 TOT TOT.length) (tmz0 p i0 n c (KI + 1) tx ta ct (i + 3) (L.length + 1) 19003 (3 - (dl : Int)))
                [(0, numRow N), (19003, ⟨[.fnc (appF (ndc L) L.length fun y => chunkF [stv P, .int .i64 q, stv D] 3 1 (addN 0 y)) 3 (L.length + 1)], true, some (55, 3)⟩), (2000, nmRow)] := by
              intro q D hx
              refine At.rows (rows2 := [(0, numRow N), (19003, rowN (L ++ [(⟨P, q, D⟩ : Nd)]) (L.length + 1)), (2000, nmRow)]) (rowsEq_same (rowsEq_fnc (row_step L ⟨P, q, D⟩ L.length rfl) (rowsEq_same trivial))) rfl ?_
              have eL : (L ++ [(⟨P, q, D⟩ : Nd)]).length = L.length + 1 := by simp
              have h9 := ih (i + 3, K + 1, L ++ [(⟨P, q, D⟩ : Nd)]) ⟨by show i + 3 ≤ n; omega, by show i + 3 ≤ 3 * (K + 1); omega, by show K + 1 ≤ 6; omega, by show (L ++ [(⟨P, q, D⟩ : Nd)]).length ≤ 16; omega, g', by show n - (i + 3) < g'; omega, by show (L ++ [(⟨P, q, D⟩ : Nd)]) ++ dirL tx g' dl p (ns.drop (i + 3)) (K + 1) (L ++ [(⟨P, q, D⟩ : Nd)]).length = TOT; rw [eL]; exact hx⟩ (by show n - (i + 3) < n - i; omega)
              dsimp only at h9
              rw [eL] at h9
              rw [show KI + 1 = ((K + 1 : Nat) : Int) by omega]
              exact At.ren [(2904, 19003)] (tmd0 p i0 n c (K + 1) tx ta ct (i + 3) (L.length + 1) 2904 (3 - (dl : Int))) (rowsd0 N tx (L ++ [(⟨P, q, D⟩ : Nd)]) (L.length + 1) 2904) rfl rfl rfl rfl rfl h9
            have hstep : ∀ (q : Nat) (D : List UInt8), 1 + (nsf N (addN i0 (i + 1))).toNat % 4 = q → dataL tx q (nsf N (addN i0 i)) (nsf N (addN i0 (i + 1))) (nsf N (addN i0 (i + 2))) = D → ¬ (q = 4 ∧ 0 < dl) → (L ++ [(⟨P, (q : Int), D⟩ : Nd)]) ++ dirL tx g' dl p (ns.drop (i + 3)) (K + 1) (L.length + 1) = TOT := by
              intro q D hq hD hnq
              rw [← hE, dir_step tx g' dl p ns k L.length i (by omega) e2 e3 (by rw [hA]; omega) (by rw [hB, hq]; exact hnq), hA, ← hK, List.append_assoc]
              unfold ndD
              rw [hA, hB, hC, hq, ← hK, ← hP, hD]
              rfl
            obtain ⟨q, hq0, hq4, hqB⟩ : ∃ q : Nat, 1 ≤ q ∧ q ≤ 4 ∧ 1 + (nsf N (addN i0 (i + 1))).toNat % 4 = q := ⟨_, by omega, by have := Nat.mod_lt (nsf N (addN i0 (i + 1))).toNat (show 0 < 4 by decide); omega, rfl⟩
            have hqI : 1 + ((nsf N (addN i0 (i + 1))).toNat : Int) % 4 = (q : Int) := by omega
            have hdown : ∀ d, dl = d + 1 → 1 + (nsf N (addN i0 (i + 1))).toNat % 4 = 4 → At Try.prog w ⟨[(ρ 2).1], ρ, []⟩ Try.f28.ntmps [] (rp Try.f28 20) (DirQ w (ρ 2).1 TOT TOT.length) [(14, .s (.lf (.ptr 9013 0 0 0 0))), (0, .s (.lf (.sl 19003 0 0 3 (L.length + 1) none))), (1, .v (stv p)), (2, .s (.lf (.sl 0 0 i0 1 n (some c)))), (3, (TV.v (.slice ta 0 ct))), (4, .int .i64 (3 - (dl : Int))), (12, .int .i64 (KI + 1)), (13, .int .i64 i)]
                [(0, numRow N), (19003, ⟨[.fnc (appF (ndc L) L.length fun y => chunkF [stv P, .int .i64 4, stv []] 3 1 (addN 0 y)) 3 (L.length + 1)], true, some (55, 3)⟩), (9013, ⟨[.one (.v (stv P)), .one (.v (.int .i64 4)), .one (.v (stv []))], true, none⟩)] := by
              intro d hd4 hq4
              obtain ⟨L1, hL1⟩ : ∃ z, z = L ++ [(⟨P, 4, []⟩ : Nd)] := ⟨_, rfl⟩
              have hM1 : L.length + 1 = L1.length := by rw [hL1]; simp
              obtain ⟨h, hh⟩ : ∃ z, z = i + 3 + (n - (i + 3)) / 2 := ⟨_, rfl⟩
              have hns1 : (N.drop (slBb c (i + 3) i0)).take (h - (i + 3)) = (ns.drop (i + 3)).take ((ns.drop (i + 3)).length / 2) := by
                rw [cut_eq N i0 n c (i + 3) (h - (i + 3)) (by omega) hc, ← hns, List.length_drop, hnl, hh, Nat.add_sub_cancel_left]
              have hns2 : (N.drop (slBb c h i0)).take (n - h) = (ns.drop (i + 3)).drop ((ns.drop (i + 3)).length / 2) := by
                rw [cut_eq N i0 n c h (n - h) (by omega) hc, ← hns, List.take_of_length_le (by rw [List.length_drop]; omega), List.drop_drop, List.length_drop, hnl, ← hh]
              obtain ⟨L2, hL2⟩ : ∃ z, z = L1 ++ dirL tx g' d P ((N.drop (slBb c (i + 3) i0)).take (h - (i + 3))) 0 (L.length + 1) := ⟨_, rfl⟩
              obtain ⟨M2, hM2⟩ : ∃ z, z = L.length + 1 + (dirL tx g' d P ((N.drop (slBb c (i + 3) i0)).take (h - (i + 3))) 0 (L.length + 1)).length := ⟨_, rfl⟩
              have hM2L : M2 = L2.length := by rw [hM2, hL2, List.length_append, hM1]
              have hM16 : M2 ≤ 16 := by rw [hM2]; exact (dir_good tx h300 g' d P (depthL P + d + 1) _ 0 (L.length + 1) (Nat.le_refl _)).2 (by omega)
              have hPl : P.length ≤ p.length + 4 := by rw [hP]; exact join_len p K
              have hTT : L2 ++ dir2L tx p ((N.drop (slBb c h i0)).take (n - h)) (K + 1) M2 = TOT := by
                rw [← hE, hd4, dir_down tx g' (d + 1) p ns k L.length i (by omega) e2 e3 (by rw [hA]; omega) ⟨by rw [hB]; exact hq4, by omega⟩]
                rw [hL2, hL1, hM2, hns1, hns2, Nat.add_sub_cancel]
                unfold ndD
                rw [hA, hB, hC, hq4, ← hK, ← hP]
                rw [List.append_assoc, List.append_assoc]
                rfl
              have hTM : M2 + d2n (n - h) (K + 1) M2 = TOT.length := by
                rw [← hTT, List.length_append, d2_len, ← hM2L, List.length_take, List.length_drop]
                have := slBb_le (i0 := i0) (N := N) (show h + (n - h) ≤ n by omega) hc hi
                rw [Nat.min_eq_left (by omega)]
              have k1 : HintOk Try.prog 22011 (hDir 19003 28 22011 (TV.v (.slice ta 0 ct)) [] N L1 L2 (L.length + 1) M2 P (slBb c (i + 3) i0) (h - (i + 3)) (c - (i + 3)) (3 - (dl : Int) + 1)) := by
                rw [show 3 - (dl : Int) + 1 = 3 - (d : Int) by omega, hL2, hM2]
                exact hDir_ok0 19003 22011 ⟨by decide, by decide⟩ (hrec d hd4) L1 (L.length + 1) hM1 (by omega) P (by omega) (slBb c (i + 3) i0) (h - (i + 3)) (c - (i + 3)) (slBb_le (by omega) hc hi) (by omega) (by omega) g' (by omega)
              have k2 : HintOk Try.prog 23007 (hDir 22011 40 23007 (TV.v (.slice ta 0 ct)) [] N L2 TOT M2 TOT.length p (slBb c h i0) (n - h) (c - h) ((K + 1 : Nat) : Int)) := by
                rw [← hTM, ← hTT]
                exact hDir2_ok0 22011 23007 ⟨by decide, by decide⟩ N tx ta ct hT L2 M2 hM2L (by omega) p (by omega) (slBb c h i0) (n - h) (c - h) (K + 1) (slBb_le (by omega) hc hi) (by omega) (by omega)
              refine At.rows (rows2 := [(0, numRow N), (19003, rowN L1 (L.length + 1)), (9013, ⟨[.one (.v (stv P)), .one (.v (.int .i64 4)), .one (.v (stv []))], true, none⟩)]) (rowsEq_same (rowsEq_fnc (by rw [hL1]; exact row_step L ⟨P, 4, []⟩ L.length rfl) (rowsEq_same trivial))) rfl ?_
              rw [show KI + 1 = ((K + 1 : Nat) : Int) by omega]
              refine At.finR rfl [(2021005, .val (.int .i64 h)), (22011, hDir 19003 28 22011 (TV.v (.slice ta 0 ct)) [] N L1 L2 (L.length + 1) M2 P (slBb c (i + 3) i0) (h - (i + 3)) (c - (i + 3)) (3 - (dl : Int) + 1)), (23007, hDir 22011 40 23007 (TV.v (.slice ta 0 ct)) [] N L2 TOT M2 TOT.length p (slBb c h i0) (n - h) (c - h) ((K + 1 : Nat) : Int))] ⟨trivial, k1, k2, trivial⟩ [] (rows2 := [(23007, rowN TOT TOT.length)]) (x := .s (.lf (.sl 23007 0 0 3 TOT.length none)))
                (ob := [[inI ((i : Int) + 3), inI ((i : Int) + 3 + (n : Int)), TV.int .i64 (((i : Int) + 3 + (n : Int)) / 2) = TV.int .i64 h, 0 ≤ (i : Int) + 3 + (n : Int) ∧ (0 : Int) < 2, IntKind.i64.wrap (((i : Int) + 3 + (n : Int)) / 2) = ((i : Int) + 3 + (n : Int)) / 2, inI ((i : Int) + 3), 0 ≤ (h : Int) ∧ (h : Int) ≤ (c : Int), 0 ≤ (i : Int) + 3 ∧ (i : Int) + 3 ≤ (h : Int), inI (3 - (dl : Int) + 1)],
                  qL (hDir 19003 28 22011 (TV.v (.slice ta 0 ct)) [] N L1 L2 (L.length + 1) M2 P (slBb c (i + 3) i0) (h - (i + 3)) (c - (i + 3)) (3 - (dl : Int) + 1)), [0 ≤ (h : Int) ∧ (h : Int) ≤ (n : Int), n ≤ c], qL (hDir 22011 40 23007 (TV.v (.slice ta 0 ct)) [] N L2 TOT M2 TOT.length p (slBb c h i0) (n - h) (c - h) ((K + 1 : Nat) : Int))].flatten) (by kernel_rfl) ?_ (hfin 23007)
              have eh : ((i : Int) + 3 + (n : Int)) / 2 = (h : Int) := by omega
              exact all_flat ⟨⟨⟨by omega, by omega⟩, ⟨by omega, by omega⟩, by rw [eh], ⟨by omega, by omega⟩, by rw [IntKind.wrap_i64]; omega, ⟨by omega, by omega⟩, ⟨by omega, by omega⟩, ⟨by omega, by omega⟩, ⟨by omega, by omega⟩, trivial⟩, all_qL _, ⟨⟨by omega, by omega⟩, hc, trivial⟩, all_qL _, trivial⟩
            have hmid : At Try.prog w ⟨[(ρ 2).1], ρ, []⟩ Try.f28.ntmps [] (rp Try.f28 11) (DirQ w (ρ 2).1 TOT TOT.length) ((14, .s (.lf (.ptr 9013 0 0 0 0))) :: tmz0 p i0 n c KI tx ta ct i L.length 2904 (3 - (dl : Int))) ((9013, ⟨[.one (.v (stv P)), .one (.v (.int .i64 q)), .one (.v (stv []))], true, none⟩) :: rowsd0 N tx L L.length 2904) := by
              have hcase : q = 1 ∨ q = 2 ∨ q = 3 ∨ q = 4 := by omega
              rcases hcase with rfl | rfl | rfl | rfl
              · exact tail0_1 N tx ta ct p i0 n c k i L L.length _ w ρ _ _ e1 hn hi hc e3 (by omega) KI ⟨by omega, by omega⟩ P hT (hS _) (hnext 1 _ (hstep 1 _ hqB rfl (by omega)))
              · exact tail0_2 N tx ta ct p i0 n c k i L L.length _ w ρ _ _ e1 hn hi hc e3 (by omega) KI ⟨by omega, by omega⟩ P hT (hS _) (hnext 2 _ (hstep 2 _ hqB rfl (by omega)))
              · exact tail0_3 N tx ta ct p i0 n c k i L L.length _ w ρ _ _ e1 hn hi hc e3 (by omega) KI ⟨by omega, by omega⟩ P (hnext 3 _ (hstep 3 _ hqB (by rw [textL_nms]; rfl) (by omega)))
              · cases dl with
                | zero => exact tail0_4 N tx ta ct p i0 n c k i L L.length _ w ρ _ _ e1 hn hi hc e3 (by omega) KI ⟨by omega, by omega⟩ P (by omega) (hnext 4 _ (hstep 4 _ hqB rfl (by omega)))
                | succ d => exact tail0_4d N tx ta ct p i0 n c k i L L.length _ w ρ _ _ e1 hn hi hc e3 (by omega) KI ⟨by omega, by omega⟩ P (by omega) (hdown d rfl hqB)
            rw [hKI] at hmid
            by_cases hpe : p = []
            · refine head0_0 N tx ta ct p i0 n c k i L L.length _ w ρ _ _ q e1 hn hi e2 e3 (by omega) hqI hpe (by omega) ?_
              rw [show nmL (((k : Int) + ((nsf N (addN i0 i)).toNat : Int) % 3)).toNat = P by rw [hKn, hP, hpe]; rfl]
              exact hmid
            · refine head0_1 N tx ta ct p i0 n c k i L L.length _ w ρ _ _ q e1 hn hi e2 e3 (by omega) hqI hpe (by omega) ?_
              rw [show (p ++ [47]) ++ nmL (((k : Int) + ((nsf N (addN i0 i)).toNat : Int) % 3)).toNat = P by rw [hKn, hP]; unfold joinL; rw [if_neg hpe]; simp]
              exact hmid
          · have hL : L = TOT := by rw [← hE, dir_out tx g dl p ns k L.length i (by omega) e2 e3 (by rw [hA]; omega), List.append_nil]
            rw [hL]
            rw [hL] at e3
            exact At.finR rfl [(2005004, .val (.v (.bool true))), (2005009, .val (.v (.bool true))), (2005014, .val (.v (.bool true)))] ⟨trivial, trivial, trivial, trivial⟩ [.y, .y] (rows2 := [(2904, rowN TOT TOT.length)]) (x := .s (.lf (.sl 2904 0 0 3 TOT.length none)))
              (ob := [o1 N i0 n k i TOT.length, [decide (((k : Int) + ((nsf N (addN i0 i)).toNat : Int) % 3) ≥ ((6 : Nat) : Int)) = true]].flatten) (by kernel_rfl) (all_flat ⟨o1_ok e1 hn hi e2 e3, ⟨decide_eq_true (by omega), trivial⟩, trivial⟩) (hfin 2904)
        · have hL := hend (by omega)
          rw [hL]
          rw [hL] at e3
          exact At.finR rfl [(2005004, .val (.v (.bool true))), (2005009, .val (.v (.bool true))), (2005014, .val (.v (.bool false)))] ⟨trivial, trivial, trivial, trivial⟩ [.n] (rows2 := [(2904, rowN TOT TOT.length)]) (x := .s (.lf (.sl 2904 0 0 3 TOT.length none)))
            (ob := [inI ((i : Int) + 2), vB (decide ((i : Int) + 2 < (n : Int))) true, vB (decide ((k : Int) < ((6 : Nat) : Int))) true, vB (decide ((TOT.length : Int) < 14)) false, false = false]) (by kernel_rfl) ⟨⟨by omega, by omega⟩, by show TV.v _ = TV.v _; rw [decide_eq_true (by omega)], by show TV.v _ = TV.v _; rw [decide_eq_true (by omega)], by show TV.v _ = TV.v _; rw [decide_eq_false (by omega)], rfl, trivial⟩ (hfin 2904)
      · have hL := hend (by omega)
        rw [hL]
        exact At.finR rfl [(2005004, .val (.v (.bool true))), (2005009, .val (.v (.bool false)))] ⟨trivial, trivial, trivial⟩ [.n] (rows2 := [(2904, rowN TOT TOT.length)]) (x := .s (.lf (.sl 2904 0 0 3 TOT.length none)))
          (ob := [inI ((i : Int) + 2), vB (decide ((i : Int) + 2 < (n : Int))) true, vB (decide ((k : Int) < ((6 : Nat) : Int))) false, false = false]) (by kernel_rfl) ⟨⟨by omega, by omega⟩, by show TV.v _ = TV.v _; rw [decide_eq_true (by omega)], by show TV.v _ = TV.v _; rw [decide_eq_false (by omega)], rfl, trivial⟩ (hfin 2904)
    · have hL := hend (by omega)
      rw [hL]
      exact At.finR rfl [(2005004, .val (.v (.bool false)))] ⟨trivial, trivial⟩ [.n] (rows2 := [(2904, rowN TOT TOT.length)]) (x := .s (.lf (.sl 2904 0 0 3 TOT.length none)))
        (ob := [inI ((i : Int) + 2), vB (decide ((i : Int) + 2 < (n : Int))) false, false = false]) (by kernel_rfl) ⟨⟨by omega, by omega⟩, by show TV.v _ = TV.v _; rw [decide_eq_false (by omega)], rfl, trivial⟩ (hfin 2904)
  have h0 := hloop (0, 0, l) ⟨Nat.zero_le _, Nat.zero_le _, Nat.zero_le _, by show l.length ≤ 16; omega, f, by show n - 0 < f; omega, by show l ++ dirL tx f dl p (ns.drop 0) 0 l.length = TOT; rw [hTOT, List.drop_zero, hm]⟩
  dsimp only at h0
  rw [← hm] at h0
  refine At.run rfl [] trivial [] (tm2 := tmd0 p i0 n c 0 tx ta ct 0 m 2 (3 - (dl : Int))) (rows2 := [(0, numRow N), (2, rowN l m), (2000, ⟨[.fnc (chunkF [stv [97], stv [98, 46, 99], stv [98, 105, 110], stv [108, 105, 98], stv [120, 32, 121], stv [122]] 1 6) 1 6], true, some (9, 1)⟩)]) (ob := []) (td := lp Try.f28 0) (by kernel_rfl) trivial rfl rfl (by intro h; cases h) ?_
  refine At.rows (rows2 := [(0, numRow N), (2, rowN l m), (2000, nmRow)]) (rowsEq_same (rowsEq_same (rowsEq_fnc names_row trivial))) rfl ?_
  exact At.ren [(2904, 2)] (tmd0 p i0 n c 0 tx ta ct 0 m 2904 (3 - (dl : Int))) (rowsd0 N tx l m 2904) rfl rfl rfl rfl rfl h0
theorem dir_any0 (N : List UInt8) (tx : List (List UInt8)) (ta : Option Addr) (ct : Nat) (hT : TxSrc (TV.v (.slice ta 0 ct)) [] tx) (h300 : ∀ t ∈ tx, t.length ≤ 300) : ∀ dl, dl ≤ 3 → DirOk0 N tx ta ct dl
  | 0, h => dir_lvl0 N tx ta ct hT h300 0 h fun d hd => by omega
  | dl + 1, h => dir_lvl0 N tx ta ct hT h300 (dl + 1) h fun d hd => by
    obtain rfl : dl = d := by omega
    exact dir_any0 N tx ta ct hT h300 dl (by omega)
end
end Go.Proofs.Ytglipljilcdboaa
