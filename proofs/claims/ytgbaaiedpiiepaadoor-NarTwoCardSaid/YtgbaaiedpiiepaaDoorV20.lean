/- Several texts, one behind the other; each says by itself what it proves, and on what conditions. -/
import Derived.Test.YtgbaaiedpiiepaaDoorV19
/- Of the laws: files behind a directory, nodes in a directory, by numbers, put behind a list of the call's own. Its conditions: lengths that fit. -/
namespace Go.Proofs.YtgbaaiedpiiepaaDoor
open Go.RowKit Go.Shelf
set_option linter.unusedVariables false
set_option linter.unusedSimpArgs false
section
open E
def nsf (ns : List UInt8) (i : Nat) : UInt8 := ns.getD i 0
abbrev numRow (ns : List UInt8) : Row := ⟨[.fnc (fun i => [.int .u8 ((nsf ns i).toNat : Int)]) 1 ns.length], false, none⟩
def txf (l : List (List UInt8)) (i : Nat) : List UInt8 := l.getD i []
abbrev txtRow (l : List (List UInt8)) : Row := ⟨[.fnc (fun i => [stv (txf l i)]) 1 l.length], false, none⟩
abbrev nmRow : Row := ⟨[.fnc (fun i => [stv (nmL i)]) 1 6], true, some (9, 1)⟩
abbrev ndc (l : List Nd) : Nat → List Value := fun i => [stv (ndf l i).path, .int .i64 (ndf l i).kind, stv (ndf l i).data]
abbrev rowN (l : List Nd) (n : Nat) : Row := ⟨[.fnc (ndc l) 3 n], true, some (42, 3)⟩
/-- Where texts lie: what a run knows of them. -/
def TxSrc (tv : TV) (rl : List (Nat × Row)) (l : List (List UInt8)) : Prop := ∀ (ρ : Env) (w : World), (∀ p ∈ rl, RowAt ρ p.1 p.2 w) → TxtV w (tv.val ρ) l
theorem txs_nil (a : Option Addr) (cap : Nat) : TxSrc (.v (.slice a 0 cap)) [] [] := fun ρ w _ => ⟨by simp, a, cap, rfl, fun h => absurd h (Nat.lt_irrefl _)⟩
theorem txs_row (r cap : Nat) (l : List (List UInt8)) (hl : l.length ≤ 9223372036854775807) : TxSrc (.s (.lf (.sl r 0 0 1 l.length (some cap)))) [(r, txtRow l)] l := fun ρ w h => by
  have h2 := h (r, txtRow l) (by simp)
  refine ⟨hl, _, cap, rfl, fun h0 => ⟨_, _, rfl, h2.1, fun i hi => ?_⟩⟩
  refine (h2.2.1 i (strV l[i]) ?_).1
  rw [lst_fnc, flat_get (f := fun i => [stv (txf l i)]) (k := 1) (by omega) l.length (fun _ _ => rfl) i (by omega), Nat.div_one, Nat.mod_one]
  simp [txf, hi]
theorem ent45 : Enters Tryd.prog 45 := enters_of Tryd.func45 (by kernel_rfl) rfl
abbrev hText (tv : TV) (rl : List (Nat × Row)) (i : Nat) (s : List UInt8) : Hint := pr 45 (fun ρ => #[tv.val ρ, .int .i64 (i : Int)]) (.v (stv s)) rl
theorem hText_ok (id : Nat) {tv : TV} {rl : List (Nat × Row)} {l : List (List UInt8)} (hS : TxSrc tv rl l) (i : Nat) (hi : i ≤ 9223372036854775807) : HintOk Tryd.prog id (hText tv rl i (textL l i)) :=
  pr_ok ent45 (v := stv (textL l i)) rfl (fun _ => rfl) fun ρ w h => (text_one (hS ρ w h) i hi).mono (by rintro e w' ⟨rfl, hb⟩; first | exact ⟨rfl, hb⟩ | (subst hb; exact ⟨rfl, Below.refl _ _⟩))
theorem init_rw {w : World} {wr : List Nat} {ρ : Env} {args : List TV} {rows : List (Nat × Row)} (hok : okL args) (hi : args.all (fun x => x.ids.all (hasN (rows.map (·.1)))) = true) (hp : rows.all (fun p => (pids p.2.ps).all (hasN (rows.map (·.1)))) = true) (hl : rows.all (fun p => Nat.ble (p.1 + 1) 500) = true)
    (hr : ∀ p ∈ rows, RowAt ρ p.1 p.2 w ∧ pok p.2.ps) (hw : ∀ p ∈ rows, p.2.w = true → (ρ p.1).1 ∈ wr) (hd : PreDs ρ rows) : Init w wr ρ args rows [] := by
  have e : rows.map (·.1) ++ ([] : List Nat).map (500 + ·) = rows.map (·.1) := by simp
  refine ⟨fun x hx => ⟨okL_mem hok x hx, fun r hr2 => ?_⟩, fun p hpm => ⟨(hr p hpm).1, (hr p hpm).2, fun q hq => ?_, hw p hpm⟩, hd, fun g _ hg => ?_⟩
  · rw [e]; exact List.all_eq_true.1 (List.all_eq_true.1 hi x hx) r hr2
  · rw [e]; exact List.all_eq_true.1 (List.all_eq_true.1 hp p hpm) q hq
  · rw [e] at hg
    obtain ⟨p, hpm, hpe⟩ := List.mem_map.1 (hasN_iff.1 hg)
    have := Nat.le_of_ble_eq_true (List.all_eq_true.1 hl p hpm)
    omega
theorem pok1 {f : Nat → List Value} {k n : Nat} (h : ∀ i, (f i).length = k ∧ ∀ v ∈ f i, v.oneCell' = true) : pok [Pc.fnc f k n] := by
  intro p hp
  simp at hp
  subst hp
  exact fun i _ => h i
theorem num_ok (ns : List UInt8) : pok (numRow ns).ps := pok1 fun i => ⟨rfl, fun v hv => by simp at hv; subst hv; rfl⟩
theorem txt_ok (l : List (List UInt8)) : pok (txtRow l).ps := pok1 fun i => ⟨rfl, fun v hv => by simp at hv; subst hv; rfl⟩
theorem rowN_ok (l : List Nd) (n : Nat) : pok (rowN l n).ps := pok1 fun i => ⟨rfl, fun v hv => by simp at hv; rcases hv with rfl | rfl | rfl <;> rfl⟩
theorem rowAt_mv {ρ σ : Env} {r q : Nat} {f : Nat → List Value} {k n : Nat} {wr : Bool} {cp : Option (TypeId × Nat)} {w : World} (h : RowAt ρ r ⟨[.fnc f k n], wr, cp⟩ w) (e : σ q = ρ r) : RowAt σ q ⟨[.fnc f k n], wr, cp⟩ w := by
  unfold RowAt at h ⊢
  rw [e]
  exact h
/-- What a call makes of a list of its own. -/
def LOut (w : World) (b0 : Nat) (L : List Nd) (n : Nat) (e : Ending) (w' : World) : Prop := ∃ B : Blk, e = .returned (.slice (some ⟨B.1, 0, none⟩) n B.3) ∧ B.2 = 0 ∧ Fr w [b0] w' ∧ (w.heap.size ≤ B.1 ∨ B.1 = b0) ∧ RowAt (fun _ => B) 0 (rowN L n) w'
theorem lout_fin {w w' : World} {ρ : Env} {r b0 n : Nat} {L : List Nd} (hf : Fr w [b0] w') (h : RowAt ρ r (rowN L n) w') (hb : w.heap.size ≤ (ρ r).1 ∨ (ρ r).1 ∈ [b0]) : LOut w b0 L n (.returned ((TV.s (.lf (.sl r 0 0 3 n none))).val ρ)) w' := by
  have h0 : (ρ r).2 = 0 := (h.2.2.1 42 3 rfl).1
  refine ⟨ρ r, ?_, h0, hf, ?_, rowAt_mv h rfl⟩
  · show Ending.returned (.slice (some ⟨(ρ r).1, (ρ r).2 + (0 + 0 * 3), none⟩) n ((ρ r).3 - 0)) = _
    rw [h0]; rfl
  · rcases hb with hb | hb
    · exact .inl hb
    · exact .inr (List.mem_singleton.1 hb)
theorem row_step (L : List Nd) (c : Nd) (n : Nat) (hn : n = L.length) : ∀ i, i < n + 1 → appF (ndc L) n (fun q => chunkF [stv c.path, .int .i64 c.kind, stv c.data] 3 1 (addN 0 q)) i = ndc (L ++ [c]) i := by
  intro i hi
  subst hn
  by_cases h : i < L.length
  · rw [appF_lo h]
    have : ndf (L ++ [c]) i = ndf L i := by unfold ndf; rw [List.getD_eq_getElem?_getD, List.getElem?_append_left h, ← List.getD_eq_getElem?_getD]
    show _ = [stv (ndf (L ++ [c]) i).path, .int .i64 (ndf (L ++ [c]) i).kind, stv (ndf (L ++ [c]) i).data]
    rw [this]
  · obtain rfl : i = L.length := by omega
    rw [appF_hi (Nat.le_refl _), Nat.sub_self]
    have : ndf (L ++ [c]) L.length = c := by unfold ndf; simp
    show _ = [stv (ndf (L ++ [c]) L.length).path, .int .i64 (ndf (L ++ [c]) L.length).kind, stv (ndf (L ++ [c]) L.length).data]
    rw [this]
    rfl
/-! ### dir2 -/
def d2n (n k cnt : Nat) : Nat := min n (min (6 - k) (16 - cnt))
theorem d2_len (texts : List (List UInt8)) (p : List UInt8) : ∀ (ns : List UInt8) (k cnt : Nat), (dir2L texts p ns k cnt).length = d2n ns.length k cnt
  | [], k, cnt => by simp [dir2L, d2n]
  | a :: ns, k, cnt => by
    unfold dir2L
    by_cases h : k < 6 ∧ cnt < 16
    · rw [if_pos h, List.length_cons, d2_len texts p ns, List.length_cons]; unfold d2n; omega
    · rw [if_neg h, List.length_cons, List.length_nil]; unfold d2n; omega
theorem d2_get (texts : List (List UInt8)) (p : List UInt8) : ∀ (ns : List UInt8) (k cnt j : Nat), j < d2n ns.length k cnt → (dir2L texts p ns k cnt)[j]? = some ⟨joinL p (nmL (k + j)), 1, textL texts (nsf ns j).toNat⟩
  | [], k, cnt, j, h => by simp [d2n] at h
  | a :: ns, k, cnt, j, h => by
    have h6 : k < 6 ∧ cnt < 16 := by unfold d2n at h; omega
    unfold dir2L
    rw [if_pos h6]
    cases j with
    | zero => rfl
    | succ j =>
      rw [List.getElem?_cons_succ, d2_get texts p ns (k + 1) (cnt + 1) j (by rw [List.length_cons] at h; unfold d2n at h ⊢; omega)]
      rw [show k + 1 + j = k + (j + 1) by omega]
      rfl
theorem d2_step (texts : List (List UInt8)) (p : List UInt8) (ns : List UInt8) (k cnt j : Nat) (h : j < d2n ns.length k cnt) : (dir2L texts p ns k cnt).take (j + 1) = (dir2L texts p ns k cnt).take j ++ [⟨joinL p (nmL (k + j)), 1, textL texts (nsf ns j).toNat⟩] := by
  rw [List.take_add_one, d2_get texts p ns k cnt j h]
  rfl
theorem nsf_cut (N : List UInt8) (i0 n j : Nat) (hj : j < n) : nsf ((N.drop i0).take n) j = nsf N (i0 + j) := by
  unfold nsf
  rw [List.getD_eq_getElem?_getD, List.getD_eq_getElem?_getD, List.getElem?_take, if_pos hj, List.getElem?_drop]
theorem names_row : ∀ i, i < 6 → chunkF [stv [97], stv [98, 46, 99], stv [98, 105, 110], stv [108, 105, 98], stv [120, 32, 121], stv [122]] 1 6 i = [stv (nmL i)] := by
  intro i hi
  have : i = 0 ∨ i = 1 ∨ i = 2 ∨ i = 3 ∨ i = 4 ∨ i = 5 := by omega
  rcases this with rfl | rfl | rfl | rfl | rfl | rfl <;> rfl
abbrev tm2d1 (l : List Nd) (p : List UInt8) (i0 n c k : Nat) (tx : List (List UInt8)) (ta : Option Addr) (ct m j R : Nat) : List (Nat × TV) := [(0, .s (.lf (.sl R 0 0 3 (m + j) none))), (1, .v (stv p)), (2, .s (.lf (.sl 0 0 i0 1 n (some c)))), (3, (TV.s (.lf (.sl 1 0 0 1 tx.length (some ct))))), (4, .int .i64 k), (11, .s (.lf (.sl 2000 0 0 1 6 none))), (12, .int .i64 j)]
abbrev rows2d1 (N : List UInt8) (tx : List (List UInt8)) (L : List Nd) (m R : Nat) : List (Nat × Row) := [(0, numRow N), (1, txtRow tx), (R, rowN L m), (2000, nmRow)]
set_option maxRecDepth 100000 in
set_option maxHeartbeats 2000000 in
theorem dir2_run1 (N : List UInt8) (tx : List (List UInt8)) (ta : Option Addr) (ct : Nat) (hT : TxSrc (TV.s (.lf (.sl 1 0 0 1 tx.length (some ct)))) [(1, txtRow tx)] tx) (l : List Nd) (m : Nat) (hm : m = l.length) (hm2 : m ≤ 1000000) (p : List UInt8) (hp : p.length ≤ 1000000) (i0 n c k : Nat) (hi : i0 + n ≤ N.length) (hn : n ≤ 9223372036854775807) (hk : k ≤ 1000000)
    (ρ : Env) (w : World) (hr : ∀ q ∈ ([(0, numRow N), (1, txtRow tx), (2, rowN l m)] : List (Nat × Row)), RowAt ρ q.1 q.2 w) (hd : PreDs ρ [(0, numRow N), (1, txtRow tx), (2, rowN l m)]) :
    Calls Tryd.prog 61 #[(TV.s (.lf (.sl 2 0 0 3 m none))).val ρ, strV p, (TV.s (.lf (.sl 0 0 i0 1 n (some c)))).val ρ, (TV.s (.lf (.sl 1 0 0 1 tx.length (some ct)))).val ρ, .int .i64 k] w (LOut w (ρ 2).1 (l ++ dir2L tx p ((N.drop i0).take n) k m) (m + d2n n k m)) := by
  obtain ⟨ns, hns⟩ : ∃ ns, ns = (N.drop i0).take n := ⟨_, rfl⟩
  have hnl : ns.length = n := by rw [hns, List.length_take, List.length_drop]; omega
  rw [← hns]
  have hE : l ++ dir2L tx p ns k m = l ++ (dir2L tx p ns k m).take (d2n n k m) := by rw [List.take_of_length_le (by rw [d2_len, hnl]; exact Nat.le_refl _)]
  refine At.calls (args := [.s (.lf (.sl 2 0 0 3 m none)), .v (stv p), .s (.lf (.sl 0 0 i0 1 n (some c))), (TV.s (.lf (.sl 1 0 0 1 tx.length (some ct)))), .int .i64 k]) (rows := [(0, numRow N), (1, txtRow tx), (2, rowN l m)]) (gl := []) (wr := [(ρ 2).1]) (ρ := ρ) Tryd.func61 rfl rfl (init_rw ⟨trivial, rfl, trivial, trivial, rfl, trivial⟩ rfl rfl rfl (fun q hq => ⟨hr q hq, ?_⟩) (fun q hq hw => ?_) hd) rfl ?_
  · simp only [List.mem_cons, List.not_mem_nil, or_false] at hq
    rcases hq with rfl | rfl | rfl
    · exact num_ok N
    · exact txt_ok tx
    · exact rowN_ok l m
  · simp only [List.mem_cons, List.not_mem_nil, or_false] at hq
    rcases hq with rfl | rfl | rfl
    · cases hw
    · cases hw
    · simp
  have hloop : ∀ j : Nat, j ≤ d2n n k m → At Tryd.prog w ⟨[(ρ 2).1], ρ, []⟩ Tryd.f61.ntmps [] (lp Tryd.f61 0) (EndX Tryd.prog Tryd.f61 (LOut w (ρ 2).1 (l ++ dir2L tx p ns k m) (m + d2n n k m))) (tm2d1 l p i0 n c k tx ta ct m j 2904) (rows2d1 N tx (l ++ (dir2L tx p ns k m).take j) (m + j) 2904) := by
    refine At.loop (fun j : Nat => tm2d1 l p i0 n c k tx ta ct m j 2904) (fun j => rows2d1 N tx (l ++ (dir2L tx p ns k m).take j) (m + j) 2904) (fun j => j ≤ d2n n k m) (fun j => d2n n k m - j) fun j hj ih => ?_
    by_cases h : j < d2n n k m
    · have h1 : j < n ∧ k + j < 6 ∧ m + j < 16 := by unfold d2n at h; omega
      obtain ⟨h1, h2, h3⟩ := h1
      have hnj : (nsf N (addN i0 j)) = nsf ns j := by rw [addN_eq, hns, nsf_cut N i0 n j h1]
      have hb : (nsf N (addN i0 j)).toNat < 256 := (nsf N (addN i0 j)).toNat_lt
      have hwr : IntKind.i64.wrap ((nsf N (addN i0 j)).toNat : Int) = ((nsf N (addN i0 j)).toNat : Int) := by rw [IntKind.wrap_i64]; omega
      have hnm := nm_len (k + j)
      have hstep := d2_step tx p ns k m j (by rw [hnl]; exact h)
      have hjl : (l ++ (dir2L tx p ns k m).take j).length = m + j := by rw [List.length_append, List.length_take, d2_len, hnl, ← hm]; omega
      have hnext : At Tryd.prog w ⟨[(ρ 2).1], ρ, []⟩ Tryd.f61.ntmps [] (lp Tryd.f61 0) (EndX Tryd.prog Tryd.f61 (LOut w (ρ 2).1 (l ++ dir2L tx p ns k m) (m + d2n n k m))) (tm2d1 l p i0 n c k tx ta ct m (j + 1) 9003)
          [(0, numRow N), (1, txtRow tx), (9003, ⟨[.fnc (appF (ndc (l ++ (dir2L tx p ns k m).take j)) (m + j) fun q => chunkF [stv (joinL p (nmL (k + j))), .int .i64 1, stv (textL tx (nsf N (addN i0 j)).toNat)] 3 1 (addN 0 q)) 3 (m + j + 1)], true, some (42, 3)⟩), (2000, nmRow)] := by
        refine At.rows (rows2 := [(0, numRow N), (1, txtRow tx), (9003, rowN (l ++ (dir2L tx p ns k m).take (j + 1)) (m + j + 1)), (2000, nmRow)]) (rowsEq_same (rowsEq_same (rowsEq_fnc (fun i hi => ?_) (rowsEq_same trivial)))) rfl ?_
        · rw [hstep, ← List.append_assoc, hnj]
          exact row_step _ ⟨joinL p (nmL (k + j)), 1, textL tx (nsf ns j).toNat⟩ (m + j) hjl.symm i hi
        · exact At.ren [(2904, 9003)] (tm2d1 l p i0 n c k tx ta ct m (j + 1) 2904) (rows2d1 N tx (l ++ (dir2L tx p ns k m).take (j + 1)) (m + (j + 1)) 2904) rfl rfl rfl rfl rfl (ih (j + 1) (by omega) (by omega))
      by_cases hpe : p = []
      · have e1 : joinL p (nmL (k + j)) = nmL (k + j) := by unfold joinL; rw [if_pos hpe]
        rw [e1] at hnext
        refine At.run rfl [(2004003, .val (.v (.bool true))), (2004010, .val (.v (.bool true))), (2004015, .val (.v (.bool true))), (6012, hText (TV.s (.lf (.sl 1 0 0 1 tx.length (some ct)))) [(1, txtRow tx)] (nsf N (addN i0 j)).toNat (textL tx (nsf N (addN i0 j)).toNat))] ⟨trivial, trivial, trivial, hText_ok _ hT _ (by omega), trivial⟩ [.y, .n] (tm2 := tm2d1 l p i0 n c k tx ta ct m (j + 1) 9003)
          (rows2 := [(0, numRow N), (1, txtRow tx), (9003, ⟨[.fnc (appF (ndc (l ++ (dir2L tx p ns k m).take j)) (m + j) fun q => chunkF [stv (nmL (k + j)), .int .i64 1, stv (textL tx (nsf N (addN i0 j)).toNat)] 3 1 (addN 0 q)) 3 (m + j + 1)], true, some (42, 3)⟩), (2000, nmRow)]) (td := lp Tryd.f61 0)
          (ob := [[TV.v (.bool (decide ((j : Int) < (n : Int)))) = TV.v (.bool true), inI ((k : Int) + (j : Int)), TV.v (.bool (decide ((k : Int) + (j : Int) < ((6 : Nat) : Int)))) = TV.v (.bool true), TV.v (.bool (decide (((m + j : Nat) : Int) < 16))) = TV.v (.bool true), true = true, inI ((k : Int) + (j : Int)), 0 ≤ (k : Int) + (j : Int) ∧ (k : Int) + (j : Int) < ((6 : Nat) : Int), k + j < 6, 0 ≤ (j : Int) ∧ (j : Int) < (n : Int), addN i0 j < N.length, IntKind.i64.wrap ((nsf N (addN i0 j)).toNat : Int) = ((nsf N (addN i0 j)).toNat : Int)],
            qL (hText (TV.s (.lf (.sl 1 0 0 1 tx.length (some ct)))) [(1, txtRow tx)] (nsf N (addN i0 j)).toNat (textL tx (nsf N (addN i0 j)).toNat)), [(!(lb ⟨p.toArray⟩ == lb ⟨#[]⟩)) = false, m + j = m + j, m + j + 1 ≤ 9223372036854775807, (m + j + 1) * 40 ≤ 140737488355328, 1 ≤ 1, inI ((j : Int) + 1)]].flatten) (by kernel_rfl) ?_ rfl rfl (by intro h; cases h) hnext
        exact all_flat ⟨⟨by rw [decide_eq_true (by omega)], ⟨by omega, by omega⟩, by rw [decide_eq_true (by omega)], by rw [decide_eq_true (by omega)], rfl, ⟨by omega, by omega⟩, ⟨by omega, by omega⟩, h2, ⟨by omega, by omega⟩, by rw [addN_eq]; omega, hwr, trivial⟩, all_qL _, ⟨by rw [hpe]; rfl, rfl, by omega, by omega, by omega, ⟨by omega, by omega⟩, trivial⟩, trivial⟩
      · have e1 : joinL p (nmL (k + j)) = (p ++ [47]) ++ nmL (k + j) := by unfold joinL; rw [if_neg hpe]; simp
        rw [e1] at hnext
        have hpl : (lb ⟨p.toArray⟩).length = p.length := rfl
        refine At.run rfl [(2004003, .val (.v (.bool true))), (2004010, .val (.v (.bool true))), (2004015, .val (.v (.bool true))), (6012, hText (TV.s (.lf (.sl 1 0 0 1 tx.length (some ct)))) [(1, txtRow tx)] (nsf N (addN i0 j)).toNat (textL tx (nsf N (addN i0 j)).toNat))] ⟨trivial, trivial, trivial, hText_ok _ hT _ (by omega), trivial⟩ [.y, .y] (tm2 := tm2d1 l p i0 n c k tx ta ct m (j + 1) 9003)
          (rows2 := [(0, numRow N), (1, txtRow tx), (9003, ⟨[.fnc (appF (ndc (l ++ (dir2L tx p ns k m).take j)) (m + j) fun q => chunkF [stv ((p ++ [47]) ++ nmL (k + j)), .int .i64 1, stv (textL tx (nsf N (addN i0 j)).toNat)] 3 1 (addN 0 q)) 3 (m + j + 1)], true, some (42, 3)⟩), (2000, nmRow)]) (td := lp Tryd.f61 0)
          (ob := [[TV.v (.bool (decide ((j : Int) < (n : Int)))) = TV.v (.bool true), inI ((k : Int) + (j : Int)), TV.v (.bool (decide ((k : Int) + (j : Int) < ((6 : Nat) : Int)))) = TV.v (.bool true), TV.v (.bool (decide (((m + j : Nat) : Int) < 16))) = TV.v (.bool true), true = true, inI ((k : Int) + (j : Int)), 0 ≤ (k : Int) + (j : Int) ∧ (k : Int) + (j : Int) < ((6 : Nat) : Int), k + j < 6, 0 ≤ (j : Int) ∧ (j : Int) < (n : Int), addN i0 j < N.length, IntKind.i64.wrap ((nsf N (addN i0 j)).toNat : Int) = ((nsf N (addN i0 j)).toNat : Int)],
            qL (hText (TV.s (.lf (.sl 1 0 0 1 tx.length (some ct)))) [(1, txtRow tx)] (nsf N (addN i0 j)).toNat (textL tx (nsf N (addN i0 j)).toNat)), [(!(lb ⟨p.toArray⟩ == lb ⟨#[]⟩)) = true, ((lb ⟨p.toArray⟩).length : Int) + 1 ≤ 9223372036854775807, inI ((k : Int) + (j : Int)), 0 ≤ (k : Int) + (j : Int) ∧ (k : Int) + (j : Int) < ((6 : Nat) : Int), k + j < 6, (((p ++ [47]).length : Nat) : Int) + ((nmL (k + j)).length : Int) ≤ 9223372036854775807, m + j = m + j, m + j + 1 ≤ 9223372036854775807, (m + j + 1) * 40 ≤ 140737488355328, 1 ≤ 1, inI ((j : Int) + 1)]].flatten) (by kernel_rfl) ?_ rfl rfl (by intro h; cases h) hnext
        refine all_flat ⟨⟨by rw [decide_eq_true (by omega)], ⟨by omega, by omega⟩, by rw [decide_eq_true (by omega)], by rw [decide_eq_true (by omega)], rfl, ⟨by omega, by omega⟩, ⟨by omega, by omega⟩, h2, ⟨by omega, by omega⟩, by rw [addN_eq]; omega, hwr, trivial⟩, all_qL _, ⟨?_, by omega, ⟨by omega, by omega⟩, ⟨by omega, by omega⟩, h2, ?_, rfl, by omega, by omega, by omega, ⟨by omega, by omega⟩, trivial⟩, trivial⟩
        · cases p with
          | nil => exact absurd rfl hpe
          | cons a q => rfl
        · rw [List.length_append, List.length_cons, List.length_nil]; omega
    · obtain rfl : j = d2n n k m := by omega
      rw [← hE]
      have hfin : ∀ (ρ' : Env) (w' : World), Fr w [(ρ 2).1] w' → (∀ r, r < 1000 → ρ' r = ρ r) → (TV.s (.lf (.sl 2904 0 0 3 (m + d2n n k m) none))).ok → (∀ q ∈ ([(2904, rowN (l ++ dir2L tx p ns k m) (m + d2n n k m))] : List (Nat × Row)), RowAt ρ' q.1 q.2 w' ∧ pok q.2.ps ∧ (q.2.w = true → w.heap.size ≤ (ρ' q.1).1 ∨ (ρ' q.1).1 ∈ [(ρ 2).1])) → LOut w (ρ 2).1 (l ++ dir2L tx p ns k m) (m + d2n n k m) (.returned ((TV.s (.lf (.sl 2904 0 0 3 (m + d2n n k m) none))).val ρ')) w' := fun ρ' w' hf _ _ hq => by
        obtain ⟨g1, _, g3⟩ := hq _ (List.mem_singleton.2 rfl)
        exact lout_fin hf g1 (g3 rfl)
      by_cases h1 : d2n n k m < n
      · by_cases h2 : k + d2n n k m < 6
        · have h3 : ¬ m + d2n n k m < 16 := by unfold d2n at h1 h2 ⊢; omega
          exact At.finR rfl [(2004003, .val (.v (.bool true))), (2004010, .val (.v (.bool true))), (2004015, .val (.v (.bool false)))] ⟨trivial, trivial, trivial, trivial⟩ [.n] (rows2 := [(2904, rowN (l ++ dir2L tx p ns k m) (m + d2n n k m))]) (x := .s (.lf (.sl 2904 0 0 3 (m + d2n n k m) none)))
            (ob := [TV.v (.bool (decide ((d2n n k m : Int) < (n : Int)))) = TV.v (.bool true), inI ((k : Int) + (d2n n k m : Int)), TV.v (.bool (decide ((k : Int) + (d2n n k m : Int) < ((6 : Nat) : Int)))) = TV.v (.bool true), TV.v (.bool (decide (((m + d2n n k m : Nat) : Int) < 16))) = TV.v (.bool false), false = false]) (by kernel_rfl) ⟨by rw [decide_eq_true (by omega)], ⟨by omega, by omega⟩, by rw [decide_eq_true (by omega)], by rw [decide_eq_false (by omega)], rfl, trivial⟩ hfin
        · exact At.finR rfl [(2004003, .val (.v (.bool true))), (2004010, .val (.v (.bool false)))] ⟨trivial, trivial, trivial⟩ [.n] (rows2 := [(2904, rowN (l ++ dir2L tx p ns k m) (m + d2n n k m))]) (x := .s (.lf (.sl 2904 0 0 3 (m + d2n n k m) none)))
            (ob := [TV.v (.bool (decide ((d2n n k m : Int) < (n : Int)))) = TV.v (.bool true), inI ((k : Int) + (d2n n k m : Int)), TV.v (.bool (decide ((k : Int) + (d2n n k m : Int) < ((6 : Nat) : Int)))) = TV.v (.bool false), false = false]) (by kernel_rfl) ⟨by rw [decide_eq_true (by omega)], ⟨by unfold d2n; omega, by unfold d2n; omega⟩, by rw [decide_eq_false (by omega)], rfl, trivial⟩ hfin
      · exact At.finR rfl [(2004003, .val (.v (.bool false)))] ⟨trivial, trivial⟩ [.n] (rows2 := [(2904, rowN (l ++ dir2L tx p ns k m) (m + d2n n k m))]) (x := .s (.lf (.sl 2904 0 0 3 (m + d2n n k m) none)))
            (ob := [TV.v (.bool (decide ((d2n n k m : Int) < (n : Int)))) = TV.v (.bool false), false = false]) (by kernel_rfl) ⟨by rw [decide_eq_false (by omega)], rfl, trivial⟩ hfin
  have h0 := hloop 0 (Nat.zero_le _)
  rw [List.take_zero, List.append_nil] at h0
  refine At.run rfl [] trivial [] (tm2 := tm2d1 l p i0 n c k tx ta ct m 0 2) (rows2 := [(0, numRow N), (1, txtRow tx), (2, rowN l (m + 0)), (2000, ⟨[.fnc (chunkF [stv [97], stv [98, 46, 99], stv [98, 105, 110], stv [108, 105, 98], stv [120, 32, 121], stv [122]] 1 6) 1 6], true, some (9, 1)⟩)]) (ob := []) (td := lp Tryd.f61 0) (by kernel_rfl) trivial rfl rfl (by intro h; cases h) ?_
  refine At.rows (rows2 := [(0, numRow N), (1, txtRow tx), (2, rowN l (m + 0)), (2000, nmRow)]) (rowsEq_same (rowsEq_same (rowsEq_same (rowsEq_fnc names_row trivial)))) rfl ?_
  exact At.ren [(2904, 2)] (tm2d1 l p i0 n c k tx ta ct m 0 2904) (rows2d1 N tx l (m + 0) 2904) rfl rfl rfl rfl rfl h0
abbrev tm2d0 (l : List Nd) (p : List UInt8) (i0 n c k : Nat) (tx : List (List UInt8)) (ta : Option Addr) (ct m j R : Nat) : List (Nat × TV) := [(0, .s (.lf (.sl R 0 0 3 (m + j) none))), (1, .v (stv p)), (2, .s (.lf (.sl 0 0 i0 1 n (some c)))), (3, (TV.v (.slice ta 0 ct))), (4, .int .i64 k), (11, .s (.lf (.sl 2000 0 0 1 6 none))), (12, .int .i64 j)]
abbrev rows2d0 (N : List UInt8) (tx : List (List UInt8)) (L : List Nd) (m R : Nat) : List (Nat × Row) := [(0, numRow N), (R, rowN L m), (2000, nmRow)]
set_option maxRecDepth 100000 in
set_option maxHeartbeats 2000000 in
theorem dir2_run0 (N : List UInt8) (tx : List (List UInt8)) (ta : Option Addr) (ct : Nat) (hT : TxSrc (TV.v (.slice ta 0 ct)) [] tx) (l : List Nd) (m : Nat) (hm : m = l.length) (hm2 : m ≤ 1000000) (p : List UInt8) (hp : p.length ≤ 1000000) (i0 n c k : Nat) (hi : i0 + n ≤ N.length) (hn : n ≤ 9223372036854775807) (hk : k ≤ 1000000)
    (ρ : Env) (w : World) (hr : ∀ q ∈ ([(0, numRow N), (2, rowN l m)] : List (Nat × Row)), RowAt ρ q.1 q.2 w) (hd : PreDs ρ [(0, numRow N), (2, rowN l m)]) :
    Calls Tryd.prog 61 #[(TV.s (.lf (.sl 2 0 0 3 m none))).val ρ, strV p, (TV.s (.lf (.sl 0 0 i0 1 n (some c)))).val ρ, (TV.v (.slice ta 0 ct)).val ρ, .int .i64 k] w (LOut w (ρ 2).1 (l ++ dir2L tx p ((N.drop i0).take n) k m) (m + d2n n k m)) := by
  obtain ⟨ns, hns⟩ : ∃ ns, ns = (N.drop i0).take n := ⟨_, rfl⟩
  have hnl : ns.length = n := by rw [hns, List.length_take, List.length_drop]; omega
  rw [← hns]
  have hE : l ++ dir2L tx p ns k m = l ++ (dir2L tx p ns k m).take (d2n n k m) := by rw [List.take_of_length_le (by rw [d2_len, hnl]; exact Nat.le_refl _)]
  refine At.calls (args := [.s (.lf (.sl 2 0 0 3 m none)), .v (stv p), .s (.lf (.sl 0 0 i0 1 n (some c))), (TV.v (.slice ta 0 ct)), .int .i64 k]) (rows := [(0, numRow N), (2, rowN l m)]) (gl := []) (wr := [(ρ 2).1]) (ρ := ρ) Tryd.func61 rfl rfl (init_rw ⟨trivial, rfl, trivial, rfl, rfl, trivial⟩ rfl rfl rfl (fun q hq => ⟨hr q hq, ?_⟩) (fun q hq hw => ?_) hd) rfl ?_
  · simp only [List.mem_cons, List.not_mem_nil, or_false] at hq
    rcases hq with rfl | rfl
    · exact num_ok N
    
    · exact rowN_ok l m
  · simp only [List.mem_cons, List.not_mem_nil, or_false] at hq
    rcases hq with rfl | rfl
    · cases hw
    
    · simp
  have hloop : ∀ j : Nat, j ≤ d2n n k m → At Tryd.prog w ⟨[(ρ 2).1], ρ, []⟩ Tryd.f61.ntmps [] (lp Tryd.f61 0) (EndX Tryd.prog Tryd.f61 (LOut w (ρ 2).1 (l ++ dir2L tx p ns k m) (m + d2n n k m))) (tm2d0 l p i0 n c k tx ta ct m j 2904) (rows2d0 N tx (l ++ (dir2L tx p ns k m).take j) (m + j) 2904) := by
    refine At.loop (fun j : Nat => tm2d0 l p i0 n c k tx ta ct m j 2904) (fun j => rows2d0 N tx (l ++ (dir2L tx p ns k m).take j) (m + j) 2904) (fun j => j ≤ d2n n k m) (fun j => d2n n k m - j) fun j hj ih => ?_
    by_cases h : j < d2n n k m
    · have h1 : j < n ∧ k + j < 6 ∧ m + j < 16 := by unfold d2n at h; omega
      obtain ⟨h1, h2, h3⟩ := h1
      have hnj : (nsf N (addN i0 j)) = nsf ns j := by rw [addN_eq, hns, nsf_cut N i0 n j h1]
      have hb : (nsf N (addN i0 j)).toNat < 256 := (nsf N (addN i0 j)).toNat_lt
      have hwr : IntKind.i64.wrap ((nsf N (addN i0 j)).toNat : Int) = ((nsf N (addN i0 j)).toNat : Int) := by rw [IntKind.wrap_i64]; omega
      have hnm := nm_len (k + j)
      have hstep := d2_step tx p ns k m j (by rw [hnl]; exact h)
      have hjl : (l ++ (dir2L tx p ns k m).take j).length = m + j := by rw [List.length_append, List.length_take, d2_len, hnl, ← hm]; omega
      have hnext : At Tryd.prog w ⟨[(ρ 2).1], ρ, []⟩ Tryd.f61.ntmps [] (lp Tryd.f61 0) (EndX Tryd.prog Tryd.f61 (LOut w (ρ 2).1 (l ++ dir2L tx p ns k m) (m + d2n n k m))) (tm2d0 l p i0 n c k tx ta ct m (j + 1) 9003)
          [(0, numRow N), (9003, ⟨[.fnc (appF (ndc (l ++ (dir2L tx p ns k m).take j)) (m + j) fun q => chunkF [stv (joinL p (nmL (k + j))), .int .i64 1, stv (textL tx (nsf N (addN i0 j)).toNat)] 3 1 (addN 0 q)) 3 (m + j + 1)], true, some (42, 3)⟩), (2000, nmRow)] := by
        refine At.rows (rows2 := [(0, numRow N), (9003, rowN (l ++ (dir2L tx p ns k m).take (j + 1)) (m + j + 1)), (2000, nmRow)]) (rowsEq_same (rowsEq_fnc (fun i hi => ?_) (rowsEq_same trivial))) rfl ?_
        · rw [hstep, ← List.append_assoc, hnj]
          exact row_step _ ⟨joinL p (nmL (k + j)), 1, textL tx (nsf ns j).toNat⟩ (m + j) hjl.symm i hi
        · exact At.ren [(2904, 9003)] (tm2d0 l p i0 n c k tx ta ct m (j + 1) 2904) (rows2d0 N tx (l ++ (dir2L tx p ns k m).take (j + 1)) (m + (j + 1)) 2904) rfl rfl rfl rfl rfl (ih (j + 1) (by omega) (by omega))
      by_cases hpe : p = []
      · have e1 : joinL p (nmL (k + j)) = nmL (k + j) := by unfold joinL; rw [if_pos hpe]
        rw [e1] at hnext
        refine At.run rfl [(2004003, .val (.v (.bool true))), (2004010, .val (.v (.bool true))), (2004015, .val (.v (.bool true))), (6012, hText (TV.v (.slice ta 0 ct)) [] (nsf N (addN i0 j)).toNat (textL tx (nsf N (addN i0 j)).toNat))] ⟨trivial, trivial, trivial, hText_ok _ hT _ (by omega), trivial⟩ [.y, .n] (tm2 := tm2d0 l p i0 n c k tx ta ct m (j + 1) 9003)
          (rows2 := [(0, numRow N), (9003, ⟨[.fnc (appF (ndc (l ++ (dir2L tx p ns k m).take j)) (m + j) fun q => chunkF [stv (nmL (k + j)), .int .i64 1, stv (textL tx (nsf N (addN i0 j)).toNat)] 3 1 (addN 0 q)) 3 (m + j + 1)], true, some (42, 3)⟩), (2000, nmRow)]) (td := lp Tryd.f61 0)
          (ob := [[TV.v (.bool (decide ((j : Int) < (n : Int)))) = TV.v (.bool true), inI ((k : Int) + (j : Int)), TV.v (.bool (decide ((k : Int) + (j : Int) < ((6 : Nat) : Int)))) = TV.v (.bool true), TV.v (.bool (decide (((m + j : Nat) : Int) < 16))) = TV.v (.bool true), true = true, inI ((k : Int) + (j : Int)), 0 ≤ (k : Int) + (j : Int) ∧ (k : Int) + (j : Int) < ((6 : Nat) : Int), k + j < 6, 0 ≤ (j : Int) ∧ (j : Int) < (n : Int), addN i0 j < N.length, IntKind.i64.wrap ((nsf N (addN i0 j)).toNat : Int) = ((nsf N (addN i0 j)).toNat : Int)],
            qL (hText (TV.v (.slice ta 0 ct)) [] (nsf N (addN i0 j)).toNat (textL tx (nsf N (addN i0 j)).toNat)), [(!(lb ⟨p.toArray⟩ == lb ⟨#[]⟩)) = false, m + j = m + j, m + j + 1 ≤ 9223372036854775807, (m + j + 1) * 40 ≤ 140737488355328, 1 ≤ 1, inI ((j : Int) + 1)]].flatten) (by kernel_rfl) ?_ rfl rfl (by intro h; cases h) hnext
        exact all_flat ⟨⟨by rw [decide_eq_true (by omega)], ⟨by omega, by omega⟩, by rw [decide_eq_true (by omega)], by rw [decide_eq_true (by omega)], rfl, ⟨by omega, by omega⟩, ⟨by omega, by omega⟩, h2, ⟨by omega, by omega⟩, by rw [addN_eq]; omega, hwr, trivial⟩, all_qL _, ⟨by rw [hpe]; rfl, rfl, by omega, by omega, by omega, ⟨by omega, by omega⟩, trivial⟩, trivial⟩
      · have e1 : joinL p (nmL (k + j)) = (p ++ [47]) ++ nmL (k + j) := by unfold joinL; rw [if_neg hpe]; simp
        rw [e1] at hnext
        have hpl : (lb ⟨p.toArray⟩).length = p.length := rfl
        refine At.run rfl [(2004003, .val (.v (.bool true))), (2004010, .val (.v (.bool true))), (2004015, .val (.v (.bool true))), (6012, hText (TV.v (.slice ta 0 ct)) [] (nsf N (addN i0 j)).toNat (textL tx (nsf N (addN i0 j)).toNat))] ⟨trivial, trivial, trivial, hText_ok _ hT _ (by omega), trivial⟩ [.y, .y] (tm2 := tm2d0 l p i0 n c k tx ta ct m (j + 1) 9003)
          (rows2 := [(0, numRow N), (9003, ⟨[.fnc (appF (ndc (l ++ (dir2L tx p ns k m).take j)) (m + j) fun q => chunkF [stv ((p ++ [47]) ++ nmL (k + j)), .int .i64 1, stv (textL tx (nsf N (addN i0 j)).toNat)] 3 1 (addN 0 q)) 3 (m + j + 1)], true, some (42, 3)⟩), (2000, nmRow)]) (td := lp Tryd.f61 0)
          (ob := [[TV.v (.bool (decide ((j : Int) < (n : Int)))) = TV.v (.bool true), inI ((k : Int) + (j : Int)), TV.v (.bool (decide ((k : Int) + (j : Int) < ((6 : Nat) : Int)))) = TV.v (.bool true), TV.v (.bool (decide (((m + j : Nat) : Int) < 16))) = TV.v (.bool true), true = true, inI ((k : Int) + (j : Int)), 0 ≤ (k : Int) + (j : Int) ∧ (k : Int) + (j : Int) < ((6 : Nat) : Int), k + j < 6, 0 ≤ (j : Int) ∧ (j : Int) < (n : Int), addN i0 j < N.length, IntKind.i64.wrap ((nsf N (addN i0 j)).toNat : Int) = ((nsf N (addN i0 j)).toNat : Int)],
            qL (hText (TV.v (.slice ta 0 ct)) [] (nsf N (addN i0 j)).toNat (textL tx (nsf N (addN i0 j)).toNat)), [(!(lb ⟨p.toArray⟩ == lb ⟨#[]⟩)) = true, ((lb ⟨p.toArray⟩).length : Int) + 1 ≤ 9223372036854775807, inI ((k : Int) + (j : Int)), 0 ≤ (k : Int) + (j : Int) ∧ (k : Int) + (j : Int) < ((6 : Nat) : Int), k + j < 6, (((p ++ [47]).length : Nat) : Int) + ((nmL (k + j)).length : Int) ≤ 9223372036854775807, m + j = m + j, m + j + 1 ≤ 9223372036854775807, (m + j + 1) * 40 ≤ 140737488355328, 1 ≤ 1, inI ((j : Int) + 1)]].flatten) (by kernel_rfl) ?_ rfl rfl (by intro h; cases h) hnext
        refine all_flat ⟨⟨by rw [decide_eq_true (by omega)], ⟨by omega, by omega⟩, by rw [decide_eq_true (by omega)], by rw [decide_eq_true (by omega)], rfl, ⟨by omega, by omega⟩, ⟨by omega, by omega⟩, h2, ⟨by omega, by omega⟩, by rw [addN_eq]; omega, hwr, trivial⟩, all_qL _, ⟨?_, by omega, ⟨by omega, by omega⟩, ⟨by omega, by omega⟩, h2, ?_, rfl, by omega, by omega, by omega, ⟨by omega, by omega⟩, trivial⟩, trivial⟩
        · cases p with
          | nil => exact absurd rfl hpe
          | cons a q => rfl
        · rw [List.length_append, List.length_cons, List.length_nil]; omega
    · obtain rfl : j = d2n n k m := by omega
      rw [← hE]
      have hfin : ∀ (ρ' : Env) (w' : World), Fr w [(ρ 2).1] w' → (∀ r, r < 1000 → ρ' r = ρ r) → (TV.s (.lf (.sl 2904 0 0 3 (m + d2n n k m) none))).ok → (∀ q ∈ ([(2904, rowN (l ++ dir2L tx p ns k m) (m + d2n n k m))] : List (Nat × Row)), RowAt ρ' q.1 q.2 w' ∧ pok q.2.ps ∧ (q.2.w = true → w.heap.size ≤ (ρ' q.1).1 ∨ (ρ' q.1).1 ∈ [(ρ 2).1])) → LOut w (ρ 2).1 (l ++ dir2L tx p ns k m) (m + d2n n k m) (.returned ((TV.s (.lf (.sl 2904 0 0 3 (m + d2n n k m) none))).val ρ')) w' := fun ρ' w' hf _ _ hq => by
        obtain ⟨g1, _, g3⟩ := hq _ (List.mem_singleton.2 rfl)
        exact lout_fin hf g1 (g3 rfl)
      by_cases h1 : d2n n k m < n
      · by_cases h2 : k + d2n n k m < 6
        · have h3 : ¬ m + d2n n k m < 16 := by unfold d2n at h1 h2 ⊢; omega
          exact At.finR rfl [(2004003, .val (.v (.bool true))), (2004010, .val (.v (.bool true))), (2004015, .val (.v (.bool false)))] ⟨trivial, trivial, trivial, trivial⟩ [.n] (rows2 := [(2904, rowN (l ++ dir2L tx p ns k m) (m + d2n n k m))]) (x := .s (.lf (.sl 2904 0 0 3 (m + d2n n k m) none)))
            (ob := [TV.v (.bool (decide ((d2n n k m : Int) < (n : Int)))) = TV.v (.bool true), inI ((k : Int) + (d2n n k m : Int)), TV.v (.bool (decide ((k : Int) + (d2n n k m : Int) < ((6 : Nat) : Int)))) = TV.v (.bool true), TV.v (.bool (decide (((m + d2n n k m : Nat) : Int) < 16))) = TV.v (.bool false), false = false]) (by kernel_rfl) ⟨by rw [decide_eq_true (by omega)], ⟨by omega, by omega⟩, by rw [decide_eq_true (by omega)], by rw [decide_eq_false (by omega)], rfl, trivial⟩ hfin
        · exact At.finR rfl [(2004003, .val (.v (.bool true))), (2004010, .val (.v (.bool false)))] ⟨trivial, trivial, trivial⟩ [.n] (rows2 := [(2904, rowN (l ++ dir2L tx p ns k m) (m + d2n n k m))]) (x := .s (.lf (.sl 2904 0 0 3 (m + d2n n k m) none)))
            (ob := [TV.v (.bool (decide ((d2n n k m : Int) < (n : Int)))) = TV.v (.bool true), inI ((k : Int) + (d2n n k m : Int)), TV.v (.bool (decide ((k : Int) + (d2n n k m : Int) < ((6 : Nat) : Int)))) = TV.v (.bool false), false = false]) (by kernel_rfl) ⟨by rw [decide_eq_true (by omega)], ⟨by unfold d2n; omega, by unfold d2n; omega⟩, by rw [decide_eq_false (by omega)], rfl, trivial⟩ hfin
      · exact At.finR rfl [(2004003, .val (.v (.bool false)))] ⟨trivial, trivial⟩ [.n] (rows2 := [(2904, rowN (l ++ dir2L tx p ns k m) (m + d2n n k m))]) (x := .s (.lf (.sl 2904 0 0 3 (m + d2n n k m) none)))
            (ob := [TV.v (.bool (decide ((d2n n k m : Int) < (n : Int)))) = TV.v (.bool false), false = false]) (by kernel_rfl) ⟨by rw [decide_eq_false (by omega)], rfl, trivial⟩ hfin
  have h0 := hloop 0 (Nat.zero_le _)
  rw [List.take_zero, List.append_nil] at h0
  refine At.run rfl [] trivial [] (tm2 := tm2d0 l p i0 n c k tx ta ct m 0 2) (rows2 := [(0, numRow N), (2, rowN l (m + 0)), (2000, ⟨[.fnc (chunkF [stv [97], stv [98, 46, 99], stv [98, 105, 110], stv [108, 105, 98], stv [120, 32, 121], stv [122]] 1 6) 1 6], true, some (9, 1)⟩)]) (ob := []) (td := lp Tryd.f61 0) (by kernel_rfl) trivial rfl rfl (by intro h; cases h) ?_
  refine At.rows (rows2 := [(0, numRow N), (2, rowN l (m + 0)), (2000, nmRow)]) (rowsEq_same (rowsEq_same (rowsEq_fnc names_row trivial))) rfl ?_
  exact At.ren [(2904, 2)] (tm2d0 l p i0 n c k tx ta ct m 0 2904) (rows2d0 N tx l (m + 0) 2904) rfl rfl rfl rfl rfl h0
end
end Go.Proofs.YtgbaaiedpiiepaaDoor
/- Of the laws: nodes in a directory, by three numbers each, level below level. Its conditions: texts of at most 300, a list of at most 16. -/
namespace Go.Proofs.YtgbaaiedpiiepaaDoor
open Go.RowKit Go.Shelf
set_option linter.unusedVariables false
set_option linter.unusedSimpArgs false
section
open E
abbrev slB (c i i0 : Nat) : Nat := bif Nat.beq c i then i0 else i0 + i
theorem slB_eq {c i i0 : Nat} (h : i < c) : slB c i i0 = i0 + i := by
  unfold slB
  rw [show Nat.beq c i = false by cases hb : Nat.beq c i with | false => rfl | true => have := Nat.eq_of_beq_eq_true hb; omega]
  rfl
theorem slB_end {c i0 : Nat} : slB c c i0 = i0 := by unfold slB; simp
abbrev nmsL : List (List UInt8) := (List.range 6).map nmL
theorem txs_nms : TxSrc (.s (.lf (.sl 2000 0 0 1 6 none))) [(2000, nmRow)] nmsL := fun ρ w h => by
  have h2 := h (2000, nmRow) (by simp)
  refine ⟨by decide, _, _, rfl, fun h0 => ⟨_, _, rfl, h2.1, fun i hi => ?_⟩⟩
  have hi6 : i < 6 := by simpa using hi
  refine (h2.2.1 i (strV nmsL[i]) ?_).1
  rw [lst_fnc, flat_get (f := fun i => [stv (nmL i)]) (k := 1) (by omega) 6 (fun _ _ => rfl) i (by omega), Nat.div_one, Nat.mod_one]
  clear h2 h
  have : i = 0 ∨ i = 1 ∨ i = 2 ∨ i = 3 ∨ i = 4 ∨ i = 5 := by omega
  rcases this with rfl | rfl | rfl | rfl | rfl | rfl <;> rfl
theorem txs_nms_lt : True := trivial
theorem textL_nms (i : Nat) : textL nmsL i = nmL (i % 6) := by
  unfold textL
  rw [if_neg (by decide)]
  have : i % 6 < 6 := Nat.mod_lt _ (by decide)
  rw [List.getD_eq_getElem?_getD]
  simp [nmsL, this]
/-! ### What stands in a directory, step by step -/
theorem drop3 (ns : List UInt8) (i : Nat) (h : i + 2 < ns.length) : ns.drop i = nsf ns i :: nsf ns (i + 1) :: nsf ns (i + 2) :: ns.drop (i + 3) := by
  rw [List.drop_eq_getElem_cons (show i < ns.length by omega), List.drop_eq_getElem_cons (show i + 1 < ns.length by omega), List.drop_eq_getElem_cons (show i + 1 + 1 < ns.length by omega)]
  unfold nsf
  rw [List.getD_eq_getElem?_getD, List.getD_eq_getElem?_getD, List.getD_eq_getElem?_getD, List.getElem?_eq_getElem (show i < ns.length by omega), List.getElem?_eq_getElem (show i + 1 < ns.length by omega), List.getElem?_eq_getElem (show i + 2 < ns.length by omega)]
  rfl
theorem dir_end (tx : List (List UInt8)) (f dl : Nat) (p ns : List UInt8) (k cnt i : Nat) (h : ¬ i + 2 < ns.length ∨ 6 ≤ k ∨ 14 ≤ cnt) : dirL tx f dl p (ns.drop i) k cnt = [] := by
  cases f with
  | zero => rw [dirL]
  | succ f =>
    by_cases h3 : i + 2 < ns.length
    · rw [drop3 ns i h3, dirL, if_neg (by omega)]
    · have hl : (ns.drop i).length ≤ 2 := by rw [List.length_drop]; omega
      generalize ns.drop i = z at hl
      match z, hl with
      | [], _ => rw [dirL]; all_goals (intros; simp_all)
      | [_], _ => rw [dirL]; all_goals (intros; simp_all)
      | [_, _], _ => rw [dirL]; all_goals (intros; simp_all)
abbrev ndD (tx : List (List UInt8)) (p ns : List UInt8) (k i : Nat) : Nd := ⟨joinL p (nmL (k + (nsf ns i).toNat % 3)), ((1 + (nsf ns (i + 1)).toNat % 4 : Nat) : Int), dataL tx (1 + (nsf ns (i + 1)).toNat % 4) (nsf ns i) (nsf ns (i + 1)) (nsf ns (i + 2))⟩
theorem dir_step (tx : List (List UInt8)) (f dl : Nat) (p ns : List UInt8) (k cnt i : Nat) (h : i + 2 < ns.length) (hk : k < 6) (hc : cnt < 14) (hk2 : k + (nsf ns i).toNat % 3 < 6) (hb : ¬ (1 + (nsf ns (i + 1)).toNat % 4 = 4 ∧ 0 < dl)) :
    dirL tx (f + 1) dl p (ns.drop i) k cnt = ndD tx p ns k i :: dirL tx f dl p (ns.drop (i + 3)) (k + (nsf ns i).toNat % 3 + 1) (cnt + 1) := by
  rw [drop3 ns i h, dirL, if_pos ⟨hk, hc⟩, if_pos hk2, if_neg hb]
theorem dir_out (tx : List (List UInt8)) (f dl : Nat) (p ns : List UInt8) (k cnt i : Nat) (h : i + 2 < ns.length) (hk : k < 6) (hc : cnt < 14) (hk2 : ¬ k + (nsf ns i).toNat % 3 < 6) : dirL tx f dl p (ns.drop i) k cnt = [] := by
  cases f with
  | zero => rw [dirL]
  | succ f => rw [drop3 ns i h, dirL, if_pos ⟨hk, hc⟩, if_neg hk2]
theorem dir_down (tx : List (List UInt8)) (f dl : Nat) (p ns : List UInt8) (k cnt i : Nat) (h : i + 2 < ns.length) (hk : k < 6) (hc : cnt < 14) (hk2 : k + (nsf ns i).toNat % 3 < 6) (hb : 1 + (nsf ns (i + 1)).toNat % 4 = 4 ∧ 0 < dl) :
    dirL tx (f + 1) dl p (ns.drop i) k cnt = ndD tx p ns k i :: (dirL tx f (dl - 1) (joinL p (nmL (k + (nsf ns i).toNat % 3))) ((ns.drop (i + 3)).take ((ns.drop (i + 3)).length / 2)) 0 (cnt + 1) ++
      dir2L tx p ((ns.drop (i + 3)).drop ((ns.drop (i + 3)).length / 2)) (k + (nsf ns i).toNat % 3 + 1) (cnt + 1 + (dirL tx f (dl - 1) (joinL p (nmL (k + (nsf ns i).toNat % 3))) ((ns.drop (i + 3)).take ((ns.drop (i + 3)).length / 2)) 0 (cnt + 1)).length)) := by
  rw [drop3 ns i h, dirL, if_pos ⟨hk, hc⟩, if_pos hk2, if_pos hb]
/-! ### Duties -/
abbrev vB (b c : Bool) : Prop := TV.v (.bool b) = TV.v (.bool c)
abbrev o1 (N : List UInt8) (i0 n k i len : Nat) : List Prop := [inI ((i : Int) + 2), vB (decide ((i : Int) + 2 < (n : Int))) true, vB (decide ((k : Int) < ((6 : Nat) : Int))) true, vB (decide ((len : Int) < 14)) true, true = true, 0 ≤ (i : Int) ∧ (i : Int) < (n : Int), addN i0 i < N.length, IntKind.i64.wrap ((nsf N (addN i0 i)).toNat : Int) = ((nsf N (addN i0 i)).toNat : Int), 0 ≤ ((nsf N (addN i0 i)).toNat : Int) ∧ (0 : Int) < 3, inI ((k : Int) + ((nsf N (addN i0 i)).toNat : Int) % 3)]
theorem wrapN (b : UInt8) : IntKind.i64.wrap (b.toNat : Int) = (b.toNat : Int) := by have := b.toNat_lt; rw [IntKind.wrap_i64]; omega
theorem o1_ok {N : List UInt8} {i0 n k i len : Nat} (h : i + 2 < n) (hn : n ≤ 9223372036854775807) (hN : i0 + n ≤ N.length) (hk : k < 6) (hl : len < 14) : all (o1 N i0 n k i len) := by
  have hb := (nsf N (addN i0 i)).toNat_lt
  exact ⟨⟨by omega, by omega⟩, by show TV.v _ = TV.v _; rw [decide_eq_true (by omega)], by show TV.v _ = TV.v _; rw [decide_eq_true (by omega)], by show TV.v _ = TV.v _; rw [decide_eq_true (by omega)], rfl, ⟨by omega, by omega⟩, by rw [addN_eq]; omega, wrapN _, ⟨by omega, by omega⟩, ⟨by omega, by omega⟩, trivial⟩
abbrev kI (N : List UInt8) (i0 k i : Nat) : Int := (k : Int) + ((nsf N (addN i0 i)).toNat : Int) % 3
abbrev o2 (N : List UInt8) (i0 n k i : Nat) (q : Int) : List Prop := [decide ((k : Int) + ((nsf N (addN i0 i)).toNat : Int) % 3 ≥ ((6 : Nat) : Int)) = false, 0 ≤ (k : Int) + ((nsf N (addN i0 i)).toNat : Int) % 3 ∧ (k : Int) + ((nsf N (addN i0 i)).toNat : Int) % 3 < ((6 : Nat) : Int), ((k : Int) + ((nsf N (addN i0 i)).toNat : Int) % 3).toNat < 6, inI ((i : Int) + 1), 0 ≤ (i : Int) + 1 ∧ (i : Int) + 1 < (n : Int), addN i0 (i + 1) < N.length, IntKind.i64.wrap ((nsf N (addN i0 (i + 1))).toNat : Int) = ((nsf N (addN i0 (i + 1))).toNat : Int), 0 ≤ ((nsf N (addN i0 (i + 1))).toNat : Int) ∧ (0 : Int) < 4, TV.int .i64 (1 + ((nsf N (addN i0 (i + 1))).toNat : Int) % 4) = TV.int .i64 q, inI (1 + ((nsf N (addN i0 (i + 1))).toNat : Int) % 4)]
theorem o2_ok {N : List UInt8} {i0 n k i : Nat} {q : Int} (h : i + 2 < n) (hn : n ≤ 9223372036854775807) (hN : i0 + n ≤ N.length) (hk : ((k : Int) + ((nsf N (addN i0 i)).toNat : Int) % 3).toNat < 6) (hq : 1 + ((nsf N (addN i0 (i + 1))).toNat : Int) % 4 = q) : all (o2 N i0 n k i q) := by
  have hb := (nsf N (addN i0 (i + 1))).toNat_lt
  exact ⟨decide_eq_false (by omega), ⟨by omega, by omega⟩, hk, ⟨by omega, by omega⟩, ⟨by omega, by omega⟩, by rw [addN_eq]; omega, wrapN _, ⟨by omega, by omega⟩, by rw [hq], ⟨by omega, by omega⟩, trivial⟩
abbrev o3n (p : List UInt8) : List Prop := [(!(lb ⟨p.toArray⟩ == lb ⟨#[]⟩)) = false]
abbrev o3y (p nm : List UInt8) (kk : Int) (K : Nat) : List Prop := [(!(lb ⟨p.toArray⟩ == lb ⟨#[]⟩)) = true, ((lb ⟨p.toArray⟩).length : Int) + 1 ≤ 9223372036854775807, 0 ≤ kk ∧ kk < ((6 : Nat) : Int), K < 6, (((p ++ [47]).length : Nat) : Int) + (nm.length : Int) ≤ 9223372036854775807]
theorem o3y_ok {p nm : List UInt8} {kk : Int} {K : Nat} (hp : p ≠ []) (hpl : p.length ≤ 1000000) (hnm : nm.length ≤ 3) (hk : kk = K) (hK : K < 6) : all (o3y p nm kk K) := by
  have hl : (lb ⟨p.toArray⟩).length = p.length := rfl
  refine ⟨?_, by omega, ⟨by omega, by omega⟩, hK, ?_, trivial⟩
  · cases p with
    | nil => exact absurd rfl hp
    | cons a q => rfl
  · rw [List.length_append, List.length_cons, List.length_nil]; omega
abbrev o5 (N : List UInt8) (i0 n i : Nat) : List Prop := [inI ((i : Int) + 2), 0 ≤ (i : Int) + 2 ∧ (i : Int) + 2 < (n : Int), addN i0 (i + 2) < N.length, IntKind.i64.wrap ((nsf N (addN i0 (i + 2))).toNat : Int) = ((nsf N (addN i0 (i + 2))).toNat : Int)]
theorem o5_ok {N : List UInt8} {i0 n i : Nat} (h : i + 2 < n) (hn : n ≤ 9223372036854775807) (hN : i0 + n ≤ N.length) : all (o5 N i0 n i) :=
  ⟨⟨by omega, by omega⟩, ⟨by omega, by omega⟩, by rw [addN_eq]; omega, wrapN _, trivial⟩
abbrev dB (N : List UInt8) (i0 i : Nat) : List UInt8 := [nsf N (addN i0 i), nsf N (addN i0 (i + 1))]
abbrev o5b (N S : List UInt8) (i0 c i : Nat) : List Prop := [inI ((i : Int) + 2), 0 ≤ (i : Int) + 2 ∧ (i : Int) + 2 ≤ (c : Int), 0 ≤ (i : Int) ∧ (i : Int) ≤ (i : Int) + 2, TV.v (.string (bl ((List.range (i + 2 - i)).map fun q => ubyte [Value.int .u8 ((nsf N (addN (slB c i i0) q)).toNat : Int)]))) = TV.v (stv (dB N i0 i)), slB c i i0 + (i + 2 - i) ≤ N.length,
  ∀ q, q < i + 2 - i → ∃ b : UInt8, [Value.int .u8 ((nsf N (addN (slB c i i0) q)).toNat : Int)] = [Value.int .u8 (b.toNat : Int)], (S.length : Int) + 2 ≤ 9223372036854775807]
theorem o5b_ok {N S : List UInt8} {i0 n c i : Nat} (h : i + 2 < n) (hn : n ≤ 9223372036854775807) (hN : i0 + n ≤ N.length) (hc : n ≤ c) (hS : S.length ≤ 300) : all (o5b N S i0 c i) := by
  have e := slB_eq (i0 := i0) (show i < c by omega)
  refine ⟨⟨by omega, by omega⟩, ⟨by omega, by omega⟩, ⟨by omega, by omega⟩, ?_, by rw [e]; omega, fun q _ => ⟨_, rfl⟩, by omega, trivial⟩
  rw [e, show i + 2 - i = 2 by omega]
  have u : ∀ b : UInt8, ubyte [Value.int .u8 (b.toNat : Int)] = b := fun b => by show UInt8.ofNat ((b.toNat : Int)).toNat = b; simp
  show TV.v (.string (bl [ubyte [Value.int .u8 ((nsf N (addN (i0 + i) 0)).toNat : Int)], ubyte [Value.int .u8 ((nsf N (addN (i0 + i) 1)).toNat : Int)]])) = _
  rw [u, u]
  unfold dB
  simp only [addN_eq]
  rfl
abbrev o6 (len : Nat) : List Prop := [len = len, len + 1 ≤ 9223372036854775807, (len + 1) * 40 ≤ 140737488355328, 1 ≤ 1]
theorem o6_ok {len : Nat} (h : len < 14) : all (o6 len) := ⟨rfl, by omega, by omega, by omega, trivial⟩
theorem mv3 {w : World} {ρ σ : Env} {N : List UInt8} {rl : List (Nat × Row)} {L : List Nd} {n R : Nat} (hr : ∀ q ∈ (0, numRow N) :: (rl ++ [(R, rowN L n)]), RowAt ρ q.1 q.2 w) (h0 : σ 0 = ρ 0) (h2 : σ 2 = ρ R) : RowAt σ 0 (numRow N) w ∧ RowAt σ 2 (rowN L n) w :=
  ⟨rowAt_mv (hr _ List.mem_cons_self) h0, rowAt_mv (hr (R, rowN L n) (List.mem_cons_of_mem _ (List.mem_append.2 (.inr (List.mem_singleton.2 rfl))))) h2⟩
abbrev hDir (R f id : Nat) (tv : TV) (rl : List (Nat × Row)) (N : List UInt8) (L L2 : List Nd) (n n2 : Nat) (p : List UInt8) (i0 nn c : Nat) (z : Int) : Hint := .call ⟨f, fun ρ => #[(TV.s (.lf (.sl R 0 0 3 n none))).val ρ, stv p, (TV.s (.lf (.sl 0 0 i0 1 nn (some c)))).val ρ, tv.val ρ, .int .i64 z], .s (.lf (.sl id 0 0 3 n2 none)), (0, numRow N) :: (rl ++ [(R, rowN L n)]), [], some (rowN L2 n2), [R]⟩
theorem hDir_of {R f id : Nat} {tv : TV} {rl : List (Nat × Row)} {N : List UInt8} {L L2 : List Nd} {n n2 : Nat} {p : List UInt8} {i0 nn c : Nat} {z : Int} (he : Enters Tryd.prog f)
    (h : ∀ (ρ : Env) (w : World), (∀ q ∈ (0, numRow N) :: (rl ++ [(R, rowN L n)]), RowAt ρ q.1 q.2 w) → PreDs ρ ((0, numRow N) :: (rl ++ [(R, rowN L n)])) → Calls Tryd.prog f #[(TV.s (.lf (.sl R 0 0 3 n none))).val ρ, stv p, (TV.s (.lf (.sl 0 0 i0 1 nn (some c)))).val ρ, tv.val ρ, .int .i64 z] w (LOut w (ρ R).1 L2 n2)) :
    HintOk Tryd.prog id (hDir R f id tv rl N L L2 n n2 p i0 nn c z) := by
  refine callE_ok he trivial (fun p hp => by cases hp) fun ρ w hr hd => (h ρ w hr hd).mono ?_
  rintro e w' ⟨B, rfl, h0, hf, hb, hrow⟩
  refine ⟨B, ?_, hf, (fun p hp => by cases hp), fun row hrw => ?_⟩
  · show _ = Ending.returned (.slice (some ⟨(setE ρ id B id).1, (setE ρ id B id).2 + (0 + 0 * 3), none⟩) n2 ((setE ρ id B id).3 - 0))
    rw [setE_same, h0]
    rfl
  · cases hrw
    refine ⟨?_, rowAt_mv hrow (setE_same ρ id B), rowN_ok L2 n2⟩
    rcases hb with hb | hb
    · exact .inl hb
    · exact .inr ⟨R, List.mem_singleton.2 rfl, hb⟩
theorem ent61 : Enters Tryd.prog 61 := enters_of Tryd.func61 (by kernel_rfl) rfl
theorem ent46 : Enters Tryd.prog 46 := enters_of Tryd.func46 (by kernel_rfl) rfl
def atR (R : Nat) (ρ : Env) : Env := fun r => if r = 2 then ρ R else ρ r
theorem pre_mv1 {w : World} {ρ : Env} {N : List UInt8} {tx : List (List UInt8)} {L : List Nd} {n R : Nat} (hR : R ≠ 0 ∧ R ≠ 1) (hr : ∀ q ∈ (0, numRow N) :: ([(1, txtRow tx)] ++ [(R, rowN L n)]), RowAt ρ q.1 q.2 w) (hd : PreDs ρ ((0, numRow N) :: ([(1, txtRow tx)] ++ [(R, rowN L n)]))) :
    (∀ q ∈ ([(0, numRow N), (1, txtRow tx), (2, rowN L n)] : List (Nat × Row)), RowAt (atR R ρ) q.1 q.2 w) ∧ PreDs (atR R ρ) [(0, numRow N), (1, txtRow tx), (2, rowN L n)] := by
  have e2 : atR R ρ 2 = ρ R := rfl
  constructor
  · intro q hq
    simp only [List.mem_cons, List.not_mem_nil, or_false] at hq
    rcases hq with rfl | rfl | rfl
    · exact rowAt_mv (hr (0, numRow N) (by simp)) rfl
    · exact rowAt_mv (hr (1, txtRow tx) (by simp)) rfl
    · exact rowAt_mv (hr (R, rowN L n) (by simp)) rfl
  · intro q hq u hu hne hw
    simp only [List.mem_cons, List.not_mem_nil, or_false] at hq hu
    rcases hq with rfl | rfl | rfl
    · cases hw
    · cases hw
    · rcases hu with rfl | rfl | rfl
      · exact hd (R, rowN L n) (by simp) (0, numRow N) (by simp) hR.1 rfl
      · exact hd (R, rowN L n) (by simp) (1, txtRow tx) (by simp) hR.2 rfl
      · exact absurd rfl hne
theorem hDir2_ok1 (R id : Nat) (hR : R ≠ 0 ∧ R ≠ 1) (N : List UInt8) (tx : List (List UInt8)) (ta : Option Addr) (ct : Nat) (hT : TxSrc (TV.s (.lf (.sl 1 0 0 1 tx.length (some ct)))) [(1, txtRow tx)] tx) (l : List Nd) (m : Nat) (hm : m = l.length) (hm2 : m ≤ 1000000) (p : List UInt8) (hp : p.length ≤ 1000000) (i0 n c k : Nat) (hi : i0 + n ≤ N.length) (hn : n ≤ 9223372036854775807) (hk : k ≤ 1000000) :
    HintOk Tryd.prog id (hDir R 61 id (TV.s (.lf (.sl 1 0 0 1 tx.length (some ct)))) [(1, txtRow tx)] N l (l ++ dir2L tx p ((N.drop i0).take n) k m) m (m + d2n n k m) p i0 n c (k : Int)) :=
  hDir_of ent61 fun ρ w hr hd => by
    obtain ⟨h1, h2⟩ := pre_mv1 (tx := tx) hR hr hd
    exact dir2_run1 N tx ta ct hT l m hm hm2 p hp i0 n c k hi hn hk (atR R ρ) w h1 h2
abbrev tmd1 (p : List UInt8) (i0 n c k : Nat) (tx : List (List UInt8)) (ta : Option Addr) (ct i m R : Nat) (dp : Int) : List (Nat × TV) := [(0, .s (.lf (.sl R 0 0 3 m none))), (1, .v (stv p)), (2, .s (.lf (.sl 0 0 i0 1 n (some c)))), (3, (TV.s (.lf (.sl 1 0 0 1 tx.length (some ct))))), (4, .int .i64 dp), (11, .s (.lf (.sl 2000 0 0 1 6 none))), (12, .int .i64 k), (13, .int .i64 i)]
abbrev rowsd1 (N : List UInt8) (tx : List (List UInt8)) (L : List Nd) (m R : Nat) : List (Nat × Row) := [(0, numRow N), (1, txtRow tx), (R, rowN L m), (2000, nmRow)]
abbrev rowsa1 (N : List UInt8) (tx : List (List UInt8)) (L : List Nd) (m : Nat) (P D : List UInt8) (q : Int) : List (Nat × Row) := [(0, numRow N), (1, txtRow tx), (19003, ⟨[.fnc (appF (ndc L) m fun z => chunkF [stv P, .int .i64 q, stv D] 3 1 (addN 0 z)) 3 (m + 1)], true, some (42, 3)⟩), (2000, nmRow)]
theorem pre_mv0 {w : World} {ρ : Env} {N : List UInt8} {tx : List (List UInt8)} {L : List Nd} {n R : Nat} (hR : R ≠ 0 ∧ R ≠ 1) (hr : ∀ q ∈ (0, numRow N) :: ([] ++ [(R, rowN L n)]), RowAt ρ q.1 q.2 w) (hd : PreDs ρ ((0, numRow N) :: ([] ++ [(R, rowN L n)]))) :
    (∀ q ∈ ([(0, numRow N), (2, rowN L n)] : List (Nat × Row)), RowAt (atR R ρ) q.1 q.2 w) ∧ PreDs (atR R ρ) [(0, numRow N), (2, rowN L n)] := by
  have e2 : atR R ρ 2 = ρ R := rfl
  constructor
  · intro q hq
    simp only [List.mem_cons, List.not_mem_nil, or_false] at hq
    rcases hq with rfl | rfl
    · exact rowAt_mv (hr (0, numRow N) (by simp)) rfl
    
    · exact rowAt_mv (hr (R, rowN L n) (by simp)) rfl
  · intro q hq u hu hne hw
    simp only [List.mem_cons, List.not_mem_nil, or_false] at hq hu
    rcases hq with rfl | rfl
    · cases hw
    
    · rcases hu with rfl | rfl
      · exact hd (R, rowN L n) (by simp) (0, numRow N) (by simp) hR.1 rfl
      
      · exact absurd rfl hne
theorem hDir2_ok0 (R id : Nat) (hR : R ≠ 0 ∧ R ≠ 1) (N : List UInt8) (tx : List (List UInt8)) (ta : Option Addr) (ct : Nat) (hT : TxSrc (TV.v (.slice ta 0 ct)) [] tx) (l : List Nd) (m : Nat) (hm : m = l.length) (hm2 : m ≤ 1000000) (p : List UInt8) (hp : p.length ≤ 1000000) (i0 n c k : Nat) (hi : i0 + n ≤ N.length) (hn : n ≤ 9223372036854775807) (hk : k ≤ 1000000) :
    HintOk Tryd.prog id (hDir R 61 id (TV.v (.slice ta 0 ct)) [] N l (l ++ dir2L tx p ((N.drop i0).take n) k m) m (m + d2n n k m) p i0 n c (k : Int)) :=
  hDir_of ent61 fun ρ w hr hd => by
    obtain ⟨h1, h2⟩ := pre_mv0 (tx := tx) hR hr hd
    exact dir2_run0 N tx ta ct hT l m hm hm2 p hp i0 n c k hi hn hk (atR R ρ) w h1 h2
abbrev tmd0 (p : List UInt8) (i0 n c k : Nat) (tx : List (List UInt8)) (ta : Option Addr) (ct i m R : Nat) (dp : Int) : List (Nat × TV) := [(0, .s (.lf (.sl R 0 0 3 m none))), (1, .v (stv p)), (2, .s (.lf (.sl 0 0 i0 1 n (some c)))), (3, (TV.v (.slice ta 0 ct))), (4, .int .i64 dp), (11, .s (.lf (.sl 2000 0 0 1 6 none))), (12, .int .i64 k), (13, .int .i64 i)]
abbrev rowsd0 (N : List UInt8) (tx : List (List UInt8)) (L : List Nd) (m R : Nat) : List (Nat × Row) := [(0, numRow N), (R, rowN L m), (2000, nmRow)]
abbrev rowsa0 (N : List UInt8) (tx : List (List UInt8)) (L : List Nd) (m : Nat) (P D : List UInt8) (q : Int) : List (Nat × Row) := [(0, numRow N), (19003, ⟨[.fnc (appF (ndc L) m fun z => chunkF [stv P, .int .i64 q, stv D] 3 1 (addN 0 z)) 3 (m + 1)], true, some (42, 3)⟩), (2000, nmRow)]
end
end Go.Proofs.YtgbaaiedpiiepaaDoor
