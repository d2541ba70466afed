/- Several texts, one behind the other; each says by itself what it proves, and on what conditions. -/
import Derived.Test.YtdbbcngolcnniaaGreatDoorY19
/- The program's Places. Its condition: lengths that fit. -/
namespace Go.Proofs.YtdbbcngolcnniaaGreatDoor
open Go.RowKit Go.Shelf
set_option linter.unusedVariables false
set_option linter.unusedSimpArgs false
section
open E
def stepG (s p : List UInt8) (a : List Nat × Nat) (x : Fin (s.length - 31)) : List Nat × Nat := if a.2 ≤ x.1 ∧ wnd s x.1 = p then (a.1 ++ [x.1], x.1 + 32) else a
def plG (s p : List UInt8) (xs : List (Fin (s.length - 31))) : List Nat × Nat := xs.foldl (stepG s p) ([], 0)
theorem plG_app (s p : List UInt8) (xs : List (Fin (s.length - 31))) (x) : plG s p (xs ++ [x]) = stepG s p (plG s p xs) x := by unfold plG; rw [List.foldl_append]; rfl
theorem plG_take {s p : List UInt8} (hp : p.length = 32) : ∀ k, k ≤ s.length - 31 → (plG s p ((List.finRange (s.length - 31)).take k)).1 ++ pl s p (max k (plG s p ((List.finRange (s.length - 31)).take k)).2) = pl s p 0
 | 0, _ => rfl
 | k + 1, hk => by
  have hlt : k < s.length - 31 := by omega
  have ht : (List.finRange (s.length - 31)).take (k + 1) = (List.finRange (s.length - 31)).take k ++ [⟨k, hlt⟩] := by
   rw [List.take_add_one, List.getElem?_eq_getElem (by simpa using hlt)]; simp
  have ih := plG_take (s := s) hp k (by omega)
  rw [ht, plG_app]
  generalize plG s p ((List.finRange (s.length - 31)).take k) = a at ih ⊢
  obtain ⟨l, f⟩ := a
  unfold stepG
  simp only at ih ⊢
  by_cases hf : f ≤ k
  ·rw [show max k f = k by omega] at ih
   by_cases hw : wnd s k = p
   ·rw [if_pos ⟨hf, hw⟩]
    rw [pl_yes (by omega) (by omega) (by rw [hp]; exact hw), hp] at ih
    show (l ++ [k]) ++ pl s p (max (k + 1) (k + 32)) = _
    rw [show max (k + 1) (k + 32) = k + 32 by omega, ← ih]; simp
   ·rw [if_neg (fun h => hw h.2)]
    rw [pl_no (by omega) (by omega) (by rw [hp]; exact hw)] at ih
    show l ++ pl s p (max (k + 1) f) = _
    rw [show max (k + 1) f = k + 1 by omega]; exact ih
  ·rw [if_neg (fun h => hf h.1)]
   show l ++ pl s p (max (k + 1) f) = _
   rw [show max (k + 1) f = max k f by omega]; exact ih
theorem plG_all {s p : List UInt8} (hp : p.length = 32) : (plG s p (List.finRange (s.length - 31))).1 = pl s p 0 := by
 have h := plG_take (s := s) hp (s.length - 31) (Nat.le_refl _)
 rw [List.take_of_length_le (by simp), pl_end (by omega), List.append_nil] at h
 exact h
theorem plG_len0 (s p : List UInt8) : ∀ (xs : List (Fin (s.length - 31))) (a : List Nat × Nat), (xs.foldl (stepG s p) a).1.length ≤ a.1.length + xs.length
 | [], _ => Nat.le_refl _
 | x :: xs, a => by
  have := plG_len0 s p xs (stepG s p a x)
  have h2 : (stepG s p a x).1.length ≤ a.1.length + 1 := by
   unfold stepG
   split
   ·rw [List.length_append]; exact Nat.le_refl _
   ·exact Nat.le_succ _
  show (xs.foldl (stepG s p) (stepG s p a x)).1.length ≤ a.1.length + (xs.length + 1)
  omega
theorem plG_len (s p : List UInt8) (xs : List (Fin (s.length - 31))) : (plG s p xs).1.length ≤ xs.length := by
 have := plG_len0 s p xs ([], 0)
 simpa [plG] using this
def dR (l : List Nat) : Nat → Row
 | 0 => noR
 | n + 1 => inR l (n + 1)
def slL (r : Nat) : Nat → Lf
 | 0 => .v nilS
 | n + 1 => .sl r 0 0 1 (n + 1) none
abbrev gR (s p : List UInt8) (l : List Nat) (n f : Nat) : List (Nat × Row) := [(2914, dR l n), (1000, ⟨[.one (.v (stv p))], true, none⟩), (4000, ⟨[.one (slL 2914 n)], true, none⟩), (5000, ⟨[.one (.v (.int .i64 (f : Int)))], true, none⟩), (6001, wndR s)]
abbrev gT : List (Nat × TV) := [(3, .s (.lf (.ptr 1000 0 0 0 0))), (5, .s (.lf (.ptr 4000 0 0 0 0))), (6, .s (.lf (.ptr 5000 0 0 0 0))), (13, .s (.lf (.clo 73 [6001])))]
theorem ent20 : Enters Tryz.prog 20 := enters_of Tryz.func20 (by kernel_rfl) rfl
theorem wnd_eq (s p : List UInt8) (k : Nat) : ((wnd s k).toArray.toList == p) = decide (wnd s k = p) := by
 rw [show (wnd s k).toArray.toList = wnd s k from rfl]
 by_cases h : wnd s k = p <;> simp [h]
set_option maxRecDepth 100000 in
theorem gplaces_any (s p : List UInt8) (hs : s.length ≤ 1000000) (hp : p.length ≤ 1000000) (w : World) : Calls Tryz.prog 20 #[stv s, stv p] w (IOut w (placesL s p)) := by
 refine At.calls (args := [.v (stv s), .v (stv p)]) (rows := []) (gl := []) (wr := []) (ρ := fun _ => (⟨0, 0, 0⟩ : Blk)) Tryz.func20 rfl rfl (init_rw ⟨rfl, rfl, trivial⟩ rfl rfl rfl (fun p hp => by cases hp) (fun p hp => by cases hp) (fun p hp => by cases hp)) rfl ?_
 cases hm : mayP p with
 | false =>
  have e : placesL s p = [] := by unfold placesL; rw [hm, if_neg (by simp)]
  rw [e]
  exact At.fin rfl [(2001, hMy p false)] ⟨hMy_ok _ _ _ (by omega) hm, trivial⟩ [.y] (x := .v nilS) (ob := [qL (hMy p false), [true = true]].flatten) (by kernel_rfl) (all_flat ⟨all_qL _, ⟨rfl, trivial⟩, trivial⟩) fun ρ' w' hf _ => ⟨hf, .inl ⟨rfl, rfl⟩⟩
 | true =>
  have e : placesL s p = pl s p 0 := by unfold placesL; rw [hm, if_pos rfl]
  rw [e]
  have hp32 := may_len hm
  refine At.run rfl [(2001, hMy p true), (6001, hWn s 6001)] ⟨hMy_ok _ _ _ (by omega) hm, hWn_ok _ _, trivial⟩ [.n] (tm2 := gT) (rows2 := [(1000, ⟨[.one (.v (stv p))], true, none⟩), (4000, ⟨[.one (.v nilS)], true, none⟩), (5000, ⟨[.one (.v (.int .i64 0))], true, none⟩), (6001, wndR s)]) (ob := [qL (hMy p true), [false = false], qL (hWn s 6001)].flatten) (td := rg Tryz.f20 0) (by kernel_rfl) (all_flat ⟨all_qL _, ⟨rfl, trivial⟩, all_qL _, trivial⟩) rfl rfl (by intro h; cases h) ?_
  refine E.At.dummy 2914 6001 (wndR s) rfl rfl rfl ?_
  refine At.rangeAt (α := Fin (s.length - 31)) (gf := 73) (rs := [6001]) [1000, 4000, 5000, 6001] [6001] (fun x => [.int .i64 (x.1 : Int), .v (stv (wnd s x.1))]) (S := fun xs => xs = List.finRange (s.length - 31)) (Sp := fun _ => True) (N := s.length - 31) (fun xs => gR s p (plG s p xs).1 (plG s p xs).1.length (plG s p xs).2) (fun _ _ => none) (fun x => (7, .int .i64 (x.1 : Int)) :: (8, .v (stv (wnd s x.1))) :: gT)
   rfl rfl ent73 (fun ρ w h => ?_) rfl (fun _ => rfl) (fun _ _ _ h => by cases h) (fun xs => ?_) rfl rfl (fun _ => rfl) (fun x => ⟨rfl, ⟨rfl, rfl, trivial⟩, rfl⟩) (fun x pre => ?_) ?_ ?_ At.stop0
  ·have h6 : RowAt (fun _ => ρ 6001) 0 (wndR s) w := by
    have := h 6001 (wndR s) rfl
    unfold RowAt at this ⊢
    exact this
   have h1 := wnd_stops s (by omega) w (fun _ => ρ 6001) (fun W hW => rowAt_keep h6 (Fr.of_below hW []).size ((Fr.of_below hW []).block _ h6.1 (by simp)))
   have e1 : (fun W W' : World => ∀ r ∈ [0], W'.heap[((fun _ : Nat => ρ 6001) r).1]? = W.heap[((fun _ : Nat => ρ 6001) r).1]?) = fun W W' => ∀ r ∈ [6001], W'.heap[(ρ r).1]? = W.heap[(ρ r).1]? := by funext W W'; simp
   rw [e1] at h1
   exact h1
  ·generalize (plG s p xs).1.length = n
   cases n <;> rfl
  ·kernel_rfl
  ·intro l pre x W σ hpl _
   have hln := plG_len s p pre
   have hx := x.2
   show At Tryz.prog W ⟨wlOf σ (gR s p (plG s p pre).1 (plG s p pre).1.length (plG s p pre).2), σ, [1000, 4000, 5000, 6001]⟩ Tryz.f20.ntmps [] [.code (hdBody (rg Tryz.f20 0))] (RoundQ W ⟨wlOf σ (gR s p (plG s p pre).1 (plG s p pre).1.length (plG s p pre).2), σ, [1000, 4000, 5000, 6001]⟩ (nxt (fun xs => gR s p (plG s p xs).1 (plG s p xs).1.length (plG s p xs).2) (fun _ _ => none) (pre ++ [x]))) ((7, .int .i64 (x.1 : Int)) :: (8, .v (stv (wnd s x.1))) :: gT) (gR s p (plG s p pre).1 (plG s p pre).1.length (plG s p pre).2) (some l) []
   obtain ⟨L, f, hLf⟩ : ∃ L f, plG s p pre = (L, f) := ⟨_, _, rfl⟩
   have happ : plG s p (pre ++ [x]) = stepG s p (L, f) x := by rw [plG_app, hLf]
   rw [hLf] at hln ⊢
   simp only at hln ⊢
   by_cases hf : f ≤ x.1
   ·have hd : TV.v (.bool (decide ((x.1 : Int) ≥ (f : Int)))) = TV.v (.bool true) := by rw [decide_eq_true (by omega)]
    by_cases hw : wnd s x.1 = p
    ·have hq : ((wnd s x.1).toArray.toList == p) = true := by rw [wnd_eq, decide_eq_true hw]
     have hst : stepG s p (L, f) x = (L ++ [x.1], x.1 + 32) := by unfold stepG; rw [if_pos ⟨hf, hw⟩]
     have e32 : (Value.int .i64 ((x.1 : Int) + 32)) = .int .i64 ((x.1 + 32 : Nat) : Int) := by congr 1
     obtain ⟨n, hn⟩ : ∃ n, n = L.length := ⟨_, rfl⟩
     rw [← hn]
     cases n with
     | zero =>
      obtain rfl : L = [] := List.length_eq_zero_iff.1 hn.symm
      refine At.finB rfl [(2009003, .val (.v (.bool true)))] ⟨trivial, trivial⟩ [.y] [(2914, 10003)] (e := .normal) (rows2 := [(2914, ⟨[.fnc (fun q => chunkF [.int .i64 (x.1 : Int)] 1 1 (addN 0 q)) 1 1], true, some (3, 1)⟩), (1000, ⟨[.one (.v (stv p))], true, none⟩), (4000, ⟨[.one (.sl 2914 0 0 1 1 none)], true, none⟩), (5000, ⟨[.one (.v (.int .i64 ((x.1 : Int) + 32)))], true, none⟩), (6001, wndR s)])
       (rows3 := gR s p [x.1] 1 (x.1 + 32)) (ob := [TV.v (.bool (decide ((x.1 : Int) ≥ (f : Int)))) = TV.v (.bool true), ((wnd s x.1).toArray.toList == p) = true, 0 < 1, 1 ≤ 9223372036854775807, 8 ≤ 140737488355328, 1 ≤ 1, inI ((x.1 : Int) + 32)]) (by kernel_rfl) ⟨hd, hq, by decide, by decide, by decide, by decide, ⟨by omega, by omega⟩, trivial⟩ ?_ ?_ rfl rfl
      ·rw [e32]; exact rowsEq_fnc (in_one x.1) (rowsEq_same (rowsEq_same (rowsEq_same (rowsEq_same trivial))))
      ·show some (gR s p (plG s p (pre ++ [x])).1 (plG s p (pre ++ [x])).1.length (plG s p (pre ++ [x])).2) = _
       rw [happ, hst]; rfl
     | succ n =>
      refine At.finB rfl [(2009003, .val (.v (.bool true)))] ⟨trivial, trivial⟩ [.y] [(2914, 10003)] (e := .normal) (rows2 := [(2914, ⟨[.fnc (appF (inF L) (n + 1) fun q => chunkF [.int .i64 (x.1 : Int)] 1 1 (addN 0 q)) 1 (n + 1 + 1)], true, some (3, 1)⟩), (1000, ⟨[.one (.v (stv p))], true, none⟩), (4000, ⟨[.one (.sl 2914 0 0 1 (n + 1 + 1) none)], true, none⟩), (5000, ⟨[.one (.v (.int .i64 ((x.1 : Int) + 32)))], true, none⟩), (6001, wndR s)])
       (rows3 := gR s p (L ++ [x.1]) (n + 1 + 1) (x.1 + 32)) (ob := [TV.v (.bool (decide ((x.1 : Int) ≥ (f : Int)))) = TV.v (.bool true), ((wnd s x.1).toArray.toList == p) = true, n + 1 = n + 1, n + 1 + 1 ≤ 9223372036854775807, (n + 1 + 1) * 8 ≤ 140737488355328, 1 ≤ 1, inI ((x.1 : Int) + 32)]) (by kernel_rfl) ⟨hd, hq, rfl, by omega, by omega, by decide, ⟨by omega, by omega⟩, trivial⟩ ?_ ?_ rfl rfl
      ·rw [e32]; exact rowsEq_fnc (in_step L (n + 1) x.1 hn) (rowsEq_same (rowsEq_same (rowsEq_same (rowsEq_same trivial))))
      ·show some (gR s p (plG s p (pre ++ [x])).1 (plG s p (pre ++ [x])).1.length (plG s p (pre ++ [x])).2) = _
       rw [happ, hst]
       show some (gR s p (L ++ [x.1]) (L ++ [x.1]).length (x.1 + 32)) = _
       rw [List.length_append, ← hn]; rfl
    ·have hq : ((wnd s x.1).toArray.toList == p) = false := by rw [wnd_eq, decide_eq_false hw]
     have hst : stepG s p (L, f) x = (L, f) := by unfold stepG; rw [if_neg (fun h => hw h.2)]
     generalize hn : L.length = n
     refine At.finB rfl [(2009003, .val (.v (.bool true)))] ⟨trivial, trivial⟩ [.n] [] (e := .normal) (rows2 := gR s p L n f) (rows3 := gR s p L n f) (ob := [TV.v (.bool (decide ((x.1 : Int) ≥ (f : Int)))) = TV.v (.bool true), ((wnd s x.1).toArray.toList == p) = false]) (by cases n <;> kernel_rfl) ⟨hd, hq, trivial⟩ (rowsEq_same (rowsEq_same (rowsEq_same (rowsEq_same (rowsEq_same trivial))))) ?_ rfl rfl
     show some (gR s p (plG s p (pre ++ [x])).1 (plG s p (pre ++ [x])).1.length (plG s p (pre ++ [x])).2) = _
     rw [happ, hst, ← hn]
   ·have hd : TV.v (.bool (decide ((x.1 : Int) ≥ (f : Int)))) = TV.v (.bool false) := by rw [decide_eq_false (by omega)]
    have hst : stepG s p (L, f) x = (L, f) := by unfold stepG; rw [if_neg (fun h => hf h.1)]
    generalize hn : L.length = n
    refine At.finB rfl [(2009003, .val (.v (.bool false)))] ⟨trivial, trivial⟩ [.d] [] (e := .normal) (rows2 := gR s p L n f) (rows3 := gR s p L n f) (ob := [TV.v (.bool (decide ((x.1 : Int) ≥ (f : Int)))) = TV.v (.bool false)]) (by cases n <;> kernel_rfl) ⟨hd, trivial⟩ (rowsEq_same (rowsEq_same (rowsEq_same (rowsEq_same (rowsEq_same trivial))))) ?_ rfl rfl
    show some (gR s p (plG s p (pre ++ [x])).1 (plG s p (pre ++ [x])).1.length (plG s p (pre ++ [x])).2) = _
    rw [happ, hst, ← hn]
  ·rintro D xs rfl
   rw [← plG_all hp32]
   obtain ⟨L, f, hLf⟩ : ∃ L f, plG s p (List.finRange (s.length - 31)) = (L, f) := ⟨_, _, rfl⟩
   rw [hLf]
   show At Tryz.prog w nB Tryz.f20.ntmps [] (rg Tryz.f20 0).tail (EndX Tryz.prog Tryz.f20 (IOut w L)) gT (gR s p L L.length f) none [D]
   obtain ⟨n, hn⟩ : ∃ n, n = L.length := ⟨_, rfl⟩
   rw [← hn]
   cases n with
   | zero =>
    obtain rfl : L = [] := List.length_eq_zero_iff.1 hn.symm
    exact At.fin rfl [] trivial [] (x := .v nilS) (ob := []) (by kernel_rfl) trivial fun ρ' w' hf _ => ⟨hf, .inl ⟨rfl, rfl⟩⟩
   | succ n =>
    refine At.finR rfl [] trivial [] (rows2 := [(2914, inR L (n + 1))]) (x := .s (.lf (.sl 2914 0 0 1 (n + 1) none))) (ob := []) (by kernel_rfl) trivial fun ρ' w' hf he _ hq => ?_
    obtain ⟨g1, _, g3⟩ := hq _ (List.mem_singleton.2 rfl)
    exact iout_row hf g1 hn ((g3 rfl).resolve_right (by simp))
end
end Go.Proofs.YtdbbcngolcnniaaGreatDoor
/- The program's Change. Its condition: lengths that fit. -/
namespace Go.Proofs.YtdbbcngolcnniaaGreatDoor
open Go.RowKit Go.Shelf
set_option linter.unusedVariables false
set_option linter.unusedSimpArgs false
section
open E
theorem E.xOp_ok {P : Program} {ops : Array Oper} {r : Option Nat} {m : Nat} {K : Act → World → Prop} {QQ : Exit → Act → World → Prop} {a : Act} {w w' : World} {o : Oper} {d : Tmp} {v : Value} (hnd : noDef ops = true) (ho : ops[m]? = some o) (hd : o.dst = some d) (hg : o.guard = none)
  (h : (execOp a.eval o).run P w = .ok (.value v) w') (hK : K (a.put (some d) v) w') : wpOpIn (FW r) 5 P ops QQ m K a w := by
 unfold wpOpIn
 rw [ho]
 simp only
 rw [if_pos (by unfold Region.wanted; rw [hg])]
 exact wpIn_of_wp (noDef_ok hnd ho) (wp_val h (by rw [hd]; exact hK))
theorem putL_len {b p : List UInt8} {i : Nat} (h : i + p.length ≤ b.length) : (putL b p i).length = b.length := by
 unfold putL
 rw [List.length_append, List.length_append, List.length_take, List.length_drop]
 omega
theorem putL_getD {b p : List UInt8} {i q : Nat} (h : i + p.length ≤ b.length) : (putL b p i).getD q 0 = if i ≤ q ∧ q < i + p.length then p.getD (q - i) 0 else b.getD q 0 := by
 unfold putL
 simp only [List.getD_eq_getElem?_getD]
 by_cases h1 : q < i
 ·rw [if_neg (by omega), List.getElem?_append_left (by rw [List.length_take]; omega), List.getElem?_take, if_pos h1]
 ·rw [List.getElem?_append_right (by rw [List.length_take]; omega), List.length_take, show min i b.length = i by omega]
  by_cases h2 : q < i + p.length
  ·rw [if_pos (by omega), List.getElem?_append_left (by omega)]
  ·rw [if_neg (by omega), List.getElem?_append_right (by omega), List.getElem?_drop, show i + p.length + (q - i - p.length) = q by omega]
theorem putL_row {b p : List UInt8} {x c : Nat} (h : x + p.length ≤ b.length) (hp : 0 < p.length) (hc : b.length ≤ c) : ∀ q, q < b.length → copyF (byteF b) (bif Nat.beq c (x : Int).toNat then 0 else 0 + (x : Int).toNat) (p.length.min (b.length - (x : Int).toNat)) (byteF p) q = byteF (putL b p x) q := by
 intro q hq
 rw [Int.toNat_natCast]
 have e1 : Nat.beq c x = false := by
  cases hb : Nat.beq c x with
  | false => rfl
  | true => have := Nat.eq_of_beq_eq_true hb; omega
 have e2 : p.length.min (b.length - x) = p.length := Nat.min_eq_left (by omega)
 rw [e1, e2, cond_false, Nat.zero_add]
 show _ = [Value.int .u8 (((putL b p x).getD q 0).toNat : Int)]
 rw [putL_getD h]
 by_cases hi : x ≤ q ∧ q < x + p.length
 ·rw [copyF_in hi.1 hi.2, if_pos hi]; rfl
 ·rw [copyF_out (by omega), if_neg hi]; rfl
abbrev byR (b : List UInt8) (n : Nat) : Row := ⟨[.fnc (byteF b) 1 n], true, none⟩
theorem byR_ok (b : List UInt8) (n : Nat) : pok (byR b n).ps := pok1 fun i => ⟨rfl, fun v hv => by obtain rfl := List.mem_singleton.1 hv; rfl⟩
abbrev putN (s p : List UInt8) (L : List Nat) (i : Nat) : List UInt8 := (L.take i).foldl (fun b i => putL b p i) s
theorem putN_len {s p : List UInt8} : ∀ {L : List Nat}, (∀ x ∈ L, x + p.length ≤ s.length) → (L.foldl (fun b i => putL b p i) s).length = s.length
 | [], _ => rfl
 | x :: L, h => by
  have h1 := putL_len (h x (List.mem_cons_self ..))
  show (L.foldl (fun b i => putL b p i) (putL s p x)).length = _
  rw [putN_len (s := putL s p x) (L := L) (fun y hy => by rw [h1]; exact h y (List.mem_cons_of_mem _ hy)), h1]
theorem putN_step {s p : List UInt8} {L : List Nat} {i : Nat} (h : i < L.length) : putN s p L (i + 1) = putL (putN s p L i) p (L.getD i 0) := by
 unfold putN
 rw [List.take_add_one, List.getElem?_eq_getElem h, List.foldl_append, List.getD_eq_getElem?_getD, List.getElem?_eq_getElem h]; rfl
theorem places_bnd {s o : List UInt8} : ∀ x ∈ placesL s o, x + 32 ≤ s.length := by
 intro x hx
 unfold placesL at hx
 by_cases hm : mayP o = true
 ·rw [if_pos hm] at hx
  have hl := may_len hm
  have := ((pl_bnd s o (by omega) s.length 0 (by omega)).2 x hx).2
  omega
 ·rw [if_neg hm] at hx; cases hx
theorem changeL_eq (s o p : List UInt8) : changeL s o p = if mayP p = true then (placesL s o).foldl (fun b i => putL b p i) s else s := by
 unfold changeL
 by_cases hp : mayP p = true
 ·rw [if_pos hp]
  by_cases ho : mayP o = true
  ·rw [if_pos (by rw [ho, hp]; rfl)]
  ·have : placesL s o = [] := by unfold placesL; rw [if_neg ho]
   rw [if_neg (by simp [ho]), this]; rfl
 ·rw [if_neg hp, if_neg (by simp [hp])]
theorem ent18 : Enters Tryz.prog 18 := enters_of Tryz.func18 (by kernel_rfl) rfl
abbrev enC (x : World × Nat × Nat) : Env := fun _ => ⟨x.2.1, 0, x.2.2⟩
abbrev sl1 (n c : Nat) : TV := .s (.lf (.sl 2001 0 0 1 n (some c)))
set_option maxRecDepth 100000 in
theorem gchange_any (s o p : List UInt8) (hs : s.length ≤ 1000000) (ho : o.length ≤ 1000000) (hp : p.length ≤ 1000000) (w : World) : Calls Tryz.prog 18 #[stv s, stv o, stv p] w fun e w' => e = .returned (stv (changeL s o p)) ∧ Fr w [] w' := by
 refine At.calls (args := [.v (stv s), .v (stv o), .v (stv p)]) (rows := []) (gl := []) (wr := []) (ρ := fun _ => (⟨0, 0, 0⟩ : Blk)) Tryz.func18 rfl rfl (init_rw ⟨rfl, rfl, rfl, trivial⟩ rfl rfl rfl (fun p hp => by cases hp) (fun p hp => by cases hp) (fun p hp => by cases hp)) rfl ?_
 refine At.run rfl [(2002000, .val (.tup []))] ⟨trivial, trivial⟩ [] (tm2 := [(0, .v (stv s)), (1, .v (stv o)), (2, .v (stv p))]) (rows2 := []) (ob := []) (td := rp Tryz.f18 1) (by kernel_rfl) trivial rfl rfl (by intro h; cases h) ?_
 refine At.opX (α := World × Nat × Nat) 1 11 [] trivial (fun x => x.1) (fun x => ⟨wlOf (enC x) [(2001, byR s s.length)], enC x, []⟩) (fun x => [(0, .v (stv s)), (1, .v (stv o)), (2, .v (stv p)), (11, sl1 s.length x.2.2)]) (fun x => [(0, .v (stv s)), (1, .v (stv o)), (2, .v (stv p)), (7, sl1 s.length x.2.2)]) (fun _ => [(2001, byR s s.length)]) (fun _ => [(2001, byR s s.length)]) (fun x => w.heap.size ≤ x.2.1 ∧ Fr w [] x.1 ∧ s.length ≤ x.2.2) rfl (tm1 := [(0, .v (stv s)), (1, .v (stv o)), (2, .v (stv p)), (10, .v (stv s))]) (rows1 := []) (o1 := []) (o2 := fun _ => []) (by kernel_rfl) trivial rfl ?_ (fun x _ => by kernel_rfl) (fun x _ => trivial) (fun x => rfl) (fun x hx => ?_)
 ·intro a' w1 ρ K QQ hden hk
  have h10 : a'.eval (.tmp 10) = stv s := (evalO_ok hden (x := .tmp 10) (y := .v (stv s)) rfl).1
  obtain ⟨oo, hoo, hop, hdst, hgd⟩ : ∃ oo : Oper, (hdOps (rp Tryz.f18 1))[1]? = some oo ∧ oo.op = .convert 9 22 (.tmp 10) ∧ oo.dst = some 11 ∧ oo.guard = none := ⟨(hdOps (rp Tryz.f18 1)).getD 1 default, by kernel_rfl, by kernel_rfl, by kernel_rfl, by kernel_rfl⟩
  obtain ⟨w', ρ', hrun, hpost⟩ := toB_ok (P := Tryz.prog) (id := 2001) (src := 9) (dst := 22) (s := ⟨s.toArray⟩) (ρ := ρ) (w := w1) (e := ⟨[], .s (.lf (.sl 2001 0 0 1 s.length none)), [(2001, byR s s.length)], []⟩) (by kernel_rfl)
  have hrun2 := run_bytes_of_string (P := Tryz.prog) w1 9 22 5 ⟨s.toArray⟩ (by kernel_rfl) (by kernel_rfl) (by kernel_rfl)
  have heq := hrun.symm.trans hrun2
  obtain ⟨hv, hw⟩ : (TV.s (.lf (.sl 2001 0 0 1 s.length none))).val ρ' = .slice (some ⟨w1.heap.size, 0, none⟩) s.length (grownCap w1 s.length 0 5) ∧ True := by
   simp only [Result.ok.injEq] at heq
   exact ⟨heq.1, trivial⟩
  have hv2 : Value.slice (some ⟨(ρ' 2001).1, (ρ' 2001).2 + (0 + 0 * 1), none⟩) s.length ((ρ' 2001).3 - 0) = .slice (some ⟨w1.heap.size, 0, none⟩) s.length (grownCap w1 s.length 0 5) := hv
  simp only [Value.slice.injEq, Option.some.injEq, Addr.mk.injEq, Nat.zero_add, Nat.mul_one, Nat.add_zero, Nat.sub_zero, and_true, true_and] at hv2
  obtain ⟨⟨b1, b2⟩, b3⟩ := hv2
  have hge := grownCap_ge w1 s.length 0 5
  have hB : ρ' 2001 = enC (w', w1.heap.size, grownCap w1 s.length 0 5) 2001 := by
   show ρ' 2001 = ⟨w1.heap.size, 0, grownCap w1 s.length 0 5⟩
   have : ρ' 2001 = ⟨(ρ' 2001).1, (ρ' 2001).2, (ρ' 2001).3⟩ := rfl
   rw [this, b1, b2, b3]
  obtain ⟨hrow, _⟩ := hpost.puts _ (List.mem_singleton.2 rfl)
  have hfr : Fr w1 [] w' := hpost.fr
  refine E.xOp_ok (o := oo) (d := 11) (v := (TV.s (.lf (.sl 2001 0 0 1 s.length none))).val ρ') (w' := w') rfl hoo hdst hgd ?_ ?_
  ·simp only [execOp, hop, h10]
   rw [Sem.run_bind, hrun]
   rfl
  ·refine hk (w', w1.heap.size, grownCap w1 s.length 0 5) _ w' (enC (w', w1.heap.size, grownCap w1 s.length 0 5)) ⟨hden.fr.size, hden.fr.comp hfr (fun x hx => by cases hx), hge⟩ (E.den_again (d := 11) (tm' := [(0, .v (stv s)), (1, .v (stv o)), (2, .v (stv p)), (11, sl1 s.length (grownCap w1 s.length 0 5))]) (rows2 := [(2001, byR s s.length)]) (K := []) hden (by decide) (fun p hp => ?_) rfl (fun p hp => ?_) (fun p hp q hq hpq hw => ?_) rfl rfl)
   ·simp only [List.mem_cons, List.not_mem_nil, or_false] at hp
    rcases hp with rfl | rfl | rfl | rfl
    ·exact .inr ⟨(show (0 : Nat) ≠ 11 by decide), rfl, fun r hr => by cases hr⟩
    ·exact .inr ⟨(show (1 : Nat) ≠ 11 by decide), rfl, fun r hr => by cases hr⟩
    ·exact .inr ⟨(show (2 : Nat) ≠ 11 by decide), rfl, fun r hr => by cases hr⟩
    ·exact .inl ⟨rfl, hv, trivial⟩
   ·obtain rfl := List.mem_singleton.1 hp
    exact ⟨rowAt_mv hrow hB.symm, byR_ok _ _⟩
   ·obtain rfl := List.mem_singleton.1 hp
    obtain rfl := List.mem_singleton.1 hq
    exact absurd rfl hpq
 ·obtain ⟨W1, B, c⟩ := x
  obtain ⟨hB, hf1, hc⟩ := hx
  simp only at hB hf1 hc ⊢
  have hwl : wlOf (enC (W1, B, c)) [(2001, byR s s.length)] = [B] := rfl
  rw [hwl]
  show At Tryz.prog W1 ⟨[B], enC (W1, B, c), []⟩ Tryz.f18.ntmps [] (rp Tryz.f18 1).tail (EndX Tryz.prog Tryz.f18 fun e w' => e = .returned (stv (changeL s o p)) ∧ Fr w [] w') [(0, .v (stv s)), (1, .v (stv o)), (2, .v (stv p)), (7, sl1 s.length c)] [(2001, byR s s.length)] none []
  have hcomp : ∀ {w' : World}, Fr W1 [B] w' → Fr w [] w' := fun hf => hf1.comp hf (fun x hx => by obtain rfl := List.mem_singleton.1 hx; exact .inr hB)
  cases hm : mayP p with
  | false =>
   have e : changeL s o p = s := by rw [changeL_eq, hm, if_neg (by simp)]
   rw [e]
   have hv : TV.v (stv (List.map (fun q => ubyte (byteF s (addN 0 q))) (List.range s.length))) = TV.v (stv s) := tv_str (str_of_bytes s)
   exact At.fin rfl [(3001, hMy p false), (2009001, .val (.v (stv s)))] ⟨hMy_ok _ _ _ (by omega) hm, trivial, trivial⟩ [.n] (x := .v (stv s)) (ob := [qL (hMy p false), [false = false, TV.v (stv (List.map (fun q => ubyte (byteF s (addN 0 q))) (List.range s.length))) = TV.v (stv s), 0 + s.length ≤ s.length, ∀ q, q < s.length → ∃ d : UInt8, byteF s (addN 0 q) = [.int .u8 (d.toNat : Int)]]].flatten) (by kernel_rfl) (all_flat ⟨all_qL _, ⟨rfl, hv, by omega, bytes_q s, trivial⟩, trivial⟩) fun ρ' w' hf _ => ⟨rfl, hcomp hf⟩
  | true =>
   have hp32 := may_len hm
   have e : changeL s o p = (placesL s o).foldl (fun b i => putL b p i) s := by rw [changeL_eq, hm, if_pos rfl]
   rw [e]
   obtain ⟨L, hL⟩ : ∃ L, L = placesL s o := ⟨_, rfl⟩
   have hLb : ∀ x ∈ L, x + p.length ≤ s.length := fun x hx => by rw [hp32]; rw [hL] at hx; exact places_bnd x hx
   rw [← hL]
   have hend : ∀ (b : List UInt8), b.length = s.length → TV.v (stv (List.map (fun q => ubyte (byteF b (addN 0 q))) (List.range s.length))) = TV.v (stv b) := fun b hb => tv_str (by rw [← hb]; exact str_of_bytes b)
   have hby : ∀ (b : List UInt8), b.length = s.length → ∀ q, q < s.length → ∃ d : UInt8, byteF b (addN 0 q) = [.int .u8 (d.toNat : Int)] := fun b hb q hq => bytes_q b q (by omega)
   by_cases h0 : L = []
   ·have hk : HintOk Tryz.prog 4002 (hI0 20 (fun _ => #[stv s, stv o]) []) := hI0_of ent20 fun ρ w _ => by
     have := gplaces_any s o hs ho w
     rw [← hL, h0] at this
     exact this
    rw [h0]
    exact At.fin rfl [(3001, hMy p true), (4002, hI0 20 (fun _ => #[stv s, stv o]) []), (2009001, .val (.v (stv s)))] ⟨hMy_ok _ _ _ (by omega) hm, hk, trivial, trivial⟩ [.y, .u, .d] (x := .v (stv s)) (ob := [qL (hMy p true), [true = true], qL (hI0 20 (fun _ => #[stv s, stv o]) []), [TV.v (stv (List.map (fun q => ubyte (byteF s (addN 0 q))) (List.range s.length))) = TV.v (stv s), 0 + s.length ≤ s.length, ∀ q, q < s.length → ∃ d : UInt8, byteF s (addN 0 q) = [.int .u8 (d.toNat : Int)]]].flatten) (by kernel_rfl) (all_flat ⟨all_qL _, ⟨rfl, trivial⟩, all_qL _, ⟨hend s rfl, by omega, hby s rfl, trivial⟩, trivial⟩) fun ρ' w' hf _ => ⟨rfl, hcomp hf⟩
   ·have hk : HintOk Tryz.prog 4002 (hI1 20 (fun _ => #[stv s, stv o]) [] 4002 L) := hI1_of h0 ent20 fun ρ w _ => by
     have := gplaces_any s o hs ho w
     rw [← hL] at this
     exact this
    have hLl : L.length ≤ 1000000 := by
     rw [hL]
     unfold placesL
     split
     ·rename_i hmo
      have := may_len hmo
      exact Nat.le_trans (pl_len s o (by omega) 0) hs
     ·exact Nat.zero_le _
    have hlen : ∀ i, (putN s p L i).length = s.length := fun i => putN_len fun x hx => hLb x (List.mem_of_mem_take hx)
    have hloop : ∀ i : Nat, i ≤ L.length → At Tryz.prog W1 ⟨[B], enC (W1, B, c), []⟩ Tryz.f18.ntmps [] (lp Tryz.f18 0) (EndX Tryz.prog Tryz.f18 fun e w' => e = .returned (stv (L.foldl (fun b i => putL b p i) s)) ∧ Fr w [] w') [(2, .v (stv p)), (7, sl1 s.length c), (16, .s (.lf (.sl 4002 0 0 1 L.length none))), (17, .int .i64 (L.length : Int)), (18, .int .i64 (i : Int))] [(2001, byR (putN s p L i) s.length), (4002, inR L L.length)] := by
     refine At.loop (fun i : Nat => [(2, .v (stv p)), (7, sl1 s.length c), (16, .s (.lf (.sl 4002 0 0 1 L.length none))), (17, .int .i64 (L.length : Int)), (18, .int .i64 (i : Int))]) (fun i => [(2001, byR (putN s p L i) s.length), (4002, inR L L.length)]) (fun i => i ≤ L.length) (fun i => L.length - i) fun i hi ih => ?_
     by_cases hlt : i < L.length
     ·obtain ⟨x, hx⟩ : ∃ x, x = L.getD i 0 := ⟨_, rfl⟩
      have hxm : x ∈ L := by rw [hx, List.getD_eq_getElem?_getD, List.getElem?_eq_getElem hlt]; exact List.getElem_mem hlt
      have hxb := hLb x hxm
      have hv : TV.int .i64 ((L.getD (addN 0 (i : Int).toNat) 0 : Nat) : Int) = TV.int .i64 ((x : Nat) : Int) := by rw [hx, addN_eq, Nat.zero_add, Int.toNat_natCast]
      have hidx : addN 0 (i : Int).toNat < L.length := by rw [addN_eq]; omega
      have hsl : (bif Nat.beq c (x : Int).toNat then 0 else 0 + (x : Int).toNat) + (s.length - (x : Int).toNat) ≤ s.length := by
       cases Nat.beq c (x : Int).toNat <;> simp <;> omega
      have hst := putN_step (s := s) (p := p) hlt
      rw [← hx] at hst
      refine At.run rfl [(2006001, .val (.int .i64 ((x : Nat) : Int)))] ⟨trivial, trivial⟩ [.y] (tm2 := [(2, .v (stv p)), (7, sl1 s.length c), (16, .s (.lf (.sl 4002 0 0 1 L.length none))), (17, .int .i64 (L.length : Int)), (18, .int .i64 ((i + 1 : Nat) : Int))]) (rows2 := [(2001, ⟨[.fnc (copyF (byteF (putN s p L i)) (bif Nat.beq c (x : Int).toNat then 0 else 0 + (x : Int).toNat) (p.length.min (s.length - (x : Int).toNat)) (byteF p)) 1 s.length], true, none⟩), (4002, inR L L.length)])
       (ob := [decide ((i : Int) < (L.length : Int)) = true, 0 ≤ (i : Int) ∧ (i : Int) < (L.length : Int), TV.int .i64 ((L.getD (addN 0 (i : Int).toNat) 0 : Nat) : Int) = TV.int .i64 ((x : Nat) : Int), addN 0 (i : Int).toNat < L.length, 0 ≤ (x : Int) ∧ (x : Int) ≤ (s.length : Int), s.length ≤ c, (bif Nat.beq c (x : Int).toNat then 0 else 0 + (x : Int).toNat) + (s.length - (x : Int).toNat) ≤ s.length, inI ((i : Int) + 1)]) (td := lp Tryz.f18 0) (by kernel_rfl) ⟨decide_eq_true (by omega), ⟨by omega, by omega⟩, hv, hidx, ⟨by omega, by omega⟩, hc, hsl, ⟨by omega, by omega⟩, trivial⟩ rfl rfl (by intro h; cases h) ?_
      refine At.rows (rows2 := [(2001, byR (putN s p L (i + 1)) s.length), (4002, inR L L.length)]) (rowsEq_fnc (fun q hq => ?_) (rowsEq_same trivial)) rfl (ih (i + 1) hlt (by omega))
      rw [hst]
      have := putL_row (b := putN s p L i) (p := p) (x := x) (c := c) (by rw [hlen]; omega) (by omega) (by rw [hlen]; exact hc) q (by rw [hlen]; exact hq)
      rw [hlen] at this
      exact this
     ·obtain rfl : i = L.length := by omega
      have hb : L.foldl (fun b i => putL b p i) s = putN s p L L.length := by unfold putN; rw [List.take_length]
      rw [hb]
      obtain ⟨b, hbb⟩ : ∃ b, b = putN s p L L.length := ⟨_, rfl⟩
      have hbl : b.length = s.length := by rw [hbb, hlen]
      rw [← hbb]
      exact At.fin rfl [(2009001, .val (.v (stv b)))] ⟨trivial, trivial⟩ [.n] (x := .v (stv b)) (ob := [decide ((L.length : Int) < (L.length : Int)) = false, TV.v (stv (List.map (fun q => ubyte (byteF b (addN 0 q))) (List.range s.length))) = TV.v (stv b), 0 + s.length ≤ s.length, ∀ q, q < s.length → ∃ d : UInt8, byteF b (addN 0 q) = [.int .u8 (d.toNat : Int)]]) (by kernel_rfl) ⟨decide_eq_false (by omega), hend b hbl, by omega, hby b hbl, trivial⟩ fun ρ' w' hf _ => ⟨rfl, hcomp hf⟩
    exact At.run rfl [(3001, hMy p true), (4002, hI1 20 (fun _ => #[stv s, stv o]) [] 4002 L)] ⟨hMy_ok _ _ _ (by omega) hm, hk, trivial⟩ [.y] (tm2 := [(2, .v (stv p)), (7, sl1 s.length c), (16, .s (.lf (.sl 4002 0 0 1 L.length none))), (17, .int .i64 (L.length : Int)), (18, .int .i64 ((0 : Nat) : Int))]) (rows2 := [(2001, byR (putN s p L 0) s.length), (4002, inR L L.length)]) (ob := [qL (hMy p true), [true = true], qL (hI1 20 (fun _ => #[stv s, stv o]) [] 4002 L)].flatten) (td := lp Tryz.f18 0) (by kernel_rfl) (all_flat ⟨all_qL _, ⟨rfl, trivial⟩, all_qL _, trivial⟩) rfl rfl (by intro h; cases h) (hloop 0 (Nat.zero_le _))
abbrev hCh (s o p r : List UInt8) : Hint := .call ⟨18, fun _ => #[stv s, stv o, stv p], .v (stv r), [], [], none, []⟩
theorem hCh_ok (id : Nat) (s o p r : List UInt8) (hs : s.length ≤ 1000000) (ho : o.length ≤ 1000000) (hp : p.length ≤ 1000000) (h : changeL s o p = r) : HintOk Tryz.prog id (hCh s o p r) := by
 refine call_ok ent18 rfl (fun p hp => by cases hp) fun ρ w _ => (gchange_any s o p hs ho hp w).mono ?_
 rintro e w' ⟨rfl, hf⟩
 exact ⟨⟨0, 0, 0⟩, by rw [h]; rfl, hf, (fun p hp => by cases hp), fun row hrw => by cases hrw⟩
end
end Go.Proofs.YtdbbcngolcnniaaGreatDoor
/- The statements' Text: a text of parts by numbers. Its condition: lengths that fit. -/
namespace Go.Proofs.YtdbbcngolcnniaaGreatDoor
open Go.RowKit Go.Shelf
set_option linter.unusedVariables false
set_option linter.unusedSimpArgs false
section
open E
def pieceL (c : UInt8) : List UInt8 :=
 if c.toNat / 16 % 4 = 0 then partL (c.toNat % 16) else if c.toNat / 16 % 4 = 1 then partL (c.toNat % 16) ++ [45] else if c.toNat / 16 % 4 = 2 then (partL (c.toNat % 16)).take 31 else (partL (c.toNat % 16)).drop 1
theorem pieceL_len (c : UInt8) : (pieceL c).length ≤ 33 := by
 have := partL_len (c.toNat % 16)
 unfold pieceL
 split
 ·omega
 ·split
  ·simp [this]
  ·split <;> simp [this]
def textN (A : List UInt8) (i : Nat) : List UInt8 := (A.take i).flatMap pieceL
def textL (A : List UInt8) : List UInt8 := textN A 12
theorem textN_step {A : List UInt8} {i : Nat} (h : i < A.length) : textN A (i + 1) = textN A i ++ pieceL (A.getD i 0) := by
 unfold textN
 rw [List.take_add_one, List.getElem?_eq_getElem h, List.flatMap_append, List.getD_eq_getElem?_getD, List.getElem?_eq_getElem h]
 simp
theorem textN_len (A : List UInt8) : ∀ i, (textN A i).length ≤ 33 * i
 | 0 => by simp [textN]
 | i + 1 => by
  have ih := textN_len A i
  by_cases h : i < A.length
  ·rw [textN_step h, List.length_append]
   have := pieceL_len (A.getD i 0)
   omega
  ·have : textN A (i + 1) = textN A i := by unfold textN; rw [List.take_of_length_le (by omega), List.take_of_length_le (by omega)]
   rw [this]; omega
theorem textN_end {A : List UInt8} {i : Nat} (hi : i ≤ 12) (h : A.length ≤ i) : textN A i = textL A := by
 unfold textL textN
 rw [List.take_of_length_le h, List.take_of_length_le (by omega)]
theorem textL_len (A : List UInt8) : (textL A).length ≤ 396 := textN_len A 12
abbrev nuR (A : List UInt8) : Row := ⟨[.fnc (byteF A) 1 A.length], false, none⟩
theorem nuR_ok (A : List UInt8) : pok (nuR A).ps := pok1 fun i => ⟨rfl, fun v hv => by obtain rfl := List.mem_singleton.1 hv; rfl⟩
theorem ent6 : Enters Tryz.prog 6 := enters_of Tryz.func6 (by kernel_rfl) rfl
abbrev nuS (A : List UInt8) : TV := .s (.lf (.sl 0 0 0 1 A.length none))
abbrev txT (A X : List UInt8) (i : Nat) : List (Nat × TV) := [(0, nuS A), (3, .v (stv X)), (4, .int .i64 (i : Int))]
set_option maxRecDepth 100000 in
theorem text_pos (A : List UInt8) (hA : A.length ≤ 9223372036854775807) (w : World) (ρ : Env) (h : RowAt ρ 0 (nuR A) w) : Calls Tryz.prog 6 #[(nuS A).val ρ] w fun e w' => e = .returned (stv (textL A)) ∧ Below w.heap.size w w' := by
 refine At.calls (args := [nuS A]) (rows := [(0, nuR A)]) (gl := []) (wr := []) (ρ := ρ) Tryz.func6 rfl rfl (init_rw ⟨trivial, trivial⟩ rfl rfl rfl (fun p hp => by obtain rfl := List.mem_singleton.1 hp; exact ⟨h, nuR_ok A⟩) (fun p hp hw => by obtain rfl := List.mem_singleton.1 hp; cases hw) (fun p hp q hq hpq hw => by obtain rfl := List.mem_singleton.1 hp; cases hw)) rfl ?_
 have hloop : ∀ i : Nat, (i ≤ 12 ∧ i ≤ A.length) → At Tryz.prog w ⟨[], ρ, []⟩ Tryz.f6.ntmps [] (lp Tryz.f6 0) (EndX Tryz.prog Tryz.f6 fun e w' => e = .returned (stv (textL A)) ∧ Below w.heap.size w w') (txT A (textN A i) i) [(0, nuR A)] := by
  refine At.loop (fun i : Nat => txT A (textN A i) i) (fun _ => [(0, nuR A)]) (fun i => i ≤ 12 ∧ i ≤ A.length) (fun i => 12 - i) fun i ⟨h12, hi⟩ ih => ?_
  by_cases hlt : i < A.length
  ·have hb : TV.v (.bool (decide ((i : Int) < (A.length : Int)))) = TV.v (.bool true) := by rw [decide_eq_true (by omega)]
   by_cases h2 : i < 12
   ·obtain ⟨c, hc⟩ : ∃ c, c = A.getD i 0 := ⟨_, rfl⟩
    have hg : A.getD (addN 0 (i : Int).toNat) 0 = c := by rw [hc, addN_eq, Nat.zero_add, Int.toNat_natCast]
    have hst := textN_step hlt
    rw [← hc] at hst
    obtain ⟨X, hX⟩ : ∃ X, X = textN A i := ⟨_, rfl⟩
    have hXl : X.length ≤ 396 := by rw [hX]; have := textN_len A i; omega
    have hnext := ih (i + 1) ⟨by omega, by omega⟩ (by omega)
    rw [hst, ← hX] at hnext
    rw [← hX]
    obtain ⟨m, hm⟩ : ∃ m, m = c.toNat % 16 := ⟨_, rfl⟩
    have hml : (partL m).length = 32 := partL_len m
    have hc256 := c.toNat_lt
    have g1 : TV.int .u8 (((A.getD (addN 0 (i : Int).toNat) 0).toNat : Int) % 16) = TV.int .u8 ((m : Nat) : Int) := by rw [hg, hm]; rfl
    have g2 : ∀ k : Nat, c.toNat / 16 % 4 = k → TV.int .u8 (((A.getD (addN 0 (i : Int).toNat) 0).toNat : Int) / 16 % 4) = TV.int .u8 ((k : Nat) : Int) := fun k hk => by rw [hg, ← hk]; rfl
    have gw : IntKind.u8.wrap (((A.getD (addN 0 (i : Int).toNat) 0).toNat : Int) / 16) = ((A.getD (addN 0 (i : Int).toNat) 0).toNat : Int) / 16 := by
     rw [hg]
     have : ((c.toNat : Int) / 16) = ((c.toNat / 16 : Nat) : Int) := rfl
     rw [this]
     simp [IntKind.wrap, IntKind.bits, IntKind.signed]
     omega
    have hidx : addN 0 (i : Int).toNat < A.length := by rw [addN_eq]; omega
    have hpc : pieceL c = if c.toNat / 16 % 4 = 0 then partL m else if c.toNat / 16 % 4 = 1 then partL m ++ [45] else if c.toNat / 16 % 4 = 2 then (partL m).take 31 else (partL m).drop 1 := by rw [hm]; rfl
    have h0' : (0 : Int) ≤ ((A.getD (addN 0 (i : Int).toNat) 0).toNat : Int) := by omega
    have h0'' : (0 : Int) ≤ ((A.getD (addN 0 (i : Int).toNat) 0).toNat : Int) / 16 := by omega
    have hk4 : c.toNat / 16 % 4 < 4 := Nat.mod_lt _ (by decide)
    have kPt := hPt_ok 6005 m (by omega)
    have hpre : all [TV.v (.bool (decide ((i : Int) < (A.length : Int)))) = TV.v (.bool true), decide ((i : Int) < 12) = true, 0 ≤ (i : Int) ∧ (i : Int) < (A.length : Int), addN 0 (i : Int).toNat < A.length, TV.int .u8 (((A.getD (addN 0 (i : Int).toNat) 0).toNat : Int) % 16) = TV.int .u8 ((m : Nat) : Int), 0 ≤ ((A.getD (addN 0 (i : Int).toNat) 0).toNat : Int) ∧ (0 : Int) < 16] := ⟨hb, decide_eq_true (by omega), ⟨by omega, by omega⟩, hidx, g1, ⟨h0', by decide⟩, trivial⟩
    have hmid : ∀ k : Nat, c.toNat / 16 % 4 = k → all [0 ≤ (i : Int) ∧ (i : Int) < (A.length : Int), addN 0 (i : Int).toNat < A.length, 0 ≤ ((A.getD (addN 0 (i : Int).toNat) 0).toNat : Int) ∧ (0 : Int) < 16, IntKind.u8.wrap (((A.getD (addN 0 (i : Int).toNat) 0).toNat : Int) / 16) = ((A.getD (addN 0 (i : Int).toNat) 0).toNat : Int) / 16, TV.int .u8 (((A.getD (addN 0 (i : Int).toNat) 0).toNat : Int) / 16 % 4) = TV.int .u8 ((k : Nat) : Int), 0 ≤ ((A.getD (addN 0 (i : Int).toNat) 0).toNat : Int) / 16 ∧ (0 : Int) < 4] := fun k hk => ⟨⟨by omega, by omega⟩, hidx, ⟨h0', by decide⟩, gw, g2 k hk, ⟨h0'', by decide⟩, trivial⟩
    have hin : inI ((i : Int) + 1) := ⟨by omega, by omega⟩
    have arm0 : c.toNat / 16 % 4 = 0 → At Tryz.prog w ⟨[], ρ, []⟩ Tryz.f6.ntmps [] (lp Tryz.f6 0) (EndX Tryz.prog Tryz.f6 fun e w' => e = .returned (stv (textL A)) ∧ Below w.heap.size w w') (txT A X i) [(0, nuR A)] := fun hk => by
     have he : X ++ pieceL c = X ++ partL m := by rw [hpc, if_pos hk]
     rw [he] at hnext
     exact At.run rfl [(2004004, .val (.v (.bool true))), (2006004, .val (.int .u8 ((m : Nat) : Int))), (6005, hPt m), (2007005, .val (.int .u8 0))] ⟨trivial, trivial, kPt, trivial, trivial⟩ [.y, .d] (tm2 := txT A (X ++ partL m) (i + 1)) (rows2 := [(0, nuR A)]) (ob := [[TV.v (.bool (decide ((i : Int) < (A.length : Int)))) = TV.v (.bool true), decide ((i : Int) < 12) = true, 0 ≤ (i : Int) ∧ (i : Int) < (A.length : Int), addN 0 (i : Int).toNat < A.length, TV.int .u8 (((A.getD (addN 0 (i : Int).toNat) 0).toNat : Int) % 16) = TV.int .u8 ((m : Nat) : Int), 0 ≤ ((A.getD (addN 0 (i : Int).toNat) 0).toNat : Int) ∧ (0 : Int) < 16], qL (hPt m), [0 ≤ (i : Int) ∧ (i : Int) < (A.length : Int), addN 0 (i : Int).toNat < A.length, 0 ≤ ((A.getD (addN 0 (i : Int).toNat) 0).toNat : Int) ∧ (0 : Int) < 16, IntKind.u8.wrap (((A.getD (addN 0 (i : Int).toNat) 0).toNat : Int) / 16) = ((A.getD (addN 0 (i : Int).toNat) 0).toNat : Int) / 16, TV.int .u8 (((A.getD (addN 0 (i : Int).toNat) 0).toNat : Int) / 16 % 4) = TV.int .u8 ((0 : Nat) : Int), 0 ≤ ((A.getD (addN 0 (i : Int).toNat) 0).toNat : Int) / 16 ∧ (0 : Int) < 4], [(X.length : Int) + ((partL m).length : Int) ≤ 9223372036854775807], [inI ((i : Int) + 1)]].flatten) (td := lp Tryz.f6 0) (by kernel_rfl) (all_flat ⟨hpre, all_qL _, hmid 0 hk, ⟨by rw [hml]; omega, trivial⟩, ⟨hin, trivial⟩, trivial⟩) rfl rfl (by intro h; cases h) hnext
    have arm1 : c.toNat / 16 % 4 = 1 → At Tryz.prog w ⟨[], ρ, []⟩ Tryz.f6.ntmps [] (lp Tryz.f6 0) (EndX Tryz.prog Tryz.f6 fun e w' => e = .returned (stv (textL A)) ∧ Below w.heap.size w w') (txT A X i) [(0, nuR A)] := fun hk => by
     have he : X ++ pieceL c = (X ++ partL m) ++ [45] := by rw [hpc, if_neg (by omega), if_pos hk, ← List.append_assoc]
     rw [he] at hnext
     exact At.run rfl [(2004004, .val (.v (.bool true))), (2006004, .val (.int .u8 ((m : Nat) : Int))), (6005, hPt m), (2007005, .val (.int .u8 1))] ⟨trivial, trivial, kPt, trivial, trivial⟩ [.y, .d, .d] (tm2 := txT A ((X ++ partL m) ++ [45]) (i + 1)) (rows2 := [(0, nuR A)]) (ob := [[TV.v (.bool (decide ((i : Int) < (A.length : Int)))) = TV.v (.bool true), decide ((i : Int) < 12) = true, 0 ≤ (i : Int) ∧ (i : Int) < (A.length : Int), addN 0 (i : Int).toNat < A.length, TV.int .u8 (((A.getD (addN 0 (i : Int).toNat) 0).toNat : Int) % 16) = TV.int .u8 ((m : Nat) : Int), 0 ≤ ((A.getD (addN 0 (i : Int).toNat) 0).toNat : Int) ∧ (0 : Int) < 16], qL (hPt m), [0 ≤ (i : Int) ∧ (i : Int) < (A.length : Int), addN 0 (i : Int).toNat < A.length, 0 ≤ ((A.getD (addN 0 (i : Int).toNat) 0).toNat : Int) ∧ (0 : Int) < 16, IntKind.u8.wrap (((A.getD (addN 0 (i : Int).toNat) 0).toNat : Int) / 16) = ((A.getD (addN 0 (i : Int).toNat) 0).toNat : Int) / 16, TV.int .u8 (((A.getD (addN 0 (i : Int).toNat) 0).toNat : Int) / 16 % 4) = TV.int .u8 ((1 : Nat) : Int), 0 ≤ ((A.getD (addN 0 (i : Int).toNat) 0).toNat : Int) / 16 ∧ (0 : Int) < 4], [(X.length : Int) + ((partL m).length : Int) ≤ 9223372036854775807, ((X ++ partL m).length : Int) + (([45] : List UInt8).length : Int) ≤ 9223372036854775807], [inI ((i : Int) + 1)]].flatten) (td := lp Tryz.f6 0) (by kernel_rfl) (all_flat ⟨hpre, all_qL _, hmid 1 hk, ⟨by rw [hml]; omega, by rw [List.length_append, hml]; simp only [List.length_cons, List.length_nil]; omega, trivial⟩, ⟨hin, trivial⟩, trivial⟩) rfl rfl (by intro h; cases h) hnext
    have arm2 : c.toNat / 16 % 4 = 2 → At Tryz.prog w ⟨[], ρ, []⟩ Tryz.f6.ntmps [] (lp Tryz.f6 0) (EndX Tryz.prog Tryz.f6 fun e w' => e = .returned (stv (textL A)) ∧ Below w.heap.size w w') (txT A X i) [(0, nuR A)] := fun hk => by
     have he : X ++ pieceL c = X ++ (partL m).take 31 := by rw [hpc, if_neg (by omega), if_neg (by omega), if_pos hk]
     rw [he] at hnext
     exact At.run rfl [(2004004, .val (.v (.bool true))), (2006004, .val (.int .u8 ((m : Nat) : Int))), (6005, hPt m), (2007005, .val (.int .u8 2))] ⟨trivial, trivial, kPt, trivial, trivial⟩ [.y, .d, .d, .d] (tm2 := txT A (X ++ (partL m).take 31) (i + 1)) (rows2 := [(0, nuR A)]) (ob := [[TV.v (.bool (decide ((i : Int) < (A.length : Int)))) = TV.v (.bool true), decide ((i : Int) < 12) = true, 0 ≤ (i : Int) ∧ (i : Int) < (A.length : Int), addN 0 (i : Int).toNat < A.length, TV.int .u8 (((A.getD (addN 0 (i : Int).toNat) 0).toNat : Int) % 16) = TV.int .u8 ((m : Nat) : Int), 0 ≤ ((A.getD (addN 0 (i : Int).toNat) 0).toNat : Int) ∧ (0 : Int) < 16], qL (hPt m), [0 ≤ (i : Int) ∧ (i : Int) < (A.length : Int), addN 0 (i : Int).toNat < A.length, 0 ≤ ((A.getD (addN 0 (i : Int).toNat) 0).toNat : Int) ∧ (0 : Int) < 16, IntKind.u8.wrap (((A.getD (addN 0 (i : Int).toNat) 0).toNat : Int) / 16) = ((A.getD (addN 0 (i : Int).toNat) 0).toNat : Int) / 16, TV.int .u8 (((A.getD (addN 0 (i : Int).toNat) 0).toNat : Int) / 16 % 4) = TV.int .u8 ((2 : Nat) : Int), 0 ≤ ((A.getD (addN 0 (i : Int).toNat) 0).toNat : Int) / 16 ∧ (0 : Int) < 4], [(0 : Int) ≤ 31 ∧ (31 : Int) ≤ ((partL m).length : Int), (X.length : Int) + (((partL m).take 31).length : Int) ≤ 9223372036854775807], [inI ((i : Int) + 1)]].flatten) (td := lp Tryz.f6 0) (by kernel_rfl) (all_flat ⟨hpre, all_qL _, hmid 2 hk, ⟨⟨by decide, by rw [hml]; decide⟩, by rw [List.length_take, hml]; omega, trivial⟩, ⟨hin, trivial⟩, trivial⟩) rfl rfl (by intro h; cases h) hnext
    have arm3 : c.toNat / 16 % 4 = 3 → At Tryz.prog w ⟨[], ρ, []⟩ Tryz.f6.ntmps [] (lp Tryz.f6 0) (EndX Tryz.prog Tryz.f6 fun e w' => e = .returned (stv (textL A)) ∧ Below w.heap.size w w') (txT A X i) [(0, nuR A)] := fun hk => by
     have he : X ++ pieceL c = X ++ (partL m).drop 1 := by rw [hpc, if_neg (by omega), if_neg (by omega), if_neg (by omega)]
     rw [he] at hnext
     exact At.run rfl [(2004004, .val (.v (.bool true))), (2006004, .val (.int .u8 ((m : Nat) : Int))), (6005, hPt m), (2007005, .val (.int .u8 3))] ⟨trivial, trivial, kPt, trivial, trivial⟩ [.y, .d, .d, .d] (tm2 := txT A (X ++ (partL m).drop 1) (i + 1)) (rows2 := [(0, nuR A)]) (ob := [[TV.v (.bool (decide ((i : Int) < (A.length : Int)))) = TV.v (.bool true), decide ((i : Int) < 12) = true, 0 ≤ (i : Int) ∧ (i : Int) < (A.length : Int), addN 0 (i : Int).toNat < A.length, TV.int .u8 (((A.getD (addN 0 (i : Int).toNat) 0).toNat : Int) % 16) = TV.int .u8 ((m : Nat) : Int), 0 ≤ ((A.getD (addN 0 (i : Int).toNat) 0).toNat : Int) ∧ (0 : Int) < 16], qL (hPt m), [0 ≤ (i : Int) ∧ (i : Int) < (A.length : Int), addN 0 (i : Int).toNat < A.length, 0 ≤ ((A.getD (addN 0 (i : Int).toNat) 0).toNat : Int) ∧ (0 : Int) < 16, IntKind.u8.wrap (((A.getD (addN 0 (i : Int).toNat) 0).toNat : Int) / 16) = ((A.getD (addN 0 (i : Int).toNat) 0).toNat : Int) / 16, TV.int .u8 (((A.getD (addN 0 (i : Int).toNat) 0).toNat : Int) / 16 % 4) = TV.int .u8 ((3 : Nat) : Int), 0 ≤ ((A.getD (addN 0 (i : Int).toNat) 0).toNat : Int) / 16 ∧ (0 : Int) < 4], [(0 : Int) ≤ 1 ∧ (1 : Int) ≤ ((partL m).length : Int), (X.length : Int) + (((partL m).drop 1).length : Int) ≤ 9223372036854775807], [inI ((i : Int) + 1)]].flatten) (td := lp Tryz.f6 0) (by kernel_rfl) (all_flat ⟨hpre, all_qL _, hmid 3 hk, ⟨⟨by decide, by rw [hml]; decide⟩, by rw [List.length_drop, hml]; omega, trivial⟩, ⟨hin, trivial⟩, trivial⟩) rfl rfl (by intro h; cases h) hnext
    rcases (show c.toNat / 16 % 4 = 0 ∨ c.toNat / 16 % 4 = 1 ∨ c.toNat / 16 % 4 = 2 ∨ c.toNat / 16 % 4 = 3 by omega) with hk | hk | hk | hk
    ·exact arm0 hk
    ·exact arm1 hk
    ·exact arm2 hk
    ·exact arm3 hk
   ·obtain rfl : i = 12 := by omega
    exact At.fin rfl [(2004004, .val (.v (.bool true)))] ⟨trivial, trivial⟩ [.n] (x := .v (stv (textL A))) (ob := [TV.v (.bool (decide (((12 : Nat) : Int) < (A.length : Int)))) = TV.v (.bool true), decide (((12 : Nat) : Int) < 12) = false]) (by kernel_rfl) ⟨hb, rfl, trivial⟩ fun ρ' w' hf _ => ⟨rfl, hf.below⟩
  ·have hb : TV.v (.bool (decide ((i : Int) < (A.length : Int)))) = TV.v (.bool false) := by rw [decide_eq_false (by omega)]
   rw [textN_end h12 (by omega)]
   exact At.fin rfl [(2004004, .val (.v (.bool false)))] ⟨trivial, trivial⟩ [.d] (x := .v (stv (textL A))) (ob := [TV.v (.bool (decide ((i : Int) < (A.length : Int)))) = TV.v (.bool false)]) (by kernel_rfl) ⟨hb, trivial⟩ fun ρ' w' hf _ => ⟨rfl, hf.below⟩
 exact At.run rfl [] trivial [] (tm2 := txT A (textN A 0) 0) (rows2 := [(0, nuR A)]) (ob := []) (td := lp Tryz.f6 0) (by kernel_rfl) trivial rfl rfl (by intro h; cases h) (hloop 0 ⟨by omega, Nat.zero_le _⟩)
set_option maxRecDepth 100000 in
theorem text_nil (pa : Option Addr) (ca : Nat) (w : World) : Calls Tryz.prog 6 #[.slice pa 0 ca] w fun e w' => e = .returned (stv (textL [])) ∧ Below w.heap.size w w' := by
 refine At.calls (args := [.v (.slice pa 0 ca)]) (rows := []) (gl := []) (wr := []) (ρ := fun _ => (⟨0, 0, 0⟩ : Blk)) Tryz.func6 rfl rfl (init_rw ⟨rfl, trivial⟩ rfl rfl rfl (fun p hp => by cases hp) (fun p hp => by cases hp) (fun p hp => by cases hp)) rfl ?_
 exact At.fin rfl [(2004004, .val (.v (.bool false)))] ⟨trivial, trivial⟩ [.u, .d] (x := .v (stv [])) (ob := [TV.v (.bool (decide ((0 : Int) < 0))) = TV.v (.bool false)]) (by kernel_rfl) ⟨rfl, trivial⟩ fun ρ' w' hf _ => ⟨rfl, hf.below⟩
abbrev hTx (A : List UInt8) : Hint := .call ⟨6, fun ρ => #[(nuS A).val ρ], .v (stv (textL A)), [(0, nuR A)], [], none, []⟩
theorem hTx_ok (id : Nat) (A : List UInt8) (hA : A.length ≤ 9223372036854775807) : HintOk Tryz.prog id (hTx A) := by
 refine call_ok ent6 rfl (fun p hp => by cases hp) fun ρ w hr => (text_pos A hA w ρ (hr _ (List.mem_singleton.2 rfl))).mono ?_
 rintro e w' ⟨rfl, hf⟩
 exact ⟨⟨0, 0, 0⟩, rfl, Fr.of_below hf _, (fun p hp => by cases hp), fun row hrw => by cases hrw⟩
abbrev hTx0 (pa : Option Addr) (ca : Nat) : Hint := pc 6 #[.slice pa 0 ca] (.v (stv (textL [])))
theorem hTx0_ok (id : Nat) (pa : Option Addr) (ca : Nat) : HintOk Tryz.prog id (hTx0 pa ca) := pc_ok ent6 (v := stv (textL [])) rfl (fun _ => rfl) fun w => text_nil pa ca w
end
end Go.Proofs.YtdbbcngolcnniaaGreatDoor
/- awake; what a part changed for another one leaves. No condition but lengths that fit. -/
namespace Go.Proofs.YtdbbcngolcnniaaGreatDoor
open Go.RowKit Go.Shelf
set_option linter.unusedVariables false
set_option linter.unusedSimpArgs false
theorem pl_win (s p : List UInt8) (hp : 0 < p.length) : ∀ (n i : Nat), s.length - i ≤ n → (∀ x ∈ pl s p i, (s.drop x).take p.length = p) ∧ (pl s p i).Pairwise (fun x y => x + p.length ≤ y)
 | n, i, hn => by
  by_cases h : i + p.length ≤ s.length
  ·cases n with
   | zero => omega
   | succ n =>
    by_cases hw : (s.drop i).take p.length = p
    ·rw [pl_yes hp h hw]
     obtain ⟨h1, h2⟩ := pl_win s p hp n (i + p.length) (by omega)
     refine ⟨fun x hx => ?_, List.pairwise_cons.2 ⟨fun x hx => ((pl_bnd s p hp n (i + p.length) (by omega)).2 x hx).1, h2⟩⟩
     rcases List.mem_cons.1 hx with rfl | hx
     ·exact hw
     ·exact h1 x hx
    ·rw [pl_no hp h hw]
     exact pl_win s p hp n (i + 1) (by omega)
  ·rw [pl_end h]
   exact ⟨(fun x hx => by cases hx), List.Pairwise.nil⟩
theorem put_keep {p : List UInt8} {k : Nat} : ∀ {L : List Nat} {s : List UInt8}, (∀ x ∈ L, x + p.length ≤ s.length) → (∀ x ∈ L, k < x) → (L.foldl (fun b i => putL b p i) s).getD k 0 = s.getD k 0
 | [], _, _, _ => rfl
 | x :: L, s, h, hk => by
  have h1 := h x (List.mem_cons_self ..)
  have hl := putL_len h1
  show (L.foldl (fun b i => putL b p i) (putL s p x)).getD k 0 = _
  rw [put_keep (L := L) (s := putL s p x) (fun y hy => by rw [hl]; exact h y (List.mem_cons_of_mem _ hy)) (fun y hy => hk y (List.mem_cons_of_mem _ hy)), putL_getD h1, if_neg]
  have := hk x (List.mem_cons_self ..)
  omega
theorem put_at {p : List UInt8} : ∀ {L : List Nat} {s : List UInt8}, (∀ x ∈ L, x + p.length ≤ s.length) → L.Pairwise (fun x y => x + p.length ≤ y) → ∀ x ∈ L, ∀ k, x ≤ k → k < x + p.length → (L.foldl (fun b i => putL b p i) s).getD k 0 = p.getD (k - x) 0
 | x :: L, s, h, hw, y, hy, k, h1, h2 => by
  have hx := h x (List.mem_cons_self ..)
  have hl := putL_len hx
  have hb : ∀ z ∈ L, z + p.length ≤ (putL s p x).length := fun z hz => by rw [hl]; exact h z (List.mem_cons_of_mem _ hz)
  rw [List.pairwise_cons] at hw
  show (L.foldl (fun b i => putL b p i) (putL s p x)).getD k 0 = _
  rcases List.mem_cons.1 hy with rfl | hy
  ·rw [put_keep hb (fun z hz => by have := hw.1 z hz; omega), putL_getD hx, if_pos ⟨h1, h2⟩]
  ·exact put_at hb hw.2 y hy k h1 h2
theorem change_len (s o p : List UInt8) : (changeL s o p).length = s.length := by
 rw [changeL_eq]
 by_cases hm : mayP p = true
 ·rw [if_pos hm]
  exact putN_len fun x hx => by rw [may_len hm]; exact places_bnd x hx
 ·rw [if_neg hm]
section
open E
end
end Go.Proofs.YtdbbcngolcnniaaGreatDoor
/- ScanChange's law: a part changed for another one. Its condition: lengths that fit. -/
namespace Go.Proofs.YtdbbcngolcnniaaGreatDoor
open Go.RowKit Go.Shelf
set_option linter.unusedVariables false
set_option linter.unusedSimpArgs false
section
open E
theorem places_len (s p : List UInt8) (hs : s.length ≤ 1000000) : (placesL s p).length ≤ 1000000 := by
 unfold placesL
 split
 ·rename_i hmo
  have := may_len hmo
  exact Nat.le_trans (pl_len s p (by omega) 0) hs
 ·exact Nat.zero_le _
theorem hI_doc0 {id : Nat} {s p : List UInt8} (hs : s.length ≤ 1000000) (hp : p.length ≤ 1000000) (h : placesL s p = []) : HintOk Tryz.prog id (hI0 9 (fun _ => #[stv s, stv p]) []) := hI0_of ent9 fun ρ w _ => by
 have := rplaces_any s p hs hp w
 rw [h] at this
 exact this
theorem hI_doc1 {id : Nat} {s p : List UInt8} (hs : s.length ≤ 1000000) (hp : p.length ≤ 1000000) (h : placesL s p ≠ []) : HintOk Tryz.prog id (hI1 9 (fun _ => #[stv s, stv p]) [] id (placesL s p)) := hI1_of h ent9 fun ρ w _ => rplaces_any s p hs hp w
end
end Go.Proofs.YtdbbcngolcnniaaGreatDoor
