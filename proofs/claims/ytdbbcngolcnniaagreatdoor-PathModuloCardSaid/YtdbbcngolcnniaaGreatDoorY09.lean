/- Several texts, one behind the other; each says by itself what it proves, and on what conditions. -/
import Derived.Test.YtdbbcngolcnniaaGreatDoorY08
import Derived.Test.YtdbbcngolcnniaaGreatDoorProg
import Derived.RangeFuncNested
import Derived.RangeFuncBound
import Derived.RangeFuncCalls
import Derived.RangeFuncLeaves
import Derived.Shelf.Abstract
import Derived.Shelf.RegionOpen
import Derived.WalkKit
import Derived.OwnWalkIn
import Derived.TacticsInMore
import Derived.LoopNIn
import Derived.LoopIn
import Derived.StillTail
import Derived.OrdersHeld
import Derived.Lib.Hide
/- Parts: which texts may be one, where they stand. No condition. -/
namespace Go.Proofs.YtdbbcngolcnniaaGreatDoor
set_option linter.unusedVariables false
set_option linter.unusedSimpArgs false
def mayP (p : List UInt8) : Bool := decide (p.length = 32) && p.all fun c => letL.contains c
theorem lett_of : ∀ n, n < 256 → letL.contains (UInt8.ofNat n) = true → placeN letL (UInt8.ofNat n) < 32 ∧ lett (placeN letL (UInt8.ofNat n)) = UInt8.ofNat n := by decide +kernel
theorem lett_in {c : UInt8} (h : letL.contains c = true) : placeN letL c < 32 ∧ lett (placeN letL c) = c := by
  have e : UInt8.ofNat c.toNat = c := by simp
  have := lett_of c.toNat c.toNat_lt (by rw [e]; exact h)
  rw [e] at this
  exact this
theorem lett_has : ∀ d, d < 32 → letL.contains (lett d) = true := by decide +kernel
theorem enc_val : ∀ (n : Nat) (s : List UInt8), s.length = n → (∀ c ∈ s, letL.contains c = true) → enc32 (val32 s) n = s ∧ val32 s < 32 ^ n
  | 0, s, hn, _ => by
    obtain rfl := List.length_eq_zero_iff.1 hn
    exact ⟨rfl, by decide⟩
  | n + 1, s, hn, h => by
    have hne : s ≠ [] := by rintro rfl; cases hn
    have hs := List.dropLast_concat_getLast hne
    obtain ⟨t, ht⟩ : ∃ t, t = s.dropLast := ⟨_, rfl⟩
    obtain ⟨c, hc⟩ : ∃ c, c = s.getLast hne := ⟨_, rfl⟩
    rw [← ht, ← hc] at hs
    have htl : t.length = n := by rw [ht, List.length_dropLast]; omega
    have hct := lett_in (h c (by rw [← hs]; simp))
    obtain ⟨h1, h2⟩ := enc_val n t htl (fun d hd => h d (by rw [← hs]; simp [hd]))
    have hv : val32 s = val32 t * 32 + placeN letL c := by
      rw [← hs]
      unfold val32
      rw [List.foldl_append]
      show _ * 32 + placeN letL c % 32 = _
      rw [Nat.mod_eq_of_lt hct.1]
    constructor
    · show enc32 (val32 s / 32) n ++ [lett (val32 s % 32)] = s
      rw [hv, show (val32 t * 32 + placeN letL c) / 32 = val32 t by omega, show (val32 t * 32 + placeN letL c) % 32 = placeN letL c by omega, h1, hct.2]
      exact hs
    · rw [hv, Nat.pow_succ]; omega
theorem enc_all (x : Nat) (m : Nat) : ∀ c ∈ enc32 x m, letL.contains c = true := by
  intro c hc
  obtain ⟨d, hd, rfl⟩ := enc32_mem x m c hc
  exact lett_has d hd
theorem may_get (s : List UInt8) : (get32 s 20).isSome = mayP s := by
  cases hm : mayP s with
  | true =>
    unfold mayP at hm
    rw [Bool.and_eq_true, List.all_eq_true] at hm
    have hl := of_decide_eq_true hm.1
    obtain ⟨h1, h2⟩ := enc_val 32 s hl hm.2
    have h3 : val32 s < 256 ^ 20 := by have : (32 : Nat) ^ 32 = 256 ^ 20 := by decide
                                       omega
    have : get32 s 20 = some (bytesOf (val32 s) 20) := by
      refine (get32_iff _ _ _).2 ⟨by decide, bytesOf_length _ _, ?_⟩
      unfold b32
      rw [num_bytesOf _ _ h3, bytesOf_length]
      exact h1
    rw [this]; rfl
  | false =>
    cases hg : get32 s 20 with
    | none => rfl
    | some b =>
      obtain ⟨_, h2, h3⟩ := get32_some hg
      have : mayP s = true := by
        unfold mayP
        rw [Bool.and_eq_true, List.all_eq_true]
        refine ⟨decide_eq_true ?_, fun c hc => ?_⟩
        · rw [← h3, b32_length, h2]; rfl
        · rw [← h3] at hc
          exact enc_all _ _ c hc
      rw [this] at hm; cases hm
theorem may_len {p : List UInt8} (h : mayP p = true) : p.length = 32 := by
  unfold mayP at h
  rw [Bool.and_eq_true] at h
  exact of_decide_eq_true h.1
def stP (s p : List UInt8) (i : Nat) : Bool := decide (i + p.length ≤ s.length) && ((s.drop i).take p.length == p)
def plF (s p : List UInt8) : Nat → Nat → List Nat
  | 0, _ => []
  | f + 1, i => if i + p.length ≤ s.length then (if (s.drop i).take p.length = p then i :: plF s p f (i + p.length) else plF s p f (i + 1)) else []
def pl (s p : List UInt8) (i : Nat) : List Nat := plF s p (s.length + 1 - i) i
theorem plF_fuel (s p : List UInt8) (hp : 0 < p.length) : ∀ (f g i : Nat), s.length + 1 ≤ f + i → s.length + 1 ≤ g + i → plF s p f i = plF s p g i
  | 0, 0, i, _, _ => rfl
  | 0, g + 1, i, hf, hg => by unfold plF; rw [if_neg (by omega)]
  | f + 1, 0, i, hf, hg => by unfold plF; rw [if_neg (by omega)]
  | f + 1, g + 1, i, hf, hg => by
    unfold plF
    rw [plF_fuel s p hp f g (i + p.length) (by omega) (by omega), plF_fuel s p hp f g (i + 1) (by omega) (by omega)]
theorem pl_end {s p : List UInt8} {i : Nat} (h : ¬ i + p.length ≤ s.length) : pl s p i = [] := by
  unfold pl
  cases s.length + 1 - i with
  | zero => rfl
  | succ f => unfold plF; rw [if_neg h]
theorem pl_yes {s p : List UInt8} {i : Nat} (hp : 0 < p.length) (h : i + p.length ≤ s.length) (hw : (s.drop i).take p.length = p) : pl s p i = i :: pl s p (i + p.length) := by
  have e : s.length + 1 - i = (s.length - i) + 1 := by omega
  unfold pl
  rw [e]
  show (if i + p.length ≤ s.length then _ else _) = _
  rw [if_pos h, if_pos hw, plF_fuel s p hp _ (s.length + 1 - (i + p.length)) _ (by omega) (by omega)]
theorem pl_no {s p : List UInt8} {i : Nat} (hp : 0 < p.length) (h : i + p.length ≤ s.length) (hw : (s.drop i).take p.length ≠ p) : pl s p i = pl s p (i + 1) := by
  have e : s.length + 1 - i = (s.length - i) + 1 := by omega
  unfold pl
  rw [e]
  show (if i + p.length ≤ s.length then _ else _) = _
  rw [if_pos h, if_neg hw, plF_fuel s p hp _ (s.length + 1 - (i + 1)) _ (by omega) (by omega)]
def placesL (s p : List UInt8) : List Nat := if mayP p then pl s p 0 else []
theorem pl_bnd (s p : List UInt8) (hp : 0 < p.length) : ∀ (n i : Nat), s.length - i ≤ n → (pl s p i).length + i ≤ s.length + (if (pl s p i) = [] then i else 0) ∧ ∀ x ∈ pl s p i, i ≤ x ∧ x + p.length ≤ s.length
  | n, i, hn => by
    by_cases h : i + p.length ≤ s.length
    · cases n with
      | zero => omega
      | succ n =>
        by_cases hw : (s.drop i).take p.length = p
        · rw [pl_yes hp h hw]
          obtain ⟨h1, h2⟩ := pl_bnd s p hp n (i + p.length) (by omega)
          refine ⟨?_, fun x hx => ?_⟩
          · rw [if_neg (by simp), List.length_cons]
            by_cases h0 : pl s p (i + p.length) = []
            · rw [h0]; simp; omega
            · rw [if_neg h0] at h1; omega
          · rcases List.mem_cons.1 hx with rfl | hx
            · exact ⟨Nat.le_refl _, h⟩
            · have := h2 x hx; omega
        · rw [pl_no hp h hw]
          obtain ⟨h1, h2⟩ := pl_bnd s p hp n (i + 1) (by omega)
          refine ⟨?_, fun x hx => by have := h2 x hx; omega⟩
          by_cases h0 : pl s p (i + 1) = []
          · rw [h0]; simp
          · rw [if_neg h0] at h1 ⊢; omega
    · rw [pl_end h]; exact ⟨by simp, fun x hx => by cases hx⟩
theorem pl_len (s p : List UInt8) (hp : 0 < p.length) (i : Nat) : (pl s p i).length ≤ s.length := by
  have := (pl_bnd s p hp s.length i (by omega)).1
  by_cases h0 : pl s p i = []
  · rw [h0]; exact Nat.zero_le _
  · rw [if_neg h0] at this; omega
def putL (s p : List UInt8) (i : Nat) : List UInt8 := s.take i ++ (p ++ s.drop (i + p.length))
def changeL (s old p : List UInt8) : List UInt8 := if mayP old && mayP p then (placesL s old).foldl (fun b i => putL b p i) s else s
end Go.Proofs.YtdbbcngolcnniaaGreatDoor
/- A range over a function whose rounds turn one block that is no row (a map): what holds of the world is handed on from round to round; behind it nothing is known but that. -/
namespace Go.Proofs.YtdbbcngolcnniaaGreatDoor
open Go Go.RowKit
set_option linter.unusedVariables false
set_option linter.unusedSimpArgs false
section
open E
def roR (rows : List (Nat × Row)) : List (Nat × Row) := rows.map fun p => (p.1, ⟨p.2.ps, false, p.2.cp⟩)
theorem roR_find : ∀ {rows : List (Nat × Row)} {r : Nat} {y : Row}, findR (roR rows) r = some y → ∃ x, findR rows r = some x ∧ y = ⟨x.ps, false, x.cp⟩
 | [], r, y, h => by cases h
 | p :: rows, r, y, h => by
  simp only [roR, List.map_cons, findR] at h ⊢
  cases hb : Nat.beq p.1 r with
  | true => rw [hb] at h; cases h; exact ⟨_, rfl, rfl⟩
  | false => rw [hb] at h; exact roR_find h
theorem E.At.ro {P : Program} {w0 : World} {wr : Bs} {n : Nat} {gl : List Nat} {todo : List Item} {Q : Exit → Act → World → Prop} {tm : List (Nat × TV)} {rows : List (Nat × Row)} {r : Option Nat} {mk : List Nat}
  (h : At P w0 wr n gl todo Q tm (roR rows) r mk) : At P w0 wr n gl todo Q tm rows r mk := by
 intro a w ρ hd
 have hkeys : (roR rows).map (·.1) = rows.map (·.1) := by simp [roR]
 have hu : ∀ s, (mkSt n tm (roR rows) gl mk).used s = (mkSt n tm rows gl mk).used s := fun s => by show hasN ((roR rows).map (·.1) ++ _) s = hasN (rows.map (·.1) ++ _) s; rw [hkeys]
 refine h a w ρ ⟨hd.sz, hd.df, hd.mf, hd.ko, fun t x hx => ?_, fun s y hs => ?_, fun s q y z hs hq hsq hw => ?_, hd.fr, hd.e0, fun s hs => by rw [hu]; exact hd.ku s hs, fun g hg hgu => hd.gl g hg (by rw [← hu]; exact hgu), fun s B hs => by cases hs⟩
 ·obtain ⟨g1, g2, g3⟩ := hd.tm t x hx
  exact ⟨g1, g2, fun r hr => by rw [hu]; exact g3 r hr⟩
 ·obtain ⟨x, hx, rfl⟩ := roR_find hs
  obtain ⟨g1, g2, g3, g4, _⟩ := hd.rw s x hx
  obtain ⟨k1, k2, k3, k4⟩ := g1
  exact ⟨⟨k1, fun j v hv => ⟨(k2 j v hv).1, fun h => by cases h⟩, k3, k4⟩, g2, by rw [hu]; exact g3, fun q hq => by rw [hu]; exact g4 q hq, fun hw => by cases hw⟩
 ·obtain ⟨x, hx, rfl⟩ := roR_find hs
  cases hw
end
end Go.Proofs.YtdbbcngolcnniaaGreatDoor
/- Within a region: operations run, one by its own contract, told anew, and so on, as often as wanted. No condition. -/
namespace Go.Proofs.YtdbbcngolcnniaaGreatDoor
open Go Go.RowKit
set_option linter.unusedVariables false
set_option linter.unusedSimpArgs false
section
open E
theorem E.den_again2 {w0 : World} {wr : Bs} {ρ σ : Env} {n : Nat} {tm tm' : List (Nat × TV)} {rows rows2 : List (Nat × Row)} {a : Act} {w w' : World} {d : Nat} {v : Value} {K : List Nat} (hd : Den w0 wr ρ (mkSt n tm rows []) a w) (hdn : d < n)
  (h : ∀ p ∈ tm', (p.1 = d ∧ v = p.2.val σ ∧ p.2.ok) ∨ (p.1 ≠ d ∧ ∃ x, findT tm p.1 = some x ∧ p.2.val σ = x.val ρ ∧ p.2.ok)) (hi : idsOk tm' rows2 [] = true) (hr : ∀ p ∈ rows2, RowAt σ p.1 p.2 w' ∧ pok p.2.ps) (hds : ∀ p ∈ rows2, ∀ q ∈ rows2, p.1 ≠ q.1 → p.2.w = true → (σ p.1).1 ≠ (σ q.1).1) (hK : K.all (hasN (rows2.map (·.1))) = true) (hk5 : rows2.all (fun p => Nat.ble (p.1 + 1) 500 || Nat.ble 1000 p.1) = true) :
  Den w' ⟨wlOf σ rows2, σ, K⟩ σ (mkSt n tm' rows2 []) (a.put (some d) v) w' := by
 simp only [idsOk, Bool.and_eq_true, List.all_eq_true] at hi
 have hu : ∀ r, (mkSt n tm' rows2 []).used r = hasN (rows2.map (·.1)) r := fun r => by show hasN (rows2.map (·.1) ++ []) r = _; rw [List.append_nil]
 refine ⟨by rw [put_size]; exact hd.sz, by rw [put_defers]; exact hd.df, ⟨List.nodup_nil, fun D hD => by cases hD⟩, KeepsOthers.refl _, fun t x hx => ?_, fun r y hr2 => ?_, fun r q y z hr2 hq hrq hw => ?_, Fr.refl _ _, fun _ _ => rfl, fun r hr2 => ?_, fun g hg hug => ?_, fun r B h => by cases h⟩
 ·rw [tm_put (s := mkSt n tm rows []) (fun x hx => by cases hx; rw [hd.sz]; exact hdn)]
  simp only
  have hm := findT_mem (show findT tm' t = some x from hx)
  rcases h _ hm with ⟨e1, e2, e3⟩ | ⟨e1, y, e2, e3, e4⟩
  ·rw [if_pos e1]
   exact ⟨by rw [e2], e3, fun r hr2 => hi.1 _ hm r hr2⟩
  ·rw [if_neg e1]
   obtain ⟨g1, g2, g3⟩ := hd.tm t y e2
   exact ⟨by rw [g1, ← e3], e4, fun r hr2 => hi.1 _ hm r hr2⟩
 ·have hm := findR_mem (show findR rows2 r = some y from hr2)
  obtain ⟨g1, g2⟩ := hr _ hm
  exact ⟨g1, g2, by rw [hu]; exact hasN_iff.2 (List.mem_map.2 ⟨_, hm, rfl⟩), fun p hp => hi.2 _ hm p hp, fun hw => .inr (mem_wlOf hm hw)⟩
 ·exact hds _ (findR_mem (show findR rows2 r = some y from hr2)) _ (findR_mem (show findR rows2 q = some z from hq)) hrq hw
 ·rw [hu]; exact List.all_eq_true.1 hK r hr2
 ·rw [hu] at hug
  obtain ⟨p, hp, he⟩ := List.mem_map.1 (hasN_iff.1 hug)
  have := List.all_eq_true.1 hk5 p hp
  rw [Bool.or_eq_true] at this
  rcases this with h5 | h5 <;> have := Nat.le_of_ble_eq_true h5 <;> omega
def E.Mid (P : Program) (w0 : World) (wr : Bs) (n : Nat) (gl : List Nat) (todo : List Item) (Q : Exit → Act → World → Prop) (k : Nat) (tm : List (Nat × TV)) (rows : List (Nat × Row)) (r : Option Nat := none) (mk : List Nat := []) : Prop :=
 ∀ a w ρ, Den w0 wr ρ (mkSt n tm rows gl mk) a w → wpOpsIn (FW r) 5 P (hdOps todo) (fun e a w => e = .normal ∧ KX P r todo.tail Q a w) (List.range' k ((hdOps todo).size - k)) a w
theorem E.At.reg {P : Program} {w0 : World} {wr : Bs} {n : Nat} {gl : List Nat} {todo : List Item} {Q : Exit → Act → World → Prop} {tm : List (Nat × TV)} {rows : List (Nat × Row)} {r : Option Nat} {mk : List Nat} (hr : isReg todo = true)
  (h : E.Mid P w0 wr n gl todo Q 0 tm rows r mk) : At P w0 wr n gl todo Q tm rows r mk := by
 rw [isReg_ok hr]
 intro a w ρ hd
 have h1 := h a w ρ hd
 generalize hdOps todo = ops at *
 generalize hdRid todo = rid at *
 refine KX.code (n := 5) (K := fun a w => KX P r todo.tail Q a w) (wpIn_region ?_) fun a w h => h
 rw [List.range_eq_range']
 exact h1
def mid (P : Program) (C : Hints) (ops : Array Oper) (base k m : Nat) (s : St) (ks rs : List Nat) : Option (List Prop × List (Option TV) × List (Option Row)) :=
 match runL P C ops base (List.replicate k ([], []) ++ recL P C ops base (m - k) k s) (m - k) k s with
 | some (o1, s1) => some (o1, ks.map s1.tmps, rs.map s1.row)
 | none => none
theorem E.Mid.run {P : Program} {w0 : World} {wr : Bs} {n : Nat} {gl : List Nat} {todo : List Item} {Q : Exit → Act → World → Prop} {tm tm2 : List (Nat × TV)} {rows rows2 : List (Nat × Row)} {r : Option Nat} {mk : List Nat} {k : Nat} {ob : List Prop}
  (m : Nat) (cs : List (Nat × Hint)) (hC : allW P w0 wr cs)
  (h : mid P (findC cs) (hdOps todo) (1000 + hdRid todo * 1000) k m (mkSt n tm rows gl mk) (tm2.map (·.1)) (rows2.map (·.1)) = some (ob, tm2.map (fun p => some p.2), rows2.map fun p => some p.2)) (ho : all ob)
  (hs : (noDef (hdOps todo) && (Nat.ble m (hdOps todo).size && (Nat.ble k m && (gl.all (fun g => Nat.ble (g + 1) 500) && (idsOk tm2 rows2 gl && wr.k.all (hasN (rows2.map (·.1) ++ gl.map (500 + ·)))))))) = true)
  (hK : E.Mid P w0 wr n gl todo Q m tm2 rows2 r mk) : E.Mid P w0 wr n gl todo Q k tm rows r mk := by
 intro a w ρ hd
 simp only [Bool.and_eq_true] at hs
 obtain ⟨hnd, hms, hkm, hg, hi1, hk1⟩ := hs
 have hms := Nat.le_of_ble_eq_true hms
 have hkm := Nat.le_of_ble_eq_true hkm
 unfold mid at h
 split at h
 ·rename_i p1 s1 hr1
  simp only [Option.some.injEq, Prod.mk.injEq] at h
  obtain ⟨rfl, e1, e2⟩ := h
  obtain ⟨k1, k2⟩ := runL_keep hr1
  rw [show List.range' k ((hdOps todo).size - k) = List.range' k (m - k) ++ List.range' m ((hdOps todo).size - m) by
   have := List.range'_append_1 (s := k) (m := m - k) (n := (hdOps todo).size - m)
   rw [show k + (m - k) = m by omega] at this
   rw [this]
   congr 1
   omega]
  refine wpOpsIn_append (K := fun a w => ∃ ρ, Den w0 wr ρ s1 a w) hnd (fun a w ⟨ρ, hd⟩ => ?_) _ a w (seq_ok (findW_ok hC) (fun a w ρ hd => ⟨rfl, ρ, hd⟩) _ _ _ _ _ _ _ hr1 ho hd)
  have hd1 := den_mk (gl := gl) hd e1 e2 (fun g hgm => ⟨Nat.le_of_ble_eq_true (List.all_eq_true.1 hg g hgm), k2 _ (hasN_iff.2 (List.mem_append.2 (.inr (List.mem_map.2 ⟨g, hgm, rfl⟩))))⟩) hi1 hk1
  rw [k1.1, k1.2] at hd1
  exact hK a w ρ hd1
 ·cases h
theorem E.Mid.op {α : Type} {P : Program} {w0 : World} {wr : Bs} {n : Nat} {gl : List Nat} {todo : List Item} {Q : Exit → Act → World → Prop} {tm : List (Nat × TV)} {rows : List (Nat × Row)} {r : Option Nat} {mk : List Nat} {k : Nat}
  (d : Option Tmp) (w0' : α → World) (wr' : α → Bs) (tm2 : α → List (Nat × TV)) (rows2 : α → List (Nat × Row)) (I : α → Prop) (hs : Nat.ble (k + 1) (hdOps todo).size = true)
  (hop : ∀ a w ρ (K : Act → World → Prop) (QQ : Exit → Act → World → Prop), Den w0 wr ρ (mkSt n tm rows gl mk) a w → (∀ x v w' ρ', I x → Den (w0' x) (wr' x) ρ' (mkSt n (tm2 x) (rows2 x) gl mk) (a.put d v) w' → K (a.put d v) w') → wpOpIn (FW r) 5 P (hdOps todo) QQ k K a w)
  (hK : ∀ x, I x → E.Mid P (w0' x) (wr' x) n gl todo Q (k + 1) (tm2 x) (rows2 x) r mk) : E.Mid P w0 wr n gl todo Q k tm rows r mk := by
 intro a w ρ hd
 have hs := Nat.le_of_ble_eq_true hs
 rw [show List.range' k ((hdOps todo).size - k) = k :: List.range' (k + 1) ((hdOps todo).size - (k + 1)) by
  rw [← List.range'_succ]
  congr 1
  omega, wpOpsIn_cons]
 exact hop a w ρ _ _ hd fun x v w' ρ' hI hd2 => hK x hI _ _ ρ' hd2
theorem E.Mid.out {P : Program} {w0 : World} {wr : Bs} {n : Nat} {gl : List Nat} {todo : List Item} {Q : Exit → Act → World → Prop} {tm : List (Nat × TV)} {rows : List (Nat × Row)} {r : Option Nat} {mk : List Nat} {k : Nat} (hk : Nat.beq (hdOps todo).size k = true)
  (h : At P w0 wr n gl todo.tail Q tm rows r mk) : E.Mid P w0 wr n gl todo Q k tm rows r mk := by
 intro a w ρ hd
 rw [Nat.eq_of_beq_eq_true hk, Nat.sub_self]
 exact ⟨rfl, h a w ρ hd⟩
end
end Go.Proofs.YtdbbcngolcnniaaGreatDoor
/- How a slot is put: three equations, for short. No condition. -/
namespace Go.Proofs.YtdbbcngolcnniaaGreatDoor
set_option linter.unusedSimpArgs false
set_option linter.unusedVariables false
theorem sT {α : Type} (l : List α) (i : Nat) (a : α) : l.toArray.setIfInBounds i a = (l.set i a).toArray := List.setIfInBounds_toArray ..
theorem sS {α : Type} (x : α) (l : List α) (n : Nat) (a : α) : (x :: l).set (n + 1) a = x :: l.set n a := rfl
theorem sZ {α : Type} (x : α) (l : List α) (a : α) : (x :: l).set 0 a = a :: l := rfl
end Go.Proofs.YtdbbcngolcnniaaGreatDoor
/- A range over a function, where the iterator has blocks of its own that turn between two rounds: which blocks the rounds may turn is carried as a set. No condition of its own. -/
namespace Go.Proofs.YtdbbcngolcnniaaGreatDoor
set_option linter.unusedSimpArgs false
open Go.RowKit Go.Shelf
set_option linter.unusedVariables false
structure Ext (S S2 : Nat → Prop) (W W2 : World) : Prop where
 os : W2.os = W.os
 tape : W2.tape = W.tape
 output : W2.output = W.output
 size : W.heap.size ≤ W2.heap.size
 new : ∀ k, k < W.heap.size → ¬ S k → ¬ S2 k
 keep : ∀ k, k < W.heap.size → ¬ S k → W2.heap[k]? = W.heap[k]?
theorem Ext.refl (S : Nat → Prop) (W : World) : Ext S S W W := ⟨rfl, rfl, rfl, Nat.le_refl _, fun _ _ h => h, fun _ _ _ => rfl⟩
theorem Ext.trans {S T U : Nat → Prop} {A B C : World} (h : Ext S T A B) (k : Ext T U B C) : Ext S U A C :=
 ⟨k.os.trans h.os, k.tape.trans h.tape, k.output.trans h.output, Nat.le_trans h.size k.size,
  fun i hi hs => k.new i (Nat.lt_of_lt_of_le hi h.size) (h.new i hi hs),
  fun i hi hs => (k.keep i (Nat.lt_of_lt_of_le hi h.size) (h.new i hi hs)).trans (h.keep i hi hs)⟩
theorem Ext.below {S T : Nat → Prop} {A B : World} {n : Nat} (h : Ext S T A B) (hn : n ≤ A.heap.size) (hs : ∀ k, S k → n ≤ k) : Below n A B :=
 ⟨h.os, h.tape, h.output, h.size, fun k hk => h.keep k (by omega) (fun h2 => by have := hs k h2; omega)⟩
theorem Ext.drew {S T : Nat → Prop} {A B : World} (h : Ext S T A B) : Ext S T A B.drew := ⟨h.os, h.tape, h.output, h.size, h.new, h.keep⟩
theorem Ext.undrew {S T : Nat → Prop} {A B : World} (h : Ext S T A.drew B) : Ext S T A B := ⟨h.os, h.tape, h.output, h.size, h.new, h.keep⟩
theorem Ext.weaken {S S1 T T1 : Nat → Prop} {A B : World} (h : Ext S T A B) (hS : ∀ k, k < A.heap.size → ¬ S1 k → ¬ S k) (hT : ∀ k, k < A.heap.size → ¬ S1 k → ¬ T k → ¬ T1 k) : Ext S1 T1 A B :=
 ⟨h.os, h.tape, h.output, h.size, fun k hk hs => hT k hk hs (h.new k hk (hS k hk hs)), fun k hk hs => h.keep k hk (hS k hk hs)⟩
theorem Ext.cell {S T : Nat → Prop} {A B : World} (h : Ext S T A B) {p : Addr} (hp : p.block < A.heap.size) (hs : ¬ S p.block) : B.cell? p = A.cell? p :=
 World.cell?_of_block (w := A) (h.keep p.block hp hs)
theorem Ext.of_below {W W2 : World} (S : Nat → Prop) (h : Below W.heap.size W W2) : Ext S S W W2 :=
 ⟨h.os, h.tape, h.output, h.size, fun _ _ h => h, fun k hk _ => h.block k hk⟩
structure Dep (J : List Nat → (Nat → Prop) → World → Prop) : Prop where
 same : ∀ x S W W2, J x S W → W.heap.size ≤ W2.heap.size → (∀ k, S k → W2.heap[k]? = W.heap[k]?) → J x S W2
 lt : ∀ x S W, J x S W → ∀ k, S k → k < W.heap.size
theorem Dep.alloc {J : List Nat → (Nat → Prop) → World → Prop} (h : Dep J) {x : List Nat} {S : Nat → Prop} {W : World} (o : Obj) (hj : J x S W) : J x S (W.alloc o) :=
 h.same x S W _ hj (by simp) (fun k hk => Below.heap_alloc _ _ _ (h.lt _ _ _ hj k hk))
theorem Dep.drew {J : List Nat → (Nat → Prop) → World → Prop} (h : Dep J) {x : List Nat} {S : Nat → Prop} {W : World} (hj : J x S W) : J x S W.drew :=
 h.same x S W _ hj (Nat.le_refl _) (fun _ _ => rfl)
theorem Dep.setCell {J : List Nat → (Nat → Prop) → World → Prop} (h : Dep J) {x : List Nat} {S : Nat → Prop} {W : World} (p : Addr) (v : Value) (hp : ¬ S p.block) (hj : J x S W) : J x S (W.setCell p v) :=
 h.same x S W _ hj (by simp [World.setCell]) (fun k hk => Below.heap_setCell _ _ _ _ (fun e => hp (e ▸ hk)))
theorem Dep.put {J : List Nat → (Nat → Prop) → World → Prop} (h : Dep J) {x : List Nat} {S : Nat → Prop} {W : World} (l : Nat) (o : Obj) (hp : ¬ S l) (hj : J x S W) : J x S (W.putObj l o) :=
 h.same x S W _ hj (by simp) (fun k hk => World.putObj_heap_other (fun e => hp (e ▸ hk)))
section
variable {P : Program}
def YPost (J Jx : List Nat → (Nat → Prop) → World → Prop) (xs : List Nat) (S : Nat → Prop) (W : World) (e : Ending) (W2 : World) : Prop :=
 ∃ S2, Ext S S2 W W2 ∧ ((e = .returned (.bool true) ∧ J xs S2 W2) ∨ (e = .returned (.bool false) ∧ Jx xs S2 W2))
def SeqOK (P : Program) (g : Nat) (lb : Array Value) (xs : List Nat) (n0 : Nat) (w0 : World) : Prop :=
 n0 ≤ w0.heap.size ∧ ∀ (m l : Nat) (J Jx : List Nat → (Nat → Prop) → World → Prop) (S : Nat → Prop) (W : World), Below n0 w0 W → Dep J → Dep Jx → (∀ k, S k → n0 ≤ k) →
  (∀ (pre : List Nat) (x : Nat) (S1 : Nat → Prop) (W1 : World), Ext S S1 W W1 → J pre S1 W1 → pre ++ [x] <+: xs → YieldAt Fence.wide 0 P l #[.int .u8 (x : Int)] W1 (YPost J Jx (pre ++ [x]) S1 W1)) →
  J [] S W →
  CallsIn Fence.wide m P g (#[.func (.yield l) #[] #[]] ++ lb) W fun e W2 => (∃ v, e = .returned v) ∧ ∃ S2, Ext S S2 W W2 ∧ (J xs S2 W2 ∨ ∃ pre, pre <+: xs ∧ Jx pre S2 W2)
theorem SeqOK.later {g : Nat} {lb : Array Value} {xs : List Nat} {n0 : Nat} {w0 w1 : World} (h : SeqOK P g lb xs n0 w0) (hb : Below n0 w0 w1) : SeqOK P g lb xs n0 w1 :=
 ⟨Nat.le_trans h.1 hb.size, fun m l J Jx S W hW => h.2 m l J Jx S W (hb.trans hW)⟩
theorem SeqOK.up {g : Nat} {lb : Array Value} {xs : List Nat} {n0 n1 : Nat} {w0 : World} (h : SeqOK P g lb xs n0 w0) (hn : n0 ≤ n1) (h1 : n1 ≤ w0.heap.size) : SeqOK P g lb xs n1 w0 :=
 ⟨h1, fun m l J Jx S W hW hJ hJx hS => h.2 m l J Jx S W (hW.mono hn) hJ hJx (fun k hk => Nat.le_trans hn (hS k hk))⟩
theorem anyDepthR {F : Fence} (hd : F.depth = none) {m m2 : Nat} {l : Nat} {f : FuncId} {tmps : Array Value} {assign body : Code} {w : World} {R : Ending → World → Prop}
  (h : RoundIn F m P l f tmps assign body w R) : RoundIn F m2 P l f tmps assign body w R := ⟨h.1, fun c cs _ => h.2 c cs (fun d hd2 => by rw [hd] at hd2; cases hd2)⟩
theorem anyDepthY {F : Fence} (hd : F.depth = none) {m : Nat} (m2 : Nat) {l : Nat} {args : Array Value} {W : World} {R : Ending → World → Prop} (h : YieldAt F m P l args W R) : YieldAt F m2 P l args W R := by
 obtain ⟨fn, tmps, assign, body, hy, hR⟩ := h
 exact ⟨fn, tmps, assign, body, hy, anyDepthR hd hR⟩
def setPost (I : List Nat → (Nat → Prop) → World → Prop) (Ix : Code → List Nat → (Nat → Prop) → World → Prop) (xs : List Nat) (S : Nat → Prop) (W : World) : Exit → Act → World → Prop
 | .normal, _, W2 => ∃ S2, Ext S S2 W W2 ∧ I xs S2 W2
 | .ret, _, W2 => ∃ S2, Ext S S2 W W2 ∧ Ix .ret xs S2 W2
 | .exit id, _, W2 => ∃ S2, Ext S S2 W W2 ∧ Ix (.exit id) xs S2 W2
 | .goto t, _, W2 => ∃ S2, Ext S S2 W W2 ∧ Ix (.goto t) xs S2 W2
 | .panic _, _, _ => False
 | .outgrown, _, _ => False
def plus2 (S : Nat → Prop) (a b : Nat) : Nat → Prop := fun k => S k ∨ k = a ∨ k = b
theorem wpIn_rangeFunc_set {n : Nat} {g : Operand} {ps : Array Tmp} {assign body : Code} {Q : Exit → Act → World → Prop} {a : Act} {w : World}
  {gf : Nat} {lb : Array Value} (hg : a.eval g = .func (.func gf) #[] lb) (eg : ∀ args w, (callFunc gf args).run P w = .ok (.enter gf args) w)
  {xs : List Nat} {n0 : Nat} {w0 : World} (hseq : SeqOK P gf lb xs n0 w0) (hb0 : Below n0 w0 w) (hps : ps.size = 1)
  (I : List Nat → (Nat → Prop) → World → Prop) (Ix : Code → List Nat → (Nat → Prop) → World → Prop) (hI : Dep I) (hIx : ∀ c, Dep (Ix c))
  (S0 : Nat → Prop) (hS0 : ∀ k, S0 k → n0 ≤ k) (h0 : I [] S0 w) (a₁ : Nat → Act)
  (hassign : ∀ (l x : Nat) (W : World) (K : Act → World → Prop), K (a₁ x) W →
   assign.wpIn (Fence.wide.inRound l) n P (Exit.then K (fun _ _ _ => False)) { tmps := (ps.zip #[.int .u8 (x : Int)]).foldl (fun t (p, v) => t.setIfInBounds p v) a.tmps, defers := [] } W)
  (hbody : ∀ (l : Nat) (pre : List Nat) (x : Nat) (S : Nat → Prop) (W : World), Ext S0 S w W → I pre S W → pre ++ [x] <+: xs → body.wpIn (Fence.wide.inRound l) n P (setPost I Ix (pre ++ [x]) S W) (a₁ x) W)
  (hdone : ∀ (D : Nat) (S2 : Nat → Prop) (W : World), w.heap.size ≤ D → ¬ S2 D → Ext S0 S2 w W → I xs S2 W → W.heap[D]? = some (.deferred (some [])) → Q .normal { a with defers := { target := .collected D, args := #[] } :: a.defers } W)
  (hstop : ∀ (D : Nat) (c : Code) (pre : List Nat) (S2 : Nat → Prop) (W : World), w.heap.size ≤ D → ¬ S2 D → Ext S0 S2 w W → pre <+: xs → Ix c pre S2 W → W.heap[D]? = some (.deferred (some [])) → c.wpIn Fence.wide n P Q { a with defers := { target := .collected D, args := #[] } :: a.defers } W) :
  (Code.rangeFunc g ps assign body).wpIn Fence.wide n P Q a w := by
 refine wpIn_rangeFunc ?_
 intro fn hfn
 obtain ⟨rec, hrec⟩ : ∃ rec : LoopState → Option Code → Loop, rec = fun st pe => { state := st, pending := pe, fn, tmps := a.tmps, params := ps, assign, body, defers := w.heap.size } := ⟨_, rfl⟩
 obtain ⟨W1, hW1⟩ : ∃ W1, (w.alloc (.deferred (some []))).alloc (.loop (rec .ready none)) = W1 := ⟨_, rfl⟩
 have hsz1 : W1.heap.size = w.heap.size + 2 := by rw [← hW1]; simp
 have hL1 : W1.heap[w.heap.size + 1]? = some (.loop (rec .ready none)) := by
  rw [← hW1]; have := World.alloc_heap_new (w.alloc (.deferred (some []))) (.loop (rec .ready none)); rwa [World.size_alloc] at this
 have hK1 : W1.heap[w.heap.size]? = some (.deferred (some [])) := by
  rw [← hW1]; exact (Below.heap_alloc _ _ _ (by simp)).trans (World.alloc_heap_new w _)
 have hI1 : I [] S0 W1 := by rw [← hW1]; exact hI.alloc _ (hI.alloc _ h0)
 have hbw : Below w.heap.size w W1 := by rw [← hW1]; exact ((Below.refl _ w).alloc (Nat.le_refl _) _).alloc (by simp) _
 have hn0 : n0 ≤ w.heap.size := Nat.le_trans hseq.1 hb0.size
 have hS0w : ∀ k, S0 k → k < w.heap.size := hI.lt _ _ _ h0
 have hE1 : Ext S0 S0 w W1 := Ext.of_below S0 hbw
 refine ⟨w.heap.size + 1, [{ target := .collected w.heap.size, args := #[] }], W1, { target := .fn (.func gf) lb, args := #[.func (.yield (w.heap.size + 1)) #[] #[]] }, W1, gf,
  #[.func (.yield (w.heap.size + 1)) #[] #[]] ++ lb, W1, ?_, ?_, ?_, ?_, fun h => (by cases h), ?_⟩
 ·rw [← hW1, hrec]; exact run_enterLoop_outer _ _ _ _ _
 ·simp only [resolve, hg]
  simp [go_sem]
 ·intro f' _; trivial
 ·simp [invoke, go_sem, eg]
 ·refine (hseq.2 (n - 1) (w.heap.size + 1)
   (fun pre S W => ∃ SI, (∀ k, S k ↔ plus2 SI (w.heap.size + 1) w.heap.size k) ∧ ¬ SI (w.heap.size + 1) ∧ ¬ SI w.heap.size ∧ I pre SI W ∧ W.heap[w.heap.size + 1]? = some (.loop (rec .ready none)) ∧ W.heap[w.heap.size]? = some (.deferred (some [])))
   (fun pre S W => ∃ SI c, (∀ k, S k ↔ plus2 SI (w.heap.size + 1) w.heap.size k) ∧ ¬ SI (w.heap.size + 1) ∧ ¬ SI w.heap.size ∧ Ix c pre SI W ∧ W.heap[w.heap.size + 1]? = some (.loop (rec .done (some c))) ∧ W.heap[w.heap.size]? = some (.deferred (some [])))
   (plus2 S0 (w.heap.size + 1) w.heap.size) W1 (hb0.trans (hbw.mono hn0)) ?_ ?_ ?_ ?_ ?_).mono ?_
  ·refine ⟨fun x S A B ⟨SI, hS, h1, h2, hi, hl, hk⟩ hsz hsame => ⟨SI, hS, h1, h2, hI.same _ _ _ _ hi hsz (fun k hk2 => hsame k ((hS k).2 (.inl hk2))), (hsame _ ((hS _).2 (.inr (.inl rfl)))).trans hl, (hsame _ ((hS _).2 (.inr (.inr rfl)))).trans hk⟩, ?_⟩
   rintro x S A ⟨SI, hS, h1, h2, hi, hl, hk⟩ k hk2
   rcases (hS k).1 hk2 with h | rfl | rfl
   ·exact hI.lt _ _ _ hi k h
   ·exact (Array.getElem?_eq_some_iff.1 hl).1
   ·exact (Array.getElem?_eq_some_iff.1 hk).1
  ·refine ⟨fun x S A B ⟨SI, c, hS, h1, h2, hi, hl, hk⟩ hsz hsame => ⟨SI, c, hS, h1, h2, (hIx c).same _ _ _ _ hi hsz (fun k hk2 => hsame k ((hS k).2 (.inl hk2))), (hsame _ ((hS _).2 (.inr (.inl rfl)))).trans hl, (hsame _ ((hS _).2 (.inr (.inr rfl)))).trans hk⟩, ?_⟩
   rintro x S A ⟨SI, c, hS, h1, h2, hi, hl, hk⟩ k hk2
   rcases (hS k).1 hk2 with h | rfl | rfl
   ·exact (hIx c).lt _ _ _ hi k h
   ·exact (Array.getElem?_eq_some_iff.1 hl).1
   ·exact (Array.getElem?_eq_some_iff.1 hk).1
  ·rintro k (h | rfl | rfl)
   ·exact hS0 k h
   ·omega
   ·omega
  ·
   rintro pre x S1 W hE ⟨SI, hS, hn1, hn2, hi, hl, hk⟩ hpre
   have hlt : w.heap.size + 1 < W.heap.size := (Array.getElem?_eq_some_iff.1 hl).1
   have hy := run_yield (P := P) (args := #[.int .u8 (x : Int)]) hl (by rw [hrec]; exact hps.symm)
   rw [hrec] at hy
   refine ⟨fn, _, assign, body, hy, anyDepthR (m := n) rfl (roundIn_of_wpIn hfn (hassign _ x W _ ⟨_, run_beginRound hl (by rw [hrec]), ?_⟩))⟩
   clear hy
   have hl2 : (W.putObj (w.heap.size + 1) (.loop { rec .ready none with state := .busy })).heap[w.heap.size + 1]? = some (.loop { rec .ready none with state := .busy }) := World.putObj_heap_same hlt
   have hk2 : (W.putObj (w.heap.size + 1) (.loop { rec .ready none with state := .busy })).heap[w.heap.size]? = some (.deferred (some [])) := (World.putObj_heap_other (by omega)).trans hk
   have hEw : Ext S0 SI w (W.putObj (w.heap.size + 1) (.loop { rec .ready none with state := .busy })) := by
    have h3 := grownBy_putObj' W (w.heap.size + 1) (.loop { rec .ready none with state := .busy })
    refine ⟨h3.os.trans (hE.os.trans hE1.os), h3.tape.trans (hE.tape.trans hE1.tape), h3.output.trans (hE.output.trans hE1.output), by simp; omega, fun k hk3 hs h4 => ?_, fun k hk3 hs => ?_⟩
    ·exact hE.new k (by omega) (by rintro (h | h | h); exact hs h; omega; omega) ((hS k).2 (.inl h4))
    ·rw [World.putObj_heap_other (by omega), hE.keep k (by omega) (by rintro (h | h | h); exact hs h; omega; omega)]
     exact hbw.block k hk3
   refine wpIn_mono (hbody _ pre x SI _ hEw (hI.put _ _ hn1 hi) hpre) ?_
   have fin : ∀ (jump : Option Code) (SJ : Nat → Prop) (W3 : World), Ext SI SJ (W.putObj (w.heap.size + 1) (.loop { rec .ready none with state := .busy })) W3 →
     (Instr.endRound (w.heap.size + 1) jump).run P W3 = .ok (.bool jump.isNone) (W3.putObj (w.heap.size + 1) (.loop (rec (if jump.isNone then .ready else .done) jump))) ∧
     ¬ SJ (w.heap.size + 1) ∧ ¬ SJ w.heap.size ∧
     (W3.putObj (w.heap.size + 1) (.loop (rec (if jump.isNone then .ready else .done) jump))).heap[w.heap.size + 1]? = some (.loop (rec (if jump.isNone then .ready else .done) jump)) ∧
     (W3.putObj (w.heap.size + 1) (.loop (rec (if jump.isNone then .ready else .done) jump))).heap[w.heap.size]? = some (.deferred (some [])) ∧
     Ext S1 (plus2 SJ (w.heap.size + 1) w.heap.size) W (W3.putObj (w.heap.size + 1) (.loop (rec (if jump.isNone then .ready else .done) jump))) := fun jump SJ W3 hk3 => by
    have hszp : (W.putObj (w.heap.size + 1) (.loop { rec .ready none with state := .busy })).heap.size = W.heap.size := by simp
    have hl3 := (hk3.keep _ (by omega) hn1).trans hl2
    have hr := run_endRound (P := P) jump hl3
    rw [hrec] at hr ⊢
    refine ⟨hr, hk3.new _ (by omega) hn1, hk3.new _ (by omega) hn2, World.putObj_heap_same (Array.getElem?_eq_some_iff.1 hl3).1, (World.putObj_heap_other (by omega)).trans ((hk3.keep _ (by omega) hn2).trans hk2), ?_⟩
    refine ⟨hk3.os, hk3.tape, hk3.output, by have := hk3.size; simp; omega, fun k hk4 hs => ?_, fun k hk4 hs => ?_⟩
    ·rintro (h | rfl | rfl)
     ·exact hk3.new k (by omega) (fun h5 => hs ((hS k).2 (.inl h5))) h
     ·exact hs ((hS _).2 (.inr (.inl rfl)))
     ·exact hs ((hS _).2 (.inr (.inr rfl)))
    ·have hkl : k ≠ w.heap.size + 1 := fun e => hs ((hS k).2 (.inr (.inl e)))
     rw [World.putObj_heap_other hkl, hk3.keep k (by omega) (fun h5 => hs ((hS k).2 (.inl h5))), World.putObj_heap_other hkl]
   rintro e a3 W3 hp
   cases e with
   | normal =>
    obtain ⟨SJ, hk3, hi3⟩ := hp
    obtain ⟨hr, q1, q2, hl4, hk4, hE4⟩ := fin none SJ W3 hk3
    exact ⟨_, _, hr, _, hE4, .inl ⟨rfl, SJ, fun _ => Iff.rfl, q1, q2, hI.put _ _ q1 hi3, hl4, hk4⟩⟩
   | ret =>
    obtain ⟨SJ, hk3, hi3⟩ := hp
    obtain ⟨hr, q1, q2, hl4, hk4, hE4⟩ := fin (some .ret) SJ W3 hk3
    exact ⟨_, _, hr, _, hE4, .inr ⟨rfl, SJ, .ret, fun _ => Iff.rfl, q1, q2, (hIx _).put _ _ q1 hi3, hl4, hk4⟩⟩
   | exit id =>
    obtain ⟨SJ, hk3, hi3⟩ := hp
    obtain ⟨hr, q1, q2, hl4, hk4, hE4⟩ := fin (some (.exit id)) SJ W3 hk3
    exact ⟨_, _, hr, _, hE4, .inr ⟨rfl, SJ, .exit id, fun _ => Iff.rfl, q1, q2, (hIx _).put _ _ q1 hi3, hl4, hk4⟩⟩
   | goto t =>
    obtain ⟨SJ, hk3, hi3⟩ := hp
    obtain ⟨hr, q1, q2, hl4, hk4, hE4⟩ := fin (some (.goto t)) SJ W3 hk3
    exact ⟨_, _, hr, _, hE4, .inr ⟨rfl, SJ, .goto t, fun _ => Iff.rfl, q1, q2, (hIx _).put _ _ q1 hi3, hl4, hk4⟩⟩
   | panic ch => exact hp.elim
   | outgrown => exact hp.elim
  ·exact ⟨S0, fun _ => Iff.rfl, fun h => by have := hS0w _ h; omega, fun h => by have := hS0w _ h; omega, hI1, hL1, hK1⟩
  ·
   have out : ∀ (S2 SI : Nat → Prop) (W2 : World) (o : Obj), Ext (plus2 S0 (w.heap.size + 1) w.heap.size) S2 W1 W2 → (∀ k, S2 k ↔ plus2 SI (w.heap.size + 1) w.heap.size k) → Ext S0 SI w (W2.putObj (w.heap.size + 1) o) := fun S2 SI W2 o hE hS => by
    have h3 := grownBy_putObj' W2 (w.heap.size + 1) o
    refine ⟨h3.os.trans (hE.os.trans hE1.os), h3.tape.trans (hE.tape.trans hE1.tape), h3.output.trans (hE.output.trans hE1.output), by have := hE.size; simp; omega, fun k hk3 hs h4 => ?_, fun k hk3 hs => ?_⟩
    ·exact hE.new k (by omega) (by rintro (h | h | h); exact hs h; omega; omega) ((hS k).2 (.inl h4))
    ·rw [World.putObj_heap_other (by omega), hE.keep k (by omega) (by rintro (h | h | h); exact hs h; omega; omega)]
     exact hbw.block k hk3
   rintro e W2 ⟨⟨v, rfl⟩, S2, hE, (⟨SI, hS, hn1, hn2, hi, hl, hk⟩ | ⟨pre, hp, SI, c, hS, hn1, hn2, hi, hl, hk⟩)⟩
   ·exact ⟨none, _, by have := run_endLoop (P := P) hl (by rw [hrec]; simp); rw [hrec] at this; exact this, hdone _ SI _ (Nat.le_refl _) hn2 (out _ _ _ _ hE hS) (hI.put _ _ hn1 hi) ((World.putObj_heap_other (by omega)).trans hk)⟩
   ·exact ⟨some c, _, by have := run_endLoop (P := P) hl (by rw [hrec]; simp); rw [hrec] at this; exact this, hstop _ c pre SI _ (Nat.le_refl _) hn2 (out _ _ _ _ hE hS) hp ((hIx c).put _ _ hn1 hi) ((World.putObj_heap_other (by omega)).trans hk)⟩
end
end Go.Proofs.YtdbbcngolcnniaaGreatDoor
/- A region that draws its order, inside a fence: what yields its value in every world that meets a condition of its own may be taken first; that condition is shown anew behind each operation that does not wait for it. With a call of yield as one of its operations. No condition of its own. -/
namespace Go.Proofs.YtdbbcngolcnniaaGreatDoor
set_option linter.unusedSimpArgs false
open Go.RowKit
set_option linter.unusedVariables false
section
variable {F : Fence} {n : Nat} {P : Program} {ops : Array Oper} {Q : Exit → Act → World → Prop} {md : Region.Mode} {S : Nat → World → Prop}
def YieldsS (P : Program) (ops : Array Oper) (T : World → Prop) (o : Oper) (v : Value) (a : Act) : Prop :=
 (Region.wanted o (yielded ops a.tmps) = true ∧ ∀ w, T w → (execOp a.eval o).run P w = .ok (.value v) w) ∧ ∀ w, o.about P w a.eval = none
theorem YieldsS.wpOpIn {T : World → Prop} {i : Nat} {o : Oper} {v : Value} {a : Act} (hro : F.round = none) (hi : ops[i]? = some o) (hy : YieldsS P ops T o v a)
  {K : Act → World → Prop} {w : World} (hT : T w) (h : K (a.put o.dst v) w) : wpOpIn F n P ops Q i K a w := by
 unfold Go.wpOpIn
 simp only [hi]
 have hab : ∀ f, o.about P w a.eval = some f → F.fn f := fun f hf => by rw [hy.2 w] at hf; cases hf
 obtain ⟨hw, hv⟩ := hy.1
 simp only [hw, if_true, Oper.wpIn, hro, Oper.semAt_none, hv w hT, Oper.uponIn]
 exact ⟨hab, h⟩
theorem YieldsS.of_same {T : World → Prop} {o : Oper} {v : Value} {a a2 : Act} (hy : YieldsS P ops T o v a) (he : execOp a2.eval o = execOp a.eval o)
  (hw : Region.wanted o (yielded ops a2.tmps) = Region.wanted o (yielded ops a.tmps)) (hb : ∀ w, o.about P w a2.eval = o.about P w a.eval) : YieldsS P ops T o v a2 := by
 refine ⟨?_, fun w => by rw [hb w]; exact hy.2 w⟩
 rw [he, hw]
 exact hy.1
theorem wpOpIn_putS {T : World → Prop} {j : Nat} {oi oj : Oper} {v : Value} (hro : F.round = none) (hj : ops[j]? = some oj) (hap : oi.apart ops oj = true)
  (hsi : ∀ cs b, oi.op ≠ .select cs b) (hsj : ∀ cs b, oj.op ≠ .select cs b)
  (hQ : ∀ c a w, Q (.panic c) (a.put oi.dst v) w → Q (.panic c) a w) {K : Act → World → Prop} {a : Act} {w : World}
  (hy : YieldsS P ops T oi v a) (h : wpOpIn F n P ops Q j K (a.put oi.dst v) w) :
  wpOpIn F n P ops Q j (fun a2 w2 => YieldsS P ops T oi v a2 ∧ K (a2.put oi.dst v) w2) a w := by
 obtain ⟨h1, h2, h3⟩ := Oper.apart_spec hap
 have keep : ∀ (a : Act), YieldsS P ops T oi v a → ∀ u, YieldsS P ops T oi v (a.put oj.dst u) := fun a hy u =>
  hy.of_same (execOp_put oi hsi a oj.dst u h3) (wanted_put oi a oj.dst u h3) (fun w => about_put oi w a oj.dst u h3)
 have keepD : ∀ d, YieldsS P ops T oi v { a with defers := d :: a.defers } := fun d => hy.of_same rfl rfl (fun _ => rfl)
 unfold wpOpIn at *
 simp only [hj] at *
 rw [wanted_put oj a oi.dst v h1, about_put oj w a oi.dst v h1] at h
 split
 ·rename_i hw
  simp only [hw, if_true] at h
  unfold Oper.wpIn at *
  rw [about_put oj w a oi.dst v h1] at h
  refine ⟨h.1, ?_⟩
  have h := h.2
  rw [hro, Oper.semAt_none, execOp_put oj hsj a oi.dst v h1] at h
  rw [hro, Oper.semAt_none]
  generalize (execOp a.eval oj).run P w = r at *
  cases r with
  | ok x w2 =>
   cases x <;> simp only [Oper.uponIn] at h ⊢
   case value u => exact ⟨keep a hy u, by rw [← Act.put_comm a v u h2]; exact h⟩
   case skip => exact ⟨keep a hy _, by rw [← Act.put_comm a v undef h2]; exact h⟩
   case defer d =>
    refine ⟨keep _ (keepD d) _, ?_⟩
    rw [← Act.put_comm _ v undef h2, ← Act.put_defers]
    exact h
   case enter f args =>
    refine ⟨h.1, CallsIn.mono h.2 fun e w3 he => ?_⟩
    cases e with
    | returned u => exact ⟨keep a hy u, by rw [← Act.put_comm a v u h2]; exact he⟩
    | panicked c => exact hQ _ _ _ he
    | outgrown => exact he
   case row row args => exact ⟨h.1, RowsIn.mono h.2 fun u w3 he => ⟨keep a hy u, by rw [← Act.put_comm a v u h2]; exact he⟩⟩
   case round l f tmps assign body =>
    refine ⟨h.1, RoundIn.mono h.2 fun e w3 he => ?_⟩
    cases e with
    | returned u => exact ⟨keep a hy u, by rw [← Act.put_comm a v u h2]; exact he⟩
    | panicked c => exact hQ _ _ _ he
    | outgrown => exact he
  | halt x w2 =>
   cases x <;> simp only [Oper.uponIn] at h ⊢
   case panic u => exact hQ _ _ _ h
 ·rename_i hw
  simp only [hw] at h
  exact ⟨h.1, keep a hy _, by rw [← Act.put_comm a v undef h2]; exact h.2⟩
def waitsT (md : Region.Mode) (ops : Array Oper) : Nat → Nat → Nat → Bool
 | 0, _, _ => false
 | k + 1, j, i => Region.waitsFor md ops j i || (List.range ops.size).any fun m => Region.waitsFor md ops j m && waitsT md ops k m i
def closedB (md : Region.Mode) (ops : Array Oper) (listed : Array Bool) : Bool :=
 (List.range ops.size).all fun x => !(listed.getD x false) || (List.range ops.size).all fun y => !(Region.waitsFor md ops x y) || listed.getD y false
def Closed (md : Region.Mode) (ops : Array Oper) (listed : Array Bool) : Prop :=
 ∀ x y, x < ops.size → y < ops.size → listed.getD x false = true → Region.waitsFor md ops x y = true → listed.getD y false = true
theorem closed_of {listed : Array Bool} (h : closedB md ops listed = true) : Closed md ops listed := by
 intro x y hx hy hl hw
 have h1 := List.all_eq_true.1 h x (List.mem_range.2 hx)
 rw [hl] at h1
 simp only [Bool.not_true, Bool.false_or] at h1
 have h2 := List.all_eq_true.1 h1 y (List.mem_range.2 hy)
 rw [hw] at h2
 simpa using h2
theorem waits_listed {listed : Array Bool} (hc : Closed md ops listed) : ∀ (k j i : Nat), i < ops.size → (∀ y, y < ops.size → Region.waitsFor md ops j y = true → listed.getD y false = true) → waitsT md ops k j i = true → listed.getD i false = true
 | 0, _, _, _, _, h => by cases h
 | k + 1, j, i, hi, hd, h => by
  unfold waitsT at h
  simp only [Bool.or_eq_true, List.any_eq_true, Bool.and_eq_true, List.mem_range] at h
  rcases h with h | ⟨m, hm, h1, h2⟩
  ·exact hd i hi h
  ·exact waits_listed hc k m i hi (fun y hy hw => hc m y hm hy (hd m hm h1) hw) h2
theorem ready_waits {listed : Array Bool} {j : Nat} (hj : j ∈ Region.ready md ops listed) : ∀ y, Region.waitsFor md ops j y = true → listed.getD y false = true := by
 intro y hw
 obtain ⟨_, oj, hoj, hall⟩ := mem_ready.1 hj
 obtain ⟨o2, h1, e, he, hb, hon⟩ := Region.waitsFor_spec hw
 rw [hoj] at h1
 cases h1
 rw [← hon]
 exact hall e he hb
theorem closed_set {listed : Array Bool} {j : Nat} (hc : Closed md ops listed) (hj : j ∈ Region.ready md ops listed) : Closed md ops (listed.setIfInBounds j true) := by
 have keep : ∀ y, listed.getD y false = true → (listed.setIfInBounds j true).getD y false = true := by
  intro y hy
  by_cases hyj : j = y
  ·subst hyj
   have hlt : j < listed.size := by
    rcases Nat.lt_or_ge j listed.size with h | h
    ·exact h
    ·simp [Array.getElem?_eq_none h] at hy
   simp [hlt]
  ·rw [getD_set_ne false hyj]; exact hy
 intro x y hx hy hl hw
 by_cases hxj : j = x
 ·subst hxj
  exact keep y (ready_waits hj y hw)
 ·rw [getD_set_ne false hxj] at hl
  exact keep y (hc x y hx hy hl hw)
def AnyG (F : Fence) (n : Nat) (P : Program) (md : Region.Mode) (ops : Array Oper) (Q : Exit → Act → World → Prop) (T : Nat → Bool) (S : Nat → World → Prop) : Nat → Array Bool → Act → World → Prop
 | 0, listed, a, w => Region.ready md ops listed = [] ∧ Q .normal a w
 | k + 1, listed, a, w => (Region.ready md ops listed = [] → Q .normal a w) ∧
  ∀ j ∈ Region.ready md ops listed, wpOpIn F n P ops Q j (fun a2 w2 => ((T j = true → w2 = w) ∧ (T j = false → ∀ i, i < ops.size → T i = true → waitsT md ops ops.size j i = false → S i w2)) ∧ AnyG F n P md ops Q T S k (listed.setIfInBounds j true) a2 w2) a w
theorem anyIn_of_G {T : Nat → Bool} : ∀ (k : Nat) (listed : Array Bool) (a : Act) (w : World), AnyG F n P md ops Q T S k listed a w → wpAnyIn F n P md ops Q k listed a w
 | 0, _, _, _, h => h
 | k + 1, _, _, _, h => ⟨h.1, fun i hi => wpOpIn_mono (fun a2 w2 h2 => anyIn_of_G k _ a2 w2 h2.2) (h.2 i hi)⟩
theorem AnyG.first {T : Nat → Bool} {i : Nat} {oi : Oper} {v : Value} (hro : F.round = none) (hi : ops[i]? = some oi) (hT : T i = true) (hsel : ∀ (j : Nat) (o : Oper) cs b, ops[j]? = some o → o.op ≠ .select cs b)
  (hQ : ∀ c a w, Q (.panic c) (a.put oi.dst v) w → Q (.panic c) a w) :
  ∀ (k : Nat) (listed : Array Bool) (a : Act) (w : World),
   (∀ j oj, ops[j]? = some oj → j ≠ i → listed.getD j true = false → (∀ e ∈ oj.after, Region.binds md e = true → e.on ≠ i) → oi.apart ops oj = true) → Closed md ops listed →
   i ∈ Region.ready md ops listed → YieldsS P ops (S i) oi v a → S i w → AnyG F n P md ops Q T S k (listed.setIfInBounds i true) (a.put oi.dst v) w → AnyG F n P md ops Q T S (k + 1) listed a w := by
 have hio : i < ops.size := (Array.getElem?_eq_some_iff.1 hi).1
 intro k
 induction k with
 | zero =>
  intro listed a w _ _ hr hy hS H
  refine ⟨fun h => (by rw [h] at hr; cases hr), fun j hj => ?_⟩
  by_cases hji : j = i
  ·subst hji
   exact hy.wpOpIn hro hi hS ⟨⟨fun _ => rfl, fun h => by rw [hT] at h; cases h⟩, H⟩
  ·have := ready_mono hj hji
   rw [H.1] at this
   cases this
 | succ k ih =>
  intro listed a w hfree hc hr hy hS H
  refine ⟨fun h => (by rw [h] at hr; cases hr), fun j hj => ?_⟩
  by_cases hji : j = i
  ·subst hji
   exact hy.wpOpIn hro hi hS ⟨⟨fun _ => rfl, fun h => by rw [hT] at h; cases h⟩, H⟩
  ·have h1 := H.2 j (ready_mono hj hji)
   obtain ⟨hjun, oj, hoj, hall⟩ := mem_ready.1 hj
   have hun0 : listed.getD i true = false := (mem_ready.1 hr).1
   have hun1 : listed.getD i false = false := by
    rcases Nat.lt_or_ge i listed.size with h' | h'
    ·simp [h'] at hun0 ⊢; exact hun0
    ·simp [Array.getElem?_eq_none h'] at hun0
   have hnot : ∀ e ∈ oj.after, Region.binds md e = true → e.on ≠ i := fun e he hb heq => by
    have h1 := hall e he hb
    rw [heq, hun1] at h1
    cases h1
   have hw0 : waitsT md ops ops.size j i = false := by
    cases hh : waitsT md ops ops.size j i with
    | false => rfl
    | true =>
     have := waits_listed hc _ j i hio (fun y _ hw => ready_waits hj y hw) hh
     rw [hun1] at this
     cases this
   have h2 := wpOpIn_putS hro hoj (hfree j oj hoj hji hjun hnot) (fun cs b => hsel i oi cs b hi) (fun cs b => hsel j oj cs b hoj) hQ hy h1
   have hfree' : ∀ k ok, ops[k]? = some ok → k ≠ i → (listed.setIfInBounds j true).getD k true = false →
     (∀ e ∈ ok.after, Region.binds md e = true → e.on ≠ i) → oi.apart ops ok = true := fun k ok hk hki hun hno => by
    refine hfree k ok hk hki ?_ hno
    by_cases hjk : j = k
    ·subst hjk; exact hjun
    ·rw [getD_set_ne true hjk] at hun; exact hun
   refine wpOpIn_mono (fun a2 w2 h3 => ⟨h3.2.1, ih (listed.setIfInBounds j true) a2 w2 hfree' (closed_set hc hj) (ready_mono hr (Ne.symm hji)) h3.1 ?_ ?_⟩) h2
   ·cases hTj : T j with
    | true => rw [h3.2.1.1 hTj]; exact hS
    | false => exact h3.2.1.2 hTj i hio hT hw0
   ·rw [Array.setIfInBounds_comm _ _ hji]
    exact h3.2.2
variable {T : Nat → Bool} {k : Nat} {listed : Array Bool} {a : Act} {w w2 : World} {i : Nat} {rs : List Nat}
theorem AnyG.take (i : Nat) (d : Option Tmp) (opr : Op) (v : Value) (hro : F.round = none) (ho : (ops[i]?).map (fun o => (o.dst, o.op, o.guard)) = some (d, opr, none)) (hnc : ∀ c, opr ≠ .call c) (hs : Region.noSelect ops = true) (hf : Region.free md ops listed i = true) (hr : (Region.ready md ops listed).contains i = true)
  (hc : closedB md ops listed = true) (hT : T i = true) (hQ : ∀ c a w, Q (.panic c) (a.put d v) w → Q (.panic c) a w)
  (hy : ∀ (o : Oper), o.op = opr → ∀ w, S i w → (execOp a.eval o).run P w = .ok (.value v) w) (hS : S i w)
  (h : AnyG F n P md ops Q T S k (listed.setIfInBounds i true) (a.put d v) w) : AnyG F n P md ops Q T S (k + 1) listed a w := by
 cases hq : ops[i]? with
 | none => simp [hq] at ho
 | some o =>
  simp [hq] at ho
  obtain ⟨rfl, rfl, hg⟩ := ho
  refine AnyG.first hro hq hT (Region.noSelect_spec hs) hQ k listed a w (Region.free_spec hq hf) (closed_of hc) (by simpa using hr) ⟨⟨by simp [Region.wanted, hg], hy o rfl⟩, fun w => ?_⟩ hS h
  unfold Oper.about
  cases ho : o.op <;> first | rfl | exact absurd ho (hnc _)
theorem AnyG.takeB (i : Nat) (d : Option Tmp) (c : Call) (v : Value) (hro : F.round = none) (ho : (ops[i]?).map (fun o => (o.dst, o.op, o.guard)) = some (d, .call c, none)) (hs : Region.noSelect ops = true) (hf : Region.free md ops listed i = true) (hr : (Region.ready md ops listed).contains i = true)
  (hc : closedB md ops listed = true) (hT : T i = true) (hQ : ∀ c a w, Q (.panic c) (a.put d v) w → Q (.panic c) a w)
  (hab : ∀ (o : Oper), o.op = .call c → ∀ w, o.about P w a.eval = none)
  (hy : ∀ (o : Oper), o.op = .call c → ∀ w, S i w → (execOp a.eval o).run P w = .ok (.value v) w) (hS : S i w)
  (h : AnyG F n P md ops Q T S k (listed.setIfInBounds i true) (a.put d v) w) : AnyG F n P md ops Q T S (k + 1) listed a w := by
 cases hq : ops[i]? with
 | none => simp [hq] at ho
 | some o =>
  simp [hq] at ho
  obtain ⟨rfl, hop, hg⟩ := ho
  exact AnyG.first hro hq hT (Region.noSelect_spec hs) hQ k listed a w (Region.free_spec hq hf) (closed_of hc) (by simpa using hr) ⟨⟨by simp [Region.wanted, hg], hy o hop⟩, hab o hop⟩ hS h
def ReadyG (F : Fence) (n : Nat) (P : Program) (md : Region.Mode) (ops : Array Oper) (Q : Exit → Act → World → Prop) (T : Nat → Bool) (S : Nat → World → Prop) (k : Nat) (listed : Array Bool) (a : Act) (w : World) (rs : List Nat) : Prop :=
 ∀ j ∈ rs, wpOpIn F n P ops Q j (fun a2 w2 => ((T j = true → w2 = w) ∧ (T j = false → ∀ i, i < ops.size → T i = true → waitsT md ops ops.size j i = false → S i w2)) ∧ AnyG F n P md ops Q T S k (listed.setIfInBounds j true) a2 w2) a w
theorem AnyG.ready (hr : Region.ready md ops listed = rs) (hne : rs ≠ []) (h : ReadyG F n P md ops Q T S k listed a w rs) : AnyG F n P md ops Q T S (k + 1) listed a w :=
 ⟨fun h0 => absurd (hr ▸ h0) hne, hr ▸ h⟩
theorem AnyG.done (hr : Region.ready md ops listed = []) (h : Q .normal a w) : ∀ k, AnyG F n P md ops Q T S k listed a w
 | 0 => ⟨hr, h⟩
 | _ + 1 => ⟨fun _ => h, by rw [hr]; simp⟩
theorem ReadyG.nil : ReadyG F n P md ops Q T S k listed a w [] := fun _ h => by cases h
theorem ReadyG.cons {o : Oper} (ho : ops[i]? = some o) (hg : o.guard = none)
  (h : ∀ K : Act → World → Prop, (∀ a2 w2, ((T i = true → w2 = w) ∧ (T i = false → ∀ x, x < ops.size → T x = true → waitsT md ops ops.size i x = false → S x w2)) ∧ AnyG F n P md ops Q T S k (listed.setIfInBounds i true) a2 w2 → K a2 w2) → Oper.wpIn F n P o a w K Q) (hs : ReadyG F n P md ops Q T S k listed a w rs) : ReadyG F n P md ops Q T S k listed a w (i :: rs) := fun j hj => by
 rcases List.mem_cons.1 hj with rfl | hj
 ·refine wpOpIn_step ho (fun K hK => ?_)
  rw [if_pos (by simp [Region.wanted, hg])]
  exact h K hK
 ·exact hs j hj
def tightB (md : Region.Mode) (ops : Array Oper) (T : Nat → Bool) (f i : Nat) : Bool := (List.range f).all fun x => !(T x) || waitsT md ops ops.size i x
theorem tight_of {f : Nat} {A : Prop} (h : tightB md ops T f i = true) : ∀ x, x < ops.size → T x = true → waitsT md ops ops.size i x = false → x < f → A := by
 intro x _ hx hw h1
 have h2 := List.all_eq_true.1 h x (List.mem_range.2 h1)
 rw [hx, hw] at h2
 cases h2
theorem no_wait {A : Prop} {k j x : Nat} (h : waitsT md ops k j x = false) (hb : waitsT md ops k j x = true) : A := by rw [h] at hb; cases hb
theorem tight_any {f : Nat} {A : Nat → Prop} (h : tightB md ops T f i = true) (hf : ops.size ≤ f) : ∀ x, x < ops.size → T x = true → waitsT md ops ops.size i x = false → A x := by
 intro x hx hT hw
 have h2 := List.all_eq_true.1 h x (List.mem_range.2 (by omega))
 rw [hT, hw] at h2
 cases h2
theorem about_plain {o : Oper} (hnc : ∀ c, o.op ≠ .call c) : o.about P w a.eval = none := by
 unfold Oper.about
 cases ho : o.op <;> first | rfl | exact absurd ho (hnc _)
theorem ReadyG.op (d : Option Tmp) (opr : Op) (ho : (ops[i]?).map (fun o => (o.dst, o.op, o.guard)) = some (d, opr, none)) (hro : F.round = none) (hnc : ∀ c, opr ≠ .call c) (v : Value)
  (hrun : ∀ o : Oper, o.op = opr → (execOp a.eval o).run P w = .ok (.value v) w2) (hTi : T i = false) (hk : ∀ x, x < ops.size → T x = true → waitsT md ops ops.size i x = false → S x w2) (h : AnyG F n P md ops Q T S k (listed.setIfInBounds i true) (a.put d v) w2)
  (hs : ReadyG F n P md ops Q T S k listed a w rs) : ReadyG F n P md ops Q T S k listed a w (i :: rs) := by
 cases hq : ops[i]? with
 | none => simp [hq] at ho
 | some o =>
  simp [hq] at ho
  obtain ⟨rfl, rfl, hg⟩ := ho
  refine ReadyG.cons hq hg (fun K hK => ⟨fun f hf => (by rw [about_plain hnc] at hf; cases hf), ?_⟩) hs
  rw [hro, Oper.semAt_none, hrun o rfl]
  exact hK _ _ ⟨⟨fun e => (by rw [hTi] at e; cases e), fun _ => hk⟩, h⟩
theorem ReadyG.skip (opr : Op) (ho : (ops[i]?).map (fun o => (o.dst, o.op, o.guard)) = some (none, opr, none)) (hro : F.round = none) (hnc : ∀ c, opr ≠ .call c)
  (hrun : ∀ o : Oper, o.op = opr → (execOp a.eval o).run P w = .ok .skip w2) (hTi : T i = false) (hk : ∀ x, x < ops.size → T x = true → waitsT md ops ops.size i x = false → S x w2) (h : AnyG F n P md ops Q T S k (listed.setIfInBounds i true) a w2)
  (hs : ReadyG F n P md ops Q T S k listed a w rs) : ReadyG F n P md ops Q T S k listed a w (i :: rs) := by
 cases hq : ops[i]? with
 | none => simp [hq] at ho
 | some o =>
  simp [hq] at ho
  obtain ⟨hd, rfl, hg⟩ := ho
  refine ReadyG.cons hq hg (fun K hK => ⟨fun f hf => (by rw [about_plain hnc] at hf; cases hf), ?_⟩) hs
  rw [hro, Oper.semAt_none, hrun o rfl]
  have e : a.put o.dst undef = a := by rw [hd]; rfl
  have h2 : K a w2 := hK _ _ ⟨⟨fun e => (by rw [hTi] at e; cases e), fun _ => hk⟩, h⟩
  rw [← e] at h2
  exact h2
theorem ReadyG.yield (d : Option Tmp) (f : Operand) (args : Array Operand) (tys : Array TypeId) (ho : (ops[i]?).map (fun o => (o.dst, o.op, o.guard)) = some (d, .call { callee := .value f, args := args, argTypes := tys }, none))
  (hro : F.round = none) (hd : F.depth = none) (l : Nat) (hf : a.eval f = .func (.yield l) #[] #[]) (avs : Array Value) (has : args.map a.eval = avs) (R : Ending → World → Prop) {m : Nat} (hy : YieldAt F m P l avs w R)
  (hTi : T i = false)
  (hK : ∀ v w2, R (.returned v) w2 → (∀ x, x < ops.size → T x = true → waitsT md ops ops.size i x = false → S x w2) ∧ AnyG F n P md ops Q T S k (listed.setIfInBounds i true) (a.put d v) w2) (hnp : ∀ c w2, ¬ R (.panicked c) w2) (hno : ∀ w2, ¬ R .outgrown w2)
  (hs : ReadyG F n P md ops Q T S k listed a w rs) : ReadyG F n P md ops Q T S k listed a w (i :: rs) := by
 cases hq : ops[i]? with
 | none => simp [hq] at ho
 | some o =>
  simp [hq] at ho
  obtain ⟨rfl, hop, hg⟩ := ho
  refine ReadyG.cons hq hg (fun K hK2 => ?_) hs
  obtain ⟨fn, tmps, assign, body, hrun, hR⟩ := anyDepthY hd (n - 1) hy
  have hres : (resolve a.eval { callee := .value f, args := args, argTypes := tys } o.type).run P w = .ok { target := .fn (.yield l) #[], args := avs } w := by
   simp [resolve, hf, has, Deferred.ofValue]
  refine ⟨fun f' hf' => ?_, ?_⟩
  ·unfold Oper.about at hf'
   simp only [hop, hres] at hf'
   simp [Target.leads] at hf'
  ·rw [hro, Oper.semAt_none]
   have hx : (execOp a.eval o).run P w = .ok (.round l fn tmps assign body) w := by
    unfold execOp
    simp only [hop, Sem.run_bind, hres, Result.andThen_ok, invoke]
    exact hrun
   rw [hx, Oper.uponIn_round]
   refine ⟨fun h => (by rw [hd] at h; cases h), hR.mono ?_⟩
   intro e w' hr
   cases e with
   | returned v => exact hK2 _ _ ⟨⟨fun e => (by rw [hTi] at e; cases e), fun _ => (hK v w' hr).1⟩, (hK v w' hr).2⟩
   | panicked c => exact (hnp c w' hr).elim
   | outgrown => exact (hno w' hr).elim
theorem ReadyG.call (d : Option Tmp) (g : FuncId) (args : Array Operand) (tys : Array TypeId) (ho : (ops[i]?).map (fun o => (o.dst, o.op, o.guard)) = some (d, .call { callee := .value (.func g), args := args, argTypes := tys }, none))
  (hro : F.round = none) (hd : F.depth = none) (hfn : ∀ f, F.fn f) (avs : Array Value) (has : args.map a.eval = avs) (eg : ∀ args w, (callFunc g args).run P w = .ok (.enter g args) w) (R : Ending → World → Prop) (hcl : CallsIn F (n - 1) P g avs w R)
  (hTi : T i = false)
  (hK : ∀ v w2, R (.returned v) w2 → (∀ x, x < ops.size → T x = true → waitsT md ops ops.size i x = false → S x w2) ∧ AnyG F n P md ops Q T S k (listed.setIfInBounds i true) (a.put d v) w2) (hnp : ∀ c w2, ¬ R (.panicked c) w2) (hno : ∀ w2, ¬ R .outgrown w2)
  (hs : ReadyG F n P md ops Q T S k listed a w rs) : ReadyG F n P md ops Q T S k listed a w (i :: rs) := by
 cases hq : ops[i]? with
 | none => simp [hq] at ho
 | some o =>
  simp [hq] at ho
  obtain ⟨rfl, hop, hg⟩ := ho
  refine ReadyG.cons hq hg (fun K hK2 => ⟨fun f _ => hfn f, ?_⟩) hs
  have hev : a.eval (.func g) = .func (.func g) #[] #[] := rfl
  have hres : (resolve a.eval { callee := .value (.func g), args := args, argTypes := tys } o.type).run P w = .ok { target := .fn (.func g) #[], args := avs } w := by
   simp [resolve, hev, has, Deferred.ofValue]
  have hx : (execOp a.eval o).run P w = .ok (.enter g avs) w := by
   unfold execOp
   simp only [hop, Sem.run_bind, hres, Result.andThen_ok, invoke]
   simp [eg]
  rw [hro, Oper.semAt_none, hx, Oper.uponIn_enter]
  refine ⟨fun h => (by rw [hd] at h; cases h), hcl.mono ?_⟩
  intro e w' hr
  cases e with
  | returned v => exact hK2 _ _ ⟨⟨fun e => (by rw [hTi] at e; cases e), fun _ => (hK v w' hr).1⟩, (hK v w' hr).2⟩
  | panicked c => exact (hnp c w' hr).elim
  | outgrown => exact (hno w' hr).elim
variable {o : Oper}
theorem uponIn_unround {K : Act → World → Prop} (l : Nat) (r : Result Next) (h : o.uponIn F n P a K Q r) : o.uponIn (F.inRound l) n P a K Q r := by
 cases r with
 | ok x w => cases x <;> exact h
 | halt x w => exact h
theorem opIn_unround {K : Act → World → Prop} (l : Nat) (hro : F.round = none) (hnd : ∀ c, o.op ≠ .defer c) (h : Oper.wpIn F n P o a w K Q) : Oper.wpIn (F.inRound l) n P o a w K Q := by
 refine ⟨h.1, ?_⟩
 have h2 := h.2
 rw [hro, Oper.semAt_none] at h2
 rw [Fence.inRound_round, Oper.semAt_some l _ _ hnd]
 exact uponIn_unround l _ h2
def noDefer (ops : Array Oper) : Bool := ops.all fun o => match o.op with | .defer _ => false | _ => true
theorem noDefer_spec (h : noDefer ops = true) (i : Nat) (o : Oper) (ho : ops[i]? = some o) : ∀ c, o.op ≠ .defer c := by
 intro c hc
 have h1 := Array.all_eq_true_iff_forall_mem.1 h o (Array.mem_of_getElem? ho)
 simp [hc] at h1
theorem anyIn_unround (l : Nat) (hro : F.round = none) (hnd : noDefer ops = true) : ∀ (fuel : Nat) (listed : Array Bool) (a : Act) (w : World), wpAnyIn F n P md ops Q fuel listed a w → wpAnyIn (F.inRound l) n P md ops Q fuel listed a w
 | 0, _, _, _, h => h
 | fuel + 1, listed, a, w, h => by
  refine ⟨h.1, fun i hi => ?_⟩
  have h2 := h.2 i hi
  unfold wpOpIn at h2 ⊢
  cases hq : ops[i]? with
  | none => rw [hq] at h2; exact anyIn_unround l hro hnd _ _ _ _ h2
  | some o =>
   rw [hq] at h2
   simp only at h2 ⊢
   by_cases hw : Region.wanted o (yielded ops a.tmps) = true
   ·rw [if_pos hw] at h2 ⊢
    exact Oper.wpIn_mono (fun a w h => anyIn_unround l hro hnd _ _ _ _ h) (opIn_unround l hro (noDefer_spec hnd i o hq) h2)
   ·rw [if_neg hw] at h2 ⊢
    exact ⟨h2.1, anyIn_unround l hro hnd _ _ _ _ h2.2⟩
end
end Go.Proofs.YtdbbcngolcnniaaGreatDoor
