/- Slices: made, built, grown; bytes and texts. No condition. -/
import Derived.Test.YtlofoeapfmcolaaX02
import Derived.Laws.MakeOwn
import Derived.Laws.IdiomStrings
import Derived.Laws.BytesArg
import Derived.Maps.AppendAt
namespace Go.Proofs.Ytlofoeapfmcolaa.E
open Go Go.RowKit
set_option linter.unusedVariables false
set_option linter.unusedSimpArgs false

/-! ### cells in elements -/

theorem flat_get {f : Nat → List Value} {k : Nat} (hk : 0 < k) : ∀ (n : Nat), (∀ i, i < n → (f i).length = k) → ∀ j, j < n * k → ((List.range n).flatMap f)[j]? = (f (j / k))[j % k]? := by
  intro n h j hj
  have hd : j / k < n := Nat.div_lt_of_lt_mul (by rw [Nat.mul_comm]; exact hj)
  obtain ⟨X, Y, h1, h2⟩ := flat_split n (j / k) hd h
  rw [h1, List.append_assoc, List.getElem?_append_right (by rw [h2]; exact Nat.div_mul_le_self j k), h2]
  have hm : j - j / k * k = j % k := by have := Nat.div_add_mod j k; rw [Nat.mul_comm] at this; omega
  rw [hm, List.getElem?_append_left (by rw [h _ hd]; exact Nat.mod_lt _ hk)]
theorem flat_len {f : Nat → List Value} {k : Nat} : ∀ (n : Nat), (∀ i, i < n → (f i).length = k) → ((List.range n).flatMap f).length = n * k := by
  intro n
  induction n with
  | zero => intro _; simp
  | succ m ih =>
    intro h
    rw [List.range_succ, List.flatMap_append, List.length_append, ih (fun i hi => h i (by omega))]
    simp [h m (by omega), Nat.succ_mul]
theorem lst_fnc (ρ : Env) (f : Nat → List Value) (k n : Nat) : lst ρ [.fnc f k n] = (List.range n).flatMap f := by simp [lst, Pc.arrV]

/-- The type of a slice's elements: type, cells, bytes, cells of nought. -/
def elemI (P : Program) (t : TypeId) : Option (TypeId × Nat × Nat × List Value) :=
  match P.underlying t with
  | some (.slice e) => match P.info? e with
    | some i => match i.zero with
      | some z => bif Nat.beq z.cells.toList.length i.size && Nat.ble 1 i.size && z.cells.toList.all Value.oneCell' then some (e, i.size, i.bytes, z.cells.toList) else none
      | none => none
    | none => none
  | _ => none
theorem elemI_ok {P : Program} {t e : TypeId} {k by_ : Nat} {zc : List Value} (h : elemI P t = some (e, k, by_, zc)) :
    ∃ i z, P.underlying t = some (.slice e) ∧ P.info? e = some i ∧ i.zero = some z ∧ i.size = k ∧ i.bytes = by_ ∧ z.cells.toList = zc ∧ zc.length = k ∧ 0 < k ∧ ∀ v ∈ zc, v.oneCell' = true := by
  unfold elemI at h
  split at h
  · rename_i e2 hu
    split at h
    · rename_i i hi
      split at h
      · rename_i z hz
        cases hb : (Nat.beq z.cells.toList.length i.size && Nat.ble 1 i.size && z.cells.toList.all Value.oneCell') with
        | false => rw [hb] at h; cases h
        | true =>
          rw [hb] at h
          cases h
          rw [Bool.and_eq_true, Bool.and_eq_true, List.all_eq_true] at hb
          exact ⟨i, z, hu, hi, hz, rfl, rfl, rfl, Nat.eq_of_beq_eq_true hb.1.1, Nat.le_of_ble_eq_true hb.1.2, hb.2⟩
      · cases h
    · cases h
  · cases h

def efMake (P : Program) (id : Nat) (t : TypeId) (args : List TV) : Option Eff :=
  match args, elemI P t with
  | [.s (.lf (.v (.int _ l))), .s (.lf (.v (.int _ c)))], some (e, k, by_, zc) =>
    some ⟨[0 ≤ l ∧ l ≤ c, (by_ : Int) * c ≤ 140737488355328 ∧ c ≤ 9223372036854775807], .s (.lf (.sl id 0 0 k l.toNat none)), [(id, ⟨[.fnc (fun _ => zc) k l.toNat], true, some (e, k)⟩)], []⟩
  | _, _ => none
/-- A new row with room behind. -/
theorem post_full {ρ : Env} {id : Nat} {w : World} {ob : List Prop} {e : TypeId} {k l c : Nat} {f : Nat → List Value} {A : Array Value} (hk : 0 < k) (hf : ∀ i, i < l → (f i).length = k ∧ ∀ v ∈ f i, v.oneCell' = true)
    (hA : A.size = c * k) (hlc : l ≤ c) (hc : c ≤ maxLen) (hg : ∀ j, j < l * k → A[j]? = (f (j / k))[j % k]?) :
    Post ρ (setE ρ id ⟨w.heap.size, 0, c⟩) id ⟨ob, .s (.lf (.sl id 0 0 k l none)), [(id, ⟨[.fnc f k l], true, some (e, k)⟩)], []⟩ w (w.alloc (.cells A e)) := by
  refine ⟨trivial, fun r hr => setE_ne ρ _ hr, Fr.of_below ((Below.refl _ w).alloc (Nat.le_refl _) _) _, fun p hp2 => ?_, fun p hp2 _ => by rw [setE_same]; exact .inl (Nat.le_refl _)⟩
  simp only [List.mem_singleton] at hp2
  subst hp2
  have hle : l * k ≤ c * k := Nat.mul_le_mul_right k hlc
  refine ⟨⟨?_, fun j v hv => ?_, fun e2 k2 h => ?_, by rw [setE_same]; exact ⟨A, e, (0, 0), Go.heap_alloc_new w _⟩⟩, fun p hp => ?_⟩
  · rw [setE_same]; simp
  · rw [setE_same]
    simp only [lst_fnc] at hv
    have hj : j < l * k := by have := (List.getElem?_eq_some_iff.1 hv).1; rwa [flat_len l (fun i hi => (hf i hi).1)] at this
    rw [flat_get hk l (fun i hi => (hf i hi).1) j hj] at hv
    refine ⟨?_, fun _ => frozen_alloc_new⟩
    rw [show (0 : Nat) + j = j by omega, cell_alloc_new, hg j hj]
    exact hv
  · cases h
    rw [setE_same]
    refine ⟨rfl, hc, ?_, A, Go.heap_alloc_new w _, hA⟩
    simp only [lst_fnc]
    rw [flat_len l (fun i hi => (hf i hi).1)]; exact hle
  · simp only [List.mem_singleton] at hp
    subst hp
    exact hf

theorem make_ok {P : Program} {id : Nat} {t : TypeId} {args : List TV} {e : Eff} {ρ : Env} {w : World} (h : efMake P id t args = some e) (ho : all e.obl) :
    ∃ x y, args = [x, y] ∧ ∃ w', (Instr.makeSlice t (x.val ρ) (y.val ρ)).run P w = .ok (e.val.val (setE ρ id ⟨w.heap.size, 0, (match y with | .s (.lf (.v (.int _ c))) => c.toNat | _ => 0)⟩)) w' ∧ Post ρ (setE ρ id ⟨w.heap.size, 0, (match y with | .s (.lf (.v (.int _ c))) => c.toNat | _ => 0)⟩) id e w w' := by
  unfold efMake at h
  split at h
  · rename_i kl l kc c el k by_ zc hel
    cases h
    obtain ⟨⟨h1, h2⟩, ⟨h3, h4⟩, -⟩ := ho
    obtain ⟨i, z, g1, g2, g3, g4, g5, g6, g7, g8, g9⟩ := elemI_ok hel
    refine ⟨_, _, rfl, w.alloc (.cells (madeCells z.cells (c.toNat * i.size)) el), ?_, ?_⟩
    · have := run_make (P := P) w t el i z g1 g2 g3 kl kc l c h1 h2 (by rw [g5]; omega) h4
      simp only [TV.val, SV.val, Lf.val, setE_same, capOf]
      rw [this]
      simp
    · have hz : z.cells.size = k := by rw [← Array.length_toList, g6, g7]
      refine post_full (c := c.toNat) g8 (fun i _ => ⟨g7, g9⟩) (by rw [size_madeCells, g4]) (by omega) (by simp [maxLen]; omega) (fun j hj => ?_)
      have hjc : j < c.toNat * i.size := by
        rw [g4]
        exact Nat.lt_of_lt_of_le hj (Nat.mul_le_mul_right k (by omega))
      have hm : j % z.cells.size < z.cells.size := Nat.mod_lt _ (by rw [hz]; exact g8)
      unfold madeCells
      rw [Array.getElem?_map, Array.getElem?_range, if_pos hjc]
      simp only [Option.map_some]
      rw [← g6, ← hz, Array.getElem?_toList, Array.getElem?_eq_getElem hm, getElem!_pos z.cells _ hm]
  · cases h

/-! ### a slice of told elements -/

def chunkF (l : List Value) (k n : Nat) : Nat → List Value := bif Nat.beq n 1 then fun _ => l else fun i => (l.drop (i * k)).take k
def efBuildS (P : Program) (id : Nat) (t : TypeId) (len : Nat) (parts : List (Nat × Operand)) (args : List TV) : Option Eff :=
  match elemI P t with
  | some (e, k, by_, zc) => bif Nat.ble (len * k) 16777216 then
      match fillS (placeL [] (some k)) ((List.replicate len zc).flatten.map fun v => .one (.v v)) parts args with
      | some (ob, ps) => match vals ps with
        | some l => bif Nat.beq l.length (len * k) then some ⟨ob, .s (.lf (.sl id 0 0 k len none)), [(id, ⟨[.fnc (chunkF l k len) k len], true, some (e, k)⟩)], []⟩ else none
        | none => bif (pids ps).all (fun r => !(Nat.beq r id)) then some ⟨ob, .s (.lf (.sl id 0 0 k len (some len))), [(id, ⟨ps, true, none⟩)], []⟩ else none
      | none => none
    else none
  | none => none
theorem chunk_ok {l : List Value} {k n : Nat} (hl : l.length = n * k) (hk : 0 < k) : ∀ i, i < n → (chunkF l k n i).length = k ∧ (∀ v ∈ chunkF l k n i, v ∈ l) ∧ ∀ q, q < k → (chunkF l k n i)[q]? = l[i * k + q]? := by
  intro i hi
  unfold chunkF
  cases hb : Nat.beq n 1 with
  | true =>
    obtain rfl := Nat.eq_of_beq_eq_true hb
    obtain rfl : i = 0 := by omega
    exact ⟨by simpa using hl, fun v hv => hv, fun q hq => by simp⟩
  | false =>
    simp only [cond_false]
    have h1 : (i + 1) * k ≤ n * k := Nat.mul_le_mul_right k hi
    rw [Nat.add_mul, Nat.one_mul] at h1
    refine ⟨by rw [List.length_take, List.length_drop]; omega, fun v hv => List.mem_of_mem_drop (List.mem_of_mem_take hv), fun q hq => ?_⟩
    rw [List.getElem?_take, if_pos hq, List.getElem?_drop]

/-! ### append -/

def appF (f : Nat → List Value) (n : Nat) (g : Nat → List Value) : Nat → List Value := fun i => bif Nat.ble (n + 1) i || Nat.beq n i then g (i - n) else f i
theorem appF_lo {f g : Nat → List Value} {n i : Nat} (h : i < n) : appF f n g i = f i := by
  unfold appF
  rw [show Nat.ble (n + 1) i = false by cases hb : Nat.ble (n + 1) i with | false => rfl | true => have := Nat.le_of_ble_eq_true hb; omega]
  rw [show Nat.beq n i = false by cases hb : Nat.beq n i with | false => rfl | true => have := Nat.eq_of_beq_eq_true hb; omega]
  rfl
theorem appF_hi {f g : Nat → List Value} {n i : Nat} (h : n ≤ i) : appF f n g i = g (i - n) := by
  unfold appF
  rcases Nat.lt_or_ge n i with h1 | h1
  · rw [show Nat.ble (n + 1) i = true from Nat.ble_eq_true_of_le h1]; rfl
  · obtain rfl : n = i := by omega
    rw [show Nat.beq n n = true by simp]; simp
/-- What is appended: elements of a row. -/
def srcE (k : Nat) (x : TV) (rw : Nat → Option Row) : Option (List Prop × (Nat → List Value) × Nat × Nat) :=
  match x with
  | .s (.lf (.sl r b i k2 m _)) => bif Nat.beq b 0 && Nat.beq k2 k then
      match rw r with
      | some row => match row.ps with
        | [.fnc g k3 m2] => bif Nat.beq k3 k then some ([i + m ≤ m2], fun q => g (addN i q), m, r) else none
        | _ => none
      | none => none
    else none
  | _ => none
def efApp (P : Program) (id : Nat) (tys : Array TypeId) (args : List TV) (rw : Nat → Option Row) : Option Eff :=
  match tys[0]?, tys[1]?, args with
  | some t, some t2, [s, x] => bif Nat.beq t t2 then match elemI P t with
    | some (e, k, by_, zc) => match srcE k x rw with
      | some (ob, g, m, r2) => match s with
        | .s (.lf (.v (.slice none 0 0))) => some ⟨[0 < m, m ≤ 9223372036854775807, m * by_ ≤ 140737488355328] ++ ob, .s (.lf (.sl id 0 0 k m none)), [(id, ⟨[.fnc g k m], true, some (e, k)⟩)], []⟩
        | .s (.lf (.sl r 0 0 k2 n none)) => match rw r with
          | some row => match row.ps with
            | [.fnc f k3 n2] => bif Nat.beq k2 k && Nat.beq k3 k && row.w && (match row.cp with | some (e2, k4) => Nat.beq e2 e && Nat.beq k4 k | none => false) && !(Nat.beq r r2) then
                some ⟨[n2 = n, n + m ≤ 9223372036854775807, (n + m) * by_ ≤ 140737488355328] ++ ob, .s (.lf (.sl id 0 0 k (n + m) none)), [(id, ⟨[.fnc (appF f n g) k (n + m)], true, some (e, k)⟩)], [r]⟩
              else none
            | _ => none
          | none => none
        | _ => none
      | none => none
    | none => none
    else none
  | _, _, _ => none
theorem ownsRow_of {ρ : Env} {w : World} {r : Nat} {f : Nat → List Value} {k n : Nat} {wr : Bool} {e : TypeId} (hk : 0 < k) (hR : RowAt ρ r ⟨[.fnc f k n], wr, some (e, k)⟩ w) (hf : ∀ i, i < n → (f i).length = k) :
    w.ownsRow 0 e k (.slice (some ⟨(ρ r).1, 0, none⟩) n (ρ r).3) n ((List.range n).flatMap f) := by
  obtain ⟨h1, h2, h3, _⟩ := hR
  obtain ⟨g1, g2, g3, cur, g4, g5⟩ := h3 e k rfl
  have hlen : ((List.range n).flatMap f).length = n * k := flat_len n hf
  simp only [lst_fnc] at h2 g3
  rw [hlen] at g3
  refine ⟨hlen, .inr ⟨(ρ r).1, (ρ r).3, cur, rfl, Nat.zero_le _, g4, Nat.le_of_mul_le_mul_right g3 hk, g2, g5, ?_⟩⟩
  apply List.ext_getElem?
  intro j
  by_cases hj : j < n * k
  · rw [List.getElem?_take, if_pos hj]
    have hv : ((List.range n).flatMap f)[j]? = some (((List.range n).flatMap f)[j]'(by rw [hlen]; exact hj)) := List.getElem?_eq_getElem _
    have := (h2 j _ hv).1
    rw [g1, Nat.zero_add, cell_of_row w _ j cur e (0, 0) g4] at this
    rw [hv, ← this]
    simp
  · rw [List.getElem?_eq_none (by rw [List.length_take]; omega), List.getElem?_eq_none (by rw [hlen]; omega)]
/-- What appending comes to, whatever is appended. -/
theorem app_fin {P : Program} {id : Nat} {ty : TypeId} {tys : Array TypeId} {ρ : Env} {w : World} {el : TypeId} {k n m : Nat} {v : Value} {f g : Nat → List Value} {av : Array Value} {dels : List Nat} {o1 : List Prop} (g8 : 0 < k)
    (hap : ∃ v' w', (Builtin.append_ tys ty av).run P w = .ok v' w' ∧ w'.ownsRow 0 el k v' (n + m) ((List.range n).flatMap f ++ (List.range m).flatMap g) ∧ w.grownBy w' v.ownBlock ∧ (v' = .slice none 0 0 ↔ v = .slice none 0 0 ∧ m = 0) ∧ (v'.ownBlock = v.ownBlock ∨ v'.ownBlock = some w.heap.size))
    (hf : ∀ q, q < n → (f q).length = k ∧ ∀ v ∈ f q, v.oneCell' = true) (hg : ∀ q, q < m → (g q).length = k ∧ ∀ v ∈ g q, v.oneCell' = true) (hnil : v = .slice none 0 0 → 0 < m) (hblk : ∀ g, v.ownBlock = some g → dels.map (fun r => (ρ r).1) = [g]) :
    ∃ w' ρ', (Builtin.append_ tys ty av).run P w = .ok ((TV.s (.lf (.sl id 0 0 k (n + m) none))).val ρ') w' ∧
      Post ρ ρ' id ⟨o1, .s (.lf (.sl id 0 0 k (n + m) none)), [(id, ⟨[.fnc (appF f n g) k (n + m)], true, some (el, k)⟩)], dels⟩ w w' := by
  have hnl : ((List.range m).flatMap g).length = m * k := flat_len m fun q hq => (hg q hq).1
  obtain ⟨v', w', hrun, hown', hgr, hiff, hbl⟩ := hap
  obtain ⟨hl', hsl⟩ := hown'
  rcases hsl with ⟨hsl, _⟩ | ⟨gg, cp, cur, hsl, _, hheap, hncp, hcpm, hcur, htake⟩
  · obtain ⟨e1, e2⟩ := hiff.1 hsl
    have := hnil e1; omega
  refine ⟨w', setE ρ id ⟨gg, 0, cp⟩, ?_, trivial, fun r hr => setE_ne ρ _ hr, ?_, ?_, ?_⟩
  · rw [hrun, hsl]
    simp [TV.val, SV.val, Lf.val, setE_same, capOf]
  · refine ⟨hgr.os, hgr.tape, hgr.output, hgr.size, fun q hq hn => hgr.block q hq ?_⟩
    intro he
    rw [hblk q he.symm] at hn
    simp at hn
  · intro p hp
    simp only [List.mem_singleton] at hp
    subst hp
    have hlen2 : ∀ q, q < n + m → (appF f n g q).length = k ∧ ∀ v ∈ appF f n g q, v.oneCell' = true := by
      intro q hq
      by_cases hqn : q < n
      · rw [appF_lo hqn]; exact hf q hqn
      · rw [appF_hi (by omega)]; exact hg _ (by omega)
    have hflat : (List.range (n + m)).flatMap (appF f n g) = (List.range n).flatMap f ++ (List.range m).flatMap g := by
      apply List.ext_getElem?
      intro j
      by_cases hj : j < (n + m) * k
      · rw [flat_get g8 _ (fun q hq => (hlen2 q hq).1) j hj]
        by_cases hjn : j < n * k
        · rw [appF_lo (Nat.div_lt_of_lt_mul (by rw [Nat.mul_comm]; exact hjn)), List.getElem?_append_left (by rw [flat_len n fun q hq => (hf q hq).1]; exact hjn), flat_get g8 _ (fun q hq => (hf q hq).1) j hjn]
        · have hjm : j - n * k < m * k := by rw [Nat.add_mul] at hj; omega
          have e1 : j = j - n * k + n * k := by omega
          have e2 : j / k = (j - n * k) / k + n := by rw [← Nat.add_mul_div_right _ _ g8, ← e1]
          have e3 : j % k = (j - n * k) % k := by rw [← Nat.add_mul_mod_self_right (j - n * k) n k, ← e1]
          rw [appF_hi (by rw [e2]; exact Nat.le_add_left _ _), List.getElem?_append_right (by rw [flat_len n fun q hq => (hf q hq).1]; omega), flat_len n fun q hq => (hf q hq).1, flat_get g8 _ (fun q hq => (hg q hq).1) _ hjm]
          rw [e2, e3, Nat.add_sub_cancel]
      · rw [List.getElem?_eq_none (by rw [flat_len _ fun q hq => (hlen2 q hq).1]; omega), List.getElem?_eq_none (by rw [List.length_append, flat_len n fun q hq => (hf q hq).1, hnl, ← Nat.add_mul]; omega)]
    refine ⟨⟨?_, fun j v hv => ?_, fun e2 k2 h => ?_, by rw [setE_same]; exact ⟨cur, el, (0, 0), hheap⟩⟩, fun p hp => ?_⟩
    · rw [setE_same]; exact lt_of_block hheap
    · rw [setE_same]
      simp only [lst_fnc, hflat] at hv
      rw [Nat.zero_add, cell_of_row w' _ j cur el (0, 0) hheap]
      rw [← htake, List.getElem?_take] at hv
      split at hv
      · refine ⟨by simpa using hv, fun _ => ?_⟩
        simp [World.frozen?, hheap]
      · cases hv
    · cases h
      rw [setE_same]
      refine ⟨rfl, hcpm, ?_, cur, hheap, hcur⟩
      simp only [lst_fnc]
      rw [flat_len _ fun q hq => (hlen2 q hq).1]
      exact Nat.mul_le_mul_right k hncp
    · simp only [List.mem_singleton] at hp
      subst hp
      exact hlen2
  · intro p hp _
    rw [setE_same]
    have hg : v'.ownBlock = some gg := by rw [hsl]; rfl
    rcases hbl with hbl | hbl
    · rw [hg] at hbl
      have := hblk gg hbl.symm
      cases dels with
      | nil => cases this
      | cons d ds =>
        simp at this
        exact .inr ⟨d, by simp, this.1.symm⟩
    · rw [hg] at hbl
      cases hbl
      exact .inl (Nat.le_refl _)
theorem append_ok {P : Program} {id : Nat} {ty : TypeId} {tys : Array TypeId} {args : List TV} {rw : Nat → Option Row} {e : Eff} {ρ : Env} {w : World} (hids : ∀ x ∈ args, id ∉ x.ids)
    (hrw : ∀ r row, rw r = some row → RowAt ρ r row w ∧ pok row.ps) (h : efApp P id tys args rw = some e) (ho : all e.obl) :
    ∃ w' ρ', (Builtin.append_ tys ty (args.map (TV.val ρ)).toArray).run P w = .ok (e.val.val ρ') w' ∧ Post ρ ρ' id e w w' := by
  unfold efApp at h
  split at h
  · rename_i t t2 s x ht ht2
    cases hb : Nat.beq t t2 with
    | false => rw [hb] at h; cases h
    | true =>
      rw [hb] at h
      obtain rfl := Nat.eq_of_beq_eq_true hb
      simp only [cond_true] at h
      split at h
      · rename_i el k by_ zc hel
        obtain ⟨i, z, g1, g2, g3, g4, g5, g6, g7, g8, g9⟩ := elemI_ok hel
        have hz : z.cells.size = k := by rw [← Array.length_toList, g6, g7]
        split at h
        · rename_i ob g m r2 hsrc
          -- the source
          unfold srcE at hsrc
          split at hsrc
          · rename_i r3 b i2 k2 m2 cap
            cases hc2 : (Nat.beq b 0 && Nat.beq k2 k) with
            | false => rw [hc2] at hsrc; cases hsrc
            | true =>
              rw [hc2] at hsrc
              simp only [cond_true] at hsrc
              rw [Bool.and_eq_true] at hc2
              obtain rfl := Nat.eq_of_beq_eq_true hc2.1
              obtain rfl := Nat.eq_of_beq_eq_true hc2.2
              split at hsrc
              · rename_i row hrow
                split at hsrc
                · rename_i g0 k3 m3 hps
                  cases hc3 : Nat.beq k3 k2 with
                  | false => rw [hc3] at hsrc; cases hsrc
                  | true =>
                    rw [hc3] at hsrc
                    obtain rfl := Nat.eq_of_beq_eq_true hc3
                    cases hsrc
                    obtain ⟨hR, hpo⟩ := hrw _ _ hrow
                    have hF : (Pc.fnc g0 k3 m3).ok := hpo _ (by rw [hps]; simp)
                    have hnews : i2 + m ≤ m3 → ∀ j u, ((List.range m).flatMap fun q => g0 (addN i2 q))[j]? = some u → w.cell? ((⟨(ρ r2).1, (ρ r2).2 + (0 + i2 * k3), none⟩ : Addr).add j) = some u := by
                      intro hle j u hu
                      have hj : j < m * k3 := by have := (List.getElem?_eq_some_iff.1 hu).1; rwa [flat_len m (fun q hq => (hF _ (by rw [addN_eq]; omega)).1)] at this
                      rw [flat_get g8 m (fun q hq => (hF _ (by rw [addN_eq]; omega)).1) j hj] at hu
                      rw [addr_add]
                      have h2 := hR.2.1 (i2 * k3 + j) u (by
                        have hlt : i2 * k3 + j < m3 * k3 := by
                          have : (i2 + m) * k3 ≤ m3 * k3 := Nat.mul_le_mul_right _ hle
                          rw [Nat.add_mul] at this; omega
                        rw [hps, lst_fnc, flat_get g8 m3 (fun q hq => (hF q hq).1) _ hlt]
                        rw [show (i2 * k3 + j) / k3 = i2 + j / k3 by rw [Nat.add_comm, Nat.add_mul_div_right _ _ g8, Nat.add_comm], show (i2 * k3 + j) % k3 = j % k3 by rw [Nat.add_comm, Nat.add_mul_mod_self_right], ← addN_eq]
                        exact hu)
                      rw [show (ρ r2).2 + (0 + i2 * k3) + j = (ρ r2).2 + (i2 * k3 + j) by omega]
                      exact h2.1
                    have hN : i2 + m ≤ m3 → ∀ q, q < m → (g0 (addN i2 q)).length = k3 ∧ ∀ v ∈ g0 (addN i2 q), v.oneCell' = true := fun hle q hq => hF _ (by rw [addN_eq]; omega)
                    -- what is common
                    have fin : ∀ (v : Value) (n : Nat) (f : Nat → List Value) (dels : List Nat) (o1 : List Prop), w.ownsRow 0 el k3 v n ((List.range n).flatMap f) → (∀ q, q < n → (f q).length = k3 ∧ ∀ v ∈ f q, v.oneCell' = true) →
                        v = s.val ρ → (v = .slice none 0 0 → 0 < m) → (∀ g, v.ownBlock = some g → dels.map (fun r => (ρ r).1) = [g]) → n + m ≤ 9223372036854775807 → (n + m) * by_ ≤ 140737488355328 → i2 + m ≤ m3 →
                        ∃ w' ρ', (Builtin.append_ tys ty ([s, TV.s (.lf (.sl r2 0 i2 k3 m cap))].map (TV.val ρ)).toArray).run P w = .ok ((TV.s (.lf (.sl id 0 0 k3 (n + m) none))).val ρ') w' ∧
                          Post ρ ρ' id ⟨o1, .s (.lf (.sl id 0 0 k3 (n + m) none)), [(id, ⟨[.fnc (appF f n fun q => g0 (addN i2 q)) k3 (n + m)], true, some (el, k3)⟩)], dels⟩ w w' := by
                      intro v n f dels o1 hown hf hv hnil hblk h63 hby hle
                      have hnl : ((List.range m).flatMap fun q => g0 (addN i2 q)).length = m * k3 := flat_len m fun q hq => (hN hle q hq).1
                      obtain ⟨v', w', hrun, hown', hgr, hiff, hbl⟩ := run_append_own_at (P := P) w 0 t ty el i z k3 by_ g1 g2 g3 g4 g5 hz g8 v n _ hown ⟨(ρ r2).1, (ρ r2).2 + (0 + i2 * k3), none⟩ m (capOf (ρ r2).3 i2 cap) _ hnl (hnews hle) (by
                        intro u hu
                        obtain ⟨q, hq, hu⟩ := List.mem_flatMap.1 hu
                        exact (hN hle q (List.mem_range.1 hq)).2 u hu) (by simp [maxLen]; omega) hby (Nat.zero_le _)
                      refine app_fin (v := v) g8 ⟨v', w', ?_, hown', hgr, hiff, hbl⟩ hf (hN hle) hnil hblk
                      rw [← hrun, hv]
                      unfold Builtin.append_
                      simp only [ht, ht2]
                      rfl
                    split at h
                    · cases h
                      obtain ⟨h1, h2, h3, h4, -⟩ := ho
                      have := fin (.slice none 0 0) 0 (fun _ => []) [] ([0 < m, m ≤ 9223372036854775807, m * by_ ≤ 140737488355328] ++ [i2 + m ≤ m3]) ⟨by simp, .inl ⟨rfl, rfl⟩⟩ (fun q hq => by omega) rfl (fun _ => h1) (fun g hg => by cases hg) (by omega) (by rw [Nat.zero_add]; exact h3) h4
                      rw [Nat.zero_add] at this
                      obtain ⟨w', ρ', k1, k2⟩ := this
                      refine ⟨w', ρ', k1, k2.ok, k2.env, by have := k2.fr; simpa using this, fun p hp => ?_, fun p hp he => by have := k2.new _ (List.mem_singleton.2 rfl) rfl; simpa using this⟩
                      have := k2.puts _ (List.mem_singleton.2 rfl)
                      simp only [List.mem_singleton] at hp
                      subst hp
                      have e : appF (fun _ => []) 0 (fun q => g0 (addN i2 q)) = fun q => g0 (addN i2 q) := by
                        funext q
                        rw [appF_hi (Nat.zero_le _)]; rfl
                      rw [e] at this
                      exact this
                    · rename_i r k5 n
                      split at h
                      · rename_i row2 hrow2
                        split at h
                        · rename_i f k4 n2 hps2
                          cases hcc : (Nat.beq k5 k3 && Nat.beq k4 k3 && row2.w && (match row2.cp with | some (e2, k4) => Nat.beq e2 el && Nat.beq k4 k3 | none => false) && !(Nat.beq r r2)) with
                          | false => rw [hcc] at h; cases h
                          | true =>
                            rw [hcc] at h
                            cases h
                            simp only [Bool.and_eq_true] at hcc
                            obtain ⟨⟨⟨⟨c1, c2⟩, c3⟩, c4⟩, c5⟩ := hcc
                            obtain rfl := Nat.eq_of_beq_eq_true c1
                            obtain rfl := Nat.eq_of_beq_eq_true c2
                            obtain ⟨h1, h2, h3, h4, -⟩ := ho
                            subst h1
                            obtain ⟨hR2, hpo2⟩ := hrw _ _ hrow2
                            have hF2 : (Pc.fnc f k4 n2).ok := hpo2 _ (by rw [hps2]; simp)
                            have hcp : row2.cp = some (el, k4) := by
                              split at c4
                              · rename_i e2 k6 hcp
                                rw [Bool.and_eq_true] at c4
                                rw [hcp, Nat.eq_of_beq_eq_true c4.1, Nat.eq_of_beq_eq_true c4.2]
                              · cases c4
                            obtain ⟨ps2, w2, cp2⟩ := row2
                            simp only at hps2 hcp c3
                            subst hps2
                            subst hcp
                            have hoff := (hR2.2.2.1 el k4 rfl).1
                            have := fin (.slice (some ⟨(ρ r).1, 0, none⟩) n2 (ρ r).3) n2 f [r] ([n2 = n2, n2 + m ≤ 9223372036854775807, (n2 + m) * by_ ≤ 140737488355328] ++ [i2 + m ≤ m3]) (ownsRow_of g8 hR2 (fun q hq => (hF2 q hq).1)) hF2 (by
                              simp [TV.val, SV.val, Lf.val, capOf, hoff]) (fun h => by cases h) (fun g hg => by cases hg; rfl) h2 h3 h4
                            exact this
                        · cases h
                      · cases h
                    · cases h
                · cases hsrc
              · cases hsrc
          · cases hsrc
        · cases h
      · cases h
  · cases h
end Go.Proofs.Ytlofoeapfmcolaa.E
