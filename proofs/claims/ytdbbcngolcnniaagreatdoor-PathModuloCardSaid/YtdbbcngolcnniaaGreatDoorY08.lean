/- Several texts, one behind the other; each says by itself what it proves, and on what conditions. -/
import Derived.Test.YtdbbcngolcnniaaGreatDoorY07
import Derived.KernelRfl
import GoSem.Op.String
/- A call under a guard, by its contract; a run to an exit. No condition. -/
namespace Go.Proofs.YtdbbcngolcnniaaGreatDoor.E
open Go Go.RowKit
set_option linter.unusedVariables false
set_option linter.unusedSimpArgs false
end Go.Proofs.YtdbbcngolcnniaaGreatDoor.E
/- The engine: to the end, with what parts the rows that are left. No condition of its own. -/
namespace Go.Proofs.YtdbbcngolcnniaaGreatDoor.E
set_option linter.unusedSimpArgs false
open Go Go.RowKit
set_option linter.unusedVariables false
end Go.Proofs.YtdbbcngolcnniaaGreatDoor.E
/- The engine: rows under other numbers (a round that makes a row anew). No condition of its own. -/
namespace Go.Proofs.YtdbbcngolcnniaaGreatDoor.E
set_option linter.unusedSimpArgs false
open Go Go.RowKit
set_option linter.unusedVariables false
def isLf : TV → Bool
 | .s (.lf _) => true
 | _ => false
def TV.renS (m : List (Nat × Nat)) : TV → TV
 | .s (.lf x) => .s (.lf (x.ren m))
 | y => y
theorem findT_map {g : TV → TV} {t : Nat} : ∀ {l : List (Nat × TV)} {x : TV}, findT l t = some x → findT (l.map fun p => (p.1, g p.2)) t = some (g x)
 | [], _, h => by cases h
 | p :: l, x, h => by
  unfold findT at h
  rw [List.map_cons]
  unfold findT
  cases hb : Nat.beq p.1 t with
  | true => rw [hb] at h; cases h; rfl
  | false => rw [hb] at h; exact findT_map (l := l) h
theorem At.ren {r : Option Nat} {mk : List Nat} {P : Program} {w0 : World} {wr : Bs} {n : Nat} {gl : List Nat} {todo : List Item} {Q : Exit → Act → World → Prop} (m : List (Nat × Nat)) (tm2 : List (Nat × TV)) (rows2 : List (Nat × Row))
  (hlf : tm2.all (fun p => isLf p.2) = true) (hid : idsOk tm2 rows2 gl = true) (hmo : renOk m wr.k = true) (hnd : nodupB (rows2.map fun p => renL m p.1) = true) (h5 : wr.k.all (hasN (rows2.map (·.1) ++ gl.map (500 + ·))) = true)
  (h : At P w0 wr n gl todo Q tm2 rows2 r mk) : At P w0 wr n gl todo Q (tm2.map fun p => (p.1, p.2.renS m)) (rows2.map fun p => (renL m p.1, p.2.ren m)) r mk := by
 intro a w ρ hd
 have hN := nodupB_ok hnd
 have hinj : ∀ p ∈ rows2, ∀ q ∈ rows2, renL m p.1 = renL m q.1 → p.1 = q.1 := by
  clear hid h5 h hd hnd
  induction rows2 with
  | nil => intro p hp; cases hp
  | cons x l ih =>
   rw [List.map_cons, List.nodup_cons] at hN
   intro p hp q hq he
   rcases List.mem_cons.1 hp with e1 | hp <;> rcases List.mem_cons.1 hq with e2 | hq
   ·rw [e1, e2]
   ·exact absurd (List.mem_map.2 ⟨q, hq, by rw [← he, e1]⟩) hN.1
   ·exact absurd (List.mem_map.2 ⟨p, hp, by rw [he, e2]⟩) hN.1
   ·exact ih hN.2 p hp q hq he
 have hrow : ∀ q y, findR rows2 q = some y → (q, y) ∈ rows2 ∧ findR (rows2.map fun p => (renL m p.1, p.2.ren m)) (renL m q) = some (y.ren m) := fun q y hy => by
  have hm := findR_mem hy
  refine ⟨hm, ?_⟩
  have hN2 : ((rows2.map fun p => (renL m p.1, p.2.ren m)).map (·.1)).Nodup := by rw [List.map_map]; exact hN
  exact findR_nodup (p := (renL m q, y.ren m)) hN2 (List.mem_map.2 ⟨_, hm, rfl⟩)
 have hids := hid
 unfold idsOk at hids
 rw [Bool.and_eq_true] at hids
 refine h a w (fun q => ρ (renL m q)) ⟨hd.sz, hd.df, hd.mf, hd.ko, fun t x hx => ?_, fun q y hy => ?_, fun q u y z hy hz hqu hw => ?_, hd.fr, fun q hq => ?_, fun q hq => List.all_eq_true.1 h5 q hq, fun g hg hu => ?_, fun q B hq => by cases hq⟩
 ·have hp := findT_mem hx
  obtain ⟨g1, g2, _⟩ := hd.tm t _ (findT_map (g := TV.renS m) hx)
  have hl : isLf x = true := List.all_eq_true.1 hlf _ hp
  have hu : x.ids.all (hasN (rows2.map (·.1) ++ gl.map (500 + ·))) = true := List.all_eq_true.1 hids.1 _ hp
  cases x with
  | tup _ => cases hl
  | s sv =>
   cases sv with
   | lf x =>
    refine ⟨by rw [g1]; show some ((Lf.ren m x).val ρ) = _; rw [Lf.ren_val]; rfl, ?_, fun q hq => List.all_eq_true.1 hu q hq⟩
    cases x <;> exact g2
   | agg _ => cases hl
   | un => cases hl
 ·obtain ⟨hm, hf⟩ := hrow q y hy
  obtain ⟨g1, g2, g3, g4, g5⟩ := hd.rw _ _ hf
  refine ⟨RowAt.ren g1, pok_ren g2, hasN_iff.2 (List.mem_append.2 (.inl (List.mem_map.2 ⟨_, hm, rfl⟩))), fun u hu => ?_, g5⟩
  exact List.all_eq_true.1 (List.all_eq_true.1 hids.2 _ hm) u hu
 ·obtain ⟨hm, hf⟩ := hrow q y hy
  obtain ⟨hm2, hf2⟩ := hrow u z hz
  exact hd.ds _ _ _ _ hf hf2 (fun e => hqu (hinj _ hm _ hm2 e)) hw
 ·show ρ (renL m q) = _
  rw [renL_fix hmo hq]
  exact hd.e0 q hq
 ·show ρ (renL m (500 + g)) = _
  rw [renL_fix hmo (.inl (by omega))]
  refine hd.gl g hg ?_
  rcases List.mem_append.1 (hasN_iff.1 hu) with hu | hu
  ·obtain ⟨p, hp, e⟩ := List.mem_map.1 hu
   refine hasN_iff.2 (List.mem_append.2 (.inl ?_))
   rw [List.map_map]
   exact List.mem_map.2 ⟨p, hp, by show renL m p.1 = _; rw [e, renL_fix hmo (.inl (by omega))]⟩
  ·exact hasN_iff.2 (List.mem_append.2 (.inr hu))
end Go.Proofs.YtdbbcngolcnniaaGreatDoor.E
/- The engine: a slice's capacity, where a row tells it, as a letter; lists of duties. No condition of its own. -/
namespace Go.Proofs.YtdbbcngolcnniaaGreatDoor.E
set_option linter.unusedSimpArgs false
open Go Go.RowKit
set_option linter.unusedVariables false
def allL : List (List Prop) → Prop
 | [] => True
 | l :: m => all l ∧ allL m
theorem all_flat : ∀ {ls : List (List Prop)}, allL ls → all ls.flatten
 | [], _ => trivial
 | _ :: _, h => by rw [List.flatten_cons]; exact all_append.2 ⟨h.1, all_flat h.2⟩
theorem findT_swap {t u : Nat} {x y z : TV} {post : List (Nat × TV)} : ∀ {pre : List (Nat × TV)}, findT (pre ++ (t, y) :: post) u = some z → findT (pre ++ (t, x) :: post) u = some z ∨ (z = y ∧ findT (pre ++ (t, x) :: post) u = some x)
 | [], h => by
  have h2 : (bif Nat.beq t u then some y else findT post u) = some z := h
  show (bif Nat.beq t u then some x else findT post u) = some z ∨ (z = y ∧ (bif Nat.beq t u then some x else findT post u) = some x)
  cases hb : Nat.beq t u with
  | true => rw [hb] at h2; exact .inr ⟨(Option.some.inj h2).symm, rfl⟩
  | false => rw [hb] at h2; exact .inl h2
 | p :: pre, h => by
  have h2 : (bif Nat.beq p.1 u then some p.2 else findT (pre ++ (t, y) :: post) u) = some z := h
  show (bif Nat.beq p.1 u then some p.2 else findT (pre ++ (t, x) :: post) u) = some z ∨ (z = y ∧ (bif Nat.beq p.1 u then some p.2 else findT (pre ++ (t, x) :: post) u) = some x)
  cases hb : Nat.beq p.1 u with
  | true => rw [hb] at h2; exact .inl h2
  | false => rw [hb] at h2; exact findT_swap h2
theorem At.cap {r : Option Nat} {mk : List Nat} {kn : List (Nat × Blk)} {P : Program} {w0 : World} {wr : Bs} {n : Nat} {gl : List Nat} {todo : List Item} {Q : Exit → Act → World → Prop} {rows : List (Nat × Row)} (pre post : List (Nat × TV)) (t q len k : Nat) (row : Row) {e : TypeId}
  (hk : 0 < k) (hr : findR rows q = some row) (hc : row.cp = some (e, k)) (hl : ∀ ρ, (lst ρ row.ps).length = len * k)
  (h : ∀ c, c + len ≤ maxLen → At P w0 wr n gl todo Q (pre ++ (t, .s (.lf (.sl q 0 0 k len (some (c + len))))) :: post) rows r mk kn) :
  At P w0 wr n gl todo Q (pre ++ (t, .s (.lf (.sl q 0 0 k len none))) :: post) rows r mk kn := by
 intro a w ρ hd
 obtain ⟨g1, _⟩ := hd.rw q row hr
 obtain ⟨g2, g3, g4, _⟩ := g1.2.2.1 e k hc
 rw [hl] at g4
 have hle : len ≤ (ρ q).3 := Nat.le_of_mul_le_mul_right g4 hk
 refine h ((ρ q).3 - len) (by omega) a w ρ ⟨hd.sz, hd.df, hd.mf, hd.ko, fun u x hx => ?_, hd.rw, hd.ds, hd.fr, hd.e0, hd.ku, hd.gl, hd.kn⟩
 rcases findT_swap (x := .s (.lf (.sl q 0 0 k len none))) hx with h1 | ⟨rfl, h1⟩
 ·exact hd.tm u x h1
 ·obtain ⟨q1, q2, q3⟩ := hd.tm u _ h1
  refine ⟨?_, trivial, q3⟩
  rw [q1]
  simp only [TV.val, SV.val, Lf.val, capOf]
  rw [show (ρ q).3 - len + len = (ρ q).3 by omega, Nat.sub_zero]
end Go.Proofs.YtdbbcngolcnniaaGreatDoor.E
/- What every seat's texts want beside the engine: strings as values, rows carried over frames, states told anew. No condition but what each names. -/
namespace Go.Proofs.YtdbbcngolcnniaaGreatDoor
open Go.RowKit
set_option linter.unusedVariables false
set_option linter.unusedSimpArgs false
section
open E
theorem rowAt_keep {ρ : Env} {r : Nat} {row : Row} {w w' : World} (h : RowAt ρ r row w) (hs : w.heap.size ≤ w'.heap.size) (hb : w'.heap[(ρ r).1]? = w.heap[(ρ r).1]?) : RowAt ρ r row w' := by
 obtain ⟨h1, h2, h3, h4⟩ := h
 have hc : ∀ x, w'.cell? ⟨(ρ r).1, x, none⟩ = w.cell? ⟨(ρ r).1, x, none⟩ := fun x => World.cell?_of_block (w := w) (a := ⟨(ρ r).1, x, none⟩) hb
 have hf : ∀ x, w'.frozen? ⟨(ρ r).1, x, none⟩ = w.frozen? ⟨(ρ r).1, x, none⟩ := fun x => by unfold World.frozen?; simp only [hb]
 refine ⟨Nat.lt_of_lt_of_le h1 hs, fun j v hv => by rw [hc, hf]; exact h2 j v hv, fun e k hk => ?_, by rw [hb]; exact h4⟩
 obtain ⟨g1, g2, g3, g4⟩ := h3 e k hk
 exact ⟨g1, g2, g3, by rw [hb]; exact g4⟩
theorem E.Fr.comp {W W1 W2 : World} {l m : List Nat} (h : Fr W l W1) (k : Fr W1 m W2) (hm : ∀ x ∈ m, x ∈ l ∨ W.heap.size ≤ x) : Fr W l W2 :=
 ⟨k.os.trans h.os, k.tape.trans h.tape, k.output.trans h.output, Nat.le_trans h.size k.size, fun q hq hn => (k.block q (Nat.lt_of_lt_of_le hq h.size) fun hqm => by
  rcases hm q hqm with h2 | h2
  ·exact hn h2
  ·omega).trans (h.block q hq hn)⟩
theorem tv_int {k : IntKind} {a b : Int} (h : a = b) : TV.int k a = TV.int k b := by rw [h]
abbrev stv (l : List UInt8) : Value := .string ⟨l.toArray⟩
theorem tv_str {a b : List UInt8} (h : a = b) : TV.v (stv a) = TV.v (stv b) := by rw [h]
theorem init_rw {w : World} {wr : List Nat} {ρ : Env} {args : List TV} {rows : List (Nat × Row)} (hok : okL args) (hi : args.all (fun x => x.ids.all (hasN (rows.map (·.1)))) = true) (hp : rows.all (fun p => (pids p.2.ps).all (hasN (rows.map (·.1)))) = true) (hl : rows.all (fun p => Nat.ble (p.1 + 1) 500) = true)
  (hr : ∀ p ∈ rows, RowAt ρ p.1 p.2 w ∧ pok p.2.ps) (hw : ∀ p ∈ rows, p.2.w = true → (ρ p.1).1 ∈ wr) (hd : PreDs ρ rows) : Init w wr ρ args rows [] := by
 have e : rows.map (·.1) ++ ([] : List Nat).map (500 + ·) = rows.map (·.1) := by simp
 refine ⟨fun x hx => ⟨okL_mem hok x hx, fun r hr2 => ?_⟩, fun p hpm => ⟨(hr p hpm).1, (hr p hpm).2, fun q hq => ?_, hw p hpm⟩, hd, fun g _ hg => ?_⟩
 ·rw [e]; exact List.all_eq_true.1 (List.all_eq_true.1 hi x hx) r hr2
 ·rw [e]; exact List.all_eq_true.1 (List.all_eq_true.1 hp p hpm) q hq
 ·rw [e] at hg
  obtain ⟨p, hpm, hpe⟩ := List.mem_map.1 (hasN_iff.1 hg)
  have := Nat.le_of_ble_eq_true (List.all_eq_true.1 hl p hpm)
  omega
theorem pok1 {f : Nat → List Value} {k n : Nat} (h : ∀ i, (f i).length = k ∧ ∀ v ∈ f i, v.oneCell' = true) : pok [Pc.fnc f k n] := by
 intro p hp
 simp at hp
 subst hp
 exact fun i _ => h i
theorem rowAt_mv {ρ σ : Env} {r q : Nat} {f : Nat → List Value} {k n : Nat} {wr : Bool} {cp : Option (TypeId × Nat)} {w : World} (h : RowAt ρ r ⟨[.fnc f k n], wr, cp⟩ w) (e : σ q = ρ r) : RowAt σ q ⟨[.fnc f k n], wr, cp⟩ w := by
 unfold RowAt at h ⊢
 rw [e]
 exact h
theorem rowAt_fr {ρ : Env} {r : Nat} {row : Row} {w w' : World} {l : List Nat} (h : RowAt ρ r row w) (hf : Fr w l w') (hn : (ρ r).1 ∉ l) : RowAt ρ r row w' := rowAt_keep h hf.size (hf.block _ h.1 hn)
theorem E.den_again {w0 : World} {wr : Bs} {ρ σ : Env} {n : Nat} {tm tm' : List (Nat × TV)} {rows rows2 : List (Nat × Row)} {a : Act} {w w' : World} {d : Nat} {v : Value} {K : List Nat} (hd : Den w0 wr ρ (mkSt n tm rows []) a w) (hdn : d < n)
  (h : ∀ p ∈ tm', (p.1 = d ∧ v = p.2.val σ ∧ p.2.ok) ∨ (p.1 ≠ d ∧ findT tm p.1 = some p.2 ∧ ∀ r ∈ p.2.ids, σ r = ρ r)) (hi : idsOk tm' rows2 [] = true) (hr : ∀ p ∈ rows2, RowAt σ p.1 p.2 w' ∧ pok p.2.ps) (hds : ∀ p ∈ rows2, ∀ q ∈ rows2, p.1 ≠ q.1 → p.2.w = true → (σ p.1).1 ≠ (σ q.1).1) (hK : K.all (hasN (rows2.map (·.1))) = true) (hk5 : rows2.all (fun p => Nat.ble (p.1 + 1) 500 || Nat.ble 1000 p.1) = true) :
  Den w' ⟨wlOf σ rows2, σ, K⟩ σ (mkSt n tm' rows2 []) (a.put (some d) v) w' := by
 simp only [idsOk, Bool.and_eq_true, List.all_eq_true] at hi
 have hu : ∀ r, (mkSt n tm' rows2 []).used r = hasN (rows2.map (·.1)) r := fun r => by show hasN (rows2.map (·.1) ++ []) r = _; rw [List.append_nil]
 refine ⟨by rw [put_size]; exact hd.sz, by rw [put_defers]; exact hd.df, ⟨List.nodup_nil, fun D hD => by cases hD⟩, KeepsOthers.refl _, fun t x hx => ?_, fun r y hr2 => ?_, fun r q y z hr2 hq hrq hw => ?_, Fr.refl _ _, fun _ _ => rfl, fun r hr2 => ?_, fun g hg hug => ?_, fun r B h => by cases h⟩
 ·rw [tm_put (s := mkSt n tm rows []) (fun x hx => by cases hx; rw [hd.sz]; exact hdn)]
  simp only
  have hm := findT_mem (show findT tm' t = some x from hx)
  rcases h _ hm with ⟨e1, e2, e3⟩ | ⟨e1, e2, e3⟩
  ·rw [if_pos e1]
   exact ⟨by rw [e2], e3, fun r hr2 => hi.1 _ hm r hr2⟩
  ·rw [if_neg e1]
   obtain ⟨g1, g2, g3⟩ := hd.tm t x e2
   exact ⟨by rw [g1, TV.val_congr (fun r hr2 => (e3 r hr2).symm)], g2, fun r hr2 => hi.1 _ hm r hr2⟩
 ·have hm := findR_mem (show findR rows2 r = some y from hr2)
  obtain ⟨g1, g2⟩ := hr _ hm
  exact ⟨g1, g2, by rw [hu]; exact hasN_iff.2 (List.mem_map.2 ⟨_, hm, rfl⟩), fun p hp => hi.2 _ hm p hp, fun hw => .inr (mem_wlOf hm hw)⟩
 ·exact hds _ (findR_mem (show findR rows2 r = some y from hr2)) _ (findR_mem (show findR rows2 q = some z from hq)) hrq hw
 ·rw [hu]; exact List.all_eq_true.1 hK r hr2
 ·rw [hu] at hug
  obtain ⟨p, hp, he⟩ := List.mem_map.1 (hasN_iff.1 hug)
  have := List.all_eq_true.1 hk5 p hp
  rw [Bool.or_eq_true] at this
  rcases this with h5 | h5 <;> have := Nat.le_of_ble_eq_true h5 <;> omega
abbrev nB : Bs := ⟨[], fun _ => ⟨0, 0, 0⟩, []⟩
abbrev nilS : Value := .slice none 0 0
abbrev noR : Row := ⟨[], false, none⟩
theorem cells_of_cell1 {W : World} {b o : Nat} {v : Value} (h : W.cell? ⟨b, o, none⟩ = some v) : ∃ cur t fz, W.heap[b]? = some (.cells cur t fz) := by
 unfold World.cell? at h
 simp only at h
 split at h
 ·rename_i cur t fz h2; exact ⟨cur, t, fz, h2⟩
 ·cases h
abbrev BoolQ (w : World) (b : Bool) : Ending → World → Prop := fun e w' => e = .returned (.bool b) ∧ Below w.heap.size w w'
theorem str_of_bytes (X : List UInt8) : ((List.range X.length).map fun q => ubyte (byteF X (addN 0 q))) = X := by
 apply List.ext_getElem
 ·simp
 ·intro i h1 h2
  simp only [List.getElem_map, List.getElem_range, byteF, ubyte, addN_eq, Nat.zero_add]
  rw [List.getD_eq_getElem?_getD, List.getElem?_eq_getElem h2]
  simp
theorem bytes_q (X : List UInt8) : ∀ q, q < X.length → ∃ d : UInt8, byteF X (addN 0 q) = [.int .u8 (d.toNat : Int)] := fun q _ => ⟨_, rfl⟩
end
end Go.Proofs.YtdbbcngolcnniaaGreatDoor
/- The plain mathematics of bytes as letters: numbers of bytes, their digits to the base of 32, six bits a letter, bytes folded. No condition. -/
namespace Go.Proofs.YtdbbcngolcnniaaGreatDoor
set_option linter.unusedSimpArgs false
set_option linter.unusedVariables false
def num : List UInt8 → Nat
 | [] => 0
 | c :: l => c.toNat + 256 * num l
theorem num_lt : ∀ l : List UInt8, num l < 256 ^ l.length
 | [] => by show 0 < 1; omega
 | c :: l => by
  have h := num_lt l
  have hc := c.toNat_lt
  show c.toNat + 256 * num l < 256 ^ l.length * 256
  omega
def bytesOf (x : Nat) : Nat → List UInt8
 | 0 => []
 | n + 1 => UInt8.ofNat (x % 256) :: bytesOf (x / 256) n
theorem bytesOf_length (x : Nat) : ∀ n, (bytesOf x n).length = n
 | 0 => rfl
 | n + 1 => by show (bytesOf (x / 256) n).length + 1 = _; rw [bytesOf_length (x / 256) n]
theorem bytesOf_num : ∀ l : List UInt8, bytesOf (num l) l.length = l
 | [] => rfl
 | c :: l => by
  have hc := c.toNat_lt
  show UInt8.ofNat ((c.toNat + 256 * num l) % 256) :: bytesOf ((c.toNat + 256 * num l) / 256) l.length = c :: l
  rw [show (c.toNat + 256 * num l) % 256 = c.toNat by omega, show (c.toNat + 256 * num l) / 256 = num l by omega, bytesOf_num l]
  simp
theorem num_bytesOf (x : Nat) : ∀ n, x < 256 ^ n → num (bytesOf x n) = x
 | 0, h => by
  have : x < 1 := h
  show 0 = x
  omega
 | n + 1, h => by
  have h' : x < 256 ^ n * 256 := h
  have h2 : x / 256 < 256 ^ n := by omega
  show (UInt8.ofNat (x % 256)).toNat + 256 * num (bytesOf (x / 256) n) = x
  rw [num_bytesOf (x / 256) n h2, UInt8.toNat_ofNat']
  omega
def letL : List UInt8 := [48, 49, 50, 51, 52, 53, 54, 55, 56, 57, 97, 98, 99, 100, 102, 103, 104, 105, 106, 107, 108, 109, 110, 112, 113, 114, 115, 118, 119, 120, 121, 122]
def lett (d : Nat) : UInt8 := letL.getD d 0
def placeN (l : List UInt8) (c : UInt8) : Nat := l.findIdx (· == c)
theorem lett_place : ∀ d, d < 32 → placeN letL (lett d) = d := by decide +kernel
def enc32 (x : Nat) : Nat → List UInt8
 | 0 => []
 | m + 1 => enc32 (x / 32) m ++ [lett (x % 32)]
theorem enc32_length (x : Nat) : ∀ m, (enc32 x m).length = m
 | 0 => rfl
 | m + 1 => by show (enc32 (x / 32) m ++ [lett (x % 32)]).length = _; rw [List.length_append, enc32_length (x / 32) m]; rfl
def many32 (n : Nat) : Nat := (8 * n + 4) / 5
def b32 (l : List UInt8) : List UInt8 := enc32 (num l) (many32 l.length)
theorem b32_length (l : List UInt8) : (b32 l).length = many32 l.length := enc32_length _ _
theorem many_fits (n : Nat) : (256 : Nat) ^ n ≤ 32 ^ many32 n := by
 rw [show (256 : Nat) = 2 ^ 8 from rfl, show (32 : Nat) = 2 ^ 5 from rfl, ← Nat.pow_mul, ← Nat.pow_mul]
 exact Nat.pow_le_pow_right (by decide) (by unfold many32; omega)
def val32 (s : List UInt8) : Nat := s.foldl (fun v c => v * 32 + placeN letL c % 32) 0
theorem val_enc (x : Nat) : ∀ m, x < 32 ^ m → val32 (enc32 x m) = x := by
 intro m
 induction m generalizing x with
 | zero => intro h; have h1 : x < 1 := h; show 0 = x; omega
 | succ m ih =>
  intro h
  have h' : x < 32 ^ m * 32 := h
  show val32 (enc32 (x / 32) m ++ [lett (x % 32)]) = x
  unfold val32
  rw [List.foldl_append]
  show List.foldl _ 0 (enc32 (x / 32) m) * 32 + placeN letL (lett (x % 32)) % 32 = x
  have := ih (x / 32) (by omega)
  unfold val32 at this
  rw [this, lett_place (x % 32) (Nat.mod_lt _ (by decide))]
  omega
def get32 (s : List UInt8) (n : Nat) : Option (List UInt8) := if n ≤ 64 ∧ b32 (bytesOf (val32 s) n) = s then some (bytesOf (val32 s) n) else none
theorem val_b32 (l : List UInt8) : val32 (b32 l) = num l := val_enc _ _ (Nat.lt_of_lt_of_le (num_lt l) (many_fits _))
theorem get32_b32 (l : List UInt8) (h : l.length ≤ 64) : get32 (b32 l) l.length = some l := by
 unfold get32
 rw [val_b32, bytesOf_num, if_pos ⟨h, rfl⟩]
theorem get32_some {s b : List UInt8} {n : Nat} (h : get32 s n = some b) : n ≤ 64 ∧ b.length = n ∧ b32 b = s := by
 unfold get32 at h
 split at h
 ·rename_i hc
  injection h with h
  subst h
  exact ⟨hc.1, bytesOf_length _ _, hc.2⟩
 ·cases h
theorem get32_iff (s b : List UInt8) (n : Nat) : get32 s n = some b ↔ n ≤ 64 ∧ b.length = n ∧ b32 b = s := by
 constructor
 ·exact get32_some
 ·rintro ⟨h1, rfl, rfl⟩
  exact get32_b32 b h1
theorem get32_of (s : List UInt8) (n : Nat) (hn : n ≤ 64) (d : List UInt8) (hd : d.length = n) (h : ∀ b : List UInt8, b.length = n → b32 b = s → d = b) : get32 s n = if b32 d = s then some d else none := by
 by_cases e : b32 d = s
 ·rw [if_pos e, get32_iff]; exact ⟨hn, hd, e⟩
 ·rw [if_neg e]
  cases hg : get32 s n with
  | none => rfl
  | some b =>
   obtain ⟨-, h2, h3⟩ := get32_some hg
   exact absurd (by rw [h b h2 h3]; exact h3) e
def hexd (n : Nat) : UInt8 := if n < 10 then UInt8.ofNat (48 + n) else UInt8.ofNat (87 + n)
def hex : List UInt8 → List UInt8
 | [] => []
 | c :: l => hexd (c.toNat / 16) :: hexd (c.toNat % 16) :: hex l
theorem hex_length : ∀ l : List UInt8, (hex l).length = 2 * l.length
 | [] => rfl
 | c :: l => by show (hex l).length + 1 + 1 = 2 * (l.length + 1); rw [hex_length l]; omega
def foldN (n k : Nat) : List UInt8 → Nat → Nat
 | [], _ => 0
 | c :: l, i => (if i % n = k then c.toNat else 0) ^^^ foldN n k l (i + 1)
def fold (l : List UInt8) (n : Nat) : List UInt8 := (List.range n).map fun k => UInt8.ofNat (foldN n k l 0)
theorem foldN_lt (n k : Nat) : ∀ (l : List UInt8) (i : Nat), foldN n k l i < 256
 | [], _ => by show 0 < 256; omega
 | c :: l, i => by
  have hc := c.toNat_lt
  refine Nat.xor_lt_two_pow (n := 8) ?_ (foldN_lt n k l (i + 1))
  split
  ·exact hc
  ·show 0 < 256; omega
theorem foldN_append (n k : Nat) : ∀ (l m : List UInt8) (i : Nat), foldN n k (l ++ m) i = foldN n k l i ^^^ foldN n k m (i + l.length)
 | [], m, i => by show foldN n k m i = 0 ^^^ foldN n k m (i + 0); rw [Nat.zero_xor]; rfl
 | c :: l, m, i => by
  show (if i % n = k then c.toNat else 0) ^^^ foldN n k (l ++ m) (i + 1) = ((if i % n = k then c.toNat else 0) ^^^ foldN n k l (i + 1)) ^^^ foldN n k m (i + (l.length + 1))
  rw [foldN_append n k l m (i + 1), Nat.xor_assoc, show i + 1 + l.length = i + (l.length + 1) by omega]
theorem enc32_mem (x : Nat) : ∀ (m : Nat) (c : UInt8), c ∈ enc32 x m → ∃ d, d < 32 ∧ c = lett d := by
 intro m
 induction m generalizing x with
 | zero => intro c h; cases h
 | succ m ih =>
  intro c h
  have h' : c ∈ enc32 (x / 32) m ++ [lett (x % 32)] := h
  rcases List.mem_append.1 h' with h | h
  ·exact ih _ c h
  ·exact ⟨x % 32, Nat.mod_lt _ (by decide), by simpa using h⟩
end Go.Proofs.YtdbbcngolcnniaaGreatDoor
