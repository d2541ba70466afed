/- Several texts, one behind the other; each says by itself what it proves, and on what conditions. -/
import Derived.Test.YtdbbcngolcnniaaDoorX10
import Derived.KernelRfl
import GoSem.Op.String
/- The engine: a slice's capacity, where a row tells it, as a letter; lists of duties. No condition of its own. -/
namespace Go.Proofs.YtdbbcngolcnniaaDoor.E
set_option linter.unusedSimpArgs false
open Go Go.RowKit
set_option linter.unusedVariables false
def allL : List (List Prop) → Prop
  | [] => True
  | l :: m => all l ∧ allL m
theorem all_flat : ∀ {ls : List (List Prop)}, allL ls → all ls.flatten
  | [], _ => trivial
  | _ :: _, h => by rw [List.flatten_cons]; exact all_append.2 ⟨h.1, all_flat h.2⟩
theorem findT_swap {t u : Nat} {x y z : TV} {post : List (Nat × TV)} : ∀ {pre : List (Nat × TV)}, findT (pre ++ (t, y) :: post) u = some z → findT (pre ++ (t, x) :: post) u = some z ∨ (z = y ∧ findT (pre ++ (t, x) :: post) u = some x)
  | [], h => by
    have h2 : (bif Nat.beq t u then some y else findT post u) = some z := h
    show (bif Nat.beq t u then some x else findT post u) = some z ∨ (z = y ∧ (bif Nat.beq t u then some x else findT post u) = some x)
    cases hb : Nat.beq t u with
    | true => rw [hb] at h2; exact .inr ⟨(Option.some.inj h2).symm, rfl⟩
    | false => rw [hb] at h2; exact .inl h2
  | p :: pre, h => by
    have h2 : (bif Nat.beq p.1 u then some p.2 else findT (pre ++ (t, y) :: post) u) = some z := h
    show (bif Nat.beq p.1 u then some p.2 else findT (pre ++ (t, x) :: post) u) = some z ∨ (z = y ∧ (bif Nat.beq p.1 u then some p.2 else findT (pre ++ (t, x) :: post) u) = some x)
    cases hb : Nat.beq p.1 u with
    | true => rw [hb] at h2; exact .inl h2
    | false => rw [hb] at h2; exact findT_swap h2
/-- A slice of a whole row: its capacity is some number that is great enough. -/
theorem At.cap {r : Option Nat} {mk : List Nat} {kn : List (Nat × Blk)} {P : Program} {w0 : World} {wr : Bs} {n : Nat} {gl : List Nat} {todo : List Item} {Q : Exit → Act → World → Prop} {rows : List (Nat × Row)} (pre post : List (Nat × TV)) (t q len k : Nat) (row : Row) {e : TypeId}
    (hk : 0 < k) (hr : findR rows q = some row) (hc : row.cp = some (e, k)) (hl : ∀ ρ, (lst ρ row.ps).length = len * k)
    (h : ∀ c, c + len ≤ maxLen → At P w0 wr n gl todo Q (pre ++ (t, .s (.lf (.sl q 0 0 k len (some (c + len))))) :: post) rows r mk kn) :
    At P w0 wr n gl todo Q (pre ++ (t, .s (.lf (.sl q 0 0 k len none))) :: post) rows r mk kn := by
  intro a w ρ hd
  obtain ⟨g1, _⟩ := hd.rw q row hr
  obtain ⟨g2, g3, g4, _⟩ := g1.2.2.1 e k hc
  rw [hl] at g4
  have hle : len ≤ (ρ q).3 := Nat.le_of_mul_le_mul_right g4 hk
  refine h ((ρ q).3 - len) (by omega) a w ρ ⟨hd.sz, hd.df, hd.mf, hd.ko, fun u x hx => ?_, hd.rw, hd.ds, hd.fr, hd.e0, hd.ku, hd.gl, hd.kn⟩
  rcases findT_swap (x := .s (.lf (.sl q 0 0 k len none))) hx with h1 | ⟨rfl, h1⟩
  · exact hd.tm u x h1
  · obtain ⟨q1, q2, q3⟩ := hd.tm u _ h1
    refine ⟨?_, trivial, q3⟩
    rw [q1]
    simp only [TV.val, SV.val, Lf.val, capOf]
    rw [show (ρ q).3 - len + len = (ρ q).3 by omega, Nat.sub_zero]
end Go.Proofs.YtdbbcngolcnniaaDoor.E
/- What every seat's texts want beside the engine: strings as values, rows carried over frames, states told anew. No condition but what each names. -/
namespace Go.Proofs.YtdbbcngolcnniaaDoor
open Go.RowKit
set_option linter.unusedVariables false
set_option linter.unusedSimpArgs false
section
open E
/-- A row in a block that nobody wrote. -/
theorem rowAt_keep {ρ : Env} {r : Nat} {row : Row} {w w' : World} (h : RowAt ρ r row w) (hs : w.heap.size ≤ w'.heap.size) (hb : w'.heap[(ρ r).1]? = w.heap[(ρ r).1]?) : RowAt ρ r row w' := by
  obtain ⟨h1, h2, h3, h4⟩ := h
  have hc : ∀ x, w'.cell? ⟨(ρ r).1, x, none⟩ = w.cell? ⟨(ρ r).1, x, none⟩ := fun x => World.cell?_of_block (w := w) (a := ⟨(ρ r).1, x, none⟩) hb
  have hf : ∀ x, w'.frozen? ⟨(ρ r).1, x, none⟩ = w.frozen? ⟨(ρ r).1, x, none⟩ := fun x => by unfold World.frozen?; simp only [hb]
  refine ⟨Nat.lt_of_lt_of_le h1 hs, fun j v hv => by rw [hc, hf]; exact h2 j v hv, fun e k hk => ?_, by rw [hb]; exact h4⟩
  obtain ⟨g1, g2, g3, g4⟩ := h3 e k hk
  exact ⟨g1, g2, g3, by rw [hb]; exact g4⟩
theorem E.Fr.comp {W W1 W2 : World} {l m : List Nat} (h : Fr W l W1) (k : Fr W1 m W2) (hm : ∀ x ∈ m, x ∈ l ∨ W.heap.size ≤ x) : Fr W l W2 :=
  ⟨k.os.trans h.os, k.tape.trans h.tape, k.output.trans h.output, Nat.le_trans h.size k.size, fun q hq hn => (k.block q (Nat.lt_of_lt_of_le hq h.size) fun hqm => by
    rcases hm q hqm with h2 | h2
    · exact hn h2
    · omega).trans (h.block q hq hn)⟩
theorem E.Fr.widen {W W' : World} {l m : List Nat} (h : Fr W l W') (hs : ∀ x ∈ l, x ∈ m) : Fr W m W' := ⟨h.os, h.tape, h.output, h.size, fun k hk hn => h.block k hk fun hm => hn (hs k hm)⟩
theorem fr_alloc (w : World) (o : Obj) : Fr w [] (w.alloc o) := Fr.of_below ((Below.refl _ w).alloc (Nat.le_refl _) o) _
theorem tv_int {k : IntKind} {a b : Int} (h : a = b) : TV.int k a = TV.int k b := by rw [h]
abbrev stv (l : List UInt8) : Value := .string ⟨l.toArray⟩
theorem tv_str {a b : List UInt8} (h : a = b) : TV.v (stv a) = TV.v (stv b) := by rw [h]
theorem init_rw {w : World} {wr : List Nat} {ρ : Env} {args : List TV} {rows : List (Nat × Row)} (hok : okL args) (hi : args.all (fun x => x.ids.all (hasN (rows.map (·.1)))) = true) (hp : rows.all (fun p => (pids p.2.ps).all (hasN (rows.map (·.1)))) = true) (hl : rows.all (fun p => Nat.ble (p.1 + 1) 500) = true)
    (hr : ∀ p ∈ rows, RowAt ρ p.1 p.2 w ∧ pok p.2.ps) (hw : ∀ p ∈ rows, p.2.w = true → (ρ p.1).1 ∈ wr) (hd : PreDs ρ rows) : Init w wr ρ args rows [] := by
  have e : rows.map (·.1) ++ ([] : List Nat).map (500 + ·) = rows.map (·.1) := by simp
  refine ⟨fun x hx => ⟨okL_mem hok x hx, fun r hr2 => ?_⟩, fun p hpm => ⟨(hr p hpm).1, (hr p hpm).2, fun q hq => ?_, hw p hpm⟩, hd, fun g _ hg => ?_⟩
  · rw [e]; exact List.all_eq_true.1 (List.all_eq_true.1 hi x hx) r hr2
  · rw [e]; exact List.all_eq_true.1 (List.all_eq_true.1 hp p hpm) q hq
  · rw [e] at hg
    obtain ⟨p, hpm, hpe⟩ := List.mem_map.1 (hasN_iff.1 hg)
    have := Nat.le_of_ble_eq_true (List.all_eq_true.1 hl p hpm)
    omega
theorem pok1 {f : Nat → List Value} {k n : Nat} (h : ∀ i, (f i).length = k ∧ ∀ v ∈ f i, v.oneCell' = true) : pok [Pc.fnc f k n] := by
  intro p hp
  simp at hp
  subst hp
  exact fun i _ => h i
theorem rowAt_mv {ρ σ : Env} {r q : Nat} {f : Nat → List Value} {k n : Nat} {wr : Bool} {cp : Option (TypeId × Nat)} {w : World} (h : RowAt ρ r ⟨[.fnc f k n], wr, cp⟩ w) (e : σ q = ρ r) : RowAt σ q ⟨[.fnc f k n], wr, cp⟩ w := by
  unfold RowAt at h ⊢
  rw [e]
  exact h
theorem rowAt_fr {ρ : Env} {r : Nat} {row : Row} {w w' : World} {l : List Nat} (h : RowAt ρ r row w) (hf : Fr w l w') (hn : (ρ r).1 ∉ l) : RowAt ρ r row w' := rowAt_keep h hf.size (hf.block _ h.1 hn)
/-- Behind a call the state said anew, in the world that the call left. -/
theorem E.den_again {w0 : World} {wr : Bs} {ρ σ : Env} {n : Nat} {tm tm' : List (Nat × TV)} {rows rows2 : List (Nat × Row)} {a : Act} {w w' : World} {d : Nat} {v : Value} {K : List Nat} (hd : Den w0 wr ρ (mkSt n tm rows []) a w) (hdn : d < n)
    (h : ∀ p ∈ tm', (p.1 = d ∧ v = p.2.val σ ∧ p.2.ok) ∨ (p.1 ≠ d ∧ findT tm p.1 = some p.2 ∧ ∀ r ∈ p.2.ids, σ r = ρ r)) (hi : idsOk tm' rows2 [] = true) (hr : ∀ p ∈ rows2, RowAt σ p.1 p.2 w' ∧ pok p.2.ps) (hds : ∀ p ∈ rows2, ∀ q ∈ rows2, p.1 ≠ q.1 → p.2.w = true → (σ p.1).1 ≠ (σ q.1).1) (hK : K.all (hasN (rows2.map (·.1))) = true) (hk5 : rows2.all (fun p => Nat.ble (p.1 + 1) 500 || Nat.ble 1000 p.1) = true) :
    Den w' ⟨wlOf σ rows2, σ, K⟩ σ (mkSt n tm' rows2 []) (a.put (some d) v) w' := by
  simp only [idsOk, Bool.and_eq_true, List.all_eq_true] at hi
  have hu : ∀ r, (mkSt n tm' rows2 []).used r = hasN (rows2.map (·.1)) r := fun r => by show hasN (rows2.map (·.1) ++ []) r = _; rw [List.append_nil]
  refine ⟨by rw [put_size]; exact hd.sz, by rw [put_defers]; exact hd.df, ⟨List.nodup_nil, fun D hD => by cases hD⟩, KeepsOthers.refl _, fun t x hx => ?_, fun r y hr2 => ?_, fun r q y z hr2 hq hrq hw => ?_, Fr.refl _ _, fun _ _ => rfl, fun r hr2 => ?_, fun g hg hug => ?_, fun r B h => by cases h⟩
  · rw [tm_put (s := mkSt n tm rows []) (fun x hx => by cases hx; rw [hd.sz]; exact hdn)]
    simp only
    have hm := findT_mem (show findT tm' t = some x from hx)
    rcases h _ hm with ⟨e1, e2, e3⟩ | ⟨e1, e2, e3⟩
    · rw [if_pos e1]
      exact ⟨by rw [e2], e3, fun r hr2 => hi.1 _ hm r hr2⟩
    · rw [if_neg e1]
      obtain ⟨g1, g2, g3⟩ := hd.tm t x e2
      exact ⟨by rw [g1, TV.val_congr (fun r hr2 => (e3 r hr2).symm)], g2, fun r hr2 => hi.1 _ hm r hr2⟩
  · have hm := findR_mem (show findR rows2 r = some y from hr2)
    obtain ⟨g1, g2⟩ := hr _ hm
    exact ⟨g1, g2, by rw [hu]; exact hasN_iff.2 (List.mem_map.2 ⟨_, hm, rfl⟩), fun p hp => hi.2 _ hm p hp, fun hw => .inr (mem_wlOf hm hw)⟩
  · exact hds _ (findR_mem (show findR rows2 r = some y from hr2)) _ (findR_mem (show findR rows2 q = some z from hq)) hrq hw
  · rw [hu]; exact List.all_eq_true.1 hK r hr2
  · rw [hu] at hug
    obtain ⟨p, hp, he⟩ := List.mem_map.1 (hasN_iff.1 hug)
    have := List.all_eq_true.1 hk5 p hp
    rw [Bool.or_eq_true] at this
    rcases this with h5 | h5 <;> have := Nat.le_of_ble_eq_true h5 <;> omega
abbrev nB : Bs := ⟨[], fun _ => ⟨0, 0, 0⟩, []⟩
abbrev ptV (b : Nat) : Value := .pointer (some ⟨b, 0, none⟩)
abbrev nilS : Value := .slice none 0 0
abbrev noR : Row := ⟨[], false, none⟩
abbrev en1 (B : Blk) : Env := fun _ => B
theorem cells_of_cell1 {W : World} {b o : Nat} {v : Value} (h : W.cell? ⟨b, o, none⟩ = some v) : ∃ cur t fz, W.heap[b]? = some (.cells cur t fz) := by
  unfold World.cell? at h
  simp only at h
  split at h
  · rename_i cur t fz h2; exact ⟨cur, t, fz, h2⟩
  · cases h
/-- A state said otherwise, and less of it. -/
theorem E.At.less {P : Program} {w0 : World} {wr : Bs} {k2 : List Nat} {n : Nat} {gl : List Nat} {todo : List Item} {Q : Exit → Act → World → Prop} {tm tm' : List (Nat × TV)} {rows rows' : List (Nat × Row)} {r : Option Nat} {mk : List Nat}
    (ht : ∀ p ∈ tm', ∃ x, findT tm p.1 = some x ∧ (∀ ρ : Env, (∀ r, (r < 1000 ∨ r ∈ wr.k) → ρ r = wr.e r) → x.val ρ = p.2.val ρ) ∧ p.2.ok) (hr : ∀ p ∈ rows', findR rows p.1 = some p.2) (hi : idsOk tm' rows' gl = true) (hk : k2.all (hasN (rows'.map (·.1) ++ gl.map (500 + ·))) = true) (hg : gl.all (fun g => Nat.ble (g + 1) 500) = true) (hk2 : ∀ r ∈ k2, r ∈ wr.k)
    (h : At P w0 ⟨wr.l, wr.e, k2⟩ n gl todo Q tm' rows' r mk) : At P w0 wr n gl todo Q tm rows r mk := by
  intro a w ρ hd
  simp only [idsOk, Bool.and_eq_true, List.all_eq_true] at hi
  have hm : ∀ r x, findR rows' r = some x → findR rows r = some x := fun r x hx => hr _ (findR_mem hx)
  refine h a w ρ ⟨hd.sz, hd.df, hd.mf, hd.ko, fun t x hx => ?_, fun q y hy => ?_, fun q u y z hy hz hqu hw => hd.ds q u y z (hm _ _ hy) (hm _ _ hz) hqu hw, hd.fr, fun q hq => hd.e0 q (hq.imp id (hk2 q)), fun q hq => List.all_eq_true.1 hk q hq, fun g hg2 hu => ?_, fun q B hq => by cases hq⟩
  · have hp := findT_mem (show findT tm' t = some x from hx)
    obtain ⟨x0, h1, h2, h3⟩ := ht _ hp
    obtain ⟨g1, g2, g3⟩ := hd.tm t x0 h1
    exact ⟨by rw [g1, h2 ρ (fun r hr => hd.e0 r hr)], h3, fun r hr2 => hi.1 _ hp r hr2⟩
  · have hp := findR_mem (show findR rows' q = some y from hy)
    obtain ⟨g1, g2, g3, g4, g5⟩ := hd.rw q y (hm _ _ hy)
    exact ⟨g1, g2, hasN_iff.2 (List.mem_append.2 (.inl (List.mem_map.2 ⟨_, hp, rfl⟩))), fun q2 hq2 => hi.2 _ hp q2 hq2, g5⟩
  · have hu2 := hasN_iff.1 hu
    refine hd.gl g hg2 (hasN_iff.2 ?_)
    rcases List.mem_append.1 hu2 with h6 | h6
    · obtain ⟨p, hp, he⟩ := List.mem_map.1 h6
      have := findR_mem (hr p hp)
      exact List.mem_append.2 (.inl (List.mem_map.2 ⟨_, this, he⟩))
    · exact List.mem_append.2 (.inr h6)
theorem fr_new {W0 W w' : World} {l : List Nat} (h : Fr W0 [] W) (k : Fr W l w') (hl : ∀ x ∈ l, W0.heap.size ≤ x) : Fr W0 [] w' := h.comp k fun x hx => .inr (hl x hx)
abbrev BoolQ (w : World) (b : Bool) : Ending → World → Prop := fun e w' => e = .returned (.bool b) ∧ Below w.heap.size w w'
abbrev FrQ (W0 : World) : Ending → World → Prop := fun e w' => e = .returned (.bool true) ∧ Fr W0 [] w'
theorem str_of_bytes (X : List UInt8) : ((List.range X.length).map fun q => ubyte (byteF X (addN 0 q))) = X := by
  apply List.ext_getElem
  · simp
  · intro i h1 h2
    simp only [List.getElem_map, List.getElem_range, byteF, ubyte, addN_eq, Nat.zero_add]
    rw [List.getD_eq_getElem?_getD, List.getElem?_eq_getElem h2]
    simp
theorem bytes_q (X : List UInt8) : ∀ q, q < X.length → ∃ d : UInt8, byteF X (addN 0 q) = [.int .u8 (d.toNat : Int)] := fun q _ => ⟨_, rfl⟩
theorem ptr_at {ρ : Env} {r : Nat} {B : Blk} (h : ρ r = B) (z : B.2 = 0) : (ptrTo r).val ρ = (TV.v (ptV B.1)).val ρ := by
  show Value.pointer (some ⟨(ρ r).1, (ρ r).2 + (0 + 0 * 0 + 0), none⟩) = .pointer (some ⟨B.1, 0, none⟩)
  rw [h, z]
end
end Go.Proofs.YtdbbcngolcnniaaDoor
/- The plain mathematics of bytes as letters: numbers of bytes, their digits to the base of 32, six bits a letter, bytes folded. No condition. -/
namespace Go.Proofs.YtdbbcngolcnniaaDoor
set_option linter.unusedSimpArgs false
set_option linter.unusedVariables false

/-- The number that bytes are, the lowest first. -/
def num : List UInt8 → Nat
  | [] => 0
  | c :: l => c.toNat + 256 * num l
theorem num_lt : ∀ l : List UInt8, num l < 256 ^ l.length
  | [] => by show 0 < 1; omega
  | c :: l => by
    have h := num_lt l
    have hc := c.toNat_lt
    show c.toNat + 256 * num l < 256 ^ l.length * 256
    omega
theorem num_append : ∀ l m : List UInt8, num (l ++ m) = num l + 256 ^ l.length * num m
  | [], m => by show num m = 0 + 1 * num m; omega
  | c :: l, m => by
    show c.toNat + 256 * num (l ++ m) = c.toNat + 256 * num l + 256 ^ l.length * 256 * num m
    rw [num_append l m, Nat.mul_add, Nat.mul_assoc (256 ^ l.length), Nat.mul_left_comm]
    omega
theorem num_inj : ∀ l m : List UInt8, l.length = m.length → num l = num m → l = m
  | [], [], _, _ => rfl
  | [], _ :: _, h, _ => by simp at h
  | _ :: _, [], h, _ => by simp at h
  | c :: l, d :: m, h, hn => by
    have hc := c.toNat_lt
    have hd := d.toNat_lt
    have hn' : c.toNat + 256 * num l = d.toNat + 256 * num m := hn
    have h1 : c.toNat = d.toNat := by omega
    have h2 : num l = num m := by omega
    rw [UInt8.toNat_inj.1 h1, num_inj l m (by simpa using h) h2]
/-- n bytes of a number, the lowest first. -/
def bytesOf (x : Nat) : Nat → List UInt8
  | 0 => []
  | n + 1 => UInt8.ofNat (x % 256) :: bytesOf (x / 256) n
theorem bytesOf_length (x : Nat) : ∀ n, (bytesOf x n).length = n
  | 0 => rfl
  | n + 1 => by show (bytesOf (x / 256) n).length + 1 = _; rw [bytesOf_length (x / 256) n]
theorem bytesOf_num : ∀ l : List UInt8, bytesOf (num l) l.length = l
  | [] => rfl
  | c :: l => by
    have hc := c.toNat_lt
    show UInt8.ofNat ((c.toNat + 256 * num l) % 256) :: bytesOf ((c.toNat + 256 * num l) / 256) l.length = c :: l
    rw [show (c.toNat + 256 * num l) % 256 = c.toNat by omega, show (c.toNat + 256 * num l) / 256 = num l by omega, bytesOf_num l]
    simp
theorem num_bytesOf (x : Nat) : ∀ n, x < 256 ^ n → num (bytesOf x n) = x
  | 0, h => by
    have : x < 1 := h
    show 0 = x
    omega
  | n + 1, h => by
    have h' : x < 256 ^ n * 256 := h
    have h2 : x / 256 < 256 ^ n := by omega
    show (UInt8.ofNat (x % 256)).toNat + 256 * num (bytesOf (x / 256) n) = x
    rw [num_bytesOf (x / 256) n h2, UInt8.toNat_ofNat']
    omega
/-- A byte of a number, at its place. -/
theorem num_get : ∀ (l : List UInt8) (j : Nat), (l.getD j 0).toNat = num l / 256 ^ j % 256
  | [], j => by simp [num]
  | c :: l, 0 => by
    have hc := c.toNat_lt
    show c.toNat = (c.toNat + 256 * num l) / 1 % 256
    omega
  | c :: l, j + 1 => by
    have hc := c.toNat_lt
    have h := num_get l j
    show (l.getD j 0).toNat = (c.toNat + 256 * num l) / (256 ^ j * 256) % 256
    rw [h, Nat.mul_comm (256 ^ j) 256, ← Nat.div_div_eq_div_mul, show (c.toNat + 256 * num l) / 256 = num l by omega]
/-- A bit of bytes, by its byte. -/
theorem bit_num (l : List UInt8) (k : Nat) : (l.getD (k / 8) 0).toNat / 2 ^ (k % 8) % 2 = num l / 2 ^ k % 2 := by
  rw [num_get]
  have h : (2 : Nat) ^ k = 256 ^ (k / 8) * 2 ^ (k % 8) := by
    rw [show (256 : Nat) = 2 ^ 8 from rfl, ← Nat.pow_mul, ← Nat.pow_add]
    congr 1
    omega
  rw [h, ← Nat.div_div_eq_div_mul]
  generalize num l / 256 ^ (k / 8) = y
  have h8 : k % 8 < 8 := Nat.mod_lt _ (by decide)
  rcases (show k % 8 = 0 ∨ k % 8 = 1 ∨ k % 8 = 2 ∨ k % 8 = 3 ∨ k % 8 = 4 ∨ k % 8 = 5 ∨ k % 8 = 6 ∨ k % 8 = 7 by omega) with h | h | h | h | h | h | h | h <;> rw [h] <;> simp only [Nat.reducePow] <;> omega
/-- Five bits are a digit. -/
theorem digit_bits (x i : Nat) : x / 32 ^ i % 32 = x / 2 ^ (5 * i) % 2 + x / 2 ^ (5 * i + 1) % 2 * 2 + x / 2 ^ (5 * i + 2) % 2 * 4 + x / 2 ^ (5 * i + 3) % 2 * 8 + x / 2 ^ (5 * i + 4) % 2 * 16 := by
  have h : (32 : Nat) ^ i = 2 ^ (5 * i) := by rw [show (32 : Nat) = 2 ^ 5 from rfl, ← Nat.pow_mul]
  have e : ∀ k, x / 2 ^ (5 * i + k) = x / 2 ^ (5 * i) / 2 ^ k := fun k => by rw [Nat.pow_add, Nat.div_div_eq_div_mul]
  rw [h, e 1, e 2, e 3, e 4]
  generalize x / 2 ^ (5 * i) = y
  simp only [Nat.reducePow]
  omega

def letL : List UInt8 := [48, 49, 50, 51, 52, 53, 54, 55, 56, 57, 97, 98, 99, 100, 102, 103, 104, 105, 106, 107, 108, 109, 110, 112, 113, 114, 115, 118, 119, 120, 121, 122]
/-- The letter of a digit. -/
def lett (d : Nat) : UInt8 := letL.getD d 0
/-- The digit of a letter; 32: none. -/
def placeN (l : List UInt8) (c : UInt8) : Nat := l.findIdx (· == c)
theorem lett_mono : ∀ a, a < 32 → ∀ b, b < 32 → (a < b ↔ (lett a).toNat < (lett b).toNat) := by decide +kernel
theorem lett_place : ∀ d, d < 32 → placeN letL (lett d) = d := by decide +kernel
theorem lett_inj (a b : Nat) (ha : a < 32) (hb : b < 32) (h : lett a = lett b) : a = b := by
  rw [← lett_place a ha, ← lett_place b hb, h]
/-- m digits of a number to the base of 32, the highest first. -/
def enc32 (x : Nat) : Nat → List UInt8
  | 0 => []
  | m + 1 => enc32 (x / 32) m ++ [lett (x % 32)]
theorem enc32_length (x : Nat) : ∀ m, (enc32 x m).length = m
  | 0 => rfl
  | m + 1 => by show (enc32 (x / 32) m ++ [lett (x % 32)]).length = _; rw [List.length_append, enc32_length (x / 32) m]; rfl
def many32 (n : Nat) : Nat := (8 * n + 4) / 5
def b32 (l : List UInt8) : List UInt8 := enc32 (num l) (many32 l.length)
theorem b32_length (l : List UInt8) : (b32 l).length = many32 l.length := enc32_length _ _
theorem enc32_inj (x y : Nat) : ∀ m, x < 32 ^ m → y < 32 ^ m → enc32 x m = enc32 y m → x = y := by
  intro m
  induction m generalizing x y with
  | zero =>
    intro hx hy _
    have h1 : x < 1 := hx
    have h2 : y < 1 := hy
    omega
  | succ m ih =>
    intro hx hy h
    have h1 : x < 32 ^ m * 32 := hx
    have h2 : y < 32 ^ m * 32 := hy
    have hh : enc32 (x / 32) m ++ [lett (x % 32)] = enc32 (y / 32) m ++ [lett (y % 32)] := h
    obtain ⟨ha, hb⟩ := List.append_inj hh (by rw [enc32_length, enc32_length])
    have hq := ih (x / 32) (y / 32) (by omega) (by omega) ha
    have hr := lett_inj (x % 32) (y % 32) (Nat.mod_lt _ (by decide)) (Nat.mod_lt _ (by decide)) (by simpa using hb)
    omega
theorem many_fits (n : Nat) : (256 : Nat) ^ n ≤ 32 ^ many32 n := by
  rw [show (256 : Nat) = 2 ^ 8 from rfl, show (32 : Nat) = 2 ^ 5 from rfl, ← Nat.pow_mul, ← Nat.pow_mul]
  exact Nat.pow_le_pow_right (by decide) (by unfold many32; omega)
theorem b32_inj (l m : List UInt8) (hl : l.length = m.length) (h : b32 l = b32 m) : l = m := by
  unfold b32 at h
  rw [← hl] at h
  exact num_inj l m hl (enc32_inj _ _ (many32 l.length) (Nat.lt_of_lt_of_le (num_lt l) (many_fits _)) (Nat.lt_of_lt_of_le (by rw [hl]; exact num_lt m) (many_fits _)) h)
/-- The i-th letter from the end. -/
theorem enc32_get (x : Nat) : ∀ (m i : Nat), i < m → (enc32 x m).getD (m - 1 - i) 0 = lett (x / 32 ^ i % 32) := by
  intro m
  induction m generalizing x with
  | zero => intro i hi; omega
  | succ m ih =>
    intro i hi
    show (enc32 (x / 32) m ++ [lett (x % 32)]).getD (m + 1 - 1 - i) 0 = _
    rw [List.getD_eq_getElem?_getD]
    rcases Nat.eq_zero_or_pos i with rfl | hp
    · rw [List.getElem?_append_right (by rw [enc32_length]; omega), enc32_length]
      simp
    · obtain ⟨j, rfl⟩ : ∃ j, i = j + 1 := ⟨i - 1, by omega⟩
      rw [List.getElem?_append_left (by rw [enc32_length]; omega), ← List.getD_eq_getElem?_getD, show m + 1 - 1 - (j + 1) = m - 1 - j by omega, ih (x / 32) j (by omega), Nat.div_div_eq_div_mul, Nat.pow_succ, Nat.mul_comm 32]
/-- The number that letters tell, the highest first. -/
def val32 (s : List UInt8) : Nat := s.foldl (fun v c => v * 32 + placeN letL c % 32) 0
theorem val_enc (x : Nat) : ∀ m, x < 32 ^ m → val32 (enc32 x m) = x := by
  intro m
  induction m generalizing x with
  | zero => intro h; have h1 : x < 1 := h; show 0 = x; omega
  | succ m ih =>
    intro h
    have h' : x < 32 ^ m * 32 := h
    show val32 (enc32 (x / 32) m ++ [lett (x % 32)]) = x
    unfold val32
    rw [List.foldl_append]
    show List.foldl _ 0 (enc32 (x / 32) m) * 32 + placeN letL (lett (x % 32)) % 32 = x
    have := ih (x / 32) (by omega)
    unfold val32 at this
    rw [this, lett_place (x % 32) (Nat.mod_lt _ (by decide))]
    omega
/-- What letters say: n bytes, or nothing. -/
def get32 (s : List UInt8) (n : Nat) : Option (List UInt8) := if n ≤ 64 ∧ b32 (bytesOf (val32 s) n) = s then some (bytesOf (val32 s) n) else none
theorem val_b32 (l : List UInt8) : val32 (b32 l) = num l := val_enc _ _ (Nat.lt_of_lt_of_le (num_lt l) (many_fits _))
theorem get32_b32 (l : List UInt8) (h : l.length ≤ 64) : get32 (b32 l) l.length = some l := by
  unfold get32
  rw [val_b32, bytesOf_num, if_pos ⟨h, rfl⟩]
theorem get32_some {s b : List UInt8} {n : Nat} (h : get32 s n = some b) : n ≤ 64 ∧ b.length = n ∧ b32 b = s := by
  unfold get32 at h
  split at h
  · rename_i hc
    injection h with h
    subst h
    exact ⟨hc.1, bytesOf_length _ _, hc.2⟩
  · cases h
theorem get32_iff (s b : List UInt8) (n : Nat) : get32 s n = some b ↔ n ≤ 64 ∧ b.length = n ∧ b32 b = s := by
  constructor
  · exact get32_some
  · rintro ⟨h1, rfl, rfl⟩
    exact get32_b32 b h1
/-- A way to read letters that finds the bytes where there are any tells what get32 tells. -/
theorem get32_of (s : List UInt8) (n : Nat) (hn : n ≤ 64) (d : List UInt8) (hd : d.length = n) (h : ∀ b : List UInt8, b.length = n → b32 b = s → d = b) : get32 s n = if b32 d = s then some d else none := by
  by_cases e : b32 d = s
  · rw [if_pos e, get32_iff]; exact ⟨hn, hd, e⟩
  · rw [if_neg e]
    cases hg : get32 s n with
    | none => rfl
    | some b =>
      obtain ⟨-, h2, h3⟩ := get32_some hg
      exact absurd (by rw [h b h2 h3]; exact h3) e

def hexd (n : Nat) : UInt8 := if n < 10 then UInt8.ofNat (48 + n) else UInt8.ofNat (87 + n)
def hexL : List UInt8 := [48, 49, 50, 51, 52, 53, 54, 55, 56, 57, 97, 98, 99, 100, 101, 102]
def hex : List UInt8 → List UInt8
  | [] => []
  | c :: l => hexd (c.toNat / 16) :: hexd (c.toNat % 16) :: hex l
theorem hex_length : ∀ l : List UInt8, (hex l).length = 2 * l.length
  | [] => rfl
  | c :: l => by show (hex l).length + 1 + 1 = 2 * (l.length + 1); rw [hex_length l]; omega
theorem hexd_place : ∀ d, d < 16 → placeN hexL (hexd d) = d := by decide +kernel
theorem hexd_get : ∀ d, d < 16 → hexL.getD d 0 = hexd d := by decide +kernel
def unhex : List UInt8 → List UInt8
  | a :: b :: l => UInt8.ofNat (placeN hexL a * 16 + placeN hexL b) :: unhex l
  | _ => []
theorem unhex_hex : ∀ l : List UInt8, unhex (hex l) = l
  | [] => rfl
  | c :: l => by
    have hc := c.toNat_lt
    show UInt8.ofNat (placeN hexL (hexd (c.toNat / 16)) * 16 + placeN hexL (hexd (c.toNat % 16))) :: unhex (hex l) = c :: l
    rw [hexd_place _ (by omega), hexd_place _ (by omega), unhex_hex l, show c.toNat / 16 * 16 + c.toNat % 16 = c.toNat by omega]
    simp
def getHex (s : List UInt8) : Option (List UInt8) := if hex (unhex s) = s then some (unhex s) else none
theorem getHex_iff (s b : List UInt8) : getHex s = some b ↔ hex b = s := by
  unfold getHex
  constructor
  · intro h
    split at h
    · rename_i hc; injection h with h; subst h; exact hc
    · cases h
  · rintro rfl
    rw [unhex_hex, if_pos rfl]
theorem getHex_of (s d : List UInt8) (h : ∀ b : List UInt8, hex b = s → d = b) : getHex s = if hex d = s then some d else none := by
  by_cases e : hex d = s
  · rw [if_pos e, getHex_iff]; exact e
  · rw [if_neg e]
    cases hg : getHex s with
    | none => rfl
    | some b =>
      have h3 := (getHex_iff s b).1 hg
      exact absurd (by rw [h b h3]; exact h3) e

def sixL : List UInt8 := [65, 66, 67, 68, 69, 70, 71, 72, 73, 74, 75, 76, 77, 78, 79, 80, 81, 82, 83, 84, 85, 86, 87, 88, 89, 90, 97, 98, 99, 100, 101, 102, 103, 104, 105, 106, 107, 108, 109, 110, 111, 112, 113, 114, 115, 116, 117, 118, 119, 120, 121, 122, 48, 49, 50, 51, 52, 53, 54, 55, 56, 57, 43, 47]
def six (d : Nat) : UInt8 := sixL.getD d 0
theorem six_place : ∀ d, d < 64 → placeN sixL (six d) = d := by decide +kernel
theorem six_not : placeN sixL 61 = 64 := by decide +kernel
/-- Of three bytes four letters; of a rest what there is, filled up. -/
def b64 : List UInt8 → List UInt8
  | a :: b :: c :: l => six (a.toNat / 4) :: six (a.toNat % 4 * 16 + b.toNat / 16) :: six (b.toNat % 16 * 4 + c.toNat / 64) :: six (c.toNat % 64) :: b64 l
  | [a, b] => [six (a.toNat / 4), six (a.toNat % 4 * 16 + b.toNat / 16), six (b.toNat % 16 * 4), 61]
  | [a] => [six (a.toNat / 4), six (a.toNat % 4 * 16), 61, 61]
  | [] => []
/-- The document's way to read them: letters that are none are passed by. -/
def dec64 : List UInt8 → Nat → Nat → List UInt8
  | [], _, _ => []
  | c :: l, n, bits =>
    if placeN sixL c = 64 then dec64 l n bits else
      let n2 := (n * 64 + placeN sixL c) % 1048576
      if bits + 6 ≥ 8 then UInt8.ofNat (n2 / 2 ^ (bits - 2)) :: dec64 l n2 (bits - 2) else dec64 l n2 (bits + 6)
theorem dec_step (d : Nat) (hd : d < 64) (l : List UInt8) (n bits : Nat) : dec64 (six d :: l) n bits = if bits + 6 ≥ 8 then UInt8.ofNat ((n * 64 + d) % 1048576 / 2 ^ (bits - 2)) :: dec64 l ((n * 64 + d) % 1048576) (bits - 2) else dec64 l ((n * 64 + d) % 1048576) (bits + 6) := by
  show (if placeN sixL (six d) = 64 then _ else _) = _
  rw [six_place d hd, if_neg (by omega)]
theorem dec_not (l : List UInt8) (n bits : Nat) : dec64 (61 :: l) n bits = dec64 l n bits := by
  show (if placeN sixL 61 = 64 then _ else _) = _
  rw [six_not, if_pos rfl]
theorem ofNat_eq (x : Nat) (a : UInt8) (h : x % 256 = a.toNat) : UInt8.ofNat x = a := by
  apply UInt8.toNat_inj.1
  rw [UInt8.toNat_ofNat', h]
theorem dec_b64 : ∀ (l : List UInt8) (n : Nat), dec64 (b64 l) n 0 = l
  | [], n => rfl
  | [a], n => by
    have ha := a.toNat_lt
    show dec64 [six (a.toNat / 4), six (a.toNat % 4 * 16), 61, 61] n 0 = [a]
    rw [dec_step _ (by omega), if_neg (by omega), dec_step _ (by omega), if_pos (by omega), dec_not, dec_not]
    show [UInt8.ofNat _] = [a]
    rw [ofNat_eq _ a (by simp only [Nat.reducePow, Nat.reduceSub, Nat.reduceAdd]; omega)]
  | [a, b], n => by
    have ha := a.toNat_lt
    have hb := b.toNat_lt
    show dec64 [six (a.toNat / 4), six (a.toNat % 4 * 16 + b.toNat / 16), six (b.toNat % 16 * 4), 61] n 0 = [a, b]
    rw [dec_step _ (by omega), if_neg (by omega), dec_step _ (by omega), if_pos (by omega), dec_step _ (by omega), if_pos (by omega), dec_not]
    show [UInt8.ofNat _, UInt8.ofNat _] = [a, b]
    rw [ofNat_eq _ a (by simp only [Nat.reducePow, Nat.reduceSub, Nat.reduceAdd]; omega), ofNat_eq _ b (by simp only [Nat.reducePow, Nat.reduceSub, Nat.reduceAdd]; omega)]
  | a :: b :: c :: l, n => by
    have ha := a.toNat_lt
    have hb := b.toNat_lt
    have hc := c.toNat_lt
    show dec64 (six (a.toNat / 4) :: six (a.toNat % 4 * 16 + b.toNat / 16) :: six (b.toNat % 16 * 4 + c.toNat / 64) :: six (c.toNat % 64) :: b64 l) n 0 = a :: b :: c :: l
    rw [dec_step _ (by omega), if_neg (by omega), dec_step _ (by omega), if_pos (by omega), dec_step _ (by omega), if_pos (by omega), dec_step _ (by omega), if_pos (by omega)]
    simp only [Nat.reducePow, Nat.reduceSub, Nat.reduceAdd]
    rw [dec_b64 l _, ofNat_eq _ a (by omega), ofNat_eq _ b (by omega), ofNat_eq _ c (by omega)]
def get64 (s : List UInt8) : Option (List UInt8) := if b64 (dec64 s 0 0) = s then some (dec64 s 0 0) else none
theorem get64_iff (s b : List UInt8) : get64 s = some b ↔ b64 b = s := by
  unfold get64
  constructor
  · intro h
    split at h
    · rename_i hc; injection h with h; subst h; exact hc
    · cases h
  · rintro rfl
    rw [dec_b64, if_pos rfl]
theorem get64_of (s d : List UInt8) (h : ∀ b : List UInt8, b64 b = s → d = b) : get64 s = if b64 d = s then some d else none := by
  by_cases e : b64 d = s
  · rw [if_pos e, get64_iff]; exact e
  · rw [if_neg e]
    cases hg : get64 s with
    | none => rfl
    | some b =>
      have h3 := (get64_iff s b).1 hg
      exact absurd (by rw [h b h3]; exact h3) e
theorem b64_length : ∀ l : List UInt8, (b64 l).length = (l.length + 2) / 3 * 4
  | [] => rfl
  | [_] => by show 4 = (1 + 2) / 3 * 4; decide
  | [_, _] => by show 4 = (1 + 1 + 2) / 3 * 4; decide
  | _ :: _ :: _ :: l => by
    show (b64 l).length + 1 + 1 + 1 + 1 = (l.length + 1 + 1 + 1 + 2) / 3 * 4
    rw [b64_length l]
    omega
/-- Bytes folded into n: byte k is the exclusive or of all at places that are k modulo n. -/
def foldN (n k : Nat) : List UInt8 → Nat → Nat
  | [], _ => 0
  | c :: l, i => (if i % n = k then c.toNat else 0) ^^^ foldN n k l (i + 1)
def fold (l : List UInt8) (n : Nat) : List UInt8 := (List.range n).map fun k => UInt8.ofNat (foldN n k l 0)
theorem foldN_lt (n k : Nat) : ∀ (l : List UInt8) (i : Nat), foldN n k l i < 256
  | [], _ => by show 0 < 256; omega
  | c :: l, i => by
    have hc := c.toNat_lt
    refine Nat.xor_lt_two_pow (n := 8) ?_ (foldN_lt n k l (i + 1))
    split
    · exact hc
    · show 0 < 256; omega
theorem foldN_append (n k : Nat) : ∀ (l m : List UInt8) (i : Nat), foldN n k (l ++ m) i = foldN n k l i ^^^ foldN n k m (i + l.length)
  | [], m, i => by show foldN n k m i = 0 ^^^ foldN n k m (i + 0); rw [Nat.zero_xor]; rfl
  | c :: l, m, i => by
    show (if i % n = k then c.toNat else 0) ^^^ foldN n k (l ++ m) (i + 1) = ((if i % n = k then c.toNat else 0) ^^^ foldN n k l (i + 1)) ^^^ foldN n k m (i + (l.length + 1))
    rw [foldN_append n k l m (i + 1), Nat.xor_assoc, show i + 1 + l.length = i + (l.length + 1) by omega]
theorem foldN_turn (n k : Nat) : ∀ (l : List UInt8) (i j : Nat), i % n = j % n → foldN n k l i = foldN n k l j
  | [], _, _, _ => rfl
  | c :: l, i, j, h => by
    show (if i % n = k then c.toNat else 0) ^^^ foldN n k l (i + 1) = (if j % n = k then c.toNat else 0) ^^^ foldN n k l (j + 1)
    rw [h, foldN_turn n k l (i + 1) (j + 1) (by rw [Nat.add_mod, h, ← Nat.add_mod])]
/-- Two texts side by side, the first one of whole turns. -/
theorem fold_two (l m : List UInt8) (n k : Nat) (hl : l.length % n = 0) : foldN n k (l ++ m) 0 = foldN n k l 0 ^^^ foldN n k m 0 := by
  rw [foldN_append, foldN_turn n k m (0 + l.length) 0 (by rw [Nat.zero_add, hl, Nat.zero_mod])]
/-- Two texts with a letter more each. -/
theorem bless_append : ∀ (a b : List UInt8) (c d : UInt8), a.length = b.length → Go.Op.bytesLess (a ++ [c]) (b ++ [d]) = (Go.Op.bytesLess a b || (a == b && decide (c < d)))
  | [], [], c, d, _ => by simp [Go.Op.bytesLess]
  | x :: a, y :: b, c, d, h => by
    have hl : a.length = b.length := by simpa using h
    show (decide (x < y) || (x == y && Go.Op.bytesLess (a ++ [c]) (b ++ [d]))) = ((decide (x < y) || (x == y && Go.Op.bytesLess a b)) || (x :: a == y :: b && decide (c < d)))
    rw [bless_append a b c d hl, List.cons_beq_cons]
    cases decide (x < y) <;> cases (x == y) <;> simp
  | [], _ :: _, _, _, h => by cases h
  | _ :: _, [], _, _, h => by cases h
/-- Letters of one number are less than another's when the number is. -/
theorem enc32_less (x y : Nat) : ∀ m, x < 32 ^ m → y < 32 ^ m → Go.Op.bytesLess (enc32 x m) (enc32 y m) = decide (x < y) := by
  intro m
  induction m generalizing x y with
  | zero =>
    intro hx hy
    have h1 : x < 1 := hx
    have h2 : y < 1 := hy
    have : x = 0 := by omega
    have : y = 0 := by omega
    subst x; subst y; rfl
  | succ m ih =>
    intro hx hy
    have h1 : x < 32 ^ m * 32 := hx
    have h2 : y < 32 ^ m * 32 := hy
    show Go.Op.bytesLess (enc32 (x / 32) m ++ [lett (x % 32)]) (enc32 (y / 32) m ++ [lett (y % 32)]) = _
    rw [bless_append _ _ _ _ (by rw [enc32_length, enc32_length]), ih (x / 32) (y / 32) (by omega) (by omega)]
    have hm := lett_mono (x % 32) (Nat.mod_lt _ (by decide)) (y % 32) (Nat.mod_lt _ (by decide))
    have hc : decide (lett (x % 32) < lett (y % 32)) = decide (x % 32 < y % 32) := by
      rw [decide_eq_decide, UInt8.lt_iff_toNat_lt]; exact hm.symm
    have he : (enc32 (x / 32) m == enc32 (y / 32) m) = decide (x / 32 = y / 32) := by
      rw [Bool.eq_iff_iff, beq_iff_eq, decide_eq_true_iff]
      exact ⟨enc32_inj _ _ m (by omega) (by omega), fun h => by rw [h]⟩
    rw [hc, he, Bool.eq_iff_iff]
    simp only [Bool.or_eq_true, Bool.and_eq_true, decide_eq_true_iff]
    omega
theorem b32_less (l k : List UInt8) (h : l.length = k.length) : Go.Op.bytesLess (b32 l) (b32 k) = decide (num l < num k) := by
  unfold b32
  rw [← h]
  exact enc32_less _ _ _ (Nat.lt_of_lt_of_le (num_lt l) (many_fits _)) (Nat.lt_of_lt_of_le (by rw [h]; exact num_lt k) (many_fits _))
theorem b32_eq (l k : List UInt8) (h : l.length = k.length) : (b32 l == b32 k) = decide (num l = num k) := by
  rw [Bool.eq_iff_iff, beq_iff_eq, decide_eq_true_iff]
  exact ⟨fun e => by rw [b32_inj l k h e], fun e => by rw [num_inj l k h e]⟩
/-- Numbers with the same bytes above place i, byte i less: less. -/
theorem num_less (l k : List UInt8) (i : Nat) (hi : i < l.length) (h : l.length = k.length) (hd : l.drop (i + 1) = k.drop (i + 1)) (hx : (l.getD i 0).toNat < (k.getD i 0).toNat) : num l < num k := by
  have e1 := num_append (l.take i) (l.drop i)
  have e2 := num_append (k.take i) (k.drop i)
  rw [List.take_append_drop, List.length_take, Nat.min_eq_left (by omega)] at e1 e2
  have f1 : l.drop i = l.getD i 0 :: l.drop (i + 1) := by
    rw [List.drop_eq_getElem_cons hi, List.getD_eq_getElem?_getD, List.getElem?_eq_getElem hi]; rfl
  have f2 : k.drop i = k.getD i 0 :: k.drop (i + 1) := by
    rw [List.drop_eq_getElem_cons (by omega), List.getD_eq_getElem?_getD, List.getElem?_eq_getElem (by omega)]; rfl
  rw [f1, hd] at e1
  rw [f2] at e2
  have g1 : num (l.take i) < 256 ^ i := by
    have := num_lt (l.take i)
    rwa [List.length_take, Nat.min_eq_left (by omega)] at this
  have hn : ∀ (c : UInt8) (m : List UInt8), num (c :: m) = c.toNat + 256 * num m := fun _ _ => rfl
  rw [hn] at e1 e2
  generalize num (k.drop (i + 1)) = z at e1 e2
  generalize 256 ^ i = p at e1 e2 g1
  have h3 : p * ((l.getD i 0).toNat + 256 * z) + p ≤ p * ((k.getD i 0).toNat + 256 * z) := by
    rw [← Nat.mul_succ]; exact Nat.mul_le_mul_left p (by omega)
  omega
theorem num_low (l : List UInt8) : num l % 32 = (l.getD 0 0).toNat % 32 := by
  cases l with
  | nil => rfl
  | cons c l =>
    have hn : num (c :: l) = c.toNat + 256 * num l := rfl
    rw [hn]; show _ = c.toNat % 32; omega
theorem enc32_last (x m : Nat) (hm : 0 < m) : (enc32 x m).getD (m - 1) 0 = lett (x % 32) := by
  have := enc32_get x m 0 hm
  rw [Nat.sub_zero, Nat.pow_zero, Nat.div_one] at this; exact this
theorem enc32_mem (x : Nat) : ∀ (m : Nat) (c : UInt8), c ∈ enc32 x m → ∃ d, d < 32 ∧ c = lett d := by
  intro m
  induction m generalizing x with
  | zero => intro c h; cases h
  | succ m ih =>
    intro c h
    have h' : c ∈ enc32 (x / 32) m ++ [lett (x % 32)] := h
    rcases List.mem_append.1 h' with h | h
    · exact ih _ c h
    · exact ⟨x % 32, Nat.mod_lt _ (by decide), by simpa using h⟩
end Go.Proofs.YtdbbcngolcnniaaDoor
/- Parts: which texts may be one, where they stand. No condition. -/
namespace Go.Proofs.YtdbbcngolcnniaaDoor
set_option linter.unusedVariables false
set_option linter.unusedSimpArgs false
/-- May a text be a part? -/
def mayP (p : List UInt8) : Bool := decide (p.length = 32) && p.all fun c => letL.contains c
theorem lett_of : ∀ n, n < 256 → letL.contains (UInt8.ofNat n) = true → placeN letL (UInt8.ofNat n) < 32 ∧ lett (placeN letL (UInt8.ofNat n)) = UInt8.ofNat n := by decide +kernel
theorem lett_in {c : UInt8} (h : letL.contains c = true) : placeN letL c < 32 ∧ lett (placeN letL c) = c := by
  have e : UInt8.ofNat c.toNat = c := by simp
  have := lett_of c.toNat c.toNat_lt (by rw [e]; exact h)
  rw [e] at this
  exact this
theorem lett_has : ∀ d, d < 32 → letL.contains (lett d) = true := by decide +kernel
theorem enc_val : ∀ (n : Nat) (s : List UInt8), s.length = n → (∀ c ∈ s, letL.contains c = true) → enc32 (val32 s) n = s ∧ val32 s < 32 ^ n
  | 0, s, hn, _ => by
    obtain rfl := List.length_eq_zero_iff.1 hn
    exact ⟨rfl, by decide⟩
  | n + 1, s, hn, h => by
    have hne : s ≠ [] := by rintro rfl; cases hn
    have hs := List.dropLast_concat_getLast hne
    obtain ⟨t, ht⟩ : ∃ t, t = s.dropLast := ⟨_, rfl⟩
    obtain ⟨c, hc⟩ : ∃ c, c = s.getLast hne := ⟨_, rfl⟩
    rw [← ht, ← hc] at hs
    have htl : t.length = n := by rw [ht, List.length_dropLast]; omega
    have hct := lett_in (h c (by rw [← hs]; simp))
    obtain ⟨h1, h2⟩ := enc_val n t htl (fun d hd => h d (by rw [← hs]; simp [hd]))
    have hv : val32 s = val32 t * 32 + placeN letL c := by
      rw [← hs]
      unfold val32
      rw [List.foldl_append]
      show _ * 32 + placeN letL c % 32 = _
      rw [Nat.mod_eq_of_lt hct.1]
    constructor
    · show enc32 (val32 s / 32) n ++ [lett (val32 s % 32)] = s
      rw [hv, show (val32 t * 32 + placeN letL c) / 32 = val32 t by omega, show (val32 t * 32 + placeN letL c) % 32 = placeN letL c by omega, h1, hct.2]
      exact hs
    · rw [hv, Nat.pow_succ]; omega
theorem enc_all (x : Nat) (m : Nat) : ∀ c ∈ enc32 x m, letL.contains c = true := by
  intro c hc
  obtain ⟨d, hd, rfl⟩ := enc32_mem x m c hc
  exact lett_has d hd
/-- A text may be a part if it is the letters of twenty bytes. -/
theorem may_get (s : List UInt8) : (get32 s 20).isSome = mayP s := by
  cases hm : mayP s with
  | true =>
    unfold mayP at hm
    rw [Bool.and_eq_true, List.all_eq_true] at hm
    have hl := of_decide_eq_true hm.1
    obtain ⟨h1, h2⟩ := enc_val 32 s hl hm.2
    have h3 : val32 s < 256 ^ 20 := by have : (32 : Nat) ^ 32 = 256 ^ 20 := by decide
                                       omega
    have : get32 s 20 = some (bytesOf (val32 s) 20) := by
      refine (get32_iff _ _ _).2 ⟨by decide, bytesOf_length _ _, ?_⟩
      unfold b32
      rw [num_bytesOf _ _ h3, bytesOf_length]
      exact h1
    rw [this]; rfl
  | false =>
    cases hg : get32 s 20 with
    | none => rfl
    | some b =>
      obtain ⟨_, h2, h3⟩ := get32_some hg
      have : mayP s = true := by
        unfold mayP
        rw [Bool.and_eq_true, List.all_eq_true]
        refine ⟨decide_eq_true ?_, fun c hc => ?_⟩
        · rw [← h3, b32_length, h2]; rfl
        · rw [← h3] at hc
          exact enc_all _ _ c hc
      rw [this] at hm; cases hm
theorem may_len {p : List UInt8} (h : mayP p = true) : p.length = 32 := by
  unfold mayP at h
  rw [Bool.and_eq_true] at h
  exact of_decide_eq_true h.1
/-- Does a text stand at a place? -/
def stP (s p : List UInt8) (i : Nat) : Bool := decide (i + p.length ≤ s.length) && ((s.drop i).take p.length == p)
def plF (s p : List UInt8) : Nat → Nat → List Nat
  | 0, _ => []
  | f + 1, i => if i + p.length ≤ s.length then (if (s.drop i).take p.length = p then i :: plF s p f (i + p.length) else plF s p f (i + 1)) else []
/-- The places from a place on. -/
def pl (s p : List UInt8) (i : Nat) : List Nat := plF s p (s.length + 1 - i) i
theorem plF_fuel (s p : List UInt8) (hp : 0 < p.length) : ∀ (f g i : Nat), s.length + 1 ≤ f + i → s.length + 1 ≤ g + i → plF s p f i = plF s p g i
  | 0, 0, i, _, _ => rfl
  | 0, g + 1, i, hf, hg => by unfold plF; rw [if_neg (by omega)]
  | f + 1, 0, i, hf, hg => by unfold plF; rw [if_neg (by omega)]
  | f + 1, g + 1, i, hf, hg => by
    unfold plF
    rw [plF_fuel s p hp f g (i + p.length) (by omega) (by omega), plF_fuel s p hp f g (i + 1) (by omega) (by omega)]
theorem pl_end {s p : List UInt8} {i : Nat} (h : ¬ i + p.length ≤ s.length) : pl s p i = [] := by
  unfold pl
  cases s.length + 1 - i with
  | zero => rfl
  | succ f => unfold plF; rw [if_neg h]
theorem pl_yes {s p : List UInt8} {i : Nat} (hp : 0 < p.length) (h : i + p.length ≤ s.length) (hw : (s.drop i).take p.length = p) : pl s p i = i :: pl s p (i + p.length) := by
  have e : s.length + 1 - i = (s.length - i) + 1 := by omega
  unfold pl
  rw [e]
  show (if i + p.length ≤ s.length then _ else _) = _
  rw [if_pos h, if_pos hw, plF_fuel s p hp _ (s.length + 1 - (i + p.length)) _ (by omega) (by omega)]
theorem pl_no {s p : List UInt8} {i : Nat} (hp : 0 < p.length) (h : i + p.length ≤ s.length) (hw : (s.drop i).take p.length ≠ p) : pl s p i = pl s p (i + 1) := by
  have e : s.length + 1 - i = (s.length - i) + 1 := by omega
  unfold pl
  rw [e]
  show (if i + p.length ≤ s.length then _ else _) = _
  rw [if_pos h, if_neg hw, plF_fuel s p hp _ (s.length + 1 - (i + 1)) _ (by omega) (by omega)]
/-- Places. -/
def placesL (s p : List UInt8) : List Nat := if mayP p then pl s p 0 else []
theorem pl_bnd (s p : List UInt8) (hp : 0 < p.length) : ∀ (n i : Nat), s.length - i ≤ n → (pl s p i).length + i ≤ s.length + (if (pl s p i) = [] then i else 0) ∧ ∀ x ∈ pl s p i, i ≤ x ∧ x + p.length ≤ s.length
  | n, i, hn => by
    by_cases h : i + p.length ≤ s.length
    · cases n with
      | zero => omega
      | succ n =>
        by_cases hw : (s.drop i).take p.length = p
        · rw [pl_yes hp h hw]
          obtain ⟨h1, h2⟩ := pl_bnd s p hp n (i + p.length) (by omega)
          refine ⟨?_, fun x hx => ?_⟩
          · rw [if_neg (by simp), List.length_cons]
            by_cases h0 : pl s p (i + p.length) = []
            · rw [h0]; simp; omega
            · rw [if_neg h0] at h1; omega
          · rcases List.mem_cons.1 hx with rfl | hx
            · exact ⟨Nat.le_refl _, h⟩
            · have := h2 x hx; omega
        · rw [pl_no hp h hw]
          obtain ⟨h1, h2⟩ := pl_bnd s p hp n (i + 1) (by omega)
          refine ⟨?_, fun x hx => by have := h2 x hx; omega⟩
          by_cases h0 : pl s p (i + 1) = []
          · rw [h0]; simp
          · rw [if_neg h0] at h1 ⊢; omega
    · rw [pl_end h]; exact ⟨by simp, fun x hx => by cases hx⟩
theorem pl_len (s p : List UInt8) (hp : 0 < p.length) (i : Nat) : (pl s p i).length ≤ s.length := by
  have := (pl_bnd s p hp s.length i (by omega)).1
  by_cases h0 : pl s p i = []
  · rw [h0]; exact Nat.zero_le _
  · rw [if_neg h0] at this; omega
/-- A part stands somewhere. -/
def occP (s p : List UInt8) : Prop := ∃ i, i + p.length ≤ s.length ∧ (s.drop i).take p.length = p
theorem pl_occ (s p : List UInt8) (hp : 0 < p.length) : ∀ (n i : Nat), s.length - i ≤ n → (pl s p i ≠ [] ↔ ∃ j, i ≤ j ∧ j + p.length ≤ s.length ∧ (s.drop j).take p.length = p)
  | n, i, hn => by
    by_cases h : i + p.length ≤ s.length
    · cases n with
      | zero => omega
      | succ n =>
        by_cases hw : (s.drop i).take p.length = p
        · rw [pl_yes hp h hw]
          exact ⟨fun _ => ⟨i, Nat.le_refl _, h, hw⟩, fun _ => by simp⟩
        · rw [pl_no hp h hw, pl_occ s p hp n (i + 1) (by omega)]
          constructor
          · rintro ⟨j, h1, h2, h3⟩; exact ⟨j, by omega, h2, h3⟩
          · rintro ⟨j, h1, h2, h3⟩
            refine ⟨j, ?_, h2, h3⟩
            rcases Nat.lt_or_eq_of_le h1 with h4 | h4
            · omega
            · subst h4; exact absurd h3 hw
    · rw [pl_end h]
      constructor
      · intro h0; exact absurd rfl h0
      · rintro ⟨j, h1, h2, h3⟩; omega
/-- Find: the places of parts that may be, and stand somewhere. -/
def findL (s : List UInt8) (ps : List (List UInt8)) : List Nat := (List.range ps.length).filter fun i => !(placesL s (ps.getD i [])).isEmpty
theorem find_iff (s p : List UInt8) : (placesL s p).isEmpty = false ↔ mayP p = true ∧ occP s p := by
  unfold placesL
  by_cases h : mayP p = true
  · rw [if_pos h]
    have hp : 0 < p.length := by rw [may_len h]; decide
    have := pl_occ s p hp s.length 0 (by omega)
    rw [List.isEmpty_eq_false_iff, this]
    constructor
    · rintro ⟨j, _, h2, h3⟩; exact ⟨h, j, h2, h3⟩
    · rintro ⟨_, j, h2, h3⟩; exact ⟨j, Nat.zero_le _, h2, h3⟩
  · rw [if_neg h]
    constructor
    · intro h2; cases h2
    · rintro ⟨h1, _⟩; exact absurd h1 h
/-- A text with bytes at a place turned into others. -/
def putL (s p : List UInt8) (i : Nat) : List UInt8 := s.take i ++ (p ++ s.drop (i + p.length))
def changeL (s old p : List UInt8) : List UInt8 := if mayP old && mayP p then (placesL s old).foldl (fun b i => putL b p i) s else s
end Go.Proofs.YtdbbcngolcnniaaDoor
