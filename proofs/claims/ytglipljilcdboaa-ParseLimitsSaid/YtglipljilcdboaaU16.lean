/- Several texts, one behind the other; each says by itself what it proves, and on what conditions. -/
import Derived.Test.YtglipljilcdboaaU15
import Derived.Shelf.Strings.Builder1
import Derived.Shelf.Strings.Builder2
import Derived.Shelf.Small.Strs
import Derived.Shelf.Small.Wraps
import Derived.Shelf.Strings.BuilderF
import Derived.Shelf.Strings.BuilderK
import Derived.Shelf.Strings.Builder2Cap
import Derived.Shelf.Strings.Search1
import Derived.Shelf.Strings.Search2
import Derived.Shelf.Strings.Search3
import Derived.Shelf.Strings.Cut
import Derived.Shelf.LaysM
import Derived.Shelf.Strings.Shaped
import Derived.Shelf.Strings.LastIndex
import Derived.Shelf.Strings.Prefix
import Derived.Shelf.Bits.Mul64
import Derived.Shelf.Strings.Repeat
import Derived.Shelf.Unicode.DecodeSlow
import Derived.Test.YtglipljilcdboaaProg
import Derived.Lib.IndexLaws
import Derived.Lib.LastIndexByte
/- What the library's functions hand back that package parse calls: IndexByte, Contains. -/
namespace Go.Proofs.Ytglipljilcdboaa
set_option linter.unusedSimpArgs false
set_option linter.unusedVariables false
open Go.Shelf
def lays137_ren : Go.Shelf.Ren := ⟨fun | 137 => 58 | 217 => 61 | 266 => 63 | n => n, fun | 9 => 9 | 5 => 5 | 3 => 3 | n => n, fun | n => n⟩
theorem lays137 : Go.Proofs.Lays.n137 Try.prog lays137_ren := {
  mixed := by kernel_rfl
  f137 := Try.func58.trans (congrArg some (by kernel_rfl))
  f217 := Try.func61.trans (congrArg some (by kernel_rfl))
  f266 := Try.func63.trans (congrArg some (by kernel_rfl))
  t3 := Try.underlying3
  a3 := Try.isAgg3
  z3 := Try.sizeOf3
  v3 := Try.zeroValue3
  t5 := Try.underlying5
  a5 := Try.isAgg5
  z5 := Try.sizeOf5
  v5 := Try.zeroValue5
  t9 := Try.underlying9
  a9 := Try.isAgg9
  z9 := Try.sizeOf9
  v9 := Try.zeroValue9 }
open Go.RowKit in
theorem strings_IndexByte (s : ByteArray) (c : Int) (w : World) :
    Calls Try.prog 58 #[.string s, .int .u8 c] w fun e w' => e = .returned (.int .i64 (Lib.indexByte s.data.toList c.toNat.toUInt8)) ∧ w' = w := Any.strings_IndexByte lays137 s c w
def lays219_ren : Go.Shelf.Ren := ⟨fun | 219 => 64 | 217 => 61 | 225 => 65 | 224 => 66 | 267 => 67 | 266 => 63 | 314 => 68 | n => n, fun | 9 => 9 | 3 => 3 | 4 => 4 | 5 => 5 | 46 => 107 | 146 => 109 | 51 => 108 | n => n, fun | 1 => 0 | n => n⟩
theorem lays219 : Go.Proofs.Lays.n219 Try.prog lays219_ren := {
  mixed := by kernel_rfl
  f217 := Try.func61.trans (congrArg some (by kernel_rfl))
  f219 := Try.func64.trans (congrArg some (by kernel_rfl))
  f224 := Try.func66.trans (congrArg some (by kernel_rfl))
  f225 := Try.func65.trans (congrArg some (by kernel_rfl))
  f266 := Try.func63.trans (congrArg some (by kernel_rfl))
  f267 := Try.func67.trans (congrArg some (by kernel_rfl))
  f314 := Try.func68.trans (congrArg some (by kernel_rfl))
  t3 := Try.underlying3
  a3 := Try.isAgg3
  z3 := Try.sizeOf3
  v3 := Try.zeroValue3
  t4 := Try.underlying4
  a4 := Try.isAgg4
  z4 := Try.sizeOf4
  v4 := Try.zeroValue4
  t5 := Try.underlying5
  a5 := Try.isAgg5
  z5 := Try.sizeOf5
  v5 := Try.zeroValue5
  t9 := Try.underlying9
  a9 := Try.isAgg9
  z9 := Try.sizeOf9
  v9 := Try.zeroValue9
  t46 := Try.underlying107
  a46 := Try.isAgg107
  z46 := Try.sizeOf107
  v46 := Try.zeroValue107
  t51 := Try.underlying108
  a51 := Try.isAgg108
  z51 := Try.sizeOf108
  v51 := Try.zeroValue108
  t146 := Try.underlying109
  a146 := Try.isAgg109
  z146 := Try.sizeOf109
  v146 := Try.zeroValue109
  g1 := by kernel_rfl }
open Go.RowKit Go.Lib in
theorem stringslite_Index_one (s : ByteArray) (c : UInt8) (w : World) :
    Calls Try.prog 64 #[.string s, .string ⟨#[c]⟩] w fun e w' => e = .returned (.int .i64 (Lib.indexByte s.data.toList c)) ∧ w' = w := Any.stringslite_Index_one lays219 s c w
def lays143_ren : Go.Shelf.Ren := ⟨fun | 143 => 62 | 219 => 64 | 217 => 61 | 225 => 65 | 224 => 66 | 267 => 67 | 266 => 63 | 314 => 68 | n => n, fun | 9 => 9 | 3 => 3 | 4 => 4 | 5 => 5 | 46 => 107 | 146 => 109 | 51 => 108 | n => n, fun | 1 => 0 | n => n⟩
theorem lays143 : Go.Proofs.Lays.n143 Try.prog lays143_ren := {
  mixed := by kernel_rfl
  f143 := Try.func62.trans (congrArg some (by kernel_rfl))
  f217 := Try.func61.trans (congrArg some (by kernel_rfl))
  f219 := Try.func64.trans (congrArg some (by kernel_rfl))
  f224 := Try.func66.trans (congrArg some (by kernel_rfl))
  f225 := Try.func65.trans (congrArg some (by kernel_rfl))
  f266 := Try.func63.trans (congrArg some (by kernel_rfl))
  f267 := Try.func67.trans (congrArg some (by kernel_rfl))
  f314 := Try.func68.trans (congrArg some (by kernel_rfl))
  t3 := Try.underlying3
  a3 := Try.isAgg3
  z3 := Try.sizeOf3
  v3 := Try.zeroValue3
  t4 := Try.underlying4
  a4 := Try.isAgg4
  z4 := Try.sizeOf4
  v4 := Try.zeroValue4
  t5 := Try.underlying5
  a5 := Try.isAgg5
  z5 := Try.sizeOf5
  v5 := Try.zeroValue5
  t9 := Try.underlying9
  a9 := Try.isAgg9
  z9 := Try.sizeOf9
  v9 := Try.zeroValue9
  t46 := Try.underlying107
  a46 := Try.isAgg107
  z46 := Try.sizeOf107
  v46 := Try.zeroValue107
  t51 := Try.underlying108
  a51 := Try.isAgg108
  z51 := Try.sizeOf108
  v51 := Try.zeroValue108
  t146 := Try.underlying109
  a146 := Try.isAgg109
  z146 := Try.sizeOf109
  v146 := Try.zeroValue109
  g1 := by kernel_rfl }
open Go.RowKit Go.Lib in
theorem strings_Index_one (s : ByteArray) (c : UInt8) (w : World) :
    Calls Try.prog 62 #[.string s, .string ⟨#[c]⟩] w fun e w' => e = .returned (.int .i64 (Lib.indexByte s.data.toList c)) ∧ w' = w := Any.strings_Index_one lays143 s c w
def lays144_ren : Go.Shelf.Ren := ⟨fun | 144 => 59 | 143 => 62 | 219 => 64 | 217 => 61 | 225 => 65 | 224 => 66 | 267 => 67 | 266 => 63 | 314 => 68 | n => n, fun | 9 => 9 | 4 => 4 | 3 => 3 | 5 => 5 | 46 => 107 | 146 => 109 | 51 => 108 | n => n, fun | 1 => 0 | n => n⟩
theorem lays144 : Go.Proofs.Lays.n144 Try.prog lays144_ren := {
  mixed := by kernel_rfl
  f143 := Try.func62.trans (congrArg some (by kernel_rfl))
  f144 := Try.func59.trans (congrArg some (by kernel_rfl))
  f217 := Try.func61.trans (congrArg some (by kernel_rfl))
  f219 := Try.func64.trans (congrArg some (by kernel_rfl))
  f224 := Try.func66.trans (congrArg some (by kernel_rfl))
  f225 := Try.func65.trans (congrArg some (by kernel_rfl))
  f266 := Try.func63.trans (congrArg some (by kernel_rfl))
  f267 := Try.func67.trans (congrArg some (by kernel_rfl))
  f314 := Try.func68.trans (congrArg some (by kernel_rfl))
  t3 := Try.underlying3
  a3 := Try.isAgg3
  z3 := Try.sizeOf3
  v3 := Try.zeroValue3
  t4 := Try.underlying4
  a4 := Try.isAgg4
  z4 := Try.sizeOf4
  v4 := Try.zeroValue4
  t5 := Try.underlying5
  a5 := Try.isAgg5
  z5 := Try.sizeOf5
  v5 := Try.zeroValue5
  t9 := Try.underlying9
  a9 := Try.isAgg9
  z9 := Try.sizeOf9
  v9 := Try.zeroValue9
  t46 := Try.underlying107
  a46 := Try.isAgg107
  z46 := Try.sizeOf107
  v46 := Try.zeroValue107
  t51 := Try.underlying108
  a51 := Try.isAgg108
  z51 := Try.sizeOf108
  v51 := Try.zeroValue108
  t146 := Try.underlying109
  a146 := Try.isAgg109
  z146 := Try.sizeOf109
  v146 := Try.zeroValue109
  g1 := by kernel_rfl }
open Go.RowKit Go.Lib in
theorem strings_Contains_one (s : ByteArray) (c : UInt8) (w : World) :
    Calls Try.prog 59 #[.string s, .string ⟨#[c]⟩] w fun e w' => e = .returned (.bool (decide (0 ≤ Lib.indexByte s.data.toList c))) ∧ w' = w := Any.strings_Contains_one lays144 s c w
end Go.Proofs.Ytglipljilcdboaa
/- Of the program: whether a text has a byte 0, which names may be, where a path is cut, the piece ahead of a stroke. Its conditions: lengths that fit. -/
namespace Go.Proofs.Ytglipljilcdboaa
open Go.RowKit Go.Shelf
set_option linter.unusedVariables false
set_option linter.unusedSimpArgs false
theorem ix_neg {l : List UInt8} {c : UInt8} (h : c ∉ l) : Lib.indexByte l c = -1 := by
  induction l with
  | nil => rfl
  | cons b l ih =>
    rw [List.mem_cons, not_or] at h
    have hb : (b == c) = false := by simp; exact fun e => h.1 e.symm
    simp [Lib.indexByte, hb, ih h.2]
theorem ix_pos {a n : List UInt8} {c : UInt8} (h : c ∉ a) : Lib.indexByte (a ++ c :: n) c = (a.length : Int) := by
  induction a with
  | nil => simp [Lib.indexByte]
  | cons b l ih =>
    rw [List.mem_cons, not_or] at h
    have hb : (b == c) = false := by simp; exact fun e => h.1 e.symm
    have hi := ih h.2
    have hn : ¬ ((l.length : Int) = -1) := by omega
    simp only [List.cons_append, Lib.indexByte, hb, hi, List.length_cons]
    simp [hn]
theorem split_at {l : List UInt8} {c : UInt8} (h : c ∈ l) : ∃ a n, l = a ++ c :: n ∧ c ∉ a := by
  induction l with
  | nil => cases h
  | cons b l ih =>
    by_cases hb : b = c
    · subst hb; exact ⟨[], l, rfl, by simp⟩
    · rcases List.mem_cons.1 h with e | h
      · exact absurd e.symm hb
      · obtain ⟨a, n, rfl, ha⟩ := ih h
        exact ⟨b :: a, n, rfl, by simp; exact ⟨fun e => hb e.symm, ha⟩⟩
theorem ix_ge {l : List UInt8} {c : UInt8} : decide (0 ≤ Lib.indexByte l c) = decide (c ∈ l) := by
  by_cases h : c ∈ l
  · obtain ⟨a, n, rfl, ha⟩ := split_at h
    rw [ix_pos ha, decide_eq_true h]
    exact decide_eq_true (by omega)
  · rw [ix_neg h, decide_eq_false h]; rfl
theorem hasZero_any (s : ByteArray) (w : World) : Calls Try.prog 60 #[.string s] w fun e w' => e = .returned (.bool (decide (0 ∈ s.data.toList))) ∧ w' = w := by
  have H : Hid (∀ w, Calls Try.prog 58 #[.string s, .int .u8 0] w fun e w' => e = .returned (.int .i64 (Lib.indexByte s.data.toList 0)) ∧ w' = w) := Lib.hid (fun w => strings_IndexByte s 0 w)
  rw [← ix_ge]
  generalize Lib.indexByte s.data.toList 0 = i at *
  go_enter Try.func60, Try.ntmps60
  go_wp2_with fail
  with_reducible refine (H.out _).mono ?_
  rintro e w2 ⟨rfl, rfl⟩
  go_wp2_with fail
  go_ret
  exact ⟨rfl, rfl⟩
set_option maxRecDepth 100000 in
set_option maxHeartbeats 1000000 in
theorem pmayName_any (s : ByteArray) (w : World) : Calls Try.prog 57 #[.string s] w fun e w' => e = .returned (.bool (mayNameL s.data.toList)) ∧ w' = w := by
  obtain ⟨b, hb⟩ : ∃ b, Hid (b = mayNameL s.data.toList) := ⟨_, Lib.hid rfl⟩
  rw [← hb.out]
  have hsl : s.data.toList.length = s.size := rfl
  have H0 : Hid (∀ w, Calls Try.prog 60 #[.string s] w fun e w' => e = .returned (.bool (decide (0 ∈ s.data.toList))) ∧ w' = w) := Lib.hid (fun w => hasZero_any s w)
  have H4 : Hid (∀ w, Calls Try.prog 59 #[.string s, .string { data := #[47] }] w fun e w' => e = .returned (.bool (decide (47 ∈ s.data.toList))) ∧ w' = w) := Lib.hid (fun w => by rw [← ix_ge]; exact strings_Contains_one s 47 w)
  go_enter Try.func57, Try.ntmps57
  by_cases h1 : (s.size : Int) < 1
  · have hz : Hid (b = false) := Lib.hid (by rw [hb.out]; simp only [mayNameL]; rw [decide_eq_false (show ¬ 1 ≤ s.data.toList.length by omega)]; simp)
    go_wp2_with fail
    go_ret
    exact ⟨by rw [hz.out]; rfl, rfl⟩
  by_cases h2 : (s.size : Int) > 255
  · have hz : Hid (b = false) := Lib.hid (by rw [hb.out]; simp only [mayNameL]; rw [decide_eq_false (show ¬ s.data.toList.length ≤ 255 by omega)]; simp)
    go_wp2_with fail
    go_ret
    exact ⟨by rw [hz.out]; rfl, rfl⟩
  by_cases hp : s.toList = [46]
  · have hz : Hid (b = false) := Lib.hid (by
      rw [hb.out]
      rw [ByteArray.toList_eq] at hp
      rw [hp]
      decide)
    go_wp2_with fail
    go_ret
    exact ⟨by rw [hz.out]; rfl, rfl⟩
  by_cases hq : s.toList = [46, 46]
  · have hz : Hid (b = false) := Lib.hid (by
      rw [hb.out]
      rw [ByteArray.toList_eq] at hq
      rw [hq]
      decide)
    go_wp2_with fail
    go_ret
    exact ⟨by rw [hz.out]; rfl, rfl⟩
  obtain ⟨z, hz0⟩ : ∃ z, Hid (z = decide (0 ∈ s.data.toList)) := ⟨_, Lib.hid rfl⟩
  rw [← hz0.out] at H0
  have hz : Hid (b = (!decide (47 ∈ s.data.toList) && (!s.toList == [46] && !s.toList == [46, 46] && !z))) := Lib.hid (by
    have e3 : (s.toList == [46]) = false := by simpa using hp
    have e4 : (s.toList == [46, 46]) = false := by simpa using hq
    rw [hb.out, hz0.out, e3, e4]
    rw [ByteArray.toList_eq] at e3 e4
    have e1 : decide (1 ≤ s.data.toList.length) = true := decide_eq_true (by omega)
    have e2 : decide (s.data.toList.length ≤ 255) = true := decide_eq_true (by omega)
    unfold mayNameL
    rw [e1, e2, e3, e4]
    rw [List.contains_eq_mem, List.contains_eq_mem]
    cases decide (0 ∈ s.data.toList) <;> cases decide (47 ∈ s.data.toList) <;> rfl)
  clear hb hz0
  go_wp2_with fail
  with_reducible refine (H4.out _).mono ?_
  rintro e w2 ⟨rfl, rfl⟩
  by_cases h47 : 47 ∈ s.data.toList
  · rw [decide_eq_true h47] at hz ⊢
    clear h47
    go_wp2_with fail
    go_ret
    exact ⟨by rw [hz.out]; rfl, rfl⟩
  · rw [decide_eq_false h47] at hz ⊢
    clear h47
    go_wp2_with fail
    with_reducible refine (H0.out _).mono ?_
    rintro e w3 ⟨rfl, rfl⟩
    go_wp2_with fail
    go_ret
    exact ⟨by rw [hz.out]; rfl, rfl⟩
end Go.Proofs.Ytglipljilcdboaa
/- Of the program: words that tell a kind, that open, that end; data; a name. Its conditions: what a tree keeps. -/
namespace Go.Proofs.Ytglipljilcdboaa
open Go.RowKit Go.Shelf
set_option linter.unusedVariables false
set_option linter.unusedSimpArgs false
section
open E
theorem tk_fin {W W' : World} {b : Nat} {vb vn vo : Value} {t' : TS} {D : List Nat} (hf : Fr W (b :: D) W') (hr : RowAt (fun _ => ⟨b, 0, 0⟩) 0 (rdP (.v vb) (.v vn) (.v vo) t'.pl t'.path false) W') (Bn Bo : Blk) (hne : t'.nodes ≠ []) (en : vn = .slice (some ⟨Bn.1, 0, none⟩) t'.nodes.length Bn.3) (eo : vo = .slice (some ⟨Bo.1, 0, none⟩) t'.opens.length Bo.3) (hn : RowAt (fun _ => Bn) 0 (rowN t'.nodes t'.nodes.length) W') (ho : RowAt (fun _ => Bo) 0 (oR t'.opens) W') (h1 : b ≠ Bn.1) (h2 : b ≠ Bo.1) (h3 : Bn.1 ≠ Bo.1) (m1 : Bn.1 ∈ D ∨ W.heap.size ≤ Bn.1) (m2 : Bo.1 ∈ D ∨ W.heap.size ≤ Bo.1) : TkPost W b vb D t' W' := by
  refine ⟨[Bn.1, Bo.1], ⟨vn, vo, hr, .inr ⟨hne, Bn, Bo, en, eo, hn, ho, rfl⟩, ?_⟩, hf, fun x hx => ?_⟩
  · simp [h1, h2, h3]
  · simp only [List.mem_cons, List.not_mem_nil, or_false] at hx
    rcases hx with rfl | rfl
    · exact m1
    · exact m2
theorem last_get {L : List Nd} (hne : L ≠ []) : L.getLast? = some (ndf L (addN 0 ((L.length : Int) - 1).toNat)) := by
  have hp := List.length_pos_iff.2 hne
  have e : addN 0 ((L.length : Int) - 1).toNat = L.length - 1 := by rw [addN_eq]; omega
  rw [e, ndf_at L _ (by omega), List.getLast?_eq_getElem?, List.getElem?_eq_getElem (by omega)]
theorem upd_last {L : List Nd} (hne : L ≠ []) (c : Nd) (v : List Value) (hv : v = [stv c.path, .int .i64 c.kind, stv c.data]) : ∀ i, i < L.length → updF (ndc L) (addN 0 ((L.length : Int) - 1).toNat) v i = ndc (L.dropLast ++ [c]) i := by
  intro i hi
  have e : addN 0 ((L.length : Int) - 1).toNat = L.length - 1 := by rw [addN_eq]; omega
  rw [e]
  unfold updF
  cases hb : Nat.beq i (L.length - 1) with
  | true =>
    have := Nat.eq_of_beq_eq_true hb
    subst this
    have : ndf (L.dropLast ++ [c]) (L.length - 1) = c := by
      unfold ndf
      rw [List.getD_eq_getElem?_getD, List.getElem?_append_right (by rw [List.length_dropLast]; omega), List.length_dropLast, Nat.sub_self]
      rfl
    simp only [cond_true, hv, ndc, this]
  | false =>
    have hne2 : i ≠ L.length - 1 := fun h => by rw [h, Nat.beq_refl] at hb; cases hb
    have : ndf (L.dropLast ++ [c]) i = ndf L i := by
      unfold ndf
      rw [List.getD_eq_getElem?_getD, List.getD_eq_getElem?_getD, List.getElem?_append_left (by rw [List.length_dropLast]; omega), List.getElem?_dropLast, if_pos (by omega)]
    simp only [cond_false, ndc, this]
theorem dl_len {α : Type} {L : List α} (hne : L ≠ []) (c : α) : (L.dropLast ++ [c]).length = L.length := by
  have hp := List.length_pos_iff.2 hne
  rw [List.length_append, List.length_dropLast, List.length_singleton]; omega
/-- The engine's places of the reader, the nodes, what is open. -/
def envT (b : Nat) (Bn Bo : Blk) : Env := fun i => if i = 0 then ⟨b, 0, 0⟩ else if i = 1 then Bn else Bo
theorem init3 {W : World} {b : Nat} {Bn Bo : Blk} {wr : List Nat} {args : List TV} {rows : List (Nat × Row)} (hok : okL args) (hi : args.all (fun x => x.ids.all (hasN (rows.map (·.1)))) = true) (hp : rows.all (fun p => (pids p.2.ps).all (hasN (rows.map (·.1)))) = true) (hrows : rows.map (·.1) = [0] ∨ rows.map (·.1) = [0, 1] ∨ rows.map (·.1) = [0, 2] ∨ rows.map (·.1) = [0, 1, 2])
    (hr : ∀ p ∈ rows, RowAt (envT b Bn Bo) p.1 p.2 W ∧ pok p.2.ps) (h1 : b ≠ Bn.1) (h2 : b ≠ Bo.1) (h3 : Bn.1 ≠ Bo.1) (hwr : ∀ k ∈ rows.map (·.1), (envT b Bn Bo k).1 ∈ wr) : Init W wr (envT b Bn Bo) args rows [] := by
  have hk : ∀ p ∈ rows, p.1 = 0 ∨ p.1 = 1 ∨ p.1 = 2 := fun p hp => by
    have hm : p.1 ∈ rows.map (·.1) := List.mem_map.2 ⟨p, hp, rfl⟩
    rcases hrows with e | e | e | e <;> rw [e] at hm <;> simp at hm <;> omega
  refine init_rw hok hi hp ?_ hr (fun p hp hw => ?_) (fun p hp q hq hn hw => ?_)
  · refine List.all_eq_true.2 fun p hp => Nat.ble_eq_true_of_le ?_
    have := hk p hp; omega
  · exact hwr _ (List.mem_map.2 ⟨p, hp, rfl⟩)
  · rcases hk p hp with e | e | e <;> rcases hk q hq with e' | e' | e' <;> rw [e, e'] <;> simp [envT] <;> first | exact (hn (e.trans e'.symm)).elim | assumption | exact Ne.symm ‹_›
theorem tk_open {W : World} {b : Nat} {vb : Value} {t : TS} {D : List Nat} (h : TkPre W b vb t D) (hne : t.nodes ≠ []) : ∃ Bn Bo : Blk, D = [Bn.1, Bo.1] ∧ b ≠ Bn.1 ∧ b ≠ Bo.1 ∧ Bn.1 ≠ Bo.1 ∧ Bn.2 = 0 ∧ Bo.2 = 0 ∧
    RowAt (envT b Bn Bo) 1 (rowN t.nodes t.nodes.length) W ∧ RowAt (envT b Bn Bo) 2 (oR t.opens) W ∧ RowAt (envT b Bn Bo) 0 (rdP (.v vb) (.v (.slice (some ⟨Bn.1, 0, none⟩) t.nodes.length Bn.3)) (.v (.slice (some ⟨Bo.1, 0, none⟩) t.opens.length Bo.3)) t.pl t.path false) W := by
  obtain ⟨vn, vo, h1, hv, hd⟩ := h
  rcases hv with ⟨e, _⟩ | ⟨_, Bn, Bo, rfl, rfl, h4, h5, rfl⟩
  · exact absurd e hne
  · simp only [List.nodup_cons, List.mem_cons, List.not_mem_nil, or_false, not_or, not_false_eq_true, List.nodup_nil, and_true] at hd
    exact ⟨Bn, Bo, rfl, hd.1.1, hd.1.2, hd.2, rowN_z h4, oR_z h5, rowAt_mv h4 rfl, rowAt_mv h5 rfl, rdP_mv h1 rfl rfl rfl rfl⟩
theorem env0 {b : Nat} {Bn Bo : Blk} : envT b Bn Bo 0 = ⟨b, 0, 0⟩ := rfl
theorem env1 {b : Nat} {Bn Bo : Blk} : envT b Bn Bo 1 = Bn := rfl
theorem env2 {b : Nat} {Bn Bo : Blk} : envT b Bn Bo 2 = Bo := rfl
set_option maxRecDepth 100000 in
/-- A word that tells a kind. -/
theorem follow_k (W : World) (b : Nat) (vb : Value) (hvb : vb.oneCell' = true) (t : TS) (D : List Nat) (h : TkPre W b vb t D) (hne : t.nodes ≠ []) (hn : t.nodes.length ≤ 256) (wd : List UInt8) (nx : Nat) (kd : Int) (hk : kd ≠ 0) (h2 : nx ≠ 2) (h16 : nx ≠ 16) : Calls Try.prog 54 #[.pointer (some ⟨b, 1, none⟩), wyV (wd, nx, kd)] W fun e W' => (∃ v, e = .returned v) ∧ TkPost W b vb D (followM t (wd, nx, kd)) W' := by
  obtain ⟨Bn, Bo, rfl, d1, d2, d3, z1, z2, r1, r2, r0⟩ := tk_open h hne
  have hfm : followM t (wd, nx, kd) = { t with pl := nx, nodes := setKind t.nodes kd } := by unfold followM; simp only; rw [if_neg h2, if_neg h16, if_neg hk]
  have hpos := List.length_pos_iff.2 hne
  rw [hfm, ← ptT_val (ρ := envT b Bn Bo) rfl]
  have r0' : RowAt (envT b Bn Bo) 0 (rdP (.v vb) (slN 1 t.nodes.length) (.v (.slice (some ⟨Bo.1, 0, none⟩) t.opens.length Bo.3)) t.pl t.path false) W := rdP_mv r0 rfl rfl (slN_val env1 z1) rfl
  refine At.calls (args := [ptT, wyT (wd, nx, kd)]) (rows := [(0, rdP (.v vb) (slN 1 t.nodes.length) (.v (.slice (some ⟨Bo.1, 0, none⟩) t.opens.length Bo.3)) t.pl t.path false), (1, rowN t.nodes t.nodes.length)]) (gl := []) (wr := [b, Bn.1]) (ρ := envT b Bn Bo) Try.func54 rfl rfl (init3 ⟨trivial, wyT_ok _, trivial⟩ rfl rfl (.inr (.inl rfl)) (fun p hp => ?_) d1 d2 d3 (by simp [envT])) rfl ?_
  · simp only [List.mem_cons, List.not_mem_nil, or_false] at hp
    rcases hp with rfl | rfl
    · exact ⟨r0', rdP_ok _ _ _ hvb trivial rfl⟩
    · exact ⟨r1, rowN_ok _ _⟩
  obtain ⟨ix, hix⟩ : ∃ ix, ix = addN 0 ((t.nodes.length : Int) - 1).toNat := ⟨_, rfl⟩
  have hlg := last_get hne
  have hsk : setKind t.nodes kd = t.nodes.dropLast ++ [{ (ndf t.nodes (addN 0 ((t.nodes.length : Int) - 1).toNat)) with kind := kd }] := by unfold setKind; rw [hlg]
  refine At.finR rfl [] trivial [.y, .n, .n] (rows2 := [(0, rdP (.v vb) (slN 1 t.nodes.length) (.v (.slice (some ⟨Bo.1, 0, none⟩) t.opens.length Bo.3)) nx t.path false), (1, ⟨[.fnc (updF (ndc t.nodes) (addN 0 ((t.nodes.length : Int) - 1).toNat) [stv (ndf t.nodes (addN 0 ((t.nodes.length : Int) - 1).toNat)).path, .int .i64 kd, stv (ndf t.nodes (addN 0 ((t.nodes.length : Int) - 1).toNat)).data]) 3 t.nodes.length], true, some (55, 3)⟩)]) (x := .tup []) (ob := [(kd != 0) = true, inI ((t.nodes.length : Int) - 1), 0 ≤ (t.nodes.length : Int) - 1 ∧ (t.nodes.length : Int) - 1 < (t.nodes.length : Int), addN 0 ((t.nodes.length : Int) - 1).toNat < t.nodes.length, ((nx : Int) == 2) = false, ((nx : Int) == 16) = false]) (by kernel_rfl) ⟨by simpa using hk, ⟨by omega, by omega⟩, ⟨by omega, by omega⟩, by rw [addN_eq]; omega, by simpa using (by omega : ¬ (nx : Int) = 2), by simpa using (by omega : ¬ (nx : Int) = 16), trivial⟩ fun ρ' w' hf he _ hq => ⟨⟨_, rfl⟩, ?_⟩
  have g0 := (hq _ (List.mem_cons_self ..)).1
  have g1 := (hq _ (List.mem_cons_of_mem _ (List.mem_singleton.2 rfl))).1
  have e0 := he 0 (by decide)
  have e1 := he 1 (by decide)
  have e2 := he 2 (by decide)
  refine tk_fin (vn := .slice (some ⟨Bn.1, 0, none⟩) t.nodes.length Bn.3) (vo := .slice (some ⟨Bo.1, 0, none⟩) t.opens.length Bo.3) (hf.widen (by simp)) ?_ Bn Bo ?_ ?_ rfl ?_ ?_ d1 d2 d3 (.inl (by simp)) (.inl (by simp))
  · exact rdP_mv g0 (by rw [e0]; rfl) rfl (slN_val (show ρ' 1 = Bn from e1) z1).symm rfl
  · show setKind t.nodes kd ≠ []
    rw [hsk]; simp
  · show _ = Value.slice (some ⟨Bn.1, 0, none⟩) (setKind t.nodes kd).length Bn.3
    rw [setKind_len]
  · show RowAt (fun _ => Bn) 0 (rowN (setKind t.nodes kd) (setKind t.nodes kd).length) w'
    have := row_eq (g := ndc (setKind t.nodes kd)) g1 (setKind_len t.nodes kd).symm (fun i hi => (upd_last hne { (ndf t.nodes (addN 0 ((t.nodes.length : Int) - 1).toNat)) with kind := kd } _ rfl i hi).trans (by rw [hsk]))
    exact rowAt_mv this (show Bn = ρ' 1 from e1.symm)
  · exact rowAt_mv (rowAt_fr r2 hf (by simp [envT]; exact ⟨Ne.symm d2, Ne.symm d3⟩)) rfl
set_option maxRecDepth 100000 in
/-- The end of a node. -/
theorem follow_16 (W : World) (b : Nat) (vb : Value) (hvb : vb.oneCell' = true) (t : TS) (D : List Nat) (h : TkPre W b vb t D) (hne : t.nodes ≠ []) (hop : t.opens ≠ []) (ho : t.opens.length ≤ 65) (wd : List UInt8) : Calls Try.prog 54 #[.pointer (some ⟨b, 1, none⟩), wyV (wd, 16, 0)] W fun e W' => (∃ v, e = .returned v) ∧ TkPost W b vb D (followM t (wd, 16, 0)) W' := by
  obtain ⟨Bn, Bo, rfl, d1, d2, d3, z1, z2, r1, r2, r0⟩ := tk_open h hne
  have hfm : followM t (wd, 16, 0) = { t with opens := t.opens.dropLast, pl := if t.opens.dropLast = [] then 17 else 16 } := rfl
  have hpos := List.length_pos_iff.2 hop
  rw [hfm, ← ptT_val (ρ := envT b Bn Bo) rfl]
  obtain ⟨c, hc⟩ : ∃ c, c = Bo.3 := ⟨_, rfl⟩
  have hcap : t.opens.length ≤ c := by
    obtain ⟨_, _, g3, _⟩ := r2.2.2.1 103 2 rfl
    rw [lst_fnc, flat_len (f := oF t.opens) (k := 2) t.opens.length (fun _ _ => rfl)] at g3
    rw [hc]
    exact Nat.le_of_mul_le_mul_right g3 (by decide)
  have hsv : ∀ (ρ : Env) (m : Nat), ρ 2 = Bo → (Lf.sl 2 0 0 2 m (some c)).val ρ = .slice (some ⟨Bo.1, 0, none⟩) m Bo.3 := fun ρ m e => by
    show Value.slice (some ⟨(ρ 2).1, (ρ 2).2 + (0 + 0 * 2), none⟩) m c = _
    rw [e, z2, hc]
  have r0' : RowAt (envT b Bn Bo) 0 (rdP (.v vb) (.v (.slice (some ⟨Bn.1, 0, none⟩) t.nodes.length Bn.3)) (.sl 2 0 0 2 t.opens.length (some c)) t.pl t.path false) W := rdP_mv r0 rfl rfl rfl (hsv _ _ env2)
  have r2' : RowAt (envT b Bn Bo) 2 ⟨(oR t.opens).ps, false, none⟩ W := ⟨r2.1, fun j v hv => ⟨(r2.2.1 j v hv).1, fun h => by cases h⟩, (fun e k h => by cases h), r2.2.2.2⟩
  refine At.calls (args := [ptT, wyT (wd, 16, 0)]) (rows := [(0, rdP (.v vb) (.v (.slice (some ⟨Bn.1, 0, none⟩) t.nodes.length Bn.3)) (.sl 2 0 0 2 t.opens.length (some c)) t.pl t.path false), (2, ⟨(oR t.opens).ps, false, none⟩)]) (gl := []) (wr := [b]) (ρ := envT b Bn Bo) Try.func54 rfl rfl ?_ rfl ?_
  · refine init_rw ⟨trivial, wyT_ok _, trivial⟩ rfl rfl rfl (fun a ha => ?_) (fun a ha hw => ?_) (fun a ha r hr hn hw => ?_)
    · simp only [List.mem_cons, List.not_mem_nil, or_false] at ha
      rcases ha with rfl | rfl
      · exact ⟨r0', rdP_ok _ _ _ hvb rfl trivial⟩
      · exact ⟨r2', o_ok _⟩
    · simp only [List.mem_cons, List.not_mem_nil, or_false] at ha
      rcases ha with rfl | rfl
      · simp [envT]
      · cases hw
    · simp only [List.mem_cons, List.not_mem_nil, or_false] at ha hr
      rcases ha with rfl | rfl <;> rcases hr with rfl | rfl
      · exact absurd rfl hn
      · exact d2
      · cases hw
      · cases hw
  have hm1 : ((t.opens.length : Int) - 1).toNat = t.opens.length - 1 := by omega
  have fin : ∀ (p : Nat) (ρ' : Env) (w' : World), Fr W [b] w' → (∀ r, r < 1000 → ρ' r = envT b Bn Bo r) → RowAt ρ' 0 (rdP (.v vb) (.v (.slice (some ⟨Bn.1, 0, none⟩) t.nodes.length Bn.3)) (.sl 2 0 0 2 ((t.opens.length : Int) - 1).toNat (some c)) p t.path false) w' → p = (if t.opens.dropLast = [] then 17 else 16) → TkPost W b vb [Bn.1, Bo.1] { t with opens := t.opens.dropLast, pl := if t.opens.dropLast = [] then 17 else 16 } w' := by
    intro p ρ' w' hf he g0 hp
    have e0 := he 0 (by decide)
    have e2 := he 2 (by decide)
    refine tk_fin (vn := .slice (some ⟨Bn.1, 0, none⟩) t.nodes.length Bn.3) (vo := .slice (some ⟨Bo.1, 0, none⟩) (t.opens.length - 1) Bo.3) (hf.widen (by simp)) ?_ Bn Bo hne rfl ?_ ?_ ?_ d1 d2 d3 (.inl (by simp)) (.inl (by simp))
    · subst hp
      rw [hm1] at g0
      exact rdP_mv g0 (by rw [e0]; rfl) rfl rfl (hsv _ _ e2).symm
    · show _ = Value.slice (some ⟨Bo.1, 0, none⟩) t.opens.dropLast.length Bo.3
      rw [List.length_dropLast]
    · exact rowAt_mv (rowAt_fr r1 hf (by simp [envT]; exact Ne.symm d1)) rfl
    · exact rowAt_mv (rowAt_fr (oR_short r2) hf (by simp [envT]; exact Ne.symm d2)) rfl
  have hob : all [inI ((t.opens.length : Int) - 1), 0 ≤ (t.opens.length : Int) - 1 ∧ (t.opens.length : Int) - 1 ≤ (c : Int)] := ⟨⟨by omega, by omega⟩, ⟨by omega, by omega⟩, trivial⟩
  by_cases h1 : t.opens.length = 1
  · have hd0 : t.opens.dropLast = [] := List.length_eq_zero_iff.1 (by rw [List.length_dropLast]; omega)
    exact At.finR rfl [] trivial [.d, .d, .d, .y] (rows2 := [(0, rdP (.v vb) (.v (.slice (some ⟨Bn.1, 0, none⟩) t.nodes.length Bn.3)) (.sl 2 0 0 2 ((t.opens.length : Int) - 1).toNat (some c)) 17 t.path false)]) (x := .tup []) (ob := [inI ((t.opens.length : Int) - 1), 0 ≤ (t.opens.length : Int) - 1 ∧ (t.opens.length : Int) - 1 ≤ (c : Int)] ++ [((((t.opens.length : Int) - 1).toNat : Int) == 0) = true]) (by kernel_rfl) (all_append.2 ⟨hob, by rw [hm1, h1]; rfl, trivial⟩) fun ρ' w' hf he _ hq => ⟨⟨_, rfl⟩, fin 17 ρ' w' hf he (hq _ (List.mem_singleton.2 rfl)).1 (by rw [if_pos hd0])⟩
  · have hd0 : t.opens.dropLast ≠ [] := fun e => by have := congrArg List.length e; rw [List.length_dropLast] at this; simp at this; omega
    exact At.finR rfl [] trivial [.d, .d, .d, .n] (rows2 := [(0, rdP (.v vb) (.v (.slice (some ⟨Bn.1, 0, none⟩) t.nodes.length Bn.3)) (.sl 2 0 0 2 ((t.opens.length : Int) - 1).toNat (some c)) 16 t.path false)]) (x := .tup []) (ob := [inI ((t.opens.length : Int) - 1), 0 ≤ (t.opens.length : Int) - 1 ∧ (t.opens.length : Int) - 1 ≤ (c : Int)] ++ [((((t.opens.length : Int) - 1).toNat : Int) == 0) = false]) (by kernel_rfl) (all_append.2 ⟨hob, by simpa using (by omega : ¬ (((t.opens.length : Int) - 1).toNat : Int) = 0), trivial⟩) fun ρ' w' hf he _ hq => ⟨⟨_, rfl⟩, fin 16 ρ' w' hf he (hq _ (List.mem_singleton.2 rfl)).1 (by rw [if_neg hd0])⟩
theorem o_app (O : List (List UInt8 × List UInt8)) (pa : List UInt8) : ∀ i, i < O.length + 1 → appF (oF O) O.length (fun q => chunkF [stv pa, stv []] 2 1 (addN 0 q)) i = oF (O ++ [(pa, [])]) i := by
  intro i hi
  by_cases h : i < O.length
  · rw [appF_lo h]
    show [stv (O.getD i o0).1, stv (O.getD i o0).2] = [stv ((O ++ [(pa, [])]).getD i o0).1, stv ((O ++ [(pa, [])]).getD i o0).2]
    rw [List.getD_eq_getElem?_getD, List.getD_eq_getElem?_getD, List.getElem?_append_left h]
  · obtain rfl : i = O.length := by omega
    rw [appF_hi (Nat.le_refl _), Nat.sub_self]
    show _ = [stv ((O ++ [(pa, [])]).getD O.length o0).1, stv ((O ++ [(pa, [])]).getD O.length o0).2]
    simp [chunkF, addN]
theorem o_one (pa : List UInt8) : ∀ i, i < 1 → chunkF [stv pa, stv []] 2 1 (addN 0 i) = oF [(pa, [])] i := by
  intro i hi
  obtain rfl : i = 0 := by omega
  rfl
set_option maxRecDepth 100000 in
/-- The beginning of a node. -/
theorem follow_2 (W : World) (b : Nat) (vb : Value) (hvb : vb.oneCell' = true) (t : TS) (D : List Nat) (h : TkPre W b vb t D) (hg : t.nodes = [] → t.opens = []) (hn : t.nodes.length ≤ 256) (ho : t.opens.length ≤ 65) (wd : List UInt8) : Calls Try.prog 54 #[.pointer (some ⟨b, 1, none⟩), wyV (wd, 2, 0)] W fun e W' => (∃ v, e = .returned v) ∧ TkPost W b vb D (followM t (wd, 2, 0)) W' := by
  have hfm : followM t (wd, 2, 0) = { t with pl := 2, nodes := t.nodes ++ [⟨t.path, 0, []⟩], opens := t.opens ++ [(t.path, [])] } := rfl
  rw [hfm]
  have hne' : t.nodes ++ [(⟨t.path, 0, []⟩ : Nd)] ≠ [] := by simp
  by_cases hne : t.nodes = []
  · have hop := hg hne
    obtain ⟨vn, vo, h1, hv, hd⟩ := h
    rcases hv with ⟨_, rfl, rfl, rfl⟩ | ⟨e, _⟩
    · rw [← ptT_val (ρ := fun _ => (⟨b, 0, 0⟩ : Blk)) rfl]
      refine At.calls (args := [ptT, wyT (wd, 2, 0)]) (rows := [(0, rdP (.v vb) (.v (.slice none 0 0)) (.v (.slice none 0 0)) t.pl t.path false)]) (gl := []) (wr := [b]) (ρ := fun _ => (⟨b, 0, 0⟩ : Blk)) Try.func54 rfl rfl ?_ rfl ?_
      · refine init_rw ⟨trivial, wyT_ok _, trivial⟩ rfl rfl rfl (fun a ha => ?_) (fun a ha hw => ?_) (fun a ha r hr hn hw => ?_)
        · obtain rfl := List.mem_singleton.1 ha; exact ⟨h1, rdP_ok _ _ _ hvb rfl rfl⟩
        · obtain rfl := List.mem_singleton.1 ha; simp
        · obtain rfl := List.mem_singleton.1 ha; obtain rfl := List.mem_singleton.1 hr; exact absurd rfl hn
      refine At.finD rfl [] trivial [.d, .d] (rows2 := [(0, rdP (.v vb) (slN 7011 1) (slO 8011 1) 2 t.path false), (7011, ⟨[.fnc (fun z => chunkF [stv t.path, .int .i64 0, stv []] 3 1 (addN 0 z)) 3 1], true, some (55, 3)⟩), (8011, ⟨[.fnc (fun z => chunkF [stv t.path, stv []] 2 1 (addN 0 z)) 2 1], true, some (103, 2)⟩)]) (x := .tup []) (ob := [(0 : Nat) < 1, (1 : Nat) ≤ 9223372036854775807, (40 : Nat) ≤ 140737488355328, (1 : Nat) ≤ 1, (0 : Nat) < 1, (1 : Nat) ≤ 9223372036854775807, (32 : Nat) ≤ 140737488355328, (1 : Nat) ≤ 1]) (by kernel_rfl) ⟨by decide, by decide, by decide, by decide, by decide, by decide, by decide, by decide, trivial⟩ fun ρ' w' hf he _ hq hd => ⟨⟨_, rfl⟩, ?_⟩
      have m0 : ∀ {x y z : Nat × Row}, x ∈ [x, y, z] := by simp
      have m1 : ∀ {x y z : Nat × Row}, y ∈ [x, y, z] := by simp
      have m2 : ∀ {x y z : Nat × Row}, z ∈ [x, y, z] := by simp
      have g0 := hq _ m0
      have g1 := hq _ m1
      have g2 := hq _ m2
      have e0 := he 0 (by decide)
      have k1 : RowAt ρ' 7011 (rowN [(⟨t.path, 0, []⟩ : Nd)] 1) w' := row_eq (n := 1) g1.1 rfl (root_row2 ⟨t.path, 0, []⟩)
      have k2 : RowAt ρ' 8011 (oR [(t.path, [])]) w' := row_eq (n := 1) g2.1 rfl (o_one t.path)
      have b1 : W.heap.size ≤ (ρ' 7011).1 := by
        rcases g1.2.2 rfl with h | h
        · exact h
        · exact absurd (List.mem_singleton.1 h) (fun h => (hd _ m0 _ m1 (show (0 : Nat) ≠ 7011 by decide) rfl) (by show (ρ' 0).1 = (ρ' 7011).1; rw [e0]; exact h.symm))
      have b2 : W.heap.size ≤ (ρ' 8011).1 := by
        rcases g2.2.2 rfl with h | h
        · exact h
        · exact absurd (List.mem_singleton.1 h) (fun h => (hd _ m0 _ m2 (show (0 : Nat) ≠ 8011 by decide) rfl) (by show (ρ' 0).1 = (ρ' 8011).1; rw [e0]; exact h.symm))
      refine tk_fin (vn := .slice (some ⟨(ρ' 7011).1, 0, none⟩) 1 (ρ' 7011).3) (vo := .slice (some ⟨(ρ' 8011).1, 0, none⟩) 1 (ρ' 8011).3) hf ?_ (ρ' 7011) (ρ' 8011) hne' ?_ ?_ ?_ ?_ ?_ ?_ ?_ (.inr b1) (.inr b2)
      · exact rdP_mv g0.1 (by rw [e0]) rfl (slN_val rfl (rowN_z k1)).symm (slO_val rfl (oR_z k2)).symm
      · show _ = Value.slice _ (t.nodes ++ [(⟨t.path, 0, []⟩ : Nd)]).length _
        rw [hne]; rfl
      · show _ = Value.slice _ (t.opens ++ [(t.path, [])]).length _
        rw [hop]; rfl
      · show RowAt _ 0 (rowN (t.nodes ++ [(⟨t.path, 0, []⟩ : Nd)]) (t.nodes ++ [(⟨t.path, 0, []⟩ : Nd)]).length) w'
        rw [hne]; exact rowAt_mv k1 rfl
      · show RowAt _ 0 (oR (t.opens ++ [(t.path, [])])) w'
        rw [hop]; exact rowAt_mv k2 rfl
      · have := h1.1; simp only at this; omega
      · have := h1.1; simp only at this; omega
      · exact hd _ m1 _ m2 (show (7011 : Nat) ≠ 8011 by decide) rfl
    · exact absurd hne e
  · obtain ⟨Bn, Bo, rfl, d1, d2, d3, z1, z2, r1, r2, r0⟩ := tk_open h hne
    rw [← ptT_val (ρ := envT b Bn Bo) rfl]
    have r0' : RowAt (envT b Bn Bo) 0 (rdP (.v vb) (slN 1 t.nodes.length) (slO 2 t.opens.length) t.pl t.path false) W := rdP_mv r0 rfl rfl (slN_val env1 z1) (slO_val env2 z2)
    refine At.calls (args := [ptT, wyT (wd, 2, 0)]) (rows := [(0, rdP (.v vb) (slN 1 t.nodes.length) (slO 2 t.opens.length) t.pl t.path false), (1, rowN t.nodes t.nodes.length), (2, oR t.opens)]) (gl := []) (wr := [b, Bn.1, Bo.1]) (ρ := envT b Bn Bo) Try.func54 rfl rfl (init3 ⟨trivial, wyT_ok _, trivial⟩ rfl rfl (.inr (.inr (.inr rfl))) (fun p hp => ?_) d1 d2 d3 (by simp [envT])) rfl ?_
    · simp only [List.mem_cons, List.not_mem_nil, or_false] at hp
      rcases hp with rfl | rfl | rfl
      · exact ⟨r0', rdP_ok _ _ _ hvb trivial trivial⟩
      · exact ⟨r1, rowN_ok _ _⟩
      · exact ⟨r2, o_ok _⟩
    refine At.finD rfl [] trivial [.d, .d] (rows2 := [(0, rdP (.v vb) (slN 7011 (t.nodes.length + 1)) (slO 8011 (t.opens.length + 1)) 2 t.path false), (7011, ⟨[.fnc (appF (ndc t.nodes) t.nodes.length fun z => chunkF [stv t.path, .int .i64 0, stv []] 3 1 (addN 0 z)) 3 (t.nodes.length + 1)], true, some (55, 3)⟩), (8011, ⟨[.fnc (appF (oF t.opens) t.opens.length fun z => chunkF [stv t.path, stv []] 2 1 (addN 0 z)) 2 (t.opens.length + 1)], true, some (103, 2)⟩)]) (x := .tup []) (ob := [t.nodes.length = t.nodes.length, t.nodes.length + 1 ≤ 9223372036854775807, (t.nodes.length + 1) * 40 ≤ 140737488355328, (1 : Nat) ≤ 1, t.opens.length = t.opens.length, t.opens.length + 1 ≤ 9223372036854775807, (t.opens.length + 1) * 32 ≤ 140737488355328, (1 : Nat) ≤ 1]) (by kernel_rfl) ⟨rfl, by omega, by omega, by decide, rfl, by omega, by omega, by decide, trivial⟩ fun ρ' w' hf he _ hq hd => ⟨⟨_, rfl⟩, ?_⟩
    have m0 : ∀ {x y z : Nat × Row}, x ∈ [x, y, z] := by simp
    have m1 : ∀ {x y z : Nat × Row}, y ∈ [x, y, z] := by simp
    have m2 : ∀ {x y z : Nat × Row}, z ∈ [x, y, z] := by simp
    have g0 := hq _ m0
    have g1 := hq _ m1
    have g2 := hq _ m2
    have e0 := he 0 (by decide)
    have k1 : RowAt ρ' 7011 (rowN (t.nodes ++ [(⟨t.path, 0, []⟩ : Nd)]) (t.nodes ++ [(⟨t.path, 0, []⟩ : Nd)]).length) w' := row_eq g1.1 (by simp) (row_step t.nodes ⟨t.path, 0, []⟩ t.nodes.length rfl)
    have k2 : RowAt ρ' 8011 (oR (t.opens ++ [(t.path, [])])) w' := row_eq g2.1 (by simp) (o_app t.opens t.path)
    have x1 := hd _ m0 _ m1 (show (0 : Nat) ≠ 7011 by decide) rfl
    have x2 := hd _ m0 _ m2 (show (0 : Nat) ≠ 8011 by decide) rfl
    simp only [e0] at x1 x2
    have b1 : (ρ' 7011).1 ∈ [Bn.1, Bo.1] ∨ W.heap.size ≤ (ρ' 7011).1 := by
      rcases g1.2.2 rfl with h | h
      · exact .inr h
      · exact .inl ((List.mem_cons.1 h).resolve_left (Ne.symm x1))
    have b2 : (ρ' 8011).1 ∈ [Bn.1, Bo.1] ∨ W.heap.size ≤ (ρ' 8011).1 := by
      rcases g2.2.2 rfl with h | h
      · exact .inr h
      · exact .inl ((List.mem_cons.1 h).resolve_left (Ne.symm x2))
    refine tk_fin (vn := .slice (some ⟨(ρ' 7011).1, 0, none⟩) (t.nodes.length + 1) (ρ' 7011).3) (vo := .slice (some ⟨(ρ' 8011).1, 0, none⟩) (t.opens.length + 1) (ρ' 8011).3) hf ?_ (ρ' 7011) (ρ' 8011) hne' ?_ ?_ (rowAt_mv k1 rfl) (rowAt_mv k2 rfl) x1 x2 (hd _ m1 _ m2 (show (7011 : Nat) ≠ 8011 by decide) rfl) b1 b2
    · exact rdP_mv g0.1 (by rw [e0]; rfl) rfl (slN_val rfl (rowN_z k1)).symm (slO_val rfl (oR_z k2)).symm
    · show _ = Value.slice _ (t.nodes ++ [(⟨t.path, 0, []⟩ : Nd)]).length _
      rw [List.length_append]; rfl
    · show _ = Value.slice _ (t.opens ++ [(t.path, [])]).length _
      rw [List.length_append]; rfl
end
end Go.Proofs.Ytglipljilcdboaa
/- Of the program: any word followed; data held; a name entered. Its conditions: what a tree keeps. -/
namespace Go.Proofs.Ytglipljilcdboaa
open Go.RowKit Go.Shelf
set_option linter.unusedVariables false
set_option linter.unusedSimpArgs false
section
open E
theorem good_ne {t : TS} (h : Good t) (h0 : t.pl ≠ 0) (h1 : t.pl ≠ 1) : t.nodes ≠ [] := fun e => by have := (h.fresh e).2.1; omega
theorem follow_any (W : World) (b : Nat) (vb : Value) (hvb : vb.oneCell' = true) (t : TS) (hg : Good t) (D : List Nat) (h : TkPre W b vb t D) (x : List UInt8 × Nat × Int) (hx : x ∈ waysL t.pl) : Calls Try.prog 54 #[.pointer (some ⟨b, 1, none⟩), wyV x] W fun e W' => (∃ v, e = .returned v) ∧ TkPost W b vb D (followM t x) W' := by
  obtain ⟨pl, path, nodes, opens⟩ := t
  have hnn : pl ≠ 0 → pl ≠ 1 → nodes ≠ [] := fun h0 h1 => good_ne hg h0 h1
  have hoo : pl ≠ 0 → pl ≠ 1 → pl ≠ 17 → opens ≠ [] := fun h0 h1 h17 e => h17 ((hg.some' (hnn h0 h1)).2 e)
  have hn : nodes.length ≤ 256 := hg.n
  have ho : opens.length ≤ 65 := hg.o
  simp only at hx
  have fn : ∀ (wd : List UInt8) (nx : Nat), nx ≠ 2 → nx ≠ 16 → _ := fun wd nx h2 h16 => follow_n W b vb hvb ⟨pl, path, nodes, opens⟩ D h wd nx h2 h16
  have fk : ∀ (wd : List UInt8) (nx : Nat) (kd : Int), kd ≠ 0 → nx ≠ 2 → nx ≠ 16 → pl ≠ 0 → pl ≠ 1 → _ := fun wd nx kd hk h2 h16 p0 p1 => follow_k W b vb hvb ⟨pl, path, nodes, opens⟩ D h (hnn p0 p1) hn wd nx kd hk h2 h16
  have f16 : ∀ (wd : List UInt8), pl ≠ 0 → pl ≠ 1 → pl ≠ 17 → _ := fun wd p0 p1 p17 => follow_16 W b vb hvb ⟨pl, path, nodes, opens⟩ D h (hnn p0 p1) (hoo p0 p1 p17) ho wd
  have f2 := follow_2 W b vb hvb ⟨pl, path, nodes, opens⟩ D h (fun e => (hg.fresh e).1) hn ho
  unfold waysL at hx
  split at hx
  · simp only [List.mem_singleton] at hx; subst hx; exact fn _ _ (by decide) (by decide)
  · simp only [List.mem_singleton] at hx; subst hx; exact f2 _
  · simp only [List.mem_singleton] at hx; subst hx; exact fn _ _ (by decide) (by decide)
  · simp only [List.mem_cons, List.not_mem_nil, or_false] at hx
    rcases hx with rfl | rfl | rfl
    · exact fk _ _ _ (by decide) (by decide) (by decide) (by decide) (by decide)
    · exact fk _ _ _ (by decide) (by decide) (by decide) (by decide) (by decide)
    · exact fk _ _ _ (by decide) (by decide) (by decide) (by decide) (by decide)
  · simp only [List.mem_cons, List.not_mem_nil, or_false] at hx
    rcases hx with rfl | rfl
    · exact fk _ _ _ (by decide) (by decide) (by decide) (by decide) (by decide)
    · exact fn _ _ (by decide) (by decide)
  · simp only [List.mem_singleton] at hx; subst hx; exact fn _ _ (by decide) (by decide)
  · simp only [List.mem_singleton] at hx; subst hx; exact fn _ _ (by decide) (by decide)
  · simp only [List.mem_singleton] at hx; subst hx; exact fn _ _ (by decide) (by decide)
  · simp only [List.mem_singleton] at hx; subst hx; exact f16 _ (by decide) (by decide) (by decide)
  · simp only [List.mem_cons, List.not_mem_nil, or_false] at hx
    rcases hx with rfl | rfl
    · exact fn _ _ (by decide) (by decide)
    · exact f16 _ (by decide) (by decide) (by decide)
  · simp only [List.mem_singleton] at hx; subst hx; exact fn _ _ (by decide) (by decide)
  · simp only [List.mem_singleton] at hx; subst hx; exact fn _ _ (by decide) (by decide)
  · simp only [List.mem_singleton] at hx; subst hx; exact fn _ _ (by decide) (by decide)
  · simp only [List.mem_singleton] at hx; subst hx; exact fn _ _ (by decide) (by decide)
  · cases hx
theorem ent53 : Enters Try.prog 53 := enters_of Try.func53 (by kernel_rfl) rfl
theorem ent52 : Enters Try.prog 52 := enters_of Try.func52 (by kernel_rfl) rfl
theorem ent58 : Enters Try.prog 58 := enters_of Try.func58 (by kernel_rfl) rfl
theorem ent57 : Enters Try.prog 57 := enters_of Try.func57 (by kernel_rfl) rfl
/-- What taking a text tells, and leaves. -/
def TkQ (W : World) (b : Nat) (vb : Value) (D : List Nat) (r : Option TS) : Ending → World → Prop := fun e W' => match r with
  | none => e = .returned (.bool false) ∧ Fr W (b :: D) W' ∧ ∃ vn vo pl pa, vn.oneCell' = true ∧ vo.oneCell' = true ∧ RowAt (fun _ => ⟨b, 0, 0⟩) 0 (rdP (.v vb) (.v vn) (.v vo) pl pa false) W'
  | some t => e = .returned (.bool true) ∧ TkPost W b vb D t W'
abbrev hIx (d : List UInt8) (z : Int) : Hint := pc 58 #[stv d, .int .u8 0] (.int .i64 z)
set_option maxRecDepth 100000 in
theorem hold_any (W : World) (b : Nat) (vb : Value) (hvb : vb.oneCell' = true) (t : TS) (hp : t.pl = 7 ∨ t.pl = 9) (hg : Good t) (D : List Nat) (h : TkPre W b vb t D) (d : List UInt8) : Calls Try.prog 53 #[.pointer (some ⟨b, 1, none⟩), stv d] W (TkQ W b vb D (holdM t d)) := by
  have hne : t.nodes ≠ [] := good_ne hg (by omega) (by omega)
  have hn := hg.n
  obtain ⟨Bn, Bo, rfl, d1, d2, d3, z1, z2, r1, r2, r0⟩ := tk_open h hne
  have hpos := List.length_pos_iff.2 hne
  obtain ⟨pl, path, L, O⟩ := t
  simp only at hp hne hn hpos r0 r1 r2
  rw [← ptT_val (ρ := envT b Bn Bo) rfl]
  have r0' : RowAt (envT b Bn Bo) 0 (rdP (.v vb) (slN 1 L.length) (.v (.slice (some ⟨Bo.1, 0, none⟩) O.length Bo.3)) pl path false) W := rdP_mv r0 rfl rfl (slN_val env1 z1) rfl
  refine At.calls (args := [ptT, .v (stv d)]) (rows := [(0, rdP (.v vb) (slN 1 L.length) (.v (.slice (some ⟨Bo.1, 0, none⟩) O.length Bo.3)) pl path false), (1, rowN L L.length)]) (gl := []) (wr := [b, Bn.1]) (ρ := envT b Bn Bo) Try.func53 rfl rfl (init3 ⟨trivial, rfl, trivial⟩ rfl rfl (.inr (.inl rfl)) (fun p hp => ?_) d1 d2 d3 (by simp [envT])) rfl ?_
  · simp only [List.mem_cons, List.not_mem_nil, or_false] at hp
    rcases hp with rfl | rfl
    · exact ⟨r0', rdP_ok _ _ _ hvb trivial rfl⟩
    · exact ⟨r1, rowN_ok _ _⟩
  have hlg := last_get hne
  have hsk : setData L d = L.dropLast ++ [{ (ndf L (addN 0 ((L.length : Int) - 1).toNat)) with data := d }] := by unfold setData; rw [hlg]
  have bad : ∀ (q : Nat) (ρ' : Env) (w' : World), Fr W [b, Bn.1] w' → (∀ r, r < 1000 → ρ' r = envT b Bn Bo r) → (∀ p ∈ [(0, rdP (.v vb) (slN 1 L.length) (.v (.slice (some ⟨Bo.1, 0, none⟩) O.length Bo.3)) q path false)], RowAt ρ' p.1 p.2 w') → TkQ W b vb [Bn.1, Bo.1] none (.returned (.bool false)) w' := fun q ρ' w' hf he hq => ⟨rfl, hf.widen (by simp), .slice (some ⟨Bn.1, 0, none⟩) L.length Bn.3, .slice (some ⟨Bo.1, 0, none⟩) O.length Bo.3, q, path, rfl, rfl, rdP_mv (hq _ (List.mem_singleton.2 rfl)) (he 0 (by decide)).symm rfl (slN_val (show ρ' 1 = Bn from he 1 (by decide)) z1).symm rfl⟩
  have good : ∀ (ρ' : Env) (w' : World), Fr W [b, Bn.1] w' → (∀ r, r < 1000 → ρ' r = envT b Bn Bo r) → (∀ p ∈ [(0, rdP (.v vb) (slN 1 L.length) (.v (.slice (some ⟨Bo.1, 0, none⟩) O.length Bo.3)) 10 path false), (1, (⟨[.fnc (updF (ndc L) (addN 0 ((L.length : Int) - 1).toNat) [stv (ndf L (addN 0 ((L.length : Int) - 1).toNat)).path, .int .i64 (ndf L (addN 0 ((L.length : Int) - 1).toNat)).kind, stv d]) 3 L.length], true, some (55, 3)⟩ : Row))], RowAt ρ' p.1 p.2 w') → TkQ W b vb [Bn.1, Bo.1] (some ⟨10, path, setData L d, O⟩) (.returned (.bool true)) w' := fun ρ' w' hf he hq => by
    have g0 := hq _ (List.mem_cons_self ..)
    have g1 := hq _ (List.mem_cons_of_mem _ (List.mem_singleton.2 rfl))
    have e0 := he 0 (by decide)
    have e1 := he 1 (by decide)
    refine ⟨rfl, tk_fin (vn := .slice (some ⟨Bn.1, 0, none⟩) L.length Bn.3) (vo := .slice (some ⟨Bo.1, 0, none⟩) O.length Bo.3) (hf.widen (by simp)) ?_ Bn Bo ?_ ?_ rfl ?_ ?_ d1 d2 d3 (.inl (by simp)) (.inl (by simp))⟩
    · exact rdP_mv g0 (by rw [e0]; rfl) rfl (slN_val (show ρ' 1 = Bn from e1) z1).symm rfl
    · show setData L d ≠ []
      rw [hsk]; simp
    · show _ = Value.slice (some ⟨Bn.1, 0, none⟩) (setData L d).length Bn.3
      rw [setData_len]
    · show RowAt (fun _ => Bn) 0 (rowN (setData L d) (setData L d).length) w'
      have := row_eq (g := ndc (setData L d)) g1 (setData_len L d).symm (fun i hi => (upd_last hne { (ndf L (addN 0 ((L.length : Int) - 1).toNat)) with data := d } _ rfl i hi).trans (by rw [hsk]))
      exact rowAt_mv this (show Bn = ρ' 1 from e1.symm)
    · exact rowAt_mv (rowAt_fr r2 hf (by simp [envT]; exact ⟨Ne.symm d2, Ne.symm d3⟩)) rfl
  have hob : all [inI ((L.length : Int) - 1), 0 ≤ (L.length : Int) - 1 ∧ (L.length : Int) - 1 < (L.length : Int), addN 0 ((L.length : Int) - 1).toNat < L.length] := ⟨⟨by omega, by omega⟩, ⟨by omega, by omega⟩, by rw [addN_eq]; omega, trivial⟩
  rcases hp with rfl | rfl
  · have e : holdM ⟨7, path, L, O⟩ d = some ⟨10, path, setData L d, O⟩ := by simp [holdM]
    rw [e]
    exact At.finR rfl [] trivial [.d] (rows2 := [(0, rdP (.v vb) (slN 1 L.length) (.v (.slice (some ⟨Bo.1, 0, none⟩) O.length Bo.3)) 10 path false), (1, ⟨[.fnc (updF (ndc L) (addN 0 ((L.length : Int) - 1).toNat) [stv (ndf L (addN 0 ((L.length : Int) - 1).toNat)).path, .int .i64 (ndf L (addN 0 ((L.length : Int) - 1).toNat)).kind, stv d]) 3 L.length], true, some (55, 3)⟩)]) (x := .v (.bool true)) (ob := [inI ((L.length : Int) - 1), 0 ≤ (L.length : Int) - 1 ∧ (L.length : Int) - 1 < (L.length : Int), addN 0 ((L.length : Int) - 1).toNat < L.length]) (by kernel_rfl) hob fun ρ' w' hf he _ hq => good ρ' w' hf he fun p hp => (hq p hp).1
  · by_cases h0 : d = []
    · have e : holdM ⟨9, path, L, O⟩ d = none := by simp [holdM, h0]
      rw [e]
      exact At.finR rfl [(2002008, .val (.v (.bool true)))] ⟨trivial, trivial⟩ [.d] (rows2 := [(0, rdP (.v vb) (slN 1 L.length) (.v (.slice (some ⟨Bo.1, 0, none⟩) O.length Bo.3)) 9 path false)]) (x := .v (.bool false)) (ob := [TV.v (.bool (d == [])) = TV.v (.bool true)]) (by kernel_rfl) ⟨by rw [h0]; rfl, trivial⟩ fun ρ' w' hf he _ hq => bad 9 ρ' w' hf he fun p hp => (hq p hp).1
    · have hd0 : (d == []) = false := by simpa using h0
      obtain ⟨z, hz⟩ : ∃ z, z = Lib.indexByte d 0 := ⟨_, rfl⟩
      have kI : HintOk Try.prog 2010 (hIx d z) := pc_ok ent58 (v := .int .i64 z) rfl (fun _ => rfl) fun w => (strings_IndexByte ⟨d.toArray⟩ 0 w).mono (by rintro e w' ⟨rfl, rfl⟩; exact ⟨by rw [hz]; rfl, Below.refl _ _⟩)
      have hge := ix_ge (l := d) (c := 0)
      rw [← hz] at hge
      by_cases hm : (0 : UInt8) ∈ d
      · have e : holdM ⟨9, path, L, O⟩ d = none := by simp [holdM, hm]
        rw [e]
        rw [decide_eq_true hm] at hge
        have hge' : decide (z ≥ 0) = true := hge
        exact At.finR rfl [(2002008, .val (.v (.bool false))), (2010, hIx d z)] ⟨trivial, kI, trivial⟩ [.y] (rows2 := [(0, rdP (.v vb) (slN 1 L.length) (.v (.slice (some ⟨Bo.1, 0, none⟩) O.length Bo.3)) 9 path false)]) (x := .v (.bool false)) (ob := [[TV.v (.bool (d == [])) = TV.v (.bool false)], qL (hIx d z), [decide (z ≥ 0) = true]].flatten) (by kernel_rfl) (all_flat ⟨⟨by rw [hd0], trivial⟩, all_qL _, ⟨hge', trivial⟩, trivial⟩) fun ρ' w' hf he _ hq => bad 9 ρ' w' hf he fun p hp => (hq p hp).1
      · have e : holdM ⟨9, path, L, O⟩ d = some ⟨10, path, setData L d, O⟩ := by simp [holdM, hm, h0]
        rw [e]
        rw [decide_eq_false hm] at hge
        have hge' : decide (z ≥ 0) = false := hge
        exact At.finR rfl [(2002008, .val (.v (.bool false))), (2010, hIx d z)] ⟨trivial, kI, trivial⟩ [.n] (rows2 := [(0, rdP (.v vb) (slN 1 L.length) (.v (.slice (some ⟨Bo.1, 0, none⟩) O.length Bo.3)) 10 path false), (1, ⟨[.fnc (updF (ndc L) (addN 0 ((L.length : Int) - 1).toNat) [stv (ndf L (addN 0 ((L.length : Int) - 1).toNat)).path, .int .i64 (ndf L (addN 0 ((L.length : Int) - 1).toNat)).kind, stv d]) 3 L.length], true, some (55, 3)⟩)]) (x := .v (.bool true)) (ob := [[TV.v (.bool (d == [])) = TV.v (.bool false)], qL (hIx d z), [decide (z ≥ 0) = false], [inI ((L.length : Int) - 1), 0 ≤ (L.length : Int) - 1 ∧ (L.length : Int) - 1 < (L.length : Int), addN 0 ((L.length : Int) - 1).toNat < L.length]].flatten) (by kernel_rfl) (all_flat ⟨⟨by rw [hd0], trivial⟩, all_qL _, ⟨hge', trivial⟩, hob, trivial⟩) fun ρ' w' hf he _ hq => good ρ' w' hf he fun p hp => (hq p hp).1
end
end Go.Proofs.Ytglipljilcdboaa
