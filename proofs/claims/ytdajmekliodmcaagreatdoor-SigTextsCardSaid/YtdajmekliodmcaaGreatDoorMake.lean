/- The makers of package codec's iterators: what each iterator value hands out. -/
import Derived.Test.YtdajmekliodmcaaGreatDoorFirstB
namespace Go.Proofs.YtdajmekliodmcaaGreatDoor
open Go.RowKit Go.Shelf
set_option linter.unusedVariables false

/-- The value v is an iterator that hands out xs. -/
def Seq (v : Value) (xs : List Nat) (w : World) : Prop :=
  ∃ gf lb, v = .func (.func gf) #[] lb ∧ (∀ args w, (callFunc gf args).run Tryz.prog w = .ok (.enter gf args) w) ∧ SeqOK Tryz.prog gf lb xs w.heap.size w ∧ ∀ x ∈ xs, x < 256
theorem natsOf_lt (s : ByteArray) : ∀ x ∈ natsOf s, x < 256 := by
  intro x hx
  obtain ⟨c, -, rfl⟩ := List.mem_map.1 hx
  exact c.toNat_lt
theorem setAt_lt (set : ByteArray) (y : Nat) : setAt set y < 256 := by
  unfold setAt
  rw [List.getD_eq_getElem?_getD]
  cases h : (natsOf set)[y]? with
  | none => decide
  | some x => exact natsOf_lt set x (List.mem_of_getElem? h)
theorem hi_mem (f t : Nat) (ht8 : t ≤ 8) (l : List Nat) : ∀ x ∈ hiAll f t l, x < 256 := by
  have hp : 2 ^ t ≤ 2 ^ 8 := Nat.pow_le_pow_right (by decide) ht8
  have hm : ∀ x, x % 2 ^ t < 256 := fun x => Nat.lt_of_lt_of_le (Nat.mod_lt _ (Nat.two_pow_pos t)) hp
  have key : ∀ (l : List Nat) (s : Nat × Nat × List Nat), (∀ x ∈ s.2.2, x < 256) → ∀ x ∈ (l.foldl (hiStep f t) s).2.2, x < 256 := by
    intro l
    induction l with
    | nil => intro s hs; exact hs
    | cons y l ih =>
      intro s hs
      refine ih _ ?_
      intro x hx
      rcases List.mem_append.1 hx with h | h
      · exact hs x h
      · obtain ⟨i, -, rfl⟩ := List.mem_map.1 h
        exact hm _
  intro x hx
  rcases List.mem_append.1 hx with h | h
  · exact key l _ (by simp) x h
  · split at h
    · simp at h; rw [h]; exact hm _
    · cases h
theorem forward_mk (s : ByteArray) (w : World) (hs : s.size ≤ 9223372036854775807) :
    Calls Tryz.prog 106 #[.string s] w fun e w2 => (∃ v, e = .returned v ∧ Seq v (natsOf s) w2) ∧ Below w.heap.size w w2 := by
  have hB := Lib.hid (((Below.refl w.heap.size w).alloc (Nat.le_refl _) (.cells #[.string s] 9)))
  have hc := Lib.hid ((Boxed.new w 9 (.string s)).cell)
  go_enter Tryz.func106, Tryz.ntmps106
  go_wp2
  go_ret
  exact ⟨⟨_, rfl, 147, _, rfl, enters_of Tryz.func147 (by kernel_rfl) rfl, forward_seq s _ w.heap.size _ (by simp) (Nat.le_refl _) hc.out hs, natsOf_lt s⟩, hB.out⟩

theorem letters_mk (set : ByteArray) (v : Value) (ys : List Nat) (w : World) (hv : Seq v ys w) (hys : ∀ y ∈ ys, y < set.size) :
    Calls Tryz.prog 109 #[.string set, v] w fun e w2 => (∃ u, e = .returned u ∧ Seq u (ys.map (setAt set)) w2) ∧ Below w.heap.size w w2 := by
  obtain ⟨gf, lb, rfl, eg, hq, hx⟩ := hv
  have hB := ((Below.refl w.heap.size w).alloc (Nat.le_refl _) (.cells #[.string set] 9)).alloc (by simp) (.cells #[.func (.func gf) #[] lb] 114)
  have hc2 : Boxed ((w.alloc (.cells #[.string set] 9)).alloc (.cells #[.func (.func gf) #[] lb] 114)) w.heap.size 9 (.string set) := (Boxed.new w 9 _).alloc _
  have hc1 : Boxed ((w.alloc (.cells #[.string set] 9)).alloc (.cells #[.func (.func gf) #[] lb] 114)) (w.heap.size + 1) 114 (.func (.func gf) #[] lb) := by have := Boxed.new (w.alloc (.cells #[.string set] 9)) 114 (.func (.func gf) #[] lb); rwa [World.size_alloc] at this
  have hS := letters_seq set gf lb ys ((w.alloc (.cells #[.string set] 9)).alloc (.cells #[.func (.func gf) #[] lb] 114)).heap.size w.heap.size (w.heap.size + 1) w.heap.size _ (hq.later hB) (by simp; omega) (Nat.le_refl _) (by simp) (by simp; omega) hc1.cell hc2.cell eg hys
  have HS := Lib.hid hS
  have HB := Lib.hid hB
  clear hS hB hc1 hc2 hq
  go_enter Tryz.func109, Tryz.ntmps109
  go_wp2
  go_ret
  exact ⟨⟨_, rfl, 148, _, rfl, enters_of Tryz.func148 (by kernel_rfl) rfl, HS.out, fun x hx => by obtain ⟨y, -, rfl⟩ := List.mem_map.1 hx; exact setAt_lt set y⟩, HB.out⟩

theorem numbers_mk (set : ByteArray) (v : Value) (ys : List Nat) (w : World) (hv : Seq v ys w) (hset : ∀ c, (Lib.indexByte set.data.toList c).toNat < 256) :
    Calls Tryz.prog 105 #[.string set, v] w fun e w2 => (∃ u, e = .returned u ∧ Seq u (ys.map (numAt set)) w2) ∧ Below w.heap.size w w2 := by
  obtain ⟨gf, lb, rfl, eg, hq, hx⟩ := hv
  have hB := ((Below.refl w.heap.size w).alloc (Nat.le_refl _) (.cells #[.string set] 9)).alloc (by simp) (.cells #[.func (.func gf) #[] lb] 114)
  have hc2 : Boxed ((w.alloc (.cells #[.string set] 9)).alloc (.cells #[.func (.func gf) #[] lb] 114)) w.heap.size 9 (.string set) := (Boxed.new w 9 _).alloc _
  have hc1 : Boxed ((w.alloc (.cells #[.string set] 9)).alloc (.cells #[.func (.func gf) #[] lb] 114)) (w.heap.size + 1) 114 (.func (.func gf) #[] lb) := by have := Boxed.new (w.alloc (.cells #[.string set] 9)) 114 (.func (.func gf) #[] lb); rwa [World.size_alloc] at this
  have hS := numbers_seq set gf lb ys ((w.alloc (.cells #[.string set] 9)).alloc (.cells #[.func (.func gf) #[] lb] 114)).heap.size w.heap.size (w.heap.size + 1) w.heap.size _ (hq.later hB) (by simp; omega) (Nat.le_refl _) (by simp) (by simp; omega) hc1.cell hc2.cell eg hx hset
  have HS := Lib.hid hS
  have HB := Lib.hid hB
  clear hS hB hc1 hc2 hq
  go_enter Tryz.func105, Tryz.ntmps105
  go_wp2
  go_ret
  exact ⟨⟨_, rfl, 145, _, rfl, enters_of Tryz.func145 (by kernel_rfl) rfl, HS.out, fun x hx => by obtain ⟨y, -, rfl⟩ := List.mem_map.1 hx; exact hset _⟩, HB.out⟩

theorem highest_mk (f t : Nat) (ht1 : 1 ≤ t) (ht8 : t ≤ 8) (hf1 : 1 ≤ f) (hf8 : f ≤ 8) (v : Value) (ys : List Nat) (w : World) (hv : Seq v ys w) :
    Calls Tryz.prog 104 #[.int .i64 (f : Int), .int .i64 (t : Int), v] w fun e w2 => (∃ u, e = .returned u ∧ Seq u (hiAll f t ys) w2) ∧ Below w.heap.size w w2 := by
  obtain ⟨gf, lb, rfl, eg, hq, hx⟩ := hv
  obtain ⟨w3, hw3⟩ : ∃ w3, w3 = ((w.alloc (.cells #[.int .i64 (f : Int)] 3)).alloc (.cells #[.int .i64 (t : Int)] 3)).alloc (.cells #[.func (.func gf) #[] lb] 114) := ⟨_, rfl⟩
  have hB : Below w.heap.size w w3 := by rw [hw3]; exact (((Below.refl w.heap.size w).alloc (Nat.le_refl _) _).alloc (by simp) _).alloc (by simp; omega) _
  have hsz : w3.heap.size = w.heap.size + 3 := by rw [hw3]; simp
  have hcf : Boxed w3 w.heap.size 3 (.int .i64 (f : Int)) := by rw [hw3]; exact ((Boxed.new w 3 _).alloc _).alloc _
  have hct : Boxed w3 (w.heap.size + 1) 3 (.int .i64 (t : Int)) := by
    rw [hw3]
    have := Boxed.new (w.alloc (.cells #[.int .i64 (f : Int)] 3)) 3 (.int .i64 (t : Int))
    rw [World.size_alloc] at this
    exact this.alloc _
  have hcl : Boxed w3 (w.heap.size + 2) 114 (.func (.func gf) #[] lb) := by
    rw [hw3]
    have := Boxed.new ((w.alloc (.cells #[.int .i64 (f : Int)] 3)).alloc (.cells #[.int .i64 (t : Int)] 3)) 114 (.func (.func gf) #[] lb)
    rwa [World.size_alloc, World.size_alloc] at this
  have hS := highest_seq f t gf lb ys w3.heap.size w.heap.size (w.heap.size + 1) (w.heap.size + 2) w.heap.size w3 (hq.later hB) (by omega) (Nat.le_refl _) (by omega) (by omega) (by omega) ht1 ht8 hf1 hf8 hct.cell hcl.cell hcf.cell eg hx
  rw [hw3] at hS hB
  have HS := Lib.hid hS
  have HB := Lib.hid hB
  clear hS hB hcf hct hcl hq hw3 hsz
  go_enter Tryz.func104, Tryz.ntmps104
  go_wp2
  go_ret
  exact ⟨⟨_, rfl, 144, _, rfl, enters_of Tryz.func144 (by kernel_rfl) rfl, HS.out, hi_mem f t ht8 ys⟩, HB.out⟩

theorem first_mk (n : Nat) (v : Value) (xs : List Nat) (w : World) (hv : Seq v xs w) (hn : n ≤ 1099511627776) :
    Calls Tryz.prog 103 #[.int .i64 (n : Int), v] w fun e w2 => e = .returned (.string ⟨((xs.take n).map UInt8.ofNat).toArray⟩) ∧ Below w.heap.size w w2 := by
  obtain ⟨gf, lb, rfl, eg, hq, hx⟩ := hv
  exact first_any n gf lb xs w.heap.size w w hq (Below.refl _ w) hn eg hx
theorem first_res (n : Nat) (v : Value) (xs : List Nat) (w : World) (hv : Seq v xs w) (hn : n ≤ 1099511627776) (R : List UInt8) (hR : (xs.take n).map UInt8.ofNat = R) :
    Calls Tryz.prog 103 #[.int .i64 (n : Int), v] w fun e w2 => e = .returned (.string ⟨R.toArray⟩) ∧ Below w.heap.size w w2 := by
  subst hR
  exact first_mk n v xs w hv hn
theorem below_then {a b c : World} (h : Below a.heap.size a b) (k : Below b.heap.size b c) : Below a.heap.size a c := h.trans (k.mono h.size)
end Go.Proofs.YtdajmekliodmcaaGreatDoor
