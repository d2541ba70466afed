/- What a disk is behind so many writes, as DiskFuse makes them; plain facts, no condition. -/
import Derived.Test.YtpkhddnehhophaaCrashB
import Derived.Test.YtpkhddnehhophaaSE
namespace Go.Proofs.Ytpkhddnehhophaa
open Go.RowKit
set_option linter.unusedVariables false

theorem sector_list (l : List UInt8) (hl : l.length ≤ 1000000) (w : World) : Calls Try.prog 14 #[.string ⟨l.toArray⟩] w fun e w' => e = .returned (.string ⟨(pad l).toArray⟩) ∧ Fr (fun _ => False) w w' :=
  sector_walk ⟨l.toArray⟩ (by have : (⟨l.toArray⟩ : ByteArray).size = l.length := rfl; omega) w

def sj (j : Nat) : List UInt8 := pad [UInt8.ofNat j, 7]
def SF : List UInt8 := pad [102, 105, 114, 109]
def D2 : DS := ((DS.new 64).write 63 SF).flush
def Dk (k j : Nat) : DS := (List.range j).foldl (fun D i => D.write i (sj i)) { D2 with fuse := k }
theorem Dk_zero (k : Nat) : Dk k 0 = { D2 with fuse := k } := rfl
theorem Dk_succ (k j : Nat) : Dk k (j + 1) = (Dk k j).write j (sj j) := by simp [Dk, List.range_succ]
theorem Dk_facts (k : Nat) : ∀ j, j ≤ k → (Dk k j).n = 64 ∧ (Dk k j).down = false ∧ (Dk k j).fuse = (k : Int) - j ∧ (Dk k j).loose = (List.range j).map (fun i => (i, sj i)) ∧ (Dk k j).firm = D2.firm ∧ ∀ i, j ≤ i → (Dk k j).now i = D2.now i := by
  intro j
  induction j with
  | zero => intro _; rw [Dk_zero]; exact ⟨rfl, rfl, by simp, rfl, rfl, fun _ _ => rfl⟩
  | succ j ih =>
    intro hj
    obtain ⟨h1, h2, h3, h4, h5, h6⟩ := ih (by omega)
    rw [Dk_succ]
    refine ⟨h1, h2, ?_, ?_, h5, ?_⟩
    · show (if 0 < (Dk k j).fuse then (Dk k j).fuse - 1 else (Dk k j).fuse) = _
      rw [h3, if_pos (by omega)]
      omega
    · show (Dk k j).loose ++ [(j, sj j)] = _
      rw [h4, List.range_succ]
      simp
    · intro i hi
      show upd (Dk k j).now j (sj j) i = _
      unfold upd
      rw [if_neg (by omega)]
      exact h6 i (by omega)

theorem SE_z64 : SE = z64 := by decide
theorem D2_now63 : D2.now 63 = SF := by simp [D2, DS.flush, DS.write, upd]
theorem D2_now (i : Nat) (h : i ≠ 63) : D2.now i = SE := by rw [SE_z64]; simp [D2, DS.flush, DS.write, DS.new, upd, h]
theorem D2_firm (i : Nat) (h : i ≠ 63) : D2.firm i = SE := by rw [SE_z64]; simp [D2, DS.flush, DS.write, DS.new, Ne.symm h]

/-- The numbers below m. -/
def upTo (m : Nat) : List Int := (List.range m).map fun j : Nat => (j : Int)
theorem upTo_length (m : Nat) : (upTo m).length = m := by simp [upTo]
theorem marked_upTo (m j : Nat) (h : j < m) : marked (upTo m) j = true := by
  unfold marked upTo
  rw [List.any_eq_true]
  exact ⟨(j : Int), List.mem_map.2 ⟨j, List.mem_range.2 h, rfl⟩, by simp⟩

def D5 (k : Nat) (zs : List Int) : DS := DS.crash { Dk k k with down := true } zs
theorem D5_plain (k : Nat) (zs : List Int) (i : Nat) (hi : k ≤ i) : (D5 k zs).now i = D2.now i := by
  obtain ⟨_, _, _, h4, _, h6⟩ := Dk_facts k k (Nat.le_refl _)
  show (if ∃ x ∈ (Dk k k).loose, x.1 = i then _ else (Dk k k).now i) = _
  rw [if_neg, h6 i hi]
  rw [h4]
  rintro ⟨x, hx, he⟩
  simp at hx
  obtain ⟨a, ha, rfl⟩ := hx
  simp at he
  omega
theorem D5_all (k m : Nat) (hk : 0 < k) (hm : k ≤ m) : (D5 k (upTo m)).now 0 = sj 0 := by
  obtain ⟨_, _, _, h4, _, _⟩ := Dk_facts k k (Nat.le_refl _)
  have hlen : (Dk k k).loose.length = k := by rw [h4]; simp
  have hget : ∀ (x : Fin (Dk k k).loose.length), (Dk k k).loose[x] = (x.1, sj x.1) := by
    intro x
    have hx := x.2
    have hq : ∀ q, q < k → (Dk k k).loose[q]? = some (q, sj q) := by
      intro q hq
      rw [h4, List.getElem?_map, List.getElem?_range hq]
      rfl
    have h8 := hq x.1 (by omega)
    rw [List.getElem?_eq_getElem hx] at h8
    exact Option.some.inj h8
  show (if ∃ x ∈ (Dk k k).loose, x.1 = 0 then kept1 (Dk k k).loose (marked (upTo m)) (Dk k k).firm (List.finRange (Dk k k).loose.length) 0 else _) = _
  have h0 : (0, sj 0) ∈ (Dk k k).loose := by rw [h4]; exact List.mem_map.2 ⟨0, List.mem_range.2 hk, rfl⟩
  rw [if_pos ⟨(0, sj 0), h0, rfl⟩]
  refine kept1_one _ _ 0 _ _ _ ?_ (Or.inr ⟨⟨0, by omega⟩, List.mem_finRange _, marked_upTo m 0 (by omega), by rw [hget]⟩)
  intro x _ _ hx
  rw [hget] at hx ⊢
  simp at hx
  simp [hx]
theorem D5_nothing (k : Nat) (hk : 0 < k) : (D5 k []).now 0 = SE := by
  obtain ⟨_, _, _, h4, h5, _⟩ := Dk_facts k k (Nat.le_refl _)
  show (if ∃ x ∈ (Dk k k).loose, x.1 = 0 then kept1 (Dk k k).loose (marked []) (Dk k k).firm (List.finRange (Dk k k).loose.length) 0 else _) = _
  have h0 : (0, sj 0) ∈ (Dk k k).loose := by rw [h4]; exact List.mem_map.2 ⟨0, List.mem_range.2 hk, rfl⟩
  rw [if_pos ⟨(0, sj 0), h0, rfl⟩]
  rw [kept1_none _ _ _ _ _ (fun x _ h => by simp [marked] at h), h5]
  exact D2_firm 0 (by omega)

/-- An owned row of numbers reads as they are. -/
theorem ints_of_own {w : World} {base : Nat} {v : Value} {m : Nat} (h : w.ownsRow base 3 1 v m ((upTo m).map (Value.int .i64))) :
    ∃ p c, v = .slice p (upTo m).length c ∧ ∀ j (hj : j < (upTo m).length), ∃ g off, p = some ⟨g, off, none⟩ ∧ w.cell? ⟨g, off + j, none⟩ = some (.int .i64 (upTo m)[j]) := by
  rcases h.2 with ⟨rfl, h0⟩ | ⟨g, cap, cur, rfl, -, hg, hn, -, hc, htk⟩
  · subst h0; exact ⟨none, 0, rfl, fun j hj => absurd hj (by rw [upTo_length]; omega)⟩
  · refine ⟨some ⟨g, 0, none⟩, cap, by rw [upTo_length], fun j hj => ⟨g, 0, rfl, ?_⟩⟩
    have hj' : j < m := by rwa [upTo_length] at hj
    rw [Nat.zero_add, cell_of_row w g j cur _ _ hg]
    have h1 : ((upTo m).map (Value.int .i64))[j]? = some (.int .i64 (upTo m)[j]) := by
      rw [List.getElem?_map, List.getElem?_eq_getElem hj]; rfl
    rw [← htk, List.getElem?_take] at h1
    split at h1
    · simpa using h1
    · cases h1
theorem upTo_succ (m : Nat) : upTo (m + 1) = upTo m ++ [(m : Int)] := by simp [upTo, List.range_succ]
end Go.Proofs.Ytpkhddnehhophaa
