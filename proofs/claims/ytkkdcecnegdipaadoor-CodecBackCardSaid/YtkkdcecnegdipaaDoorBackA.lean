/- The law CodecBack: what it asks at long and at empty texts, and what its walk needs. -/
import Derived.Test.YtkkdcecnegdipaaDoorG64
import Derived.Test.YtkkdcecnegdipaaDoorAwake
namespace Go.Proofs.YtkkdcecnegdipaaDoor
open Go.RowKit Go.Shelf
set_option linter.unusedVariables false

theorem str_conv (w : World) (s : ByteArray) : ∃ cap row, (Go.convert 9 33 (.string s)).run Tryd.prog w = .ok (.slice (some ⟨w.heap.size, 0, none⟩) s.size cap) (w.alloc (.cells row 5 (row.size, row.size + 1))).drew ∧ s.size ≤ cap ∧ s.size ≤ row.size ∧ ∀ j, j < s.size → row[j]? = some (.int .u8 ((s.data.toList.getD j 0).toNat : Int)) := by
  have h := run_bytes_of_string (P := Tryd.prog) w 9 33 5 s Tryd.underlying9 Tryd.underlying33 Tryd.underlying5
  refine ⟨grownCap w s.size 0 5, bytesRow s (grownCap w s.size 0 5), h, grownCap_ge w s.size 0 5, ?_, ?_⟩
  · unfold bytesRow
    rw [Array.size_append, Array.size_map]
    have : s.data.size = s.size := rfl
    omega
  · intro j hj
    unfold bytesRow
    have h1 : (Array.map (fun b : UInt8 => Value.int .u8 (b.toNat : Int)) s.data).size = s.size := by rw [Array.size_map]; rfl
    rw [Array.getElem?_append_left (by rw [h1]; exact hj), Array.getElem?_map]
    have h2 : s.data[j]? = some (s.data.toList.getD j 0) := by
      rw [List.getD_eq_getElem?_getD, ← Array.getElem?_toList, List.getElem?_eq_getElem (show j < s.data.toList.length from hj)]
      rfl
    rw [h2]; rfl
theorem row_frozen (w : World) (g j : Nat) (cs : Array Value) (t : TypeId) (z : Nat) (hg : w.heap[g]? = some (.cells cs t (z, z + 1))) (hj : j < z) : w.frozen? ⟨g, j, none⟩ = false := by
  unfold World.frozen?
  simp [hg]
  omega
theorem conv_row (w : World) (g cap m : Nat) (row : Array Value) (t : TypeId) (fr : Nat × Nat) (l : List UInt8) (hg : w.heap[g]? = some (.cells row t fr)) (hl : l.length = m) (hrow : ∀ i (h : i < l.length), row[i]? = some (.int .u8 (l[i].toNat : Int))) :
    (Go.convert 33 9 (.slice (some ⟨g, 0, none⟩) m cap)).run Tryd.prog w = .ok (.string ⟨l.toArray⟩) w := by
  subst hl
  exact run_convert_bytes_back (P := Tryd.prog) w 33 9 5 ⟨g, 0, none⟩ cap l Tryd.underlying33 Tryd.underlying5 Tryd.underlying9 (fun j hj => by
    rw [show (⟨g, 0, none⟩ : Addr).add j = ⟨g, j, none⟩ by unfold Addr.add; split <;> simp_all, Lib.cell_of_heap hg, hrow j hj])
theorem told_cases (B2 B s : ByteArray) (k : Nat) (hB : B.data.toList = b32 s.data.toList) : ∃ X is, told (get32 B2.data.toList k) = .tuple #[.string X, .bool is] ∧ (B2 = B ∨ is = false ∨ X ≠ s) := by
  cases hg : get32 B2.data.toList k with
  | none => exact ⟨_, _, rfl, .inr (.inl rfl)⟩
  | some x =>
    refine ⟨_, _, rfl, ?_⟩
    by_cases e : (⟨x.toArray⟩ : ByteArray) = s
    · obtain ⟨-, -, h3⟩ := get32_some hg
      refine .inl (ByteArray.ext (Array.toList_inj.1 ?_))
      rw [hB, ← h3, ← e]
    · exact .inr (.inr e)
theorem same_bytes (s : ByteArray) : (⟨s.data.toList.toArray⟩ : ByteArray) = s := ByteArray.ext (by simp)

theorem back_big (s : ByteArray) (v u : Value) (h : s.size > 64) (hs : s.size ≤ 9223372036854775807) (w : World) :
    Calls Tryd.prog 4 #[.string s, v, u] w fun e w' => e = .returned (.bool true) ∧ Below w.heap.size w w' := by
  have hg : (s.size : Int) > 64 := by omega
  go_enter Tryd.func4, Tryd.ntmps4
  go_wp2_with (go_at_call 6; refine (awake_ok _).mono ?_; rintro e w1 ⟨rfl, hb⟩)
  go_ret
  exact ⟨rfl, hb⟩

set_option maxRecDepth 100000 in
set_option maxHeartbeats 1000000 in
theorem back_nil (v u : Value) (w : World) :
    Calls Tryd.prog 4 #[.string ⟨#[]⟩, v, u] w fun e w' => e = .returned (.bool true) ∧ Below w.heap.size w w' := by
  have C1 : ∀ w, Calls Tryd.prog 13 #[.string ⟨#[]⟩] w fun e w2 => e = .returned (.string ⟨#[]⟩) ∧ Below w.heap.size w w2 := fun w => by
    have h := hex_any ⟨#[]⟩ w (by decide)
    exact h
  have C2 : ∀ w, Calls Tryd.prog 15 #[.string ⟨#[]⟩] w fun e w2 => e = .returned (.string ⟨#[]⟩) ∧ Below w.heap.size w w2 := fun w => by
    have h := base32_any ⟨#[]⟩ w (by decide)
    rwa [show (b32 (⟨#[]⟩ : ByteArray).data.toList).toArray = #[] by decide +kernel] at h
  have C3 : ∀ w, Calls Tryd.prog 17 #[.string ⟨#[]⟩] w fun e w2 => e = .returned (.string ⟨#[]⟩) ∧ Below w.heap.size w w2 := fun w => by
    have h := base64_any ⟨#[]⟩ w (by decide)
    rwa [show (b64 (⟨#[]⟩ : ByteArray).data.toList).toArray = #[] by decide +kernel] at h
  have G1 : ∀ w, Calls Tryd.prog 7 #[.string ⟨#[]⟩] w fun e w2 => e = .returned (.tuple #[.string ⟨#[]⟩, .bool true]) ∧ Below w.heap.size w w2 := fun w => by
    have h := getHex_any ⟨#[]⟩ w (by decide)
    rwa [show getHex (⟨#[]⟩ : ByteArray).data.toList = some [] by decide +kernel] at h
  have G2 : ∀ w, Calls Tryd.prog 8 #[.string ⟨#[]⟩, .int .i64 0] w fun e w2 => e = .returned (.tuple #[.string ⟨#[]⟩, .bool true]) ∧ Below w.heap.size w w2 := fun w => by
    have h := getBase32_in ⟨#[]⟩ 0 (by decide) w (by decide)
    rwa [show get32 (⟨#[]⟩ : ByteArray).data.toList 0 = some [] by decide +kernel] at h
  have G3 : ∀ w, Calls Tryd.prog 9 #[.string ⟨#[]⟩] w fun e w2 => e = .returned (.tuple #[.string ⟨#[]⟩, .bool true]) ∧ Below w.heap.size w w2 := fun w => by
    have h := getBase64_any ⟨#[]⟩ w (by decide)
    rwa [show get64 (⟨#[]⟩ : ByteArray).data.toList = some [] by decide +kernel] at h
  have bb : Below w.heap.size w w := Below.refl _ w
  go_enter Tryd.func4, Tryd.ntmps4
  go_wp2_with (first
    | (go_at_call 13; refine (C1 _).mono ?_; rintro e w1 ⟨rfl, b1⟩; replace bb := below_then bb b1; clear b1)
    | (go_at_call 15; refine (C2 _).mono ?_; rintro e w1 ⟨rfl, b1⟩; replace bb := below_then bb b1; clear b1)
    | (go_at_call 17; refine (C3 _).mono ?_; rintro e w1 ⟨rfl, b1⟩; replace bb := below_then bb b1; clear b1)
    | (go_at_call 7; refine (G1 _).mono ?_; rintro e w1 ⟨rfl, b1⟩; replace bb := below_then bb b1; clear b1)
    | (go_at_call 8; refine (G2 _).mono ?_; rintro e w1 ⟨rfl, b1⟩; replace bb := below_then bb b1; clear b1)
    | (go_at_call 9; refine (G3 _).mono ?_; rintro e w1 ⟨rfl, b1⟩; replace bb := below_then bb b1; clear b1)
    | (go_at_call 6; refine (awake_ok _).mono ?_; rintro e w1 ⟨rfl, b1⟩; replace bb := below_then bb b1; clear b1))
  go_ret
  exact ⟨rfl, bb⟩
end Go.Proofs.YtkkdcecnegdipaaDoor
