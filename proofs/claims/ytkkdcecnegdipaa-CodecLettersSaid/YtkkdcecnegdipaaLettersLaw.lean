/- The law CodecLetters: what it asks is so, whatever it is given. -/
import Derived.Test.YtkkdcecnegdipaaLettersWalk
import Derived.Test.YtkkdcecnegdipaaLettersNil
namespace Go.Proofs.Ytkkdcecnegdipaa
open Go.RowKit Go.Shelf
set_option linter.unusedVariables false
theorem getD_bytes (s : ByteArray) (k : Nat) (h : k < s.size) : s.data.toList.getD k 0 = s[k] := by
  rw [List.getD_eq_getElem?_getD, List.getElem?_eq_getElem (by simpa using h)]
  rfl
theorem extract_list (s : ByteArray) (n : Nat) : (s.extract 0 n).data.toList = s.data.toList.take n := by
  simp [ByteArray.data_extract]
theorem take_getD (l : List UInt8) (n i : Nat) (h : i < n) : (l.take n).getD i 0 = l.getD i 0 := by
  rw [List.getD_eq_getElem?_getD, List.getD_eq_getElem?_getD, List.getElem?_take_of_lt h]
theorem letters_law (s t : ByteArray) (hs0 : s.size ≤ 9223372036854775807) (ht0 : t.size ≤ 9223372036854775807) (w : World) : Calls Try.prog 5 #[.string s, .string t] w fun e w2 => e = .returned (.bool true) ∧ Below w.heap.size w w2 := by
  obtain ⟨n, hn⟩ : ∃ n, n = min (min s.size t.size) 40 := ⟨_, rfl⟩
  by_cases h0 : n = 0
  · exact letters_nil s t (by omega) w
  have lS : s.data.toList.length = s.size := by simp
  have lT : t.data.toList.length = t.size := by simp
  obtain ⟨la, hla⟩ : ∃ la, la = s.data.toList.take n := ⟨_, rfl⟩
  obtain ⟨lb, hlb⟩ : ∃ lb, lb = t.data.toList.take n := ⟨_, rfl⟩
  have zla : la.length = n := by rw [hla, List.length_take, lS]; omega
  have zlb : lb.length = n := by rw [hlb, List.length_take, lT]; omega
  have hab : la.length = lb.length := by rw [zla, zlb]
  have eS : (s.extract 0 n).data.toList = la := by rw [hla, extract_list]
  have eT : (t.extract 0 n).data.toList = lb := by rw [hlb, extract_list]
  have zS : (s.extract 0 n).size ≤ 549755813888 := by
    show (s.extract 0 n).data.size ≤ _
    rw [← Array.length_toList, eS, zla]; omega
  have zT : (t.extract 0 n).size ≤ 549755813888 := by
    show (t.extract 0 n).data.size ≤ _
    rw [← Array.length_toList, eT, zlb]; omega
  have tA : (⟨(b32 la).toArray⟩ : ByteArray).toList = b32 la := by rw [toList_data]
  have tB : (⟨(b32 lb).toArray⟩ : ByteArray).toList = b32 lb := by rw [toList_data]
  have zA : (⟨(b32 la).toArray⟩ : ByteArray).size = many32 n := by
    show (b32 la).toArray.size = _
    rw [List.size_toArray, b32_length, zla]
  have zB : (⟨(b32 lb).toArray⟩ : ByteArray).size = many32 n := by
    show (b32 lb).toArray.size = _
    rw [List.size_toArray, b32_length, zlb]
  have hm : 0 < many32 n ∧ many32 n ≤ 64 := by unfold many32; omega
  have getA : ∀ i (h : i < (⟨(b32 la).toArray⟩ : ByteArray).size), (⟨(b32 la).toArray⟩ : ByteArray)[i] = (b32 la).getD i 0 := fun i h => by
    rw [← getD_bytes _ _ h]
  refine letters_walk s t ⟨(b32 la).toArray⟩ ⟨(b32 lb).toArray⟩ n hn (by omega) w _ rfl _ rfl la lb (Lib.hid zla) (Lib.hid hab) (Lib.hid fun i h h2 => ?_) (Lib.hid fun i h h2 => ?_) (Lib.hid ?_) (Lib.hid ?_) (by rw [zA]; exact hm.1) (by rw [zA]; exact hm.2) (by rw [zA, zB]) (Lib.hid fun i h => ?_) (Lib.hid fun h h2 => ?_) (Lib.hid fun w => ?_) (Lib.hid fun w => ?_)
  · rw [hla, take_getD _ _ _ h, getD_bytes _ _ h2]
  · rw [hlb, take_getD _ _ _ h, getD_bytes _ _ h2]
  · rw [tA, tB]; exact b32_less la lb hab
  · rw [tA, tB]; exact b32_eq la lb hab
  · rw [getA i h]
    have hm : (b32 la).getD i 0 ∈ enc32 (num la) (many32 la.length) := by
      have hi : i < (b32 la).length := by rw [b32_length, zla, ← zA]; exact h
      rw [List.getD_eq_getElem?_getD, List.getElem?_eq_getElem hi]
      exact List.getElem_mem hi
    exact enc32_mem _ _ _ hm
  · rw [getA _ h, zA]
    have e := enc32_last (num la) (many32 n) hm.1
    have e2 := num_low la
    rw [hla, take_getD _ _ _ (by omega), getD_bytes _ _ h2, ← hla] at e2
    rw [← e2, ← e]
    unfold b32
    rw [zla]
  · have h := base32_any (s.extract 0 n) w zS
    rw [eS] at h
    exact h
  · have h := base32_any (t.extract 0 n) w zT
    rw [eT] at h
    exact h
end Go.Proofs.Ytkkdcecnegdipaa
