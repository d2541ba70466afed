/- Several texts, one behind the other; each says by itself what it proves, and on what conditions. -/
import Derived.Test.YtgbaaiedpiiepaaDoorV01
import Derived.Test.YtgbaaiedpiiepaaDoorProg
import Derived.WalkKit
import Derived.Lib.Hide
import Derived.Shelf.Abstract
import Derived.Deep.RegionLaw
import Derived.BigRegion
import Derived.RangeFuncBox
import Derived.Shelf.Strings.Builder1
import Derived.Shelf.Strings.Builder2
import Derived.Shelf.Small.Strs
import Derived.Shelf.Small.Wraps
import Derived.Shelf.Strings.BuilderF
import Derived.Shelf.Strings.BuilderK
import Derived.Shelf.Strings.Builder2Cap
import Derived.Shelf.Strings.Search1
import Derived.Shelf.Strings.Search2
import Derived.Shelf.Strings.Search3
import Derived.Shelf.Strings.Cut
import Derived.Shelf.LaysM
import Derived.Shelf.Strings.Shaped
import Derived.Shelf.Strings.LastIndex
import Derived.Shelf.Strings.Prefix
import Derived.Shelf.Bits.Mul64
import Derived.Shelf.Strings.Repeat
import Derived.Shelf.Unicode.DecodeSlow
/- What the document asks of texts: whether one has a byte, how many names, the last name, a name in a directory, which names may be. Its condition: a length that fits. -/
namespace Go.Proofs.YtgbaaiedpiiepaaDoor
open Go.RowKit Go.Shelf
set_option linter.unusedVariables false
set_option linter.unusedSimpArgs false
theorem take_snoc (s : ByteArray) (k : Nat) (h : k < s.size) : s.data.toList.take (k + 1) = s.data.toList.take k ++ [s[k]] := by
  have h2 : k < s.data.toList.length := h
  rw [List.take_add_one, List.getElem?_eq_getElem h2]
  rfl
theorem toNat_ne {a b : UInt8} (h : ¬ a = b) : ¬ (a.toNat : Int) = (b.toNat : Int) := fun e => h (UInt8.toNat_inj.1 (by omega))
set_option maxRecDepth 100000 in
set_option maxHeartbeats 1000000 in
theorem has_any (s : ByteArray) (c : UInt8) (hs : s.size ≤ 9223372036854775807) (w : World) : Calls Tryd.prog 41 #[.string s, .int .u8 (c.toNat : Int)] w fun e w' => e = .returned (.bool (decide (c ∈ s.data.toList))) ∧ w' = w := by
  obtain ⟨b, hb⟩ : ∃ b, Hid (b = decide (c ∈ s.data.toList)) := ⟨_, Lib.hid rfl⟩
  rw [← hb.out]
  have hsl : s.data.toList.length = s.size := rfl
  go_enter Tryd.func41, Tryd.ntmps41
  go_wp2
  go_loopw [5] (fun i wr => ∃ k : Nat, k ≤ s.size ∧ i = .int .i64 k ∧ c ∉ s.data.toList.take k ∧ wr = w) (fun i _ => s.size - (intOf i).toNat)
  case atStart => exact ⟨0, Nat.zero_le _, rfl, by simp, rfl⟩
  case round =>
    obtain ⟨k, hk, rfl, hno, rfl⟩ := hrel
    have HNO := Lib.hid hno
    clear hno
    by_cases hlt : k < s.size
    · have hltI : (k : Int) < (s.size : Int) := by omega
      by_cases he : s[k] = c
      · have heI : (s[k].toNat : Int) = (c.toNat : Int) := by rw [he]
        have hz : Hid (b = true) := Lib.hid (by
          rw [hb.out, decide_eq_true_eq, ← he]
          exact List.getElem_mem (l := s.data.toList) hlt)
        clear he
        go_wp2
        go_ret
        exact ⟨by rw [hz.out]; rfl, rfl⟩
      · have heI := toNat_ne he
        have hst : Hid (c ∉ s.data.toList.take (k + 1)) := Lib.hid (by
          rw [take_snoc s k hlt, List.mem_append]
          intro h
          rcases h with h | h
          · exact HNO.out h
          · exact he (List.mem_singleton.1 h).symm)
        clear he
        go_wp2
        go_roundw
        case rel => exact ⟨k + 1, by omega, by first | rfl | simp | go_num, hst.out, trivial⟩
        case measure => simp [intOf]; omega
    · have hltI : ¬ (k : Int) < (s.size : Int) := by omega
      have hz : Hid (b = false) := Lib.hid (by
        rw [hb.out]
        have h := HNO.out
        rw [List.take_of_length_le (by omega)] at h
        exact decide_eq_false h)
      go_wp2
      go_ret
      exact ⟨by rw [hz.out]; rfl, rfl⟩
set_option maxRecDepth 100000 in
set_option maxHeartbeats 1000000 in
theorem deep_any (s : ByteArray) (hs : s.size ≤ 1000000) (w : World) : Calls Tryd.prog 37 #[.string s] w fun e w' => e = .returned (.int .i64 (deepL s.data.toList : Int)) ∧ w' = w := by
  obtain ⟨b, hb⟩ : ∃ b, Hid (b = deepL s.data.toList) := ⟨_, Lib.hid rfl⟩
  rw [← hb.out]
  have hsl : s.data.toList.length = s.size := rfl
  go_enter Tryd.func37, Tryd.ntmps37
  go_wp2
  go_loopw [3, 4] (fun n i wr => ∃ k q : Nat, k ≤ s.size ∧ q ≤ k ∧ n = .int .i64 ((1 + q : Nat) : Int) ∧ i = .int .i64 k ∧ (s.data.toList.take k).count 47 = q ∧ wr = w) (fun n i _ => s.size - (intOf i).toNat)
  case atStart => exact ⟨0, 0, Nat.zero_le _, Nat.le_refl _, rfl, rfl, by simp, rfl⟩
  case round =>
    obtain ⟨k, q, hk, hq, rfl, rfl, hno, rfl⟩ := hrel
    have HNO := Lib.hid hno
    clear hno
    by_cases hlt : k < s.size
    · have hltI : (k : Int) < (s.size : Int) := by omega
      have hst : Hid ((s.data.toList.take (k + 1)).count 47 = q + if s[k] = 47 then 1 else 0) := Lib.hid (by
        rw [take_snoc s k hlt, List.count_append, HNO.out, List.count_cons, List.count_nil]
        by_cases h : s[k] = 47
        · rw [if_pos h, if_pos (by simpa using h)]
        · rw [if_neg h, if_neg (by simpa using h)])
      by_cases he : s[k] = 47
      · have heI : (s[k].toNat : Int) = 47 := by rw [he]; rfl
        rw [if_pos he] at hst
        clear he
        go_wp2
        go_roundw
        case rel => exact ⟨k + 1, q + 1, by omega, by omega, by first | rfl | simp | go_num | (congr 1; omega), by first | rfl | simp | go_num, hst.out, trivial⟩
        case measure => simp [intOf]; omega
      · have heI : ¬ (s[k].toNat : Int) = 47 := fun e => he (UInt8.toNat_inj.1 (by show _ = 47; omega))
        rw [if_neg he] at hst
        clear he
        go_wp2
        go_roundw
        case rel => exact ⟨k + 1, q, by omega, by omega, by first | rfl | simp | go_num, by first | rfl | simp | go_num, hst.out, trivial⟩
        case measure => simp [intOf]; omega
    · have hltI : ¬ (k : Int) < (s.size : Int) := by omega
      have hz : Hid (b = 1 + q) := Lib.hid (by
        rw [hb.out]
        have h := HNO.out
        rw [List.take_of_length_le (by omega)] at h
        unfold deepL
        rw [h])
      go_wp2
      go_ret
      exact ⟨by rw [hz.out]; rfl, rfl⟩
theorem cut_at (a n : List UInt8) (hn : 47 ∉ n) : cutL (a ++ 47 :: n) = (a, n) := by
  unfold cutL
  rw [if_pos (by simp)]
  have hr : (a ++ 47 :: n).reverse = n.reverse ++ 47 :: a.reverse := by simp
  rw [hr, tw_app _ (by simpa using hn), List.reverse_reverse]
  have hl : (a ++ 47 :: n).length - n.length - 1 = a.length := by rw [List.length_append, List.length_cons]; omega
  simp only [hl, List.take_left']
theorem cut_none (s : List UInt8) (h : 47 ∉ s) : cutL s = ([], s) := by
  unfold cutL
  rw [if_neg h]
theorem results_tmps {fn : Func} {a b : Tmp} (h : fn.results = #[.tmp a, .tmp b]) (tmps : Array Value) (P : Program) (w : World) : (results fn tmps).run P w = .ok (.tuple #[tmps.getD a undef, tmps.getD b undef]) w := by
  unfold results
  rw [h]
  simp [Array.mapM_eq_mapM_toList]
def strV (l : List UInt8) : Value := .string ⟨l.toArray⟩
theorem list_split (l : List UInt8) (k : Nat) (h : k < l.length) : l = l.take k ++ l[k] :: l.drop (k + 1) := by
  rw [← List.drop_eq_getElem_cons h, List.take_append_drop]
theorem bytes_eta (s : ByteArray) : s = ⟨s.data.toList.toArray⟩ := by cases s; rfl
theorem ext_take (s : ByteArray) (k : Nat) : s.extract 0 k = ⟨(s.data.toList.take k).toArray⟩ := by
  apply ByteArray.ext
  apply Array.toList_inj.1
  simp only [ByteArray.data_extract, Array.toList_extract, List.extract, List.drop_zero, Nat.sub_zero]
theorem ext_drop (s : ByteArray) (k n : Nat) (h : n = s.size) : s.extract k n = ⟨(s.data.toList.drop k).toArray⟩ := by
  apply ByteArray.ext
  apply Array.toList_inj.1
  have hl : s.data.toList.length = s.size := rfl
  simp only [ByteArray.data_extract, Array.toList_extract, List.extract]
  rw [List.take_of_length_le (by rw [List.length_drop]; omega)]
set_option maxRecDepth 100000 in
set_option maxHeartbeats 1000000 in
theorem cut_any (s : ByteArray) (hs : s.size ≤ 1000000) (w : World) : Calls Tryd.prog 36 #[.string s] w fun e w' => e = .returned (.tuple #[strV (cutL s.data.toList).1, strV (cutL s.data.toList).2]) ∧ Below w.heap.size w w' := by
  obtain ⟨b, hb⟩ : ∃ b, Hid (b = cutL s.data.toList) := ⟨_, Lib.hid rfl⟩
  rw [← hb.out]
  have hsl : s.data.toList.length = s.size := rfl
  go_enter Tryd.func36, Tryd.ntmps36
  go_wp2
  go_loopw [4] (fun i wr => ∃ k : Nat, k ≤ s.size ∧ i = .int .i64 ((k : Int) - 1) ∧ 47 ∉ s.data.toList.drop k ∧ wr = w) (fun i _ => (intOf i + 1).toNat)
  case atStart => exact ⟨s.size, Nat.le_refl _, by first | rfl | simp | go_num, by rw [List.drop_of_length_le (by omega)]; simp, rfl⟩
  case round =>
    obtain ⟨k, hk, rfl, hno, rfl⟩ := hrel
    have HNO := Lib.hid hno
    clear hno
    by_cases hlt : 0 < k
    · obtain ⟨j, rfl⟩ : ∃ j, k = j + 1 := ⟨k - 1, by omega⟩
      have hj : ((j + 1 : Nat) : Int) - 1 = (j : Int) := by omega
      rw [hj]
      have hltI : (j : Int) ≥ 0 := by omega
      have hjs : (j : Int) < (s.size : Int) := by omega
      have hjs2 : j < s.size := by omega
      by_cases he : s[j] = 47
      · have heI : (s[j].toNat : Int) = 47 := by rw [he]; rfl
        have hz : Hid (b = (s.data.toList.take j, s.data.toList.drop (j + 1))) := Lib.hid (by
          rw [hb.out]
          have h := list_split s.data.toList j hjs2
          rw [show s.data.toList[j] = 47 from he] at h
          conv => lhs; rw [h]
          exact cut_at _ _ HNO.out)
        clear he
        have h1 : ((j : Int) + 1) ≤ (s.size : Int) := by omega
        go_wp2
        go_region
        go_wp2
        exact ⟨rfl, _, results_tmps rfl _ _ _, by rw [hz.out]; show _ = Ending.returned (Value.tuple #[strV _, strV _]); unfold strV; rw [← ext_take, ← ext_drop s (j + 1) s.size rfl]; rfl, (Below.refl _ wr).drew⟩
      · have heI : ¬ (s[j].toNat : Int) = 47 := fun e => he (UInt8.toNat_inj.1 (by show _ = 47; omega))
        have hst : Hid (47 ∉ s.data.toList.drop j) := Lib.hid (by
          rw [List.drop_eq_getElem_cons (show j < s.data.toList.length from hjs2), List.mem_cons]
          intro h
          rcases h with h | h
          · exact he h.symm
          · exact HNO.out h)
        clear he
        go_wp2
        go_roundw
        case rel => exact ⟨j, by omega, by first | rfl | simp | go_num, hst.out, trivial⟩
        case measure => simp [intOf] <;> omega
    · obtain rfl : k = 0 := by omega
      have hz : Hid (b = ([], s.data.toList)) := Lib.hid (by
        rw [hb.out]
        exact cut_none _ HNO.out)
      go_wp2
      exact ⟨rfl, _, results_tmps rfl _ _ _, by rw [hz.out]; rfl, Below.refl _ wr⟩
end Go.Proofs.YtgbaaiedpiiepaaDoor
/- A name in a directory, which names may be, as the document tells them. Its condition: a length that fits. -/
namespace Go.Proofs.YtgbaaiedpiiepaaDoor
open Go.RowKit Go.Shelf
set_option linter.unusedVariables false
set_option linter.unusedSimpArgs false
theorem pre_iff (d p : List UInt8) : (d ++ [47]).isPrefixOf p = true ↔ ∃ h : d.length < p.length, p.take d.length = d ∧ p[d.length] = 47 := by
  rw [List.isPrefixOf_iff_prefix]
  constructor
  · rintro ⟨t, rfl⟩
    refine ⟨by simp, by simp, by simp⟩
  · rintro ⟨h, h1, h2⟩
    refine ⟨p.drop (d.length + 1), ?_⟩
    have := list_split p d.length h
    rw [h1, h2] at this
    rw [List.append_assoc]
    exact this.symm
theorem nonempty_str {d : ByteArray} (h : d.data.toList ≠ []) : (!d.toList.isEmpty) = true := by
  rw [ByteArray.toList_eq]
  cases hd : d.data.toList with
  | nil => exact absurd hd h
  | cons a l => rfl
set_option maxRecDepth 100000 in
set_option maxHeartbeats 1000000 in
theorem name_any (p d : ByteArray) (hs : p.size ≤ 1000000) (hd : d.size ≤ 1000000) (w : World) : Calls Tryd.prog 49 #[.string p, .string d] w fun e w' => e = .returned (strV (nameL p.data.toList d.data.toList)) ∧ w' = w := by
  obtain ⟨b, hb⟩ : ∃ b, Hid (b = nameL p.data.toList d.data.toList) := ⟨_, Lib.hid rfl⟩
  rw [← hb.out]
  have HH : Hid (∀ (q : ByteArray) w, q.size ≤ 1000000 → Calls Tryd.prog 41 #[.string q, .int .u8 47] w fun e w' => e = .returned (.bool (decide (47 ∈ q.data.toList))) ∧ w' = w) := Lib.hid (fun q w h => has_any q 47 (by omega) w)
  by_cases h0 : d = ⟨#[]⟩
  · subst h0
    have hz : Hid (b = if 47 ∈ p.data.toList then [] else p.data.toList) := Lib.hid (by rw [hb.out]; rfl)
    go_enter Tryd.func49, Tryd.ntmps49
    go_wp2_with fail
    with_reducible refine (HH.out p _ hs).mono ?_
    rintro e w2 ⟨rfl, rfl⟩
    by_cases h47 : 47 ∈ p.data.toList
    · rw [if_pos h47] at hz
      rw [decide_eq_true h47]
      go_wp2_with fail
      go_ret
      exact ⟨by rw [hz.out]; rfl, rfl⟩
    · rw [if_neg h47] at hz
      rw [decide_eq_false h47]
      go_wp2_with fail
      go_ret
      exact ⟨by rw [hz.out]; rfl, rfl⟩
  · have h0L : d.data.toList ≠ [] := fun e => h0 (by rw [bytes_eta d, e])
    have hE := nonempty_str h0L
    have hpl : p.data.toList.length = p.size := rfl
    have hdl : d.data.toList.length = d.size := rfl
    by_cases hA : d.size < p.size
    · by_cases hB : p.data.toList.take d.size = d.data.toList
      · have hBt : (p.extract 0 d.size).toList = d.toList := by rw [ByteArray.toList_eq, ByteArray.toList_eq, ext_take]; exact hB
        by_cases hC : p[d.size] = 47
        · have hCI : (p[d.size].toNat : Int) = 47 := by rw [hC]; rfl
          have hpre : (d.data.toList ++ [47]).isPrefixOf p.data.toList = true := (pre_iff _ _).2 ⟨hA, hB, hC⟩
          obtain ⟨q, hq⟩ : ∃ q, q = p.extract (d.size + 1) p.size := ⟨_, rfl⟩
          have hqL : q.data.toList = p.data.toList.drop (d.size + 1) := by rw [hq, ext_drop p (d.size + 1) p.size rfl]
          have hqs : q.size ≤ 1000000 := by rw [hq, ByteArray.size_extract]; omega
          have hz : Hid (b = if 47 ∈ q.data.toList then [] else q.data.toList) := Lib.hid (by
            rw [hb.out]
            unfold nameL
            rw [if_neg h0L, if_pos hpre, hqL]; rfl)
          have hI : ((d.size : Int) + 1) ≤ (p.size : Int) := by omega
          have hq2 : p.extract (d.size + 1) p.size = q := hq.symm
          clear hC hB hpre h0 h0L hq
          go_enter Tryd.func49, Tryd.ntmps49
          go_wp2_with fail
          try rw [hq2]
          with_reducible refine (HH.out q _ hqs).mono ?_
          rintro e w2 ⟨rfl, rfl⟩
          by_cases h47 : 47 ∈ q.data.toList
          · rw [if_pos h47] at hz
            rw [decide_eq_true h47]
            go_wp2_with fail
            go_ret
            exact ⟨by rw [hz.out]; rfl, rfl⟩
          · rw [if_neg h47] at hz
            rw [decide_eq_false h47]
            go_wp2_with fail
            go_ret
            exact ⟨by rw [hz.out]; rfl, rfl⟩
        · have hCI : ¬ (p[d.size].toNat : Int) = 47 := fun e => hC (UInt8.toNat_inj.1 (by show _ = 47; omega))
          have hz : Hid (b = []) := Lib.hid (by
            rw [hb.out]
            unfold nameL
            rw [if_neg h0L, if_neg (fun h => by obtain ⟨_, _, h3⟩ := (pre_iff _ _).1 h; exact hC h3)])
          have hCI2 : ((p[d.size].toNat : Int) != 47) = true := by rw [bne_iff_ne]; exact hCI
          clear hC hB h0 h0L
          go_enter Tryd.func49, Tryd.ntmps49
          go_wp2_with fail
          go_ret
          exact ⟨by rw [hz.out]; rfl, rfl⟩
      · have hBt : ¬ (p.extract 0 d.size).toList = d.toList := by rw [ByteArray.toList_eq, ByteArray.toList_eq, ext_take]; exact hB
        have hz : Hid (b = []) := Lib.hid (by
          rw [hb.out]
          unfold nameL
          rw [if_neg h0L, if_neg (fun h => by obtain ⟨_, h2, _⟩ := (pre_iff _ _).1 h; exact hB h2)])
        clear hB h0 h0L
        go_enter Tryd.func49, Tryd.ntmps49
        go_wp2_with fail
        go_ret
        exact ⟨by rw [hz.out]; rfl, rfl⟩
    · have hz : Hid (b = []) := Lib.hid (by
        rw [hb.out]
        unfold nameL
        rw [if_neg h0L, if_neg (fun h => by obtain ⟨h1, _, _⟩ := (pre_iff _ _).1 h; exact hA h1)])
      have hA2 : p.size ≤ d.size := by omega
      clear h0 h0L
      go_enter Tryd.func49, Tryd.ntmps49
      go_wp2_with fail
      go_ret
      exact ⟨by rw [hz.out]; rfl, rfl⟩
set_option maxRecDepth 100000 in
set_option maxHeartbeats 1000000 in
theorem mayName_any (s : ByteArray) (hs : s.size ≤ 1000000) (w : World) : Calls Tryd.prog 18 #[.string s] w fun e w' => e = .returned (.bool (mayNameL s.data.toList)) ∧ w' = w := by
  obtain ⟨b, hb⟩ : ∃ b, Hid (b = mayNameL s.data.toList) := ⟨_, Lib.hid rfl⟩
  rw [← hb.out]
  have hsl : s.data.toList.length = s.size := rfl
  have H0 : Hid (∀ w, Calls Tryd.prog 41 #[.string s, .int .u8 0] w fun e w' => e = .returned (.bool (decide (0 ∈ s.data.toList))) ∧ w' = w) := Lib.hid (fun w => has_any s 0 (by omega) w)
  have H4 : Hid (∀ w, Calls Tryd.prog 41 #[.string s, .int .u8 47] w fun e w' => e = .returned (.bool (decide (47 ∈ s.data.toList))) ∧ w' = w) := Lib.hid (fun w => has_any s 47 (by omega) w)
  go_enter Tryd.func18, Tryd.ntmps18
  by_cases h1 : s.size ≥ 1
  · by_cases h2 : s.size ≤ 255
    · go_wp2_with fail
      with_reducible refine (H0.out _).mono ?_
      rintro e w2 ⟨rfl, rfl⟩
      by_cases h0 : 0 ∈ s.data.toList
      · rw [decide_eq_true h0]
        have hz : Hid (b = false) := Lib.hid (by rw [hb.out]; simp [mayNameL, h0])
        clear h0
        go_wp2_with fail
        go_ret
        exact ⟨by rw [hz.out]; rfl, rfl⟩
      · rw [decide_eq_false h0]
        have h0H := Lib.hid h0
        clear h0
        go_wp2_with fail
        with_reducible refine (H4.out _).mono ?_
        rintro e w3 ⟨rfl, rfl⟩
        by_cases h47 : 47 ∈ s.data.toList
        · rw [decide_eq_true h47]
          have hz : Hid (b = false) := Lib.hid (by rw [hb.out]; simp [mayNameL, h47])
          clear h47
          go_wp2_with fail
          go_ret
          exact ⟨by rw [hz.out]; rfl, rfl⟩
        · rw [decide_eq_false h47]
          have h47H := Lib.hid h47
          clear h47
          by_cases hp : s.toList = [46]
          · have hz : Hid (b = false) := Lib.hid (by
              rw [hb.out]
              rw [ByteArray.toList_eq] at hp
              rw [hp]
              decide)
            go_wp2_with fail
            go_ret
            exact ⟨by rw [hz.out]; rfl, rfl⟩
          · have hz : Hid (b = (!s.toList == [46] && !s.toList == [46, 46])) := Lib.hid (by
              rw [hb.out, ByteArray.toList_eq]
              simp [mayNameL, h0H.out, h47H.out, show 1 ≤ s.size from h1, show s.size ≤ 255 from h2])
            go_wp2_with fail
            go_ret
            exact ⟨by rw [hz.out]; rfl, rfl⟩
    · have hz : Hid (b = false) := Lib.hid (by rw [hb.out]; simp only [mayNameL]; rw [decide_eq_false (show ¬ s.data.toList.length ≤ 255 from h2)]; simp)
      go_wp2_with fail
      go_ret
      exact ⟨by rw [hz.out]; rfl, rfl⟩
  · have hz : Hid (b = false) := Lib.hid (by rw [hb.out]; simp only [mayNameL]; rw [decide_eq_false (show ¬ 1 ≤ s.data.toList.length from h1)]; simp)
    go_wp2_with fail
    go_ret
    exact ⟨by rw [hz.out]; rfl, rfl⟩
end Go.Proofs.YtgbaaiedpiiepaaDoor
/- A number as a word, a text with what fills it, texts one behind the other, as the document makes them. Its condition: a length that fits. -/
namespace Go.Proofs.YtgbaaiedpiiepaaDoor
open Go.RowKit Go.Shelf
set_option linter.unusedVariables false
set_option linter.unusedSimpArgs false
/-- A row of bytes as cells. -/
def bRow (l : List UInt8) : Array Value := (l.map fun b => Value.int .u8 (b.toNat : Int)).toArray
theorem bRow_get (l : List UInt8) (j : Nat) (hj : j < l.length) : (bRow l)[j]? = some (.int .u8 (l[j].toNat : Int)) := by simp [bRow, hj]
def Row8 (W : World) (g : Nat) (l : List UInt8) : Prop := W.heap[g]? = some (.cells (bRow l) 5 (0, 0))
theorem Row8.cell {W : World} {g : Nat} {l : List UInt8} (h : Row8 W g l) (j : Nat) (hj : j < l.length) : W.cell? ⟨g, j, none⟩ = some (.int .u8 (l[j].toNat : Int)) := by
  rw [cell_of_row W g j _ 5 _ h]
  exact bRow_get l j hj
theorem Row8.free {W : World} {g : Nat} {l : List UInt8} (h : Row8 W g l) (j : Nat) : W.frozen? ⟨g, j, none⟩ = false := by
  have h2 : W.heap[g]? = some (.cells (bRow l) 5 (0, 0)) := h
  unfold World.frozen?
  simp [h2]
theorem Row8.lt {W : World} {g : Nat} {l : List UInt8} (h : Row8 W g l) : g < W.heap.size := (Array.getElem?_eq_some_iff.1 h).1
theorem Row8.str {W : World} {g cap n : Nat} {l : List UInt8} (h : Row8 W g l) (hn : l.length = n) : (Go.convert 37 9 (.slice (some ⟨g, 0, none⟩) n cap)).run Tryd.prog W = .ok (.string ⟨l.toArray⟩) W := by
  rw [← hn]
  refine run_convert_bytes_back (P := Tryd.prog) W 37 9 5 ⟨g, 0, none⟩ cap l Tryd.underlying37 Tryd.underlying5 Tryd.underlying9 (fun j hj => ?_)
  rw [show (⟨g, 0, none⟩ : Addr).add j = ⟨g, j, none⟩ by unfold Addr.add; split <;> simp_all, h.cell j hj]
theorem Row8.set {W : World} {g : Nat} {l : List UInt8} (h : Row8 W g l) (j : Nat) (c : UInt8) : Row8 (W.setCell ⟨g, j, none⟩ (.int .u8 (c.toNat : Int))) g (l.set j c) := by
  unfold Row8
  rw [setCell_eq_setRow W g j _ 5 (0, 0) _ h, setRow_heap W g _ _ 5 (0, 0) h]
  simp [bRow, List.map_set]
theorem make8 (W : World) : (Instr.makeSlice 37 (.int .i64 8) (.int .i64 8)).run Tryd.prog W = .ok (.slice (some ⟨W.heap.size, 0, none⟩) 8 8) (W.alloc (.cells (bRow (List.replicate 8 0)) 5)) := by kernel_rfl
theorem shr_cast (x S : Nat) : (x : Int) / 2 ^ S = ((x / 2 ^ S : Nat) : Int) := by
  rw [Int.natCast_ediv, Int.natCast_pow]
  rfl
theorem wrap8 (n : Nat) : IntKind.u8.wrap (n : Int) = ((n % 256 : Nat) : Int) := by
  have h : IntKind.u8.wrap (n : Int) = (n : Int) % 256 := by simp [IntKind.wrap, IntKind.bits, IntKind.signed]
  rw [h]; omega
/-- A word's bytes so far. -/
def leAt (x k : Nat) : List UInt8 := (List.range k).map (fun j => UInt8.ofNat (x / 2 ^ (8 * j))) ++ List.replicate (8 - k) 0
theorem leAt_len (x k : Nat) (hk : k ≤ 8) : (leAt x k).length = 8 := by simp [leAt]; omega
theorem leAt_step (x k : Nat) (hk : k < 8) : (leAt x k).set k (UInt8.ofNat (x / 2 ^ (8 * k))) = leAt x (k + 1) := by
  unfold leAt
  rw [List.set_append_right _ _ (by simp), List.length_map, List.length_range, Nat.sub_self, show 8 - k = (8 - (k + 1)) + 1 by omega, List.replicate_succ, List.set_cons_zero, List.range_succ, List.map_append, List.append_assoc]
  rfl
theorem leAt_all (x : Nat) : leAt x 8 = wordL x := by
  simp [leAt, wordL, List.range_succ]
set_option maxRecDepth 100000 in
set_option maxHeartbeats 1000000 in
theorem little_any (x : Nat) (w : World) : Calls Tryd.prog 56 #[.int .u64 (x : Int), .int .i64 8] w fun e w' => e = .returned (strV (wordL x)) ∧ Below w.heap.size w w' := by
  have hr0 : Hid (Row8 (w.alloc (.cells (bRow (List.replicate 8 0)) 5)) w.heap.size (leAt x 0)) := Lib.hid (World.alloc_heap_new w _)
  have hb0 : Hid (Below w.heap.size w (w.alloc (.cells (bRow (List.replicate 8 0)) 5))) := Lib.hid ((Below.refl _ w).alloc (Nat.le_refl _) _)
  obtain ⟨z, hz⟩ : ∃ z, Hid (z = bRow (List.replicate 8 0)) := ⟨_, Lib.hid rfl⟩
  have hmk : ∀ W : World, (Instr.makeSlice 37 (.int .i64 8) (.int .i64 8)).run Tryd.prog W = .ok (.slice (some ⟨W.heap.size, 0, none⟩) 8 8) (W.alloc (.cells z 5)) := by rw [hz.out]; exact make8
  rw [← hz.out] at hr0 hb0
  go_enter Tryd.func56, Tryd.ntmps56
  go_wp2
  clear hmk hz
  generalize w.alloc (.cells z 5) = w0 at *
  obtain ⟨g, hg⟩ : ∃ g, Hid (g = w.heap.size) := ⟨_, Lib.hid rfl⟩
  rw [← hg.out] at hr0 ⊢
  go_loopw [6] (fun i wr => ∃ k : Nat, k ≤ 8 ∧ i = .int .i64 k ∧ Row8 wr g (leAt x k) ∧ Below w.heap.size w wr) (fun i _ => 8 - (intOf i).toNat)
  case atStart => exact ⟨0, by omega, rfl, hr0.out, hb0.out⟩
  case round =>
    clear hr0 hb0
    obtain ⟨k, hk, rfl, hrow, hb⟩ := hrel
    have HR := Lib.hid hrow
    have HB := Lib.hid hb
    clear hrow hb
    by_cases hlt : k < 8
    · obtain ⟨S, hS⟩ : ∃ S, Hid (S = 8 * k) := ⟨_, Lib.hid rfl⟩
      have hS1 : (8 : Int) * (k : Int) = (S : Int) := by rw [hS.out]; omega
      have hS64 : S < 64 := by rw [hS.out]; omega
      obtain ⟨c, hc⟩ : ∃ c, Hid (c = UInt8.ofNat (x / 2 ^ S)) := ⟨_, Lib.hid rfl⟩
      have hwr : IntKind.u8.wrap ((x : Int) / 2 ^ S) = (c.toNat : Int) := by rw [shr_cast, wrap8, hc.out]; simp
      have hl := leAt_len x k hk
      obtain ⟨v, hcell⟩ : ∃ v, wr.cell? ⟨g, k, none⟩ = some v := ⟨_, HR.out.cell k (by omega)⟩
      have hfree := HR.out.free k
      have HN : Hid (Row8 (wr.setCell ⟨g, k, none⟩ (.int .u8 (c.toNat : Int))) g (leAt x (k + 1))) := Lib.hid (by
        have h := HR.out.set k c
        rw [hc.out, hS.out, leAt_step x k hlt] at h
        rw [hc.out, hS.out]
        exact h)
      have HN2 : Hid (Below w.heap.size w (wr.setCell ⟨g, k, none⟩ (.int .u8 (c.toNat : Int)))) := Lib.hid (HB.out.setCell (p := ⟨g, k, none⟩) (by rw [hg.out]; exact Nat.le_refl _) _)
      clear hl
      have hltI : (k : Int) < 8 := by omega
      go_wp2
      go_roundw
      case rel => exact ⟨k + 1, by omega, by first | rfl | simp | go_num, HN.out, HN2.out⟩
      case measure => simp [intOf] <;> omega
    · obtain rfl : k = 8 := by omega
      have hcv := HR.out.str (cap := 8) (leAt_len x 8 (by omega))
      rw [leAt_all] at hcv
      rw [show ((8 : Nat) : Int) = (8 : Int) from rfl]
      obtain ⟨tl, htl⟩ : ∃ tl : ByteArray, Hid (tl = ⟨(wordL x).toArray⟩) := ⟨_, Lib.hid rfl⟩
      rw [← htl.out] at hcv
      clear HR
      go_wp2
      go_ret
      exact ⟨by rw [htl.out]; rfl, HB.out⟩
set_option maxRecDepth 100000 in
set_option maxHeartbeats 1000000 in
theorem littleE_any (x : Nat) (w : World) : Calls Tryd.prog 42 #[.int .u64 (x : Int), .int .i64 8] w fun e w' => e = .returned (strV (wordL x)) ∧ Below w.heap.size w w' := by
  have H := Lib.hid (fun w => little_any x w)
  obtain ⟨v, hv⟩ : ∃ v, Hid (v = strV (wordL x)) := ⟨_, Lib.hid rfl⟩
  rw [← hv.out] at H ⊢
  go_enter Tryd.func42, Tryd.ntmps42
  go_wp2_with fail
  with_reducible refine (H.out _).mono ?_
  rintro e w2 ⟨rfl, hb⟩
  go_wp2_with fail
  go_ret
  exact ⟨rfl, hb⟩
set_option maxRecDepth 100000 in
set_option maxHeartbeats 1000000 in
theorem word_any (n : Int) (h1 : -9223372036854775808 ≤ n) (h2 : n ≤ 9223372036854775807) (w : World) : Calls Tryd.prog 20 #[.int .i64 n] w fun e w' => e = .returned (strV (wordL n.toNat)) ∧ Below w.heap.size w w' := by
  have H := Lib.hid (fun w => littleE_any n.toNat w)
  obtain ⟨v, hv⟩ : ∃ v, Hid (v = strV (wordL n.toNat)) := ⟨_, Lib.hid rfl⟩
  rw [← hv.out] at H ⊢
  go_enter Tryd.func20, Tryd.ntmps20
  by_cases h0 : 0 ≤ n
  · have e1 : ((n.toNat : Nat) : Int) = n := Int.toNat_of_nonneg h0
    rw [e1] at H
    have e2 : IntKind.u64.wrap n = n := by rw [IntKind.wrap_u64]; omega
    have e3 : max n 0 = n := by omega
    go_wp2_with fail
    with_reducible refine (H.out _).mono ?_
    rintro e w2 ⟨rfl, hb⟩
    go_wp2_with fail
    go_ret
    exact ⟨rfl, hb⟩
  · have e1 : ((n.toNat : Nat) : Int) = 0 := by omega
    rw [e1] at H
    have e3 : max n 0 = 0 := by omega
    go_wp2_with fail
    with_reducible refine (H.out _).mono ?_
    rintro e w2 ⟨rfl, hb⟩
    go_wp2_with fail
    go_ret
    exact ⟨rfl, hb⟩
/-- A text's bytes with so many noughts behind. -/
def padS (s : List UInt8) (j : Nat) : ByteArray := ⟨(wordL s.length ++ (s ++ List.replicate j 0)).toArray⟩
theorem padS_size (s : List UInt8) (j : Nat) : (padS s j).size = 8 + (s.length + j) := by
  show (wordL s.length ++ (s ++ List.replicate j 0)).length = _
  rw [List.length_append, wordL_len, List.length_append, List.length_replicate]
theorem padS_zero (s : ByteArray) : (⟨(wordL s.data.toList.length).toArray⟩ : ByteArray) ++ s = padS s.data.toList 0 := by
  apply ByteArray.ext
  apply Array.toList_inj.1
  simp [padS]
theorem padS_succ (s : List UInt8) (j : Nat) : padS s j ++ ({ data := #[0] } : ByteArray) = padS s (j + 1) := by
  apply ByteArray.ext
  apply Array.toList_inj.1
  simp [padS, List.replicate_succ', List.append_assoc]
set_option maxRecDepth 100000 in
set_option maxHeartbeats 1000000 in
theorem str_any (s : ByteArray) (hs : s.size ≤ 1000000) (w : World) : Calls Tryd.prog 22 #[.string s] w fun e w' => e = .returned (strV (strL s.data.toList)) ∧ Below w.heap.size w w' := by
  have hsl : s.data.toList.length = s.size := rfl
  obtain ⟨wd, hwd⟩ : ∃ x : ByteArray, Hid (x = ⟨(wordL s.data.toList.length).toArray⟩) := ⟨_, Lib.hid rfl⟩
  have H : Hid (∀ w, Calls Tryd.prog 20 #[.int .i64 (s.size : Int)] w fun e w' => e = .returned (.string wd) ∧ Below w.heap.size w w') := Lib.hid (fun w => by
    have h := word_any (s.size : Int) (by omega) (by omega) w
    rw [show ((s.size : Int)).toNat = s.size from rfl] at h
    rw [hwd.out]
    exact h)
  have wds : wd.size = 8 := by rw [hwd.out]; rfl
  obtain ⟨P0, hP0⟩ : ∃ x, Hid (x = padS s.data.toList 0) := ⟨_, Lib.hid rfl⟩
  have hP0e : wd ++ s = P0 := by rw [hwd.out, hP0.out]; exact padS_zero s
  have hP0s : (wd ++ s).size = 8 + s.size := by rw [ByteArray.size_append, wds]
  clear hwd
  obtain ⟨v, hv⟩ : ∃ v, Hid (v = strV (strL s.data.toList)) := ⟨_, Lib.hid rfl⟩
  rw [← hv.out]
  go_enter Tryd.func22, Tryd.ntmps22
  go_wp2_with fail
  with_reducible refine (H.out _).mono ?_
  rintro e w2 ⟨rfl, hb⟩
  have HB := Lib.hid hb
  clear hb H
  go_wp2_with fail
  try rw [hP0e]
  go_loopw [3] (fun x wr => ∃ j : Nat, j ≤ fillN s.size ∧ x = .string (padS s.data.toList j) ∧ Below w.heap.size w wr) (fun x _ => fillN s.size + 8 + s.size - (match x with | .string y => y.size | _ => 0))
  case atStart => exact ⟨0, Nat.zero_le _, by rw [← hP0.out], HB.out⟩
  case round =>
    clear HB hP0e hP0s hP0
    obtain ⟨j, hj, rfl, hb⟩ := hrel
    have HB := Lib.hid hb
    clear hb
    have hps := padS_size s.data.toList j
    have hps2 := padS_size s.data.toList (j + 1)
    have hnx := padS_succ s.data.toList j
    rw [hsl] at hps hps2
    obtain ⟨X, hX⟩ : ∃ X, X = padS s.data.toList j := ⟨_, rfl⟩
    obtain ⟨Y, hY⟩ : ∃ X, Hid (X = padS s.data.toList (j + 1)) := ⟨_, Lib.hid rfl⟩
    have hf8 : fillN s.size < 8 := Nat.mod_lt _ (by decide)
    rw [← hX] at hps hnx ⊢
    rw [← hY.out] at hps2 hnx
    have hXH := Lib.hid hX
    clear hX
    have hXY : (X ++ ({ data := #[0] } : ByteArray)).size = X.size + 1 := by rw [ByteArray.size_append]; rfl
    by_cases h : j = fillN s.size
    · have hm : (X.size : Int) % 8 = 0 := by unfold fillN at h; omega
      have hmt : (X.size : Int).tmod 8 = 0 := by rw [Int.tmod_eq_emod_of_nonneg (by omega)]; exact hm
      have hz : Hid (v = .string X) := Lib.hid (by rw [hv.out, hXH.out, h]; unfold strV padS strL; rw [hsl])
      go_wp2_with fail
      go_ret
      exact ⟨by rw [hz.out]; rfl, HB.out⟩
    · have hm : ¬ (X.size : Int) % 8 = 0 := by unfold fillN at h hj; omega
      have hmt : ¬ (X.size : Int).tmod 8 = 0 := by rw [Int.tmod_eq_emod_of_nonneg (by omega)]; exact hm
      go_wp2_with fail
      refine ⟨⟨j + 1, by omega, by rw [hY.out], HB.out⟩, ?_⟩
      show fillN s.size + 8 + s.size - Y.size < fillN s.size + 8 + s.size - X.size
      omega
/-- Texts as a row of memory. -/
def sRow (l : List (List UInt8)) : Array Value := (l.map strV).toArray
theorem sRow_get (l : List (List UInt8)) (j : Nat) (hj : j < l.length) : (sRow l)[j]? = some (strV l[j]) := by simp [sRow, hj]
theorem sRow_cell {W : World} {g : Nat} {l : List (List UInt8)} (h : W.heap[g]? = some (.cells (sRow l) 9 (0, 0))) (j : Nat) (hj : j < l.length) : W.cell? ⟨g, j, none⟩ = some (strV l[j]) := (cell_of_row W g j (sRow l) 9 (0, 0) h).trans (sRow_get l j hj)
theorem strsL_take (l : List (List UInt8)) (k : Nat) (h : k < l.length) : strsL (l.take (k + 1)) = strsL (l.take k) ++ strL l[k] := by
  unfold strsL
  rw [List.take_add_one, List.getElem?_eq_getElem h, List.flatMap_append]
  congr 1
  show strL l[k] ++ [] = strL l[k]
  rw [List.append_nil]
theorem strsL_le (l : List (List UInt8)) (k : Nat) : (strsL (l.take k)).length ≤ (strsL l).length := by
  conv => rhs; rw [← List.take_append_drop k l]
  unfold strsL
  rw [List.flatMap_append, List.length_append]
  omega
theorem strV_cat (a b : List UInt8) : (⟨a.toArray⟩ : ByteArray) ++ (⟨b.toArray⟩ : ByteArray) = ⟨(a ++ b).toArray⟩ := by
  apply ByteArray.ext
  apply Array.toList_inj.1
  simp
set_option maxRecDepth 100000 in
set_option maxHeartbeats 1000000 in
theorem strs_any (bk : Nat) (l : List (List UInt8)) (n : Nat) (hn : l.length = n) (hN : n ≤ 1000) (hl : ∀ t ∈ l, t.length ≤ 1000000) (hT : (strsL l).length ≤ 100000000) (w : World) (hrow : w.heap[bk]? = some (.cells (sRow l) 9 (0, 0))) : Calls Tryd.prog 31 #[.slice (some ⟨bk, 0, none⟩) n n] w fun e w' => e = .returned (strV (strsL l)) ∧ Below w.heap.size w w' := by
  have hbk : bk < w.heap.size := (Array.getElem?_eq_some_iff.1 hrow).1
  have HR := Lib.hid hrow
  clear hrow
  obtain ⟨v, hv⟩ : ∃ v, Hid (v = strV (strsL l)) := ⟨_, Lib.hid rfl⟩
  rw [← hv.out]
  go_enter Tryd.func31, Tryd.ntmps31
  go_wp2_with fail
  go_loopw [3, 4] (fun x i wr => ∃ k : Nat, k ≤ n ∧ x = strV (strsL (l.take k)) ∧ i = .int .i64 k ∧ Below w.heap.size w wr) (fun x i _ => n - (intOf i).toNat)
  case atStart => exact ⟨0, Nat.zero_le _, rfl, rfl, Below.refl _ w⟩
  case round =>
    obtain ⟨k, hk, rfl, rfl, hb⟩ := hrel
    have HB := Lib.hid hb
    clear hb
    by_cases hlt : k < n
    · have hltI : (k : Int) < (n : Int) := by omega
      have hkl : k < l.length := by omega
      have hcell : wr.cell? ⟨bk, k, none⟩ = some (strV l[k]) := sRow_cell ((HB.out.block bk hbk).trans HR.out) k hkl
      obtain ⟨t, ht⟩ : ∃ t : ByteArray, Hid (t = ⟨l[k].toArray⟩) := ⟨_, Lib.hid rfl⟩
      have htV : strV l[k] = .string t := by rw [ht.out]; rfl
      rw [htV] at hcell
      have hts : t.size ≤ 1000000 := by rw [ht.out]; exact hl _ (List.getElem_mem hkl)
      obtain ⟨u, hu⟩ : ∃ u : ByteArray, Hid (u = ⟨(strL l[k]).toArray⟩) := ⟨_, Lib.hid rfl⟩
      have H : Hid (∀ w, Calls Tryd.prog 22 #[.string t] w fun e w' => e = .returned (.string u) ∧ Below w.heap.size w w') := Lib.hid (fun w => by
        have h := str_any t hts w
        rw [show t.data.toList = l[k] by rw [ht.out]] at h
        rw [hu.out]
        exact h)
      obtain ⟨X, hX⟩ : ∃ X : ByteArray, Hid (X = ⟨(strsL (l.take k)).toArray⟩) := ⟨_, Lib.hid rfl⟩
      have hXV : strV (strsL (l.take k)) = .string X := by rw [hX.out]; rfl
      rw [hXV]
      obtain ⟨Y, hY⟩ : ∃ X : ByteArray, Hid (X = ⟨(strsL (l.take (k + 1))).toArray⟩) := ⟨_, Lib.hid rfl⟩
      have hXu : X ++ u = Y := by rw [hX.out, hu.out, hY.out, strV_cat, strsL_take l k hkl]
      have hYs : Y.size ≤ 100000000 := by rw [hY.out]; exact Nat.le_trans (strsL_le l (k + 1)) hT
      have hXus : (X ++ u).size = X.size + u.size := ByteArray.size_append
      have hsum : X.size + u.size ≤ 100000000 := by rw [← hXus, hXu]; exact hYs
      clear ht htV hts hu hX hXV
      go_wp2_with fail
      with_reducible refine (H.out _).mono ?_
      rintro e w2 ⟨rfl, hb⟩
      have HB2 := Lib.hid (HB.out.trans (hb.mono HB.out.size))
      clear hb
      go_wp2_with fail
      refine ⟨⟨k + 1, by omega, by rw [hY.out]; rfl, by first | rfl | simp | go_num, HB2.out⟩, ?_⟩
      simp [intOf] <;> omega
    · obtain rfl : k = n := by omega
      have hltI : ¬ (k : Int) < (k : Int) := by omega
      have hz : Hid (v = strV (strsL (l.take k))) := Lib.hid (by rw [hv.out, List.take_of_length_le (by omega)])
      go_wp2_with fail
      go_ret
      exact ⟨by rw [hz.out]; rfl, HB.out⟩
end Go.Proofs.YtgbaaiedpiiepaaDoor
/- Nodes in memory; which data a node may have, as the document tells it. Its condition: lengths that fit. -/
namespace Go.Proofs.YtgbaaiedpiiepaaDoor
open Go.RowKit Go.Shelf
set_option linter.unusedVariables false
set_option linter.unusedSimpArgs false
def ndV (d : Nd) : Array Value := #[strV d.path, .int .i64 d.kind, strV d.data]
set_option maxRecDepth 100000 in
set_option maxHeartbeats 1000000 in
theorem mayData_any (d : Nd) (hp : d.path.length ≤ 1000000) (hd : d.data.length ≤ 1000000) (w : World) : Calls Tryd.prog 35 #[.agg (ndV d)] w fun e w' => e = .returned (.bool (mayDataL d)) ∧ Below w.heap.size w w' := by
  obtain ⟨b, hb⟩ : ∃ b, Hid (b = mayDataL d) := ⟨_, Lib.hid rfl⟩
  rw [← hb.out]
  obtain ⟨k, hk⟩ : ∃ k, Hid (k = d.kind) := ⟨_, Lib.hid rfl⟩
  obtain ⟨P, hP⟩ : ∃ x : ByteArray, Hid (x = ⟨d.path.toArray⟩) := ⟨_, Lib.hid rfl⟩
  obtain ⟨D, hD⟩ : ∃ x : ByteArray, Hid (x = ⟨d.data.toArray⟩) := ⟨_, Lib.hid rfl⟩
  have hV : ndV d = #[.string P, .int .i64 k, .string D] := by rw [hP.out, hD.out, hk.out]; rfl
  have hDL : Hid (D.data.toList = d.data) := Lib.hid (by rw [hD.out])
  have hDs : D.size = d.data.length := by rw [hD.out]; rfl
  rw [hV]
  have HH : Hid (∀ w, Calls Tryd.prog 41 #[.string D, .int .u8 0] w fun e w' => e = .returned (.bool (decide (0 ∈ D.data.toList))) ∧ w' = w) := Lib.hid (fun w => has_any D 0 (by omega) w)
  clear hP hD hV
  go_enter Tryd.func35, Tryd.ntmps35
  have BW : ∀ o, Below w.heap.size w (w.alloc o) := fun o => (Below.refl _ w).alloc (Nat.le_refl _) _
  by_cases k1 : k = 1
  · have hz : Hid (b = decide ((d.data.length : Int) ≤ 65536)) := Lib.hid (by
      rw [hb.out]; unfold mayDataL; rw [← hk.out, if_pos (Or.inl k1)]; exact decide_eq_decide.2 (by omega))
    go_wp2_with fail
    go_ret
    exact ⟨by rw [hz.out]; rfl, BW _⟩
  by_cases k2 : k = 2
  · have hz : Hid (b = decide ((d.data.length : Int) ≤ 65536)) := Lib.hid (by
      rw [hb.out]; unfold mayDataL; rw [← hk.out, if_pos (Or.inr k2)]; exact decide_eq_decide.2 (by omega))
    go_wp2_with fail
    go_ret
    exact ⟨by rw [hz.out]; rfl, BW _⟩
  have hn12 : ¬ (k = 1 ∨ k = 2) := fun h => h.elim k1 k2
  by_cases k3 : k = 3
  · have hz : Hid (b = (decide (1 ≤ d.data.length) && decide (d.data.length ≤ 4096) && !d.data.contains 0)) := Lib.hid (by
      rw [hb.out]; unfold mayDataL; rw [← hk.out, if_neg hn12, if_pos k3])
    by_cases h1 : (d.data.length : Int) ≥ 1
    · by_cases h2 : (d.data.length : Int) ≤ 4096
      · rw [decide_eq_true (show 1 ≤ d.data.length by omega), decide_eq_true (show d.data.length ≤ 4096 by omega)] at hz
        go_wp2_with fail
        with_reducible refine (HH.out _).mono ?_
        rintro e w2 ⟨rfl, rfl⟩
        by_cases h0 : 0 ∈ D.data.toList
        · rw [decide_eq_true h0]
          have hz2 : Hid (b = false) := Lib.hid (by rw [hz.out, ← hDL.out]; simp [h0])
          clear h0
          go_wp2_with fail
          go_ret
          exact ⟨by rw [hz2.out]; rfl, BW _⟩
        · rw [decide_eq_false h0]
          have hz2 : Hid (b = true) := Lib.hid (by rw [hz.out, ← hDL.out]; simp [h0])
          clear h0
          go_wp2_with fail
          go_ret
          exact ⟨by rw [hz2.out]; rfl, BW _⟩
      · rw [decide_eq_false (show ¬ d.data.length ≤ 4096 by omega), Bool.and_false, Bool.false_and] at hz
        go_wp2_with fail
        go_ret
        exact ⟨by rw [hz.out]; rfl, BW _⟩
    · rw [decide_eq_false (show ¬ 1 ≤ d.data.length by omega), Bool.false_and, Bool.false_and] at hz
      go_wp2_with fail
      go_ret
      exact ⟨by rw [hz.out]; rfl, BW _⟩
  by_cases k4 : k = 4
  · have hz : Hid (b = decide (d.data = [])) := Lib.hid (by
      rw [hb.out]; unfold mayDataL; rw [← hk.out, if_neg hn12, if_neg k3, if_pos k4])
    have hz2 : Hid (b = D.toList.isEmpty) := Lib.hid (by
      rw [hz.out, ByteArray.toList_eq, hDL.out]
      cases d.data <;> simp)
    go_wp2_with fail
    go_ret
    exact ⟨by rw [hz2.out]; rfl, BW _⟩
  · have hz : Hid (b = false) := Lib.hid (by
      rw [hb.out]; unfold mayDataL; rw [← hk.out, if_neg hn12, if_neg k3, if_neg k4])
    go_wp2_with fail
    go_ret
    exact ⟨by rw [hz.out]; rfl, BW _⟩
/-- Nodes as cells of memory, from a place on. -/
def Nodes (W : World) (b o : Nat) (l : List Nd) : Prop := b < W.heap.size ∧ ∀ i (h : i < l.length), W.cell? ⟨b, o + i * 3, none⟩ = some (strV l[i].path) ∧ W.cell? ⟨b, o + i * 3 + 1, none⟩ = some (.int .i64 l[i].kind) ∧ W.cell? ⟨b, o + i * 3 + 2, none⟩ = some (strV l[i].data)
theorem Nodes.below {W W2 : World} {b o : Nat} {l : List Nd} (h : Nodes W b o l) (hb : Below W.heap.size W W2) : Nodes W2 b o l :=
  ⟨Nat.lt_of_lt_of_le h.1 hb.size, fun i hi => ⟨(hb.cell h.1).trans (h.2 i hi).1, (hb.cell h.1).trans (h.2 i hi).2.1, (hb.cell h.1).trans (h.2 i hi).2.2⟩⟩
def slV (b o n cap : Nat) : Value := .slice (some ⟨b, o, none⟩) n cap
end Go.Proofs.YtgbaaiedpiiepaaDoor
/- What the library's functions hand back that package codec calls: its Builder, IndexByte, Repeat, TrimRight. -/
namespace Go.Proofs.YtgbaaiedpiiepaaDoor
set_option linter.unusedSimpArgs false
set_option linter.unusedVariables false
open Go.Shelf
def lays169_ren : Go.Shelf.Ren := ⟨fun | 169 => 29 | n => n, fun | 70 => 52 | 9 => 9 | 0 => 0 | 72 => 54 | 37 => 37 | 127 => 82 | 3 => 3 | 5 => 5 | n => n, fun | n => n⟩
theorem lays169 : Go.Proofs.Lays.n169 Tryd.prog lays169_ren := {
  mixed := by kernel_rfl
  f169 := Tryd.func29.trans (congrArg some (by kernel_rfl))
  t0 := Tryd.underlying0
  a0 := Tryd.isAgg0
  z0 := Tryd.sizeOf0
  v0 := Tryd.zeroValue0
  t3 := Tryd.underlying3
  a3 := Tryd.isAgg3
  z3 := Tryd.sizeOf3
  v3 := Tryd.zeroValue3
  t9 := Tryd.underlying9
  a9 := Tryd.isAgg9
  z9 := Tryd.sizeOf9
  v9 := Tryd.zeroValue9
  t37 := Tryd.underlying37
  a37 := Tryd.isAgg37
  z37 := Tryd.sizeOf37
  v37 := Tryd.zeroValue37
  t70 := Tryd.underlying52
  a70 := Tryd.isAgg52
  z70 := Tryd.sizeOf52
  v70 := Tryd.zeroValue52
  t72 := Tryd.underlying54
  a72 := Tryd.isAgg54
  z72 := Tryd.sizeOf54
  v72 := Tryd.zeroValue54
  t127 := Tryd.underlying82
  a127 := Tryd.isAgg82
  z127 := Tryd.sizeOf82
  v127 := Tryd.zeroValue82 }
theorem Builder_Extra_169 : Builder.Extra Tryd.prog lays169_ren := {
  sizeBuilder := by kernel_rfl
  liesBuilder := by kernel_rfl
  t5 := Tryd.underlying5
  a5 := Tryd.isAgg5
  z5 := Tryd.sizeOf5
  v5 := Tryd.zeroValue5
  infoByte := by kernel_rfl
  cellsByte := by kernel_rfl
  sizeByte := by kernel_rfl
  neB5 := by decide }
def lays137_ren : Go.Shelf.Ren := ⟨fun | 137 => 55 | 217 => 70 | 266 => 83 | n => n, fun | 9 => 9 | 5 => 5 | 3 => 3 | n => n, fun | n => n⟩
theorem lays137 : Go.Proofs.Lays.n137 Tryd.prog lays137_ren := {
  mixed := by kernel_rfl
  f137 := Tryd.func55.trans (congrArg some (by kernel_rfl))
  f217 := Tryd.func70.trans (congrArg some (by kernel_rfl))
  f266 := Tryd.func83.trans (congrArg some (by kernel_rfl))
  t3 := Tryd.underlying3
  a3 := Tryd.isAgg3
  z3 := Tryd.sizeOf3
  v3 := Tryd.zeroValue3
  t5 := Tryd.underlying5
  a5 := Tryd.isAgg5
  z5 := Tryd.sizeOf5
  v5 := Tryd.zeroValue5
  t9 := Tryd.underlying9
  a9 := Tryd.isAgg9
  z9 := Tryd.sizeOf9
  v9 := Tryd.zeroValue9 }
open Go.RowKit in
theorem strings_IndexByte (s : ByteArray) (c : Int) (w : World) :
    Calls Tryd.prog 55 #[.string s, .int .u8 c] w fun e w' => e = .returned (.int .i64 (Lib.indexByte s.data.toList c.toNat.toUInt8)) ∧ w' = w := Any.strings_IndexByte lays137 s c w
def lays103_ren : Go.Shelf.Ren := ⟨fun | 103 => 52 | 210 => 67 | 206 => 73 | n => n, fun | 9 => 9 | 4 => 4 | 24 => 87 | 3 => 3 | n => n, fun | n => n⟩
theorem lays103 : Go.Proofs.Lays.n103 Tryd.prog lays103_ren := {
  mixed := by kernel_rfl
  f103 := Tryd.func52.trans (congrArg some (by kernel_rfl))
  f206 := Tryd.func73.trans (congrArg some (by kernel_rfl))
  f210 := Tryd.func67.trans (congrArg some (by kernel_rfl))
  t3 := Tryd.underlying3
  a3 := Tryd.isAgg3
  z3 := Tryd.sizeOf3
  v3 := Tryd.zeroValue3
  t4 := Tryd.underlying4
  a4 := Tryd.isAgg4
  z4 := Tryd.sizeOf4
  v4 := Tryd.zeroValue4
  t9 := Tryd.underlying9
  a9 := Tryd.isAgg9
  z9 := Tryd.sizeOf9
  v9 := Tryd.zeroValue9
  t24 := Tryd.underlying87
  a24 := Tryd.isAgg87
  z24 := Tryd.sizeOf87
  v24 := Tryd.zeroValue87 }
open Go.RowKit in
theorem strings_CutPrefix (s p : ByteArray) (w : World) :
    Calls Tryd.prog 52 #[.string s, .string p] w fun e w' => e = .returned (.tuple #[.string ⟨(Lib.trimPrefix s.data.toList p.data.toList).toArray⟩, .bool (Lib.hasPrefix s.data.toList p.data.toList)]) ∧ w' = w := Any.strings_CutPrefix lays103 s p w
open Go.RowKit in
theorem Builder_String_any_k (B b : Nat) (l : List UInt8) (w : World) (h : Lib.IsBuilderF 54 5 B b (Lib.byteCells l) w) (hBw : B ≤ w.heap.size) :
    Calls Tryd.prog 29 #[.pointer (some ⟨b, 0, none⟩)] w fun e w' => e = .returned (.string ⟨l.toArray⟩) ∧ (Lib.IsBuilderF 54 5 B b (Lib.byteCells l) w' ∧ Below B w w' ∧ Lib.OthersKept 5 (some b) w w') := Any.Builder_String_any_k lays169 Builder_Extra_169 B b l w h hBw
def lays219_ren : Go.Shelf.Ren := ⟨fun | 219 => 69 | 217 => 70 | 225 => 80 | 224 => 81 | 267 => 82 | 266 => 83 | 314 => 87 | n => n, fun | 9 => 9 | 3 => 3 | 4 => 4 | 5 => 5 | 46 => 70 | 146 => 100 | 51 => 48 | n => n, fun | 1 => 0 | n => n⟩
theorem lays219 : Go.Proofs.Lays.n219 Tryd.prog lays219_ren := {
  mixed := by kernel_rfl
  f217 := Tryd.func70.trans (congrArg some (by kernel_rfl))
  f219 := Tryd.func69.trans (congrArg some (by kernel_rfl))
  f224 := Tryd.func81.trans (congrArg some (by kernel_rfl))
  f225 := Tryd.func80.trans (congrArg some (by kernel_rfl))
  f266 := Tryd.func83.trans (congrArg some (by kernel_rfl))
  f267 := Tryd.func82.trans (congrArg some (by kernel_rfl))
  f314 := Tryd.func87.trans (congrArg some (by kernel_rfl))
  t3 := Tryd.underlying3
  a3 := Tryd.isAgg3
  z3 := Tryd.sizeOf3
  v3 := Tryd.zeroValue3
  t4 := Tryd.underlying4
  a4 := Tryd.isAgg4
  z4 := Tryd.sizeOf4
  v4 := Tryd.zeroValue4
  t5 := Tryd.underlying5
  a5 := Tryd.isAgg5
  z5 := Tryd.sizeOf5
  v5 := Tryd.zeroValue5
  t9 := Tryd.underlying9
  a9 := Tryd.isAgg9
  z9 := Tryd.sizeOf9
  v9 := Tryd.zeroValue9
  t46 := Tryd.underlying70
  a46 := Tryd.isAgg70
  z46 := Tryd.sizeOf70
  v46 := Tryd.zeroValue70
  t51 := Tryd.underlying48
  a51 := Tryd.isAgg48
  z51 := Tryd.sizeOf48
  v51 := Tryd.zeroValue48
  t146 := Tryd.underlying100
  a146 := Tryd.isAgg100
  z146 := Tryd.sizeOf100
  v146 := Tryd.zeroValue100
  g1 := by kernel_rfl }
open Go.RowKit Go.Lib in
theorem stringslite_Index_one (s : ByteArray) (c : UInt8) (w : World) :
    Calls Tryd.prog 69 #[.string s, .string ⟨#[c]⟩] w fun e w' => e = .returned (.int .i64 (Lib.indexByte s.data.toList c)) ∧ w' = w := Any.stringslite_Index_one lays219 s c w
def lays143_ren : Go.Shelf.Ren := ⟨fun | 143 => 54 | 219 => 69 | 217 => 70 | 225 => 80 | 224 => 81 | 267 => 82 | 266 => 83 | 314 => 87 | n => n, fun | 9 => 9 | 3 => 3 | 4 => 4 | 5 => 5 | 46 => 70 | 146 => 100 | 51 => 48 | n => n, fun | 1 => 0 | n => n⟩
theorem lays143 : Go.Proofs.Lays.n143 Tryd.prog lays143_ren := {
  mixed := by kernel_rfl
  f143 := Tryd.func54.trans (congrArg some (by kernel_rfl))
  f217 := Tryd.func70.trans (congrArg some (by kernel_rfl))
  f219 := Tryd.func69.trans (congrArg some (by kernel_rfl))
  f224 := Tryd.func81.trans (congrArg some (by kernel_rfl))
  f225 := Tryd.func80.trans (congrArg some (by kernel_rfl))
  f266 := Tryd.func83.trans (congrArg some (by kernel_rfl))
  f267 := Tryd.func82.trans (congrArg some (by kernel_rfl))
  f314 := Tryd.func87.trans (congrArg some (by kernel_rfl))
  t3 := Tryd.underlying3
  a3 := Tryd.isAgg3
  z3 := Tryd.sizeOf3
  v3 := Tryd.zeroValue3
  t4 := Tryd.underlying4
  a4 := Tryd.isAgg4
  z4 := Tryd.sizeOf4
  v4 := Tryd.zeroValue4
  t5 := Tryd.underlying5
  a5 := Tryd.isAgg5
  z5 := Tryd.sizeOf5
  v5 := Tryd.zeroValue5
  t9 := Tryd.underlying9
  a9 := Tryd.isAgg9
  z9 := Tryd.sizeOf9
  v9 := Tryd.zeroValue9
  t46 := Tryd.underlying70
  a46 := Tryd.isAgg70
  z46 := Tryd.sizeOf70
  v46 := Tryd.zeroValue70
  t51 := Tryd.underlying48
  a51 := Tryd.isAgg48
  z51 := Tryd.sizeOf48
  v51 := Tryd.zeroValue48
  t146 := Tryd.underlying100
  a146 := Tryd.isAgg100
  z146 := Tryd.sizeOf100
  v146 := Tryd.zeroValue100
  g1 := by kernel_rfl }
open Go.RowKit Go.Lib in
theorem strings_Index_one (s : ByteArray) (c : UInt8) (w : World) :
    Calls Tryd.prog 54 #[.string s, .string ⟨#[c]⟩] w fun e w' => e = .returned (.int .i64 (Lib.indexByte s.data.toList c)) ∧ w' = w := Any.strings_Index_one lays143 s c w
def lays144_ren : Go.Shelf.Ren := ⟨fun | 144 => 39 | 143 => 54 | 219 => 69 | 217 => 70 | 225 => 80 | 224 => 81 | 267 => 82 | 266 => 83 | 314 => 87 | n => n, fun | 9 => 9 | 4 => 4 | 3 => 3 | 5 => 5 | 46 => 70 | 146 => 100 | 51 => 48 | n => n, fun | 1 => 0 | n => n⟩
theorem lays144 : Go.Proofs.Lays.n144 Tryd.prog lays144_ren := {
  mixed := by kernel_rfl
  f143 := Tryd.func54.trans (congrArg some (by kernel_rfl))
  f144 := Tryd.func39.trans (congrArg some (by kernel_rfl))
  f217 := Tryd.func70.trans (congrArg some (by kernel_rfl))
  f219 := Tryd.func69.trans (congrArg some (by kernel_rfl))
  f224 := Tryd.func81.trans (congrArg some (by kernel_rfl))
  f225 := Tryd.func80.trans (congrArg some (by kernel_rfl))
  f266 := Tryd.func83.trans (congrArg some (by kernel_rfl))
  f267 := Tryd.func82.trans (congrArg some (by kernel_rfl))
  f314 := Tryd.func87.trans (congrArg some (by kernel_rfl))
  t3 := Tryd.underlying3
  a3 := Tryd.isAgg3
  z3 := Tryd.sizeOf3
  v3 := Tryd.zeroValue3
  t4 := Tryd.underlying4
  a4 := Tryd.isAgg4
  z4 := Tryd.sizeOf4
  v4 := Tryd.zeroValue4
  t5 := Tryd.underlying5
  a5 := Tryd.isAgg5
  z5 := Tryd.sizeOf5
  v5 := Tryd.zeroValue5
  t9 := Tryd.underlying9
  a9 := Tryd.isAgg9
  z9 := Tryd.sizeOf9
  v9 := Tryd.zeroValue9
  t46 := Tryd.underlying70
  a46 := Tryd.isAgg70
  z46 := Tryd.sizeOf70
  v46 := Tryd.zeroValue70
  t51 := Tryd.underlying48
  a51 := Tryd.isAgg48
  z51 := Tryd.sizeOf48
  v51 := Tryd.zeroValue48
  t146 := Tryd.underlying100
  a146 := Tryd.isAgg100
  z146 := Tryd.sizeOf100
  v146 := Tryd.zeroValue100
  g1 := by kernel_rfl }
open Go.RowKit Go.Lib in
theorem strings_Contains_one (s : ByteArray) (c : UInt8) (w : World) :
    Calls Tryd.prog 39 #[.string s, .string ⟨#[c]⟩] w fun e w' => e = .returned (.bool (decide (0 ≤ Lib.indexByte s.data.toList c))) ∧ w' = w := Any.strings_Contains_one lays144 s c w
def lays148_ren : Go.Shelf.Ren := ⟨fun | 148 => 66 | 222 => 78 | 223 => 79 | 269 => 86 | n => n, fun | 9 => 9 | 3 => 3 | 4 => 4 | 5 => 5 | 146 => 100 | 51 => 48 | 46 => 70 | n => n, fun | n => n⟩
theorem lays148 : Go.Proofs.Lays.n148 Tryd.prog lays148_ren := {
  mixed := by kernel_rfl
  f148 := Tryd.func66.trans (congrArg some (by kernel_rfl))
  f222 := Tryd.func78.trans (congrArg some (by kernel_rfl))
  f223 := Tryd.func79.trans (congrArg some (by kernel_rfl))
  f269 := Tryd.func86.trans (congrArg some (by kernel_rfl))
  t3 := Tryd.underlying3
  a3 := Tryd.isAgg3
  z3 := Tryd.sizeOf3
  v3 := Tryd.zeroValue3
  t4 := Tryd.underlying4
  a4 := Tryd.isAgg4
  z4 := Tryd.sizeOf4
  v4 := Tryd.zeroValue4
  t5 := Tryd.underlying5
  a5 := Tryd.isAgg5
  z5 := Tryd.sizeOf5
  v5 := Tryd.zeroValue5
  t9 := Tryd.underlying9
  a9 := Tryd.isAgg9
  z9 := Tryd.sizeOf9
  v9 := Tryd.zeroValue9
  t46 := Tryd.underlying70
  a46 := Tryd.isAgg70
  z46 := Tryd.sizeOf70
  v46 := Tryd.zeroValue70
  t51 := Tryd.underlying48
  a51 := Tryd.isAgg48
  z51 := Tryd.sizeOf48
  v51 := Tryd.zeroValue48
  t146 := Tryd.underlying100
  a146 := Tryd.isAgg100
  z146 := Tryd.sizeOf100
  v146 := Tryd.zeroValue100 }
open Go.RowKit Go.Lib in
theorem strings_LastIndex_one (s sub : ByteArray) (h1 : sub.size = 1) (hs : s.size < 4611686018427387904) (w : World) :
    Calls Tryd.prog 66 #[.string s, .string sub] w fun e w' => e = .returned (.int .i64 (Lib.lastIndexByte s ((sub[0]'(by omega)).toNat : Int))) ∧ w' = w := Any.strings_LastIndex_one lays148 s sub h1 hs w
def lays99_ren : Go.Shelf.Ren := ⟨fun | 99 => 58 | 206 => 73 | n => n, fun | 9 => 9 | 4 => 4 | 3 => 3 | n => n, fun | n => n⟩
theorem lays99 : Go.Proofs.Lays.n99 Tryd.prog lays99_ren := {
  mixed := by kernel_rfl
  f99 := Tryd.func58.trans (congrArg some (by kernel_rfl))
  f206 := Tryd.func73.trans (congrArg some (by kernel_rfl))
  t3 := Tryd.underlying3
  a3 := Tryd.isAgg3
  z3 := Tryd.sizeOf3
  v3 := Tryd.zeroValue3
  t4 := Tryd.underlying4
  a4 := Tryd.isAgg4
  z4 := Tryd.sizeOf4
  v4 := Tryd.zeroValue4
  t9 := Tryd.underlying9
  a9 := Tryd.isAgg9
  z9 := Tryd.sizeOf9
  v9 := Tryd.zeroValue9 }
open Go.RowKit Go.Lib in
theorem strings_HasPrefix (s p : ByteArray) (w : World) :
    Calls Tryd.prog 58 #[.string s, .string p] w fun e w' => e = .returned (.bool (Lib.hasPrefix s.data.toList p.data.toList)) ∧ w' = w := Any.strings_HasPrefix lays99 s p w
def lays105_ren : Go.Shelf.Ren := ⟨fun | 105 => 43 | 212 => 57 | 99 => 58 | 165 => 59 | 166 => 47 | 170 => 60 | 169 => 29 | 263 => 71 | 264 => 72 | 206 => 73 | 240 => 62 | 241 => 74 | 276 => 75 | 277 => 84 | n => n, fun | 9 => 9 | 3 => 3 | 4 => 4 | 20 => 20 | 0 => 0 | 46 => 70 | 109 => 93 | 5 => 5 | 72 => 54 | 76 => 77 | 51 => 48 | 146 => 100 | 53 => 49 | 148 => 102 | 70 => 52 | 37 => 37 | 75 => 76 | 127 => 82 | 164 => 104 | 80 => 57 | n => n, fun | n => n⟩
theorem lays105 : Go.Proofs.Lays.n105 Tryd.prog lays105_ren := {
  mixed := by kernel_rfl
  f99 := Tryd.func58.trans (congrArg some (by kernel_rfl))
  f105 := Tryd.func43.trans (congrArg some (by kernel_rfl))
  f165 := Tryd.func59.trans (congrArg some (by kernel_rfl))
  f166 := Tryd.func47.trans (congrArg some (by kernel_rfl))
  f169 := Tryd.func29.trans (congrArg some (by kernel_rfl))
  f170 := Tryd.func60.trans (congrArg some (by kernel_rfl))
  f206 := Tryd.func73.trans (congrArg some (by kernel_rfl))
  f212 := Tryd.func57.trans (congrArg some (by kernel_rfl))
  f240 := Tryd.func62.trans (congrArg some (by kernel_rfl))
  f241 := Tryd.func74.trans (congrArg some (by kernel_rfl))
  f263 := Tryd.func71.trans (congrArg some (by kernel_rfl))
  f264 := Tryd.func72.trans (congrArg some (by kernel_rfl))
  f276 := Tryd.func75.trans (congrArg some (by kernel_rfl))
  f277 := Tryd.func84.trans (congrArg some (by kernel_rfl))
  t0 := Tryd.underlying0
  a0 := Tryd.isAgg0
  z0 := Tryd.sizeOf0
  v0 := Tryd.zeroValue0
  t3 := Tryd.underlying3
  a3 := Tryd.isAgg3
  z3 := Tryd.sizeOf3
  v3 := Tryd.zeroValue3
  t4 := Tryd.underlying4
  a4 := Tryd.isAgg4
  z4 := Tryd.sizeOf4
  v4 := Tryd.zeroValue4
  t5 := Tryd.underlying5
  a5 := Tryd.isAgg5
  z5 := Tryd.sizeOf5
  v5 := Tryd.zeroValue5
  t9 := Tryd.underlying9
  a9 := Tryd.isAgg9
  z9 := Tryd.sizeOf9
  v9 := Tryd.zeroValue9
  t20 := Tryd.underlying20
  a20 := Tryd.isAgg20
  z20 := Tryd.sizeOf20
  v20 := Tryd.zeroValue20
  t37 := Tryd.underlying37
  a37 := Tryd.isAgg37
  z37 := Tryd.sizeOf37
  v37 := Tryd.zeroValue37
  t46 := Tryd.underlying70
  a46 := Tryd.isAgg70
  z46 := Tryd.sizeOf70
  v46 := Tryd.zeroValue70
  t51 := Tryd.underlying48
  a51 := Tryd.isAgg48
  z51 := Tryd.sizeOf48
  v51 := Tryd.zeroValue48
  t53 := Tryd.underlying49
  a53 := Tryd.isAgg49
  z53 := Tryd.sizeOf49
  v53 := Tryd.zeroValue49
  t70 := Tryd.underlying52
  a70 := Tryd.isAgg52
  z70 := Tryd.sizeOf52
  v70 := Tryd.zeroValue52
  t72 := Tryd.underlying54
  a72 := Tryd.isAgg54
  z72 := Tryd.sizeOf54
  v72 := Tryd.zeroValue54
  t75 := Tryd.underlying76
  a75 := Tryd.isAgg76
  z75 := Tryd.sizeOf76
  v75 := Tryd.zeroValue76
  t76 := Tryd.underlying77
  a76 := Tryd.isAgg77
  z76 := Tryd.sizeOf77
  v76 := Tryd.zeroValue77
  t109 := Tryd.underlying93
  a109 := Tryd.isAgg93
  z109 := Tryd.sizeOf93
  v109 := Tryd.zeroValue93
  t127 := Tryd.underlying82
  a127 := Tryd.isAgg82
  z127 := Tryd.sizeOf82
  v127 := Tryd.zeroValue82
  t146 := Tryd.underlying100
  a146 := Tryd.isAgg100
  z146 := Tryd.sizeOf100
  v146 := Tryd.zeroValue100
  t148 := Tryd.underlying102
  a148 := Tryd.isAgg102
  z148 := Tryd.sizeOf102
  v148 := Tryd.zeroValue102
  t164 := Tryd.underlying104
  a164 := Tryd.isAgg104
  z164 := Tryd.sizeOf104
  v164 := Tryd.zeroValue104 }
theorem Builder_Extra_105 : Builder.Extra Tryd.prog lays105_ren := {
  sizeBuilder := by kernel_rfl
  liesBuilder := by kernel_rfl
  t5 := Tryd.underlying5
  a5 := Tryd.isAgg5
  z5 := Tryd.sizeOf5
  v5 := Tryd.zeroValue5
  infoByte := by kernel_rfl
  cellsByte := by kernel_rfl
  sizeByte := by kernel_rfl
  neB5 := by decide }
open Go.RowKit Go.Lib in
theorem strings_Repeat (s : ByteArray) (c : Nat) (w : World) (hc : c ≤ 9223372036854775807) (hlen : s.size * c ≤ 140737488355328) :
    Calls Tryd.prog 43 #[.string s, .int .i64 c] w fun e w' => e = .returned (.string ⟨(Lib.repeatL s.data.toList c).toArray⟩) ∧ Below w.heap.size w w' := Any.strings_Repeat lays105 Builder_Extra_105 s c w hc hlen
end Go.Proofs.YtgbaaiedpiiepaaDoor
