/- Several texts, one behind the other; each says by itself what it proves, and on what conditions. -/
import Derived.Test.YtdajmekliodmcaaGreatDoorK36
import Derived.BigRegion
import Derived.Deep.RegionLaw
import Derived.Shelf.Abstract
namespace Go.Proofs.YtdajmekliodmcaaGreatDoor
open Go.Proofs.YtdajmekliodmcaaGreatDoor.P8
set_option linter.unusedVariables false
def hexd (n : Nat) : UInt8 := if n < 10 then UInt8.ofNat (48 + n) else UInt8.ofNat (87 + n)
def hexL : List UInt8 := [48, 49, 50, 51, 52, 53, 54, 55, 56, 57, 97, 98, 99, 100, 101, 102]
def hex : List UInt8 → List UInt8
  | [] => []
  | c :: l => hexd (c.toNat / 16) :: hexd (c.toNat % 16) :: hex l
theorem hex_length : ∀ l : List UInt8, (hex l).length = 2 * l.length
  | [] => rfl
  | c :: l => by show (hex l).length + 1 + 1 = 2 * (l.length + 1); rw [hex_length l]; omega
theorem hexd_place : ∀ d, d < 16 → placeN hexL (hexd d) = d := by decide +kernel
def unhex : List UInt8 → List UInt8
  | a :: b :: l => UInt8.ofNat (placeN hexL a * 16 + placeN hexL b) :: unhex l
  | _ => []
theorem unhex_hex : ∀ l : List UInt8, unhex (hex l) = l
  | [] => rfl
  | c :: l => by
    have hc := c.toNat_lt
    show UInt8.ofNat (placeN hexL (hexd (c.toNat / 16)) * 16 + placeN hexL (hexd (c.toNat % 16))) :: unhex (hex l) = c :: l
    rw [hexd_place _ (by omega), hexd_place _ (by omega), unhex_hex l, show c.toNat / 16 * 16 + c.toNat % 16 = c.toNat by omega]
    simp
def getHex (s : List UInt8) : Option (List UInt8) := if hex (unhex s) = s then some (unhex s) else none
theorem getHex_iff (s b : List UInt8) : getHex s = some b ↔ hex b = s := by
  unfold getHex
  constructor
  · intro h
    split at h
    · rename_i hc; injection h with h; subst h; exact hc
    · cases h
  · rintro rfl
    rw [unhex_hex, if_pos rfl]
theorem getHex_of (s d : List UInt8) (h : ∀ b : List UInt8, hex b = s → d = b) : getHex s = if hex d = s then some d else none := by
  by_cases e : hex d = s
  · rw [if_pos e, getHex_iff]; exact e
  · rw [if_neg e]
    cases hg : getHex s with
    | none => rfl
    | some b =>
      have h3 := (getHex_iff s b).1 hg
      exact absurd (by rw [h b h3]; exact h3) e
end Go.Proofs.YtdajmekliodmcaaGreatDoor
namespace Go.Proofs.YtdajmekliodmcaaGreatDoor.R
open Go.Proofs.YtdajmekliodmcaaGreatDoor.P8
set_option linter.unusedVariables false
set_option linter.unusedSimpArgs false
open Go.RowKit
theorem take_snoc (s : ByteArray) (k : Nat) (h : k < s.size) : s.data.toList.take (k + 1) = s.data.toList.take k ++ [s[k]] := by
  rw [List.take_succ_eq_append_getElem (by simpa using h)]; rfl
theorem step_run {P : Program} {ops : Array Oper} {o : Oper} {a : Act} {w w2 : World} {K : Act → World → Prop} {Q : Exit → Act → World → Prop} (hg : o.guard = none) (v : Value)
    (hrun : (execOp a.eval o).run P w = .ok (.value v) w2) (h : K (a.put o.dst v) w2) : (if Region.wanted o (yielded ops a.tmps) = true then o.wp P a w K Q else K (a.put o.dst undef) w) := by
  rw [if_pos (by simp [Region.wanted, hg])]
  unfold Oper.wp
  rw [hrun]
  exact h
def hexs : ByteArray := ⟨#[48, 49, 50, 51, 52, 53, 54, 55, 56, 57, 97, 98, 99, 100, 101, 102]⟩
theorem hex_append : ∀ l m : List UInt8, hex (l ++ m) = hex l ++ hex m
  | [], _ => rfl
  | c :: l, m => by show _ :: _ :: hex (l ++ m) = _; rw [hex_append l m]; rfl
theorem hexs_get (q : Nat) (hq : q < 16) : ∀ h, (hexs[q]'h) = hexd q := by
  rcases (show q = 0 ∨ q = 1 ∨ q = 2 ∨ q = 3 ∨ q = 4 ∨ q = 5 ∨ q = 6 ∨ q = 7 ∨ q = 8 ∨ q = 9 ∨ q = 10 ∨ q = 11 ∨ q = 12 ∨ q = 13 ∨ q = 14 ∨ q = 15 by omega) with rfl | rfl | rfl | rfl | rfl | rfl | rfl | rfl | rfl | rfl | rfl | rfl | rfl | rfl | rfl | rfl <;> exact fun _ => rfl
theorem hexs_get2 (c : Nat) (hc : c < 256) : ∀ h, (hexs[((c : Int) / 16).toNat]'h) = hexd (c / 16) := by
  have e : ((c : Int) / 16).toNat = c / 16 := by omega
  rw [e]
  exact hexs_get (c / 16) (by omega)
theorem u8_and15 (c : Nat) (hc : c < 256) : bits .and .u8 (c : Int) 15 = ((c % 16 : Nat) : Int) := by
  have h : ∀ c : Nat, c < 256 → bits .and .u8 (c : Int) 15 = ((c % 16 : Nat) : Int) := by decide +kernel
  exact h c hc
theorem rhex_pos (s : ByteArray) (hs : s.size ≤ 1000) (hpos : 0 < s.size) (w : World) :
    Calls Tryz.prog 22 #[.string s] w fun e w' => e = .returned (.string ⟨(hex s.data.toList).toArray⟩) ∧ Below w.heap.size w w' := by
  obtain ⟨tl, htl⟩ : ∃ tl, Hid (tl = hex s.data.toList) := ⟨_, Lib.hid rfl⟩
  rw [← htl.out]
  go_enter Tryz.func22, Tryz.ntmps22
  go_wp2
  rw [show ({ data := #[48, 49, 50, 51, 52, 53, 54, 55, 56, 57, 97, 98, 99, 100, 101, 102] } : ByteArray) = hexs from rfl]
  go_loopw [4, 5] (fun v i wr => ∃ k : Nat, k ≤ s.size ∧ i = .int .i64 k ∧ wr.ownsRow w.heap.size 5 1 v (2 * k) (bytesV (hex (s.data.toList.take k))) ∧ Below w.heap.size w wr) (fun _ i _ => s.size - (intOf i).toNat)
  case atStart => exact ⟨0, Nat.zero_le _, rfl, World.ownsRow_nil _ _ _ _, Below.refl _ _⟩
  case round =>
    obtain ⟨k, hk, rfl, hown, hb⟩ := hrel
    by_cases hlt : k < s.size
    · have hsn := take_snoc s k hlt
      have HX := Lib.hid (show hex (s.data.toList.take (k + 1)) = hex (s.data.toList.take k) ++ [hexd (s[k].toNat / 16), hexd (s[k].toNat % 16)] by rw [hsn, hex_append]; rfl)
      have hc : s[k].toNat < 256 := UInt8.toNat_lt _
      have hand := u8_and15 s[k].toNat hc
      have hz16 : hexs.size = 16 := rfl
      have g1 := hexs_get2 s[k].toNat hc
      have i1 : (0 : Int) ≤ (s[k].toNat : Int) / 16 := by omega
      have i2 : (s[k].toNat : Int) / 16 < 16 := by omega
      obtain ⟨m, hm⟩ : ∃ m, m = s[k].toNat % 16 := ⟨_, rfl⟩
      rw [← hm] at hand HX
      have i3 : (m : Int) < 16 := by omega
      have g2 := hexs_get m (by omega)
      clear hsn hm
      generalize hexd (s[k].toNat / 16) = d1 at *
      generalize hexd m = d2 at *
      obtain ⟨v', W3, happ, hown', hb', hz'⟩ := bytes_app (wr := wr.drew) hown hb.drew hb.size [d1, d2] 2 rfl _ rfl (by omega)
      have HAPP := Lib.hid happ
      have HO := Lib.hid hown'
      have HF := Lib.hid hb'
      clear happ hown' hb' hown hb hz'
      go_wp2
      go_region_law ((refine step_run rfl _ (HAPP.out _ _ (.tmp 12) (.tmp 25) rfl rfl rfl) ?_))
      all_goals
        go_wp2
        go_roundw
        case rel => exact ⟨k + 1, by omega, by go_num, by rw [HX.out, show 2 * (k + 1) = 2 * k + 2 by omega]; exact HO.out, HF.out⟩
        case measure => simp [intOf]; omega
    · have hk2 : k = s.size := by omega
      subst hk2
      have hall : hex (s.data.toList.take s.size) = tl := by rw [htl.out, List.take_of_length_le (by exact Nat.le_refl _)]
      rw [hall] at hown
      have HB := Lib.hid hb
      obtain ⟨g, cap, rfl, hcv⟩ := bytes_str hown (by omega)
      clear hown hb hall hpos
      go_wp2
      go_ret
      exact ⟨rfl, HB.out⟩
theorem rhex_any (s : ByteArray) (hs : s.size ≤ 1000) (w : World) :
    Calls Tryz.prog 22 #[.string s] w fun e w' => e = .returned (.string ⟨(hex s.data.toList).toArray⟩) ∧ Below w.heap.size w w' := by
  by_cases hpos : 0 < s.size
  · exact rhex_pos s hs hpos w
  · have hz : s = ByteArray.empty := by
      apply ByteArray.ext
      apply Array.eq_empty_of_size_eq_zero
      have : s.data.size = s.size := rfl
      omega
    subst hz
    have hr : hex ByteArray.empty.data.toList = [] := rfl
    rw [hr]
    have hsz : (ByteArray.empty.size : Int) = 0 := rfl
    go_enter Tryz.func22, Tryz.ntmps22
    go_wp2
    go_loopw [4, 5] (fun v i wr => v = .slice none 0 0 ∧ i = .int .i64 0 ∧ wr = w) (fun _ _ _ => 0)
    case atStart => exact ⟨rfl, rfl, rfl⟩
    case round =>
      obtain ⟨rfl, rfl, rfl⟩ := hrel
      have hcn := conv_nil wr
      go_wp2
      go_ret
      exact ⟨rfl, Below.refl _ _⟩
open Go.RowKit Go.Shelf
def gvI (p q : Int) : Int := IntKind.u8.wrap (bits .or .i64 (IntKind.i64.wrap (p * 16)) (bits .and .i64 q 15))
def gv (a b : UInt8) : UInt8 := UInt8.ofNat (gvI (plI hexL a) (plI hexL b)).toNat
theorem gvI_range (p q : Int) : 0 ≤ gvI p q ∧ gvI p q < 256 := by
  unfold gvI
  have h : ∀ x : Int, 0 ≤ IntKind.u8.wrap x ∧ IntKind.u8.wrap x < 256 := by
    intro x
    have h : IntKind.u8.wrap x = x % 256 := by simp [IntKind.wrap, IntKind.bits, IntKind.signed]
    rw [h]; omega
  exact h _
theorem gv_val (a b : UInt8) : gvI (plI hexL a) (plI hexL b) = ((gv a b).toNat : Int) := by
  have h := gvI_range (plI hexL a) (plI hexL b)
  unfold gv
  rw [UInt8.toNat_ofNat']
  omega
theorem gv_digit : ∀ d, d < 16 → ∀ e, e < 16 → gvI (d : Nat) (e : Nat) = (d * 16 + e : Nat) := by decide +kernel
theorem plI_hexd : ∀ d, d < 16 → plI hexL (hexd d) = (d : Nat) := by decide +kernel
theorem gv_hexd (c : UInt8) : gv (hexd (c.toNat / 16)) (hexd (c.toNat % 16)) = c := by
  have hc := c.toNat_lt
  unfold gv
  rw [plI_hexd _ (by omega), plI_hexd _ (by omega), gv_digit _ (by omega) _ (by omega)]
  apply UInt8.toNat_inj.1
  rw [UInt8.toNat_ofNat']
  omega
def uh (s : List UInt8) (q : Nat) : List UInt8 := (List.range q).map fun j => gv (s.getD (2 * j) 0) (s.getD (2 * j + 1) 0)
theorem uh_length (s : List UInt8) (q : Nat) : (uh s q).length = q := by simp [uh]
theorem uh_succ (s : List UInt8) (q : Nat) : uh s (q + 1) = uh s q ++ [gv (s.getD (2 * q) 0) (s.getD (2 * q + 1) 0)] := by simp [uh, List.range_succ]
theorem uh_cons (a b : UInt8) (s : List UInt8) (q : Nat) : uh (a :: b :: s) (q + 1) = gv a b :: uh s q := by
  unfold uh
  rw [List.range_succ_eq_map, List.map_cons, List.map_map]
  rfl
theorem uh_hex : ∀ l : List UInt8, uh (hex l) l.length = l
  | [] => rfl
  | c :: l => by
    show uh (hexd (c.toNat / 16) :: hexd (c.toNat % 16) :: hex l) (l.length + 1) = c :: l
    rw [uh_cons, uh_hex l, gv_hexd]
theorem getHex_uh (s : List UInt8) : getHex s = if hex (uh s (s.length / 2)) = s then some (uh s (s.length / 2)) else none :=
  getHex_of s _ (fun b hb => by
    subst hb
    rw [hex_length, show 2 * b.length / 2 = b.length by omega]
    exact uh_hex b)
def hexB : ByteArray := ⟨hexL.toArray⟩
theorem rgethex_any (s : ByteArray) (hs : s.size ≤ 1000) (w : World) :
    Calls Tryz.prog 21 #[.string s] w fun e w' => e = .returned (.agg (said (getHex s.data.toList))) ∧ Below w.heap.size w w' := by
  have HPL : Hid (∀ c W, Calls Tryz.prog 54 #[.string hexB, .int .u8 ((c : UInt8).toNat : Int)] W fun e w' => e = .returned (.int .i64 (plI hexL c)) ∧ w' = W) := Lib.hid (fun c W => place_any hexB c (by decide) W)
  have hlen : s.data.toList.length = s.size := rfl
  have hG := Lib.hid (getHex_uh s.data.toList)
  obtain ⟨ZS, hZS⟩ : ∃ ZS, Hid (ZS = saidV ⟨#[]⟩ false) := ⟨_, Lib.hid rfl⟩
  have HZ : ∀ w, (zeroValue 26).run Tryz.prog w = .ok (.agg ZS) w := by rw [hZS.out]; exact zero27
  have SZ : ZS.size = 2 := by rw [hZS.out]; rfl
  have h0 : (w.alloc (.cells ZS 26)).heap[w.heap.size]? = some (.cells ZS 26 (0, 0)) := heap_alloc_new w _
  have hb0 : Below w.heap.size w (w.alloc (.cells ZS 26)) := (Below.refl _ w).alloc (Nat.le_refl _) _
  have hz0 : (w.alloc (.cells ZS 26)).heap.size = w.heap.size + 1 := by simp
  go_enter Tryz.func21, Tryz.ntmps21
  go_wp2_with ((refine wpList_run rfl _ (exec_alloc_agg _ 26 rfl _ (HZ _)) ?_); try simp only [World.size_alloc])
  try simp only [Act.put, sT, sS, sZ]
  generalize w.alloc (.cells ZS 26) = W0 at *
  have HZ0 := Lib.hid h0
  have HB0 := Lib.hid hb0
  have HS0 := Lib.hid hz0
  clear h0 hb0 hz0
  go_loopw [3, 4] (fun v i wr => ∃ q : Nat, 2 * q ≤ s.size ∧ i = .int .i64 ((2 * q : Nat) : Int) ∧ wr.ownsRow (w.heap.size + 1) 5 1 v q (bytesV (uh s.data.toList q)) ∧ (q = 0 → v = .slice none 0 0) ∧ Below (w.heap.size + 1) W0 wr) (fun _ i _ => s.size - (intOf i).toNat)
  case atStart => exact ⟨0, by omega, rfl, World.ownsRow_nil _ _ _ _, fun _ => rfl, Below.refl _ _⟩
  case round =>
    obtain ⟨q, hq, rfl, hown, hv0, hb⟩ := hrel
    obtain ⟨I, hI⟩ : ∃ I, I = 2 * q := ⟨_, rfl⟩
    rw [← hI] at hq ⊢
    obtain ⟨J, hJ⟩ : ∃ J, Hid (J = I + 1) := ⟨_, Lib.hid rfl⟩
    have hJ1 : (I : Int) + 1 = (J : Int) := by rw [hJ.out]; omega
    by_cases hlt : J < s.size
    · have hltI : (J : Int) < (s.size : Int) := by omega
      have hIl : I < s.size := by have := hJ.out; omega
      have hq2 : q + 1 ≤ 1000000 := by have := hJ.out; omega
      have HPA := Lib.hid (fun W => HPL.out s[I] W)
      have HPB := Lib.hid (fun W => HPL.out s[J] W)
      have hgv := gv_val s[I] s[J]
      have huh : Hid (uh s.data.toList (q + 1) = uh s.data.toList q ++ [gv s[I] s[J]]) := by
        unfold Hid
        rw [uh_succ, ← hI, ← hJ.out]
        congr 3
        · rw [List.getD_eq_getElem?_getD, List.getElem?_eq_getElem (by omega : I < s.data.toList.length)]; rfl
        · rw [List.getD_eq_getElem?_getD, List.getElem?_eq_getElem (by omega : J < s.data.toList.length)]; rfl
      have hq0 : Hid (I + 2 = 2 * (q + 1)) := by unfold Hid; omega
      have hJs : Hid (I + 2 ≤ s.size) := by unfold Hid; have := hJ.out; omega
      generalize gv s[I] s[J] = g at *
      obtain ⟨v', W3, happ, hown', hb', hz'⟩ := bytes_app (wr := wr.drew) hown hb.drew (by have := HS0.out; rw [← this]; exact hb.size) [g] 1 rfl _ rfl (by omega)
      have HAPP := Lib.hid happ
      have HO := Lib.hid hown'
      have HF := Lib.hid hb'
      clear happ hown' hb' hown hb hz' hG hlen hI
      go_upto_region 5 with fail
      try simp only [Act.put, sT, sS, sZ]
      refine wp_nrm ?_
      refine wp_region_any (by kernel_rfl) ?_
      change wpAny _ _ _ _ _ _ _ (World.drew _)
      generalize wr.drew = Wd at *
      refine any_of_F (S := fun _ => True) (f := 1000) _ _ _ _ ?_
      refine AnyF.takeG (by rfl) 0 (some 12) (.move (.tmp 3)) none (u3) rfl (by kernel_rfl) (by kernel_rfl) (by kernel_rfl) (fun _ _ _ h => h) rfl (fun o h => by obtain rfl := Option.some.inj h; rfl) (fun o ho w2 _ => exec_move (.tmp 3) ho _ rfl w2) trivial ?_
      simp only [Act.put, sT, sS, sZ]
      refine AnyF.takeG (by rfl) 1 (some 13) (.move (.tmp 0)) none (.string s) rfl (by kernel_rfl) (by kernel_rfl) (by kernel_rfl) (fun _ _ _ h => h) rfl (fun o h => by obtain rfl := Option.some.inj h; rfl) (fun o ho w2 _ => exec_move (.tmp 0) ho _ rfl w2) trivial ?_
      simp only [Act.put, sT, sS, sZ]
      refine AnyF.takeG (by rfl) 2 (some 14) (.move (.tmp 4)) none (.int .i64 (I : Int)) rfl (by kernel_rfl) (by kernel_rfl) (by kernel_rfl) (fun _ _ _ h => h) rfl (fun o h => by obtain rfl := Option.some.inj h; rfl) (fun o ho w2 _ => exec_move (.tmp 4) ho _ rfl w2) trivial ?_
      simp only [Act.put, sT, sS, sZ]
      refine AnyF.takeG (by rfl) 3 (some 15) (.index 9 (.tmp 13) (.tmp 14)) none (.int .u8 (s[I].toNat : Int)) rfl (by kernel_rfl) (by kernel_rfl) (by kernel_rfl) (fun _ _ _ h => h) rfl (fun o h => by obtain rfl := Option.some.inj h; rfl) (fun o ho w2 _ => exec_index_str (.tmp 13) (.tmp 14) ho s I hIl rfl rfl w2) trivial ?_
      simp only [Act.put, sT, sS, sZ]
      refine AnyF.takeG (by rfl) 6 (some 18) (.move (.tmp 0)) none (.string s) rfl (by kernel_rfl) (by kernel_rfl) (by kernel_rfl) (fun _ _ _ h => h) rfl (fun o h => by obtain rfl := Option.some.inj h; rfl) (fun o ho w2 _ => exec_move (.tmp 0) ho _ rfl w2) trivial ?_
      simp only [Act.put, sT, sS, sZ]
      refine AnyF.takeG (by rfl) 7 (some 19) (.move (.tmp 4)) none (.int .i64 (I : Int)) rfl (by kernel_rfl) (by kernel_rfl) (by kernel_rfl) (fun _ _ _ h => h) rfl (fun o h => by obtain rfl := Option.some.inj h; rfl) (fun o ho w2 _ => exec_move (.tmp 4) ho _ rfl w2) trivial ?_
      simp only [Act.put, sT, sS, sZ]
      refine AnyF.takeG (by rfl) 8 (some 20) (.binOp .add 3 (.tmp 19) (.const (.int .i64 1)) 3) none (.int .i64 (J : Int)) rfl (by kernel_rfl) (by kernel_rfl) (by kernel_rfl) (fun _ _ _ h => h) rfl (fun o h => by obtain rfl := Option.some.inj h; rfl) (fun o ho w2 _ => by have hw := IntWalk.i64_in (J : Int) (by omega); unfold execOp; rw [ho]; go_simp) trivial ?_
      simp only [Act.put, sT, sS, sZ]
      refine AnyF.takeG (by rfl) 9 (some 21) (.index 9 (.tmp 18) (.tmp 20)) none (.int .u8 (s[J].toNat : Int)) rfl (by kernel_rfl) (by kernel_rfl) (by kernel_rfl) (fun _ _ _ h => h) rfl (fun o h => by obtain rfl := Option.some.inj h; rfl) (fun o ho w2 _ => exec_index_str (.tmp 18) (.tmp 20) ho s J hlt rfl rfl w2) trivial ?_
      simp only [Act.put, sT, sS, sZ]
      refine AnyF.ready (rs := [4]) (by kernel_rfl) (by simp) (ReadyF.call (some 16) 54 #[.const (.string { data := #[48, 49, 50, 51, 52, 53, 54, 55, 56, 57, 97, 98, 99, 100, 101, 102] }), .tmp 15] #[9, 5] rfl #[.string { data := #[48, 49, 50, 51, 52, 53, 54, 55, 56, 57, 97, 98, 99, 100, 101, 102] }, .int .u8 (s[I].toNat : Int)] (by simp [Act.eval]) enters29 _ (HPA.out _) ?_ (fun c w' h => by cases h.1) (fun w' h => by cases h.1) ReadyF.nil)
      rintro v w' ⟨he, hw'⟩
      cases he
      rw [hw']
      clear hw'
      refine ⟨trivial, ?_⟩
      simp only [Act.put, sT, sS, sZ]
      refine AnyF.takeG (by rfl) 5 (some 17) (.binOp .shl 3 (.tmp 16) (.const (.int .u64 4)) 79) none (.int .i64 (IntKind.i64.wrap (plI hexL s[I] * 16))) rfl (by kernel_rfl) (by kernel_rfl) (by kernel_rfl) (fun _ _ _ h => h) rfl (fun o h => by obtain rfl := Option.some.inj h; rfl) (fun o ho w2 _ => by unfold execOp; rw [ho]; go_simp) trivial ?_
      simp only [Act.put, sT, sS, sZ]
      refine AnyF.ready (rs := [10]) (by kernel_rfl) (by simp) (ReadyF.call (some 22) 54 #[.const (.string { data := #[48, 49, 50, 51, 52, 53, 54, 55, 56, 57, 97, 98, 99, 100, 101, 102] }), .tmp 21] #[9, 5] rfl #[.string { data := #[48, 49, 50, 51, 52, 53, 54, 55, 56, 57, 97, 98, 99, 100, 101, 102] }, .int .u8 (s[J].toNat : Int)] (by simp [Act.eval]) enters29 _ (HPB.out _) ?_ (fun c w' h => by cases h.1) (fun w' h => by cases h.1) ReadyF.nil)
      rintro v w' ⟨he, hw'⟩
      cases he
      rw [hw']
      clear hw'
      refine ⟨trivial, ?_⟩
      simp only [Act.put, sT, sS, sZ]
      refine AnyF.takeG (by rfl) 11 (some 23) (.binOp .and 3 (.tmp 22) (.const (.int .i64 15)) 3) none (.int .i64 (bits .and .i64 (plI hexL s[J]) 15)) rfl (by kernel_rfl) (by kernel_rfl) (by kernel_rfl) (fun _ _ _ h => h) rfl (fun o h => by obtain rfl := Option.some.inj h; rfl) (fun o ho w2 _ => by unfold execOp; rw [ho]; go_simp) trivial ?_
      simp only [Act.put, sT, sS, sZ]
      refine AnyF.takeG (by rfl) 12 (some 24) (.binOp .or 3 (.tmp 17) (.tmp 23) 3) none (.int .i64 (bits .or .i64 (IntKind.i64.wrap (plI hexL s[I] * 16)) (bits .and .i64 (plI hexL s[J]) 15))) rfl (by kernel_rfl) (by kernel_rfl) (by kernel_rfl) (fun _ _ _ h => h) rfl (fun o h => by obtain rfl := Option.some.inj h; rfl) (fun o ho w2 _ => by unfold execOp; rw [ho]; go_simp) trivial ?_
      simp only [Act.put, sT, sS, sZ]
      refine AnyF.takeG (by rfl) 13 (some 25) (.convert 3 5 (.tmp 24)) none (.int .u8 (g.toNat : Int)) rfl (by kernel_rfl) (by kernel_rfl) (by kernel_rfl) (fun _ _ _ h => h) rfl (fun o h => by obtain rfl := Option.some.inj h; rfl) (fun o ho w2 _ => exec_conv35 (.tmp 24) ho _ g.toNat rfl hgv w2) trivial ?_
      simp only [Act.put, sT, sS, sZ]
      refine AnyF.ready (rs := [14]) (by kernel_rfl) (by simp) (ReadyF.op (w2 := Wd.alloc (.cells #[.int .u8 (g.toNat : Int)] 5)) (some 26) (.buildSlice 33 1 #[(0, .tmp 25)]) rfl (.slice (some ⟨Wd.heap.size, 0, none⟩) 1 1) (fun o ho => exec_slice1 (.tmp 25) ho g.toNat rfl Wd) trivial ?_ ReadyF.nil)
      simp only [Act.put, sT, sS, sZ]
      refine AnyF.ready (rs := [15]) (by kernel_rfl) (by simp) (ReadyF.op (w2 := W3) (some 27) (.call { callee := .builtin .append, args := #[.tmp 12, .tmp 26], argTypes := #[33, 33] }) rfl (v') (fun o ho => HAPP.out _ _ (.tmp 12) (.tmp 26) ho rfl rfl) trivial ?_ ReadyF.nil)
      simp only [Act.put, sT, sS, sZ]
      refine AnyF.takeG (by rfl) 16 (some 3) (.assign (.tmp 27)) none (v') rfl (by kernel_rfl) (by kernel_rfl) (by kernel_rfl) (fun _ _ _ h => h) rfl (fun o h => by obtain rfl := Option.some.inj h; rfl) (fun o ho w2 _ => exec_assign (.tmp 27) ho _ rfl w2) trivial ?_
      simp only [Act.put, sT, sS, sZ]
      refine AnyF.done (by kernel_rfl) ?_ _
      refine nrm_intro ?_
      go_wp2
      go_roundw
      case rel => exact ⟨q + 1, by rw [← hq0.out]; exact hJs.out, by rw [← hq0.out]; go_num, by rw [huh.out]; exact HO.out, fun h => by omega, HF.out⟩
      case measure => simp [intOf]; omega
    · have hqe : q = s.data.toList.length / 2 := by rw [hlen]; have := hJ.out; omega
      obtain ⟨ad, cap, rfl, hcv⟩ := own_str hown hv0
      rw [← hqe] at hG
      obtain ⟨D, hD⟩ : ∃ D : ByteArray, Hid (D = ⟨(uh s.data.toList q).toArray⟩) := ⟨_, Lib.hid rfl⟩
      have hDs : D.size ≤ 1000 := by rw [hD.out]; show (uh s.data.toList q).length ≤ 1000; rw [uh_length]; omega
      have H2 := Lib.hid (rhex_any D hDs)
      have hDl : D.data.toList = uh s.data.toList q := by rw [hD.out]
      rw [hDl] at H2
      obtain ⟨V, hV⟩ : ∃ V : ByteArray, Hid (V = ⟨(hex (uh s.data.toList q)).toArray⟩) := ⟨_, Lib.hid rfl⟩
      have hiff : V = s ↔ hex (uh s.data.toList q) = s.data.toList := by
        rw [hV.out]
        constructor
        · intro h; have h2 := congrArg (fun b : ByteArray => b.data.toList) h; simpa using h2
        · intro h; rw [h]
      have hB2 := Lib.hid (build27 D true)
      have hB0 := Lib.hid build27_0
      rw [← hZS.out] at hB0
      have HR1 : V = s → Hid (said (getHex s.data.toList) = saidV D true) := fun h => by unfold Hid; rw [hG.out, if_pos (hiff.1 h), hD.out]; rfl
      have HR2 : V ≠ s → Hid (said (getHex s.data.toList) = ZS) := fun h => by unfold Hid; rw [hG.out, if_neg (fun e => h (hiff.2 e)), hZS.out]; rfl
      rw [← hD.out] at hcv
      rw [← hV.out] at H2
      have hc1 := hcv wr (Below.refl _ _)
      have HCV := Lib.hid hcv
      have HB := Lib.hid hb
      have hJs : (s.size : Int) ≤ (J : Int) := by omega
      clear hcv hown hv0 hG hiff hV hDl hqe hlen hD hDs hb HZ HPL
      clear hI
      go_wp2_with fail
      refine (H2.out _).mono ?_
      rintro e w1 ⟨rfl, hb1⟩
      have hc2 := HCV.out w1 hb1
      have hg : w1.heap[w.heap.size]? = some (.cells ZS 26 (0, 0)) := by
        have h1 := HB.out.block w.heap.size (by omega)
        have hlt2 : w.heap.size < wr.heap.size := by have := HS0.out; have := HB.out.size; omega
        rw [hb1.block w.heap.size hlt2, h1]
        exact HZ0.out
      have hbel : Below w.heap.size w w1 := by
        have h1 := HB.out
        have := HS0.out
        exact (HB0.out.trans (h1.mono (by omega))).trans (hb1.mono (by have := h1.size; omega))
      have hbel2 : Hid (∀ A, Below w.heap.size w (w1.setRow (w.heap.size) A)) := Lib.hid (fun A => hbel.trans ⟨rfl, rfl, rfl, by simp, fun k hk => setRow_other _ _ _ _ (by omega)⟩)
      clear HCV hb1 HB HB0 HS0 HZ0 hc1 H2 hbel
      by_cases he : V = s
      · have hR := HR1 he
        have hdn := str_eq he
        clear HR1 HR2 he
        go_wp2_with (first | (refine wpList_run rfl _ (exec_build2 _ 26 0 1 (.tmp 35) (.const (.bool true)) rfl (.string D) (.bool true) rfl rfl _ (hB2.out _)) ?_) | (refine wpList_run0 rfl (exec_store27 _ (.tmp 2) (.tmp 36) rfl (w.heap.size) rfl D true rfl ZS 26 hg SZ) ?_))
        exact bodyPost_ret (results_cell rfl _ _ _ ⟨w.heap.size, 0, none⟩ rfl _ (load27 D true (t := 26) (setRow_heap _ _ _ _ _ _ hg))) rfl ⟨by rw [hR.out], hbel2.out _⟩
      · have hR := HR2 he
        have hdn := str_ne he
        clear HR1 HR2 he
        have hg2 : w1.heap[w.heap.size]? = some (.cells (saidV ⟨#[]⟩ false) 26 (0, 0)) := by rw [← hZS.out]; exact hg
        have hB0' : Hid (∀ w, (Instr.build 26 #[]).run Tryz.prog w = .ok (.agg (saidV ⟨#[]⟩ false)) w) := Lib.hid build27_0
        go_wp2_with (first | (refine wpList_run rfl _ (exec_build0g rfl (.agg (saidV ⟨#[]⟩ false)) (hB0'.out _) _) ?_) | (refine wpList_run0 rfl (exec_store27 _ (.tmp 2) (.tmp 33) rfl (w.heap.size) rfl ⟨#[]⟩ false rfl ZS 26 hg SZ) ?_))
        exact bodyPost_ret (results_cell rfl _ _ _ ⟨w.heap.size, 0, none⟩ rfl _ (load27 ⟨#[]⟩ false (t := 26) (setRow_heap _ _ _ _ _ _ hg))) rfl ⟨by rw [hR.out, hZS.out], hbel2.out _⟩
end Go.Proofs.YtdajmekliodmcaaGreatDoor.R
namespace Go.Proofs.YtdajmekliodmcaaGreatDoor.P8
set_option linter.unusedSimpArgs false
set_option linter.unusedVariables false
theorem mul_lit (k : Nat) (p q : Nat × Nat) (l : List Bool) (hk : hvB l = k) (hp : onN p) (hq : q.1 < pp ∧ q.2 < pp) (h1 : mulF q.1 (fastD 37095705934669439343138083508754565189542113879843219016388785533085940283555 p l).2.2 = (fastD 37095705934669439343138083508754565189542113879843219016388785533085940283555 p l).1 % pp) (h2 : mulF q.2 (fastD 37095705934669439343138083508754565189542113879843219016388785533085940283555 p l).2.2 = (fastD 37095705934669439343138083508754565189542113879843219016388785533085940283555 p l).2.1 % pp) : mulN k p = q := by
  have h := fastN_rep hp l
  rw [hk, ← fastD_eq] at h
  exact rep_lit (mulN_lt _ _) hq h h1 h2
theorem turn_mul (n : Nat) : turnN (mulN n baseN) = mulN ((ordN - 1) * n) baseN := by
  have h0 := mulN_on baseN_on n
  have h1 := mulN_on baseN_on ((ordN - 1) * n)
  apply addN_cancel (turnN_on h0) h1 h0
  rw [addN_comm, addN_turn h0, ← mulN_add baseN_on, show (ordN - 1) * n + n = ordN * n by
    rw [show ordN * n = (ordN - 1 + 1) * n by rw [show ordN - 1 + 1 = ordN by decide], Nat.add_mul, Nat.one_mul], mulN_order]
theorem ver_pt (s k a n : Nat) (h : (s + (ordN - 1) * (a * k)) % ordN = n) : addN (mulN s baseN) (turnN (mulN k (mulN a baseN))) = mulN n baseN := by
  rw [← mulN_mul baseN_on, turn_mul, ← mulN_add baseN_on, ← mulN_mod, h]
theorem decQ_even {y : Nat} {p : Nat × Nat} (h : decQ y 0 = (p, true)) : y < pp ∧ (rootF (fromU y)).2 = true ∧ (rootF (fromU y)).1 = p.1 ∧ y = p.2 := by
  unfold decQ at h
  obtain ⟨rr, hrr⟩ : ∃ rr, rr = rootF (fromU y) := ⟨_, rfl⟩
  rw [← hrr] at h ⊢
  clear hrr
  split at h
  · rename_i hc
    rw [if_neg (by decide)] at h
    obtain ⟨h1, _⟩ := Prod.mk.inj h
    exact ⟨hc.1, hc.2.1, by rw [← h1], by rw [← h1]⟩
  · obtain ⟨_, h1⟩ := Prod.mk.inj h
    cases h1
theorem from_even (A : Nat × Nat) (m : List UInt8) (b : UInt8) (hA : onN A) (h0 : A.1 % 2 = 0) (hm : m.length = 31) (hb : b.toNat < 128) (han : bits .andNot .u8 (b.toNat : Int) 128 = (b.toNat : Int)) (hy : A.2 = leVal m + b.toNat * 256 ^ 31) : FromR ⟨(m ++ [b]).toArray⟩ (A, true) := by
  have h := decP_enc hA
  rw [decP_eq, encP_mod hA.2.1, encP_div hA.2.1, h0] at h
  obtain ⟨h1, h2, h3, _⟩ := decQ_even h
  intro w hT hG
  have k := from_d0 m b b hm (Nat.mod_eq_of_lt hb).symm han A.2 hy h1 h2 hb w hT hG
  rw [h3] at k
  exact k
def kS0 : List UInt8 := [157, 97, 177, 157, 239, 253, 90, 96, 186, 132, 74, 244, 146, 236, 44, 196, 68, 73, 197, 105, 123, 50, 105, 25, 112, 59, 172, 3, 28, 174, 127, 96]
def kM0 : List UInt8 := []
set_option maxRecDepth 100000 in
theorem kA0 : secN (W4.sha kS0) = 36144925721603087658594284515452164870581325872720374094707712194495455132720 := by decide +kernel
set_option maxRecDepth 100000 in
theorem kR0 : sigR kS0 kM0 = 2015312323900227545039973048451112962192803170366412514267238242679089760755 := by decide +kernel
def kPub0P : Nat × Nat := (38815646466658113194383306759739515082307681141926459231621296960732224964046, 11903303657706407974989296177215005343713679411332034699907763981919547054807)
set_option maxRecDepth 100000 in
theorem kPub0_val : mulN 36144925721603087658594284515452164870581325872720374094707712194495455132720 baseN = kPub0P := mul_lit _ _ _ (bitsN 36144925721603087658594284515452164870581325872720374094707712194495455132720 255) (hvB_bits 255 _ (by decide)) baseN_on (by decide) (by decide +kernel) (by decide +kernel)
def kHead0P : Nat × Nat := (44370630452101398467924320556439323233869374150616132215183787387252341590058, 38448863731492799660668882834560725606410712239157980760146247592118262650597)
set_option maxRecDepth 100000 in
theorem kHead0_val : mulN 2015312323900227545039973048451112962192803170366412514267238242679089760755 baseN = kHead0P := mul_lit _ _ _ (bitsN 2015312323900227545039973048451112962192803170366412514267238242679089760755 255) (hvB_bits 255 _ (by decide)) baseN_on (by decide) (by decide +kernel) (by decide +kernel)
def kBad0P : Nat × Nat := (27464299496295276520891119629597953709513272944613520694898032357315587879381, 36524695488792566173696701424734534613404811050428805610673163702545517514826)
set_option maxRecDepth 100000 in
theorem kBad0_val : mulN 4442729775002231309957419576666489826770293249999995042298987329215190782779 baseN = kBad0P := mul_lit _ _ _ (bitsN 4442729775002231309957419576666489826770293249999995042298987329215190782779 255) (hvB_bits 255 _ (by decide)) baseN_on (by decide) (by decide +kernel) (by decide +kernel)
def kPubL0 : List UInt8 := [215, 90, 152, 1, 130, 177, 10, 183, 213, 75, 254, 211, 201, 100, 7, 58, 14, 225, 114, 243, 218, 166, 35, 37, 175, 2, 26, 104, 247, 7, 81, 26]
def kHeadL0 : List UInt8 := [229, 86, 67, 0, 195, 96, 172, 114, 144, 134, 226, 204, 128, 110, 130, 138, 132, 135, 127, 30, 184, 229, 217, 116, 216, 115, 224, 101, 34, 73, 1, 85]
def kTailL0 : List UInt8 := [95, 184, 130, 21, 144, 163, 59, 172, 198, 30, 57, 112, 28, 249, 180, 107, 210, 91, 245, 240, 89, 91, 190, 36, 101, 81, 65, 67, 142, 122, 16, 11]
theorem kPub0_bytes : bytesN (encP kPub0P) = kPubL0 := by decide +kernel
theorem kHead0_bytes : bytesN (encP kHead0P) = kHeadL0 := by decide +kernel
theorem kBad0_bytes : bytesN (encP kBad0P) ≠ kHeadL0 := by decide +kernel
theorem pub0 : pubL kS0 = kPubL0 := by
  unfold pubL
  rw [kA0, kPub0_val, kPub0_bytes]
theorem head0 : headL kS0 kM0 = kHeadL0 := by
  unfold headL
  rw [kR0, kHead0_val, kHead0_bytes]
set_option maxRecDepth 100000 in
theorem kK0 : numT (kHeadL0 ++ (kPubL0 ++ kM0)) = 1958233733501237659471134851339390337284068724042047466985993338226439154310 := by decide +kernel
set_option maxRecDepth 100000 in
theorem kX0 : numT (kHeadL0 ++ (kPubL0 ++ (kM0 ++ [120]))) = 7105053535885340757715205778169356927404386393052748833402476575000598598480 := by decide +kernel
theorem mad0 : S7.muladdL 1958233733501237659471134851339390337284068724042047466985993338226439154310 36144925721603087658594284515452164870581325872720374094707712194495455132720 2015312323900227545039973048451112962192803170366412514267238242679089760755 % S7.LL = 5004556735901913393272427758925840403246877222315506387332009764265656498271 := by decide +kernel
theorem tlb0 : bytesN 5004556735901913393272427758925840403246877222315506387332009764265656498271 = kTailL0 := by decide +kernel
theorem sk0 : sigK kS0 kM0 = 1958233733501237659471134851339390337284068724042047466985993338226439154310 := by
  unfold sigK
  rw [head0, pub0]
  exact kK0
theorem tail0 : tailL kS0 kM0 = kTailL0 := by
  unfold tailL
  rw [sk0, kA0, kR0, mad0]
  exact tlb0
theorem from0 : S7.fromL kTailL0 = (5004556735901913393272427758925840403246877222315506387332009764265656498271, true) := by decide +kernel
theorem pubOn0 : onN kPub0P := by rw [← kPub0_val]; exact mulN_on baseN_on _
theorem fromPub0 : FromR ⟨kPubL0.toArray⟩ (kPub0P, true) := from_even _ [215, 90, 152, 1, 130, 177, 10, 183, 213, 75, 254, 211, 201, 100, 7, 58, 14, 225, 114, 243, 218, 166, 35, 37, 175, 2, 26, 104, 247, 7, 81] 26 pubOn0 (by decide) (by decide) (by decide) (by decide) (by decide +kernel)
theorem good0 : verR kPubL0 kM0 (kHeadL0 ++ kTailL0) kPub0P 5004556735901913393272427758925840403246877222315506387332009764265656498271 = true := by
  unfold verR
  rw [show (kHeadL0 ++ kTailL0).take 32 = kHeadL0 from rfl, kK0, ← kPub0_val, ver_pt _ _ _ 2015312323900227545039973048451112962192803170366412514267238242679089760755 (by decide +kernel), kHead0_val, kHead0_bytes]
  exact decide_eq_true rfl
theorem bad0 : verR kPubL0 (kM0 ++ [120]) (kHeadL0 ++ kTailL0) kPub0P 5004556735901913393272427758925840403246877222315506387332009764265656498271 = false := by
  unfold verR
  rw [show (kHeadL0 ++ kTailL0).take 32 = kHeadL0 from rfl, kX0, ← kPub0_val, ver_pt _ _ _ 4442729775002231309957419576666489826770293249999995042298987329215190782779 (by decide +kernel), kBad0_val]
  exact decide_eq_false kBad0_bytes
def kSH0 : ByteArray := ⟨#[57, 100, 54, 49, 98, 49, 57, 100, 101, 102, 102, 100, 53, 97, 54, 48, 98, 97, 56, 52, 52, 97, 102, 52, 57, 50, 101, 99, 50, 99, 99, 52, 52, 52, 52, 57, 99, 53, 54, 57, 55, 98, 51, 50, 54, 57, 49, 57, 55, 48, 51, 98, 97, 99, 48, 51, 49, 99, 97, 101, 55, 102, 54, 48]⟩
def kPH0 : ByteArray := ⟨#[100, 55, 53, 97, 57, 56, 48, 49, 56, 50, 98, 49, 48, 97, 98, 55, 100, 53, 52, 98, 102, 101, 100, 51, 99, 57, 54, 52, 48, 55, 51, 97, 48, 101, 101, 49, 55, 50, 102, 51, 100, 97, 97, 54, 50, 51, 50, 53, 97, 102, 48, 50, 49, 97, 54, 56, 102, 55, 48, 55, 53, 49, 49, 97]⟩
def kGH0 : ByteArray := ⟨([101, 53, 53, 54, 52, 51, 48, 48, 99, 51, 54, 48, 97, 99, 55, 50, 57, 48, 56, 54, 101, 50, 99, 99, 56, 48, 54, 101, 56, 50, 56, 97, 56, 52, 56, 55, 55, 102, 49, 101, 98, 56, 101, 53, 100, 57, 55, 52, 100, 56, 55, 51, 101, 48, 54, 53, 50, 50, 52, 57, 48, 49, 53, 53].append [53, 102, 98, 56, 56, 50, 49, 53, 57, 48, 97, 51, 51, 98, 97, 99, 99, 54, 49, 101, 51, 57, 55, 48, 49, 99, 102, 57, 98, 52, 54, 98, 100, 50, 53, 98, 102, 53, 102, 48, 53, 57, 53, 98, 98, 101, 50, 52, 54, 53, 53, 49, 52, 49, 52, 51, 56, 101, 55, 97, 49, 48, 48, 98]).toArray⟩
theorem getS0 : getHex kSH0.data.toList = some kS0 := by decide +kernel
theorem hexP0 : (⟨(hex kPubL0).toArray⟩ : ByteArray) = kPH0 := by decide +kernel
theorem hexG0 : (⟨(hex (kHeadL0 ++ kTailL0)).toArray⟩ : ByteArray) = kGH0 := by decide +kernel
def kS1 : List UInt8 := [76, 205, 8, 155, 40, 255, 150, 218, 157, 182, 195, 70, 236, 17, 78, 15, 91, 138, 49, 159, 53, 171, 166, 36, 218, 140, 246, 237, 79, 184, 166, 251]
def kM1 : List UInt8 := [114]
set_option maxRecDepth 100000 in
theorem kA1 : secN (W4.sha kS1) = 36719169098639693649133653787996834628439804378423932336643700061163197742440 := by decide +kernel
set_option maxRecDepth 100000 in
theorem kR1 : sigR kS1 kM1 = 3708935390207795704151005957304313360809555365997121277205774546442005757839 := by decide +kernel
def kPub1P : Nat × Nat := (52774231920053734232574595727734981596546427020284349182563870143297718469550, 5609657767448528674903586191599477543993232845525898641911799861560072421437)
set_option maxRecDepth 100000 in
theorem kPub1_val : mulN 36719169098639693649133653787996834628439804378423932336643700061163197742440 baseN = kPub1P := mul_lit _ _ _ (bitsN 36719169098639693649133653787996834628439804378423932336643700061163197742440 255) (hvB_bits 255 _ (by decide)) baseN_on (by decide) (by decide +kernel) (by decide +kernel)
def kHead1P : Nat × Nat := (9723755734215906320098229349078520107637843343703680356978966424352572363457, 40895193136033226965014799556713247533209654337761990128738905002094921097362)
set_option maxRecDepth 100000 in
theorem kHead1_val : mulN 3708935390207795704151005957304313360809555365997121277205774546442005757839 baseN = kHead1P := mul_lit _ _ _ (bitsN 3708935390207795704151005957304313360809555365997121277205774546442005757839 255) (hvB_bits 255 _ (by decide)) baseN_on (by decide) (by decide +kernel) (by decide +kernel)
def kBad1P : Nat × Nat := (25543348939841812166453860763620916739541343582924523526639852726191096766038, 45136131849035363438986765152380118171237673241131258244754624499580176019151)
set_option maxRecDepth 100000 in
theorem kBad1_val : mulN 3955210232442729219523112094275981053809673141262667112019850592841687020225 baseN = kBad1P := mul_lit _ _ _ (bitsN 3955210232442729219523112094275981053809673141262667112019850592841687020225 255) (hvB_bits 255 _ (by decide)) baseN_on (by decide) (by decide +kernel) (by decide +kernel)
def kPubL1 : List UInt8 := [61, 64, 23, 195, 232, 67, 137, 90, 146, 183, 10, 167, 77, 27, 126, 188, 156, 152, 44, 207, 46, 196, 150, 140, 192, 205, 85, 241, 42, 244, 102, 12]
def kHeadL1 : List UInt8 := [146, 160, 9, 169, 240, 212, 202, 184, 114, 14, 130, 11, 95, 100, 37, 64, 162, 178, 123, 84, 22, 80, 63, 143, 179, 118, 34, 35, 235, 219, 105, 218]
def kTailL1 : List UInt8 := [8, 90, 193, 228, 62, 21, 153, 110, 69, 143, 54, 19, 208, 241, 29, 140, 56, 123, 46, 174, 180, 48, 42, 238, 176, 13, 41, 22, 18, 187, 12, 0]
theorem kPub1_bytes : bytesN (encP kPub1P) = kPubL1 := by decide +kernel
theorem kHead1_bytes : bytesN (encP kHead1P) = kHeadL1 := by decide +kernel
theorem kBad1_bytes : bytesN (encP kBad1P) ≠ kHeadL1 := by decide +kernel
theorem pub1 : pubL kS1 = kPubL1 := by
  unfold pubL
  rw [kA1, kPub1_val, kPub1_bytes]
theorem head1 : headL kS1 kM1 = kHeadL1 := by
  unfold headL
  rw [kR1, kHead1_val, kHead1_bytes]
set_option maxRecDepth 100000 in
theorem kK1 : numT (kHeadL1 ++ (kPubL1 ++ kM1)) = 1521055386790426224942618188468695662894702443171065680331295640303292610227 := by decide +kernel
set_option maxRecDepth 100000 in
theorem kX1 : numT (kHeadL1 ++ (kPubL1 ++ (kM1 ++ [120]))) = 1008337104856790574654837530129915044662178501835784506034038060632734885188 := by decide +kernel
theorem mad1 : S7.muladdL 1521055386790426224942618188468695662894702443171065680331295640303292610227 36719169098639693649133653787996834628439804378423932336643700061163197742440 3708935390207795704151005957304313360809555365997121277205774546442005757839 % S7.LL = 22493278956989295319831480986006851106061907369804654499116800046813764104 := by decide +kernel
theorem tlb1 : bytesN 22493278956989295319831480986006851106061907369804654499116800046813764104 = kTailL1 := by decide +kernel
theorem sk1 : sigK kS1 kM1 = 1521055386790426224942618188468695662894702443171065680331295640303292610227 := by
  unfold sigK
  rw [head1, pub1]
  exact kK1
theorem tail1 : tailL kS1 kM1 = kTailL1 := by
  unfold tailL
  rw [sk1, kA1, kR1, mad1]
  exact tlb1
theorem from1 : S7.fromL kTailL1 = (22493278956989295319831480986006851106061907369804654499116800046813764104, true) := by decide +kernel
theorem pubOn1 : onN kPub1P := by rw [← kPub1_val]; exact mulN_on baseN_on _
theorem fromPub1 : FromR ⟨kPubL1.toArray⟩ (kPub1P, true) := from_even _ [61, 64, 23, 195, 232, 67, 137, 90, 146, 183, 10, 167, 77, 27, 126, 188, 156, 152, 44, 207, 46, 196, 150, 140, 192, 205, 85, 241, 42, 244, 102] 12 pubOn1 (by decide) (by decide) (by decide) (by decide) (by decide +kernel)
theorem good1 : verR kPubL1 kM1 (kHeadL1 ++ kTailL1) kPub1P 22493278956989295319831480986006851106061907369804654499116800046813764104 = true := by
  unfold verR
  rw [show (kHeadL1 ++ kTailL1).take 32 = kHeadL1 from rfl, kK1, ← kPub1_val, ver_pt _ _ _ 3708935390207795704151005957304313360809555365997121277205774546442005757839 (by decide +kernel), kHead1_val, kHead1_bytes]
  exact decide_eq_true rfl
theorem bad1 : verR kPubL1 (kM1 ++ [120]) (kHeadL1 ++ kTailL1) kPub1P 22493278956989295319831480986006851106061907369804654499116800046813764104 = false := by
  unfold verR
  rw [show (kHeadL1 ++ kTailL1).take 32 = kHeadL1 from rfl, kX1, ← kPub1_val, ver_pt _ _ _ 3955210232442729219523112094275981053809673141262667112019850592841687020225 (by decide +kernel), kBad1_val]
  exact decide_eq_false kBad1_bytes
def kSH1 : ByteArray := ⟨#[52, 99, 99, 100, 48, 56, 57, 98, 50, 56, 102, 102, 57, 54, 100, 97, 57, 100, 98, 54, 99, 51, 52, 54, 101, 99, 49, 49, 52, 101, 48, 102, 53, 98, 56, 97, 51, 49, 57, 102, 51, 53, 97, 98, 97, 54, 50, 52, 100, 97, 56, 99, 102, 54, 101, 100, 52, 102, 98, 56, 97, 54, 102, 98]⟩
def kPH1 : ByteArray := ⟨#[51, 100, 52, 48, 49, 55, 99, 51, 101, 56, 52, 51, 56, 57, 53, 97, 57, 50, 98, 55, 48, 97, 97, 55, 52, 100, 49, 98, 55, 101, 98, 99, 57, 99, 57, 56, 50, 99, 99, 102, 50, 101, 99, 52, 57, 54, 56, 99, 99, 48, 99, 100, 53, 53, 102, 49, 50, 97, 102, 52, 54, 54, 48, 99]⟩
def kGH1 : ByteArray := ⟨([57, 50, 97, 48, 48, 57, 97, 57, 102, 48, 100, 52, 99, 97, 98, 56, 55, 50, 48, 101, 56, 50, 48, 98, 53, 102, 54, 52, 50, 53, 52, 48, 97, 50, 98, 50, 55, 98, 53, 52, 49, 54, 53, 48, 51, 102, 56, 102, 98, 51, 55, 54, 50, 50, 50, 51, 101, 98, 100, 98, 54, 57, 100, 97].append [48, 56, 53, 97, 99, 49, 101, 52, 51, 101, 49, 53, 57, 57, 54, 101, 52, 53, 56, 102, 51, 54, 49, 51, 100, 48, 102, 49, 49, 100, 56, 99, 51, 56, 55, 98, 50, 101, 97, 101, 98, 52, 51, 48, 50, 97, 101, 101, 98, 48, 48, 100, 50, 57, 49, 54, 49, 50, 98, 98, 48, 99, 48, 48]).toArray⟩
theorem getS1 : getHex kSH1.data.toList = some kS1 := by decide +kernel
theorem hexP1 : (⟨(hex kPubL1).toArray⟩ : ByteArray) = kPH1 := by decide +kernel
theorem hexG1 : (⟨(hex (kHeadL1 ++ kTailL1)).toArray⟩ : ByteArray) = kGH1 := by decide +kernel
end Go.Proofs.YtdajmekliodmcaaGreatDoor.P8
