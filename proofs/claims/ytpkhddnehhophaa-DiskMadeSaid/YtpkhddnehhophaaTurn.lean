/- What Fuse and Turn of package disk do to a disk that lies in memory. No condition but what each law names. -/
import Derived.Test.YtpkhddnehhophaaDisk
import Derived.RegionTactic
import Derived.ChangeAlike
import Derived.BigRegion
namespace Go.Proofs.Ytpkhddnehhophaa
open Go.RowKit
set_option linter.unusedVariables false

set_option maxHeartbeats 400000 in
theorem fuse_ok {w : World} {B b bs : Nat} {lv : Value} {D : DS} (h : Rep w B b bs lv D) (n : Int) :
    Calls Try.prog 20 #[.pointer (some ⟨b, 0, none⟩), .int .i64 n] w fun e w' => e = .returned (.tuple #[]) ∧ w.setCell ⟨b, 2, none⟩ (.int .i64 n) = w' := by
  obtain ⟨-, -, c2, -⟩ := h.c
  have f2 := h.f 2
  clear h
  go_enter Try.func20, Try.ntmps20
  go_wp2
  go_end0
  exact ⟨rfl, rfl⟩

theorem fuse_nil (n : Int) (w : World) : Calls Try.prog 20 #[.pointer none, .int .i64 n] w fun e w' => e = .returned (.tuple #[]) ∧ w = w' := by
  go_enter Try.func20, Try.ntmps20
  go_wp2
  go_end0
  exact ⟨rfl, rfl⟩

theorem size65 : (Try.prog.info? 65).map (·.size) = some 64 := by kernel_rfl

set_option maxHeartbeats 400000 in
theorem turn_walk {w : World} {b bs : Nat} (n i at_ by_ : Nat) (x y : Int) (cur : Array Value) (f2 : List UInt8) (p : Option Addr) (c : Nat) (R : World → Prop)
    (c0 : w.cell? ⟨b, 0, none⟩ = some (.slice (some ⟨bs, 0, none⟩) n n)) (c1 : w.cell? ⟨b, 1, none⟩ = some (.slice p 0 c))
    (hi : i < n) (hn : n ≤ 4096) (hat : at_ < 64) (hby : 1 ≤ by_) (hby2 : by_ ≤ 255) (hx0 : 0 ≤ x) (hx1 : x ≤ 255)
    (hc : w.cell? ⟨bs, i * 128 + at_, none⟩ = some (.int .u8 x))
    (hf : w.frozen? ⟨bs, i * 128 + at_, none⟩ = false) (hy : bits .xor .u8 x (by_ : Int) = y)
    (hg : Hid ((w.setCell ⟨bs, i * 128 + at_, none⟩ (.int .u8 y)).drew.heap[bs]? = some (.cells cur 69 (0, 0))))
    (hcl : Hid (∀ j v, (bv f2)[j]? = some v → (w.setCell ⟨bs, i * 128 + at_, none⟩ (.int .u8 y)).drew.cell? ⟨bs, i * 128 + j, none⟩ = some v))
    (hl : Hid (f2.length = 64)) (hsz : Hid (i * 128 + 64 + (bv f2).length ≤ cur.size))
    (hR : Hid (R ((w.setCell ⟨bs, i * 128 + at_, none⟩ (.int .u8 y)).drew.setRow bs (splice cur (i * 128 + 64) (bv f2))))) :
    Calls Try.prog 21 #[.pointer (some ⟨b, 0, none⟩), .int .i64 i, .int .i64 at_, .int .i64 by_] w fun e w' => e = .returned (.int .i64 0) ∧ R w' := by
  have K := has_yes b bs n n i w (by omega) (by omega) c0
  have hd0 : decide ((at_ : Int) < 0) = false := by simp
  have hd1 : decide (64 ≤ (at_ : Int)) = false := by simp; omega
  have hd2 : decide ((by_ : Int) < 1) = false := by simp; omega
  have hd3 : decide (255 < (by_ : Int)) = false := by simp; omega
  have hsi : Hid ((Try.prog.info? 65).map (·.size) = some (bv f2).length) := by unfold Hid; rw [bv_length, hl.out]; exact size65
  go_enter Try.func21, Try.ntmps21
  go_wp2_with (go_at_call 30; refine K.mono ?_; clear K; rintro e w' ⟨rfl, rfl⟩)
  go_region
  go_wp2_with (first | (refine wpList_load_seg rfl 65 (.tmp 62) rfl bs (i * 128) rfl (bv f2) _ hcl.out Try.underlying65 rfl hsi.out ?_) | (refine wpList_store_seg rfl 65 (.tmp 65) (.tmp 63) rfl bs (i * 128 + 64) rfl (bv f2) rfl cur 69 hg.out hsz.out (bv_one f2) hsi.out ?_))
  go_ret
  exact ⟨rfl, hR.out⟩

/-- Turn of a byte that is there. -/
theorem turn_ok {w : World} {B b bs : Nat} {lv : Value} {D : DS} (h : Rep w B b bs lv D) (hd : D.loose = []) (i k v : Nat) (hi : i < D.n) (hk : k < 64) (hv : 1 ≤ v) (hv2 : v ≤ 255) :
    Calls Try.prog 21 #[.pointer (some ⟨b, 0, none⟩), .int .i64 i, .int .i64 k, .int .i64 v] w fun e w' => e = .returned (.int .i64 0) ∧
      (Rep w' B b bs lv { D with firm := upd D.firm i ((D.firm i).set k ((D.firm i).getD k 0 ^^^ UInt8.ofNat v)), now := upd D.now i ((D.firm i).set k ((D.firm i).getD k 0 ^^^ UInt8.ofNat v)) } ∧ Fr (Foot b bs lv) w w') := by
  obtain ⟨c0, c1, -, -⟩ := h.c
  obtain ⟨p, c, hlv⟩ := h.sl
  rw [hd] at hlv
  rw [hlv] at c1
  obtain ⟨cur, hg, hS⟩ := h.hs
  have hlf := hS.lf i hi
  have hcs := hS.size
  have hn := h.hn
  have hne := h.ne
  generalize hf2 : (D.firm i).set k ((D.firm i).getD k 0 ^^^ UInt8.ofNat v) = f2
  have hl2 : f2.length = 64 := by rw [← hf2]; simp [hlf]
  have hget2 : ∀ j, j < 64 → bget f2 j = if j = k then .int .u8 (((D.firm i).getD k 0).toNat ^^^ v : Nat) else bget (D.firm i) j := by
    intro j hj
    rw [← hf2]
    unfold bget
    by_cases e : j = k
    · subst e
      simp [List.getD, hlf, hj, UInt8.toNat_xor, Nat.mod_eq_of_lt (show v < 256 by omega)]
    · simp [List.getD, e, Ne.symm e]
  have hcx := hS.cf i hi k hk
  have hy : bits .xor .u8 (((D.firm i).getD k 0).toNat : Int) (v : Int) = ((((D.firm i).getD k 0).toNat ^^^ v : Nat) : Int) := u8_xor_nat _ _ (UInt8.toNat_lt _) (by omega)
  have hg2 : (w.setCell ⟨bs, i * 128 + k, none⟩ (.int .u8 ((((D.firm i).getD k 0).toNat ^^^ v : Nat) : Int))).drew.heap[bs]? = some (.cells (cur.setIfInBounds (i * 128 + k) (.int .u8 ((((D.firm i).getD k 0).toNat ^^^ v : Nat) : Int))) 69 (0, 0)) :=
    heap_setCell_same w bs _ cur 69 _ hg
  have hxl : ((D.firm i).getD k 0).toNat < 256 := UInt8.toNat_lt _
  have hsz : i * 128 + 64 + (bv f2).length ≤ (cur.setIfInBounds (i * 128 + k) (.int .u8 ((((D.firm i).getD k 0).toNat ^^^ v : Nat) : Int))).size := by
    rw [bv_length]; simp; omega
  refine turn_walk (w := w) D.n i k v (((D.firm i).getD k 0).toNat : Int) _ _ f2 p c _ c0 c1 hi hn hk hv hv2 (by omega) (by omega) ?_ ?_ hy hg2 ?_ hl2 hsz ?_
  · rw [cell_of_row w bs _ cur 69 (0, 0) hg, hcx]; rfl
  · exact frozen_of_row w bs _ cur 69 hg
  · intro j u hu
    rw [bv_get] at hu
    split at hu
    · rename_i hj
      rw [cell_of_row _ bs _ _ 69 (0, 0) hg2, Array.getElem?_setIfInBounds]
      rw [hget2 j (by omega)] at hu
      by_cases e : j = k
      · subst e
        rw [if_pos rfl] at hu
        rw [if_pos rfl, if_pos (by omega)]
        exact hu
      · rw [if_neg e] at hu
        rw [if_neg (by omega), hS.cf i hi j (by omega)]
        exact hu
    · cases hu
  · refine ⟨⟨h.hb, h.hbs, ?_, hn, ⟨_, setRow_heap _ bs _ _ 69 _ hg2, ?_⟩, ?_, h.hx, h.hm, h.hf⟩, ?_⟩
    · rw [setRow_other _ _ _ _ (Ne.symm hne.1)]
      exact (Below.heap_setCell w _ _ b (Ne.symm hne.1)).trans h.hd
    · refine hS.set (by rw [splice_size _ _ _ hsz]; simp [hcs]) ?_ ?_ ?_ hl2 hl2
      · intro j hj
        rw [splice_get _ _ _ hsz, bv_length, hl2, if_neg (by omega), Array.getElem?_setIfInBounds, if_neg (by omega)]
      · intro j hj
        rw [splice_get _ _ _ hsz, bv_length, hl2, if_neg (by omega), Array.getElem?_setIfInBounds, hget2 j hj]
        by_cases e : j = k
        · subst e; rw [if_pos rfl, if_pos (by omega), if_pos rfl]
        · rw [if_neg (by omega), if_neg e, hS.cf i hi j hj]
      · intro j hj
        rw [splice_get _ _ _ hsz, bv_length, hl2, if_pos (by omega), bv_get, if_pos (by omega)]
        congr 2; omega
    · refine h.hl.kept (row := some bs) ⟨rfl, rfl, rfl, by simp [World.setCell], fun j _ hj => ?_⟩ (Or.inr hne.2.2)
      have hj' : j ≠ bs := fun e => hj (by rw [e])
      rw [setRow_other _ _ _ _ hj']
      exact Below.heap_setCell w _ _ j hj'
    · exact (((Fr.refl _ w).setCell (p := ⟨bs, i * 128 + k, none⟩) (Or.inr (Or.inl rfl)) _).drew).setRow (Or.inr (Or.inl rfl)) _

end Go.Proofs.Ytpkhddnehhophaa
