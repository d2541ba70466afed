/- Several texts, one behind the other; each says by itself what it proves, and on what conditions. -/
import Derived.Test.YtdbbcngolcnniaaGreatDoorY14
import Derived.Laws.MakeOwn
import Derived.Laws.IdiomStrings
import Derived.Test.YtdbbcngolcnniaaGreatDoorRows
import Derived.WalkKit
import Derived.WalkSpells
import Derived.WalkLawsBesides
import Derived.Handy
import Derived.Lib.Hide
import Derived.RegionTactic
import Derived.Maps.AppendAt
import Derived.KernelRfl
import Derived.Outline
import Derived.BigQuiet
import Derived.Deep.QuietTactic
import Derived.OneCell
/- strings.Clone; the program's end. Its condition: lengths that fit. -/
namespace Go.Proofs.YtdbbcngolcnniaaGreatDoor
open Go.RowKit Go.Shelf
set_option linter.unusedVariables false
set_option linter.unusedSimpArgs false
section
open E
theorem ent57 : Enters Tryz.prog 57 := enters_of Tryz.func57 (by kernel_rfl) rfl
theorem ent30 : Enters Tryz.prog 30 := enters_of Tryz.func30 (by kernel_rfl) rfl
theorem hC0_ok (id : Nat) (s : List UInt8) (hs : s.length ≤ 281474976710656) : HintOk Tryz.prog id (pc 57 #[stv s] (.v (stv s))) := pc_ok ent57 (v := stv s) rfl (fun _ => rfl) fun w => stringslite_Clone ⟨s.toArray⟩ w (by show s.toArray.size ≤ _; simpa using hs)
set_option maxRecDepth 100000 in
theorem clone_any (s : List UInt8) (hs : s.length ≤ 281474976710656) (w : World) : Calls Tryz.prog 30 #[stv s] w fun e w' => e = .returned (stv s) ∧ Below w.heap.size w w' := by
 refine At.calls (args := [.v (stv s)]) (rows := []) (gl := []) (wr := []) (ρ := fun _ => (⟨0, 0, 0⟩ : Blk)) Tryz.func30 rfl rfl (init_rw ⟨rfl, trivial⟩ rfl rfl rfl (fun p hp => by cases hp) (fun p hp => by cases hp) (fun p hp => by cases hp)) rfl ?_
 exact At.fin rfl [(2001, pc 57 #[stv s] (.v (stv s)))] ⟨hC0_ok _ _ hs, trivial⟩ [] (x := .v (stv s)) (ob := qL (pc 57 #[stv s] (.v (stv s)))) (by kernel_rfl) (all_qL _) fun ρ' w' hf _ => ⟨rfl, hf.below⟩
abbrev hCl (s : List UInt8) : Hint := pc 30 #[stv s] (.v (stv s))
theorem hCl_ok (id : Nat) (s : List UInt8) (hs : s.length ≤ 281474976710656) : HintOk Tryz.prog id (hCl s) := pc_ok ent30 (v := stv s) rfl (fun _ => rfl) fun w => clone_any s hs w
end
end Go.Proofs.YtdbbcngolcnniaaGreatDoor
/- Package codec's Fold: it tells the arithmetic's bytes. Its condition: a length that fits. -/
namespace Go.Proofs.YtdbbcngolcnniaaGreatDoor
set_option linter.unusedSimpArgs false
open Go.RowKit Go.Shelf
set_option linter.unusedVariables false
attribute [local go_sem] Oper.semAt_some
def rowF (n : Nat) (l : List UInt8) : Array Value := ((List.range n).map fun k => Value.int .u8 ((foldN n k l 0 : Nat) : Int)).toArray
theorem rowF_size (n : Nat) (l : List UInt8) : (rowF n l).size = n := by simp [rowF]
theorem rowF_get (n : Nat) (l : List UInt8) (k : Nat) (h : k < n) : (rowF n l)[k]? = some (Value.int .u8 ((foldN n k l 0 : Nat) : Int)) := by simp [rowF, h]
theorem rowF_nil (n : Nat) : rowF n [] = (List.replicate n (Value.int .u8 0)).toArray := by
 simp only [rowF, foldN]
 congr 1
 apply List.ext_getElem
 ·simp
 ·intro i h1 h2; simp
theorem rowF_snoc (n : Nat) (hn : 0 < n) (l : List UInt8) (c : UInt8) : rowF n (l ++ [c]) = (rowF n l).setIfInBounds (l.length % n) (Value.int .u8 ((foldN n (l.length % n) l 0 ^^^ c.toNat : Nat) : Int)) := by
 apply Array.ext
 ·simp [rowF]
 ·intro i h1 h2
  have hi : i < n := by simpa [rowF] using h1
  have e1 : (rowF n (l ++ [c]))[i] = Value.int .u8 ((foldN n i (l ++ [c]) 0 : Nat) : Int) := by simp [rowF]
  rw [e1, foldN_append, Array.getElem_setIfInBounds (by rw [rowF_size]; exact hi)]
  simp only [foldN, Nat.zero_add]
  by_cases h : l.length % n = i
  ·subst h; simp
  ·rw [if_neg h, if_neg h]
   simp [rowF]
theorem exec_rem3 {ρ : Operand → Value} {o : Oper} (x y : Operand) (ho : o.op = .binOp .rem 3 x y 3) (a b : Nat) (hx : ρ x = .int .i64 (a : Int)) (hy : ρ y = .int .i64 (b : Int)) (hb : 0 < b) (ha : a < 9223372036854775808) (w : World) : (execOp ρ o).run Tryz.prog w = .ok (.value (.int .i64 ((a % b : Nat) : Int))) w := by
 have hb2 : ¬ ((b : Int) = 0) := by omega
 have hb3 : ¬ (b = 0) := by omega
 have hm : ((a % b : Nat) : Int) = (a : Int) % (b : Int) := by simp
 have hlt : a % b ≤ a := Nat.mod_le a b
 have hwr : IntKind.i64.wrap (((a % b : Nat) : Int)) = ((a % b : Nat) : Int) := by rw [IntKind.wrap_i64]; omega
 unfold execOp; rw [ho]; go_simp
 exact Int.tmod_eq_emod_of_nonneg (by omega)
theorem exec_indexAddr31 {ρ : Operand → Value} {o : Oper} (x y : Operand) (ho : o.op = .indexAddr 22 x y) (g n c j : Nat) (hx : ρ x = .slice (some ⟨g, 0, none⟩) n c) (hy : ρ y = .int .i64 (j : Int)) (hj : j < n) (w : World) : (execOp ρ o).run Tryz.prog w = .ok (.value (.pointer (some ⟨g, j, none⟩))) w := by
 unfold execOp; rw [ho]; go_simp
theorem exec_load5 {ρ : Operand → Value} {o : Oper} (x : Operand) (ho : o.op = .load 5 x) (g j : Nat) (v : Int) (hx : ρ x = .pointer (some ⟨g, j, none⟩)) (w : World) (hc : w.cell? ⟨g, j, none⟩ = some (.int .u8 v)) : (execOp ρ o).run Tryz.prog w = .ok (.value (.int .u8 v)) w := by
 unfold execOp; rw [ho]; go_simp
theorem exec_store5 {ρ : Operand → Value} {o : Oper} (x y : Operand) (ho : o.op = .store 5 x y) (g j : Nat) (v u : Int) (hx : ρ x = .pointer (some ⟨g, j, none⟩)) (hy : ρ y = .int .u8 v) (w : World) (hc : w.cell? ⟨g, j, none⟩ = some (.int .u8 u)) (hf : w.frozen? ⟨g, j, none⟩ = false) : (execOp ρ o).run Tryz.prog w = .ok .skip (w.setCell ⟨g, j, none⟩ (.int .u8 v)) := by
 unfold execOp; rw [ho]; go_simp
theorem exec_xor5 {ρ : Operand → Value} {o : Oper} (x y : Operand) (ho : o.op = .binOp .xor 5 x y 5) (a b : Nat) (hx : ρ x = .int .u8 (a : Int)) (hy : ρ y = .int .u8 (b : Int)) (ha : a < 256) (hb : b < 256) (w : World) : (execOp ρ o).run Tryz.prog w = .ok (.value (.int .u8 ((a ^^^ b : Nat) : Int))) w := by
 unfold execOp; rw [ho]; go_simp
 exact u8_xor_nat a b ha hb
theorem exec_index9 {ρ : Operand → Value} {o : Oper} (x y : Operand) (ho : o.op = .index 9 x y) (s : ByteArray) (k : Nat) (hx : ρ x = .string s) (hy : ρ y = .int .i64 (k : Int)) (hk : k < s.size) (w : World) : (execOp ρ o).run Tryz.prog w = .ok (.value (.int .u8 (s[k].toNat : Int))) w := by
 unfold execOp; rw [ho]; go_simp
theorem make_u8 (m : Nat) (hm : m ≤ 1000) : ∀ W : World, (Instr.makeSlice 22 (.int .i64 (m : Int)) (.int .i64 (m : Int))).run Tryz.prog W = .ok (.slice (some ⟨W.heap.size, 0, none⟩) m m) (W.alloc (.cells (madeCells (Value.int .u8 0).cells m) 5)) := fun W => by
 obtain ⟨i0, hi, hz0, hz1, hz2⟩ := info_parts (show (Tryz.prog.info? 5).map (fun i => (i.zero, i.size, i.bytes)) = some (some (.int .u8 0), 1, 1) by kernel_rfl)
 have h := run_make (P := Tryz.prog) W 22 5 i0 (.int .u8 0) Tryz.underlying22 hi hz0 .i64 .i64 (m : Int) (m : Int) (by omega) (by omega) (by rw [hz2]; omega) (by omega)
 rw [hz1] at h
 simpa using h
theorem made_row (m : Nat) : madeCells (Value.int .u8 0).cells m = rowF m [] := by
 rw [rowF_nil]
 apply Array.ext
 ·simp [madeCells, Value.cells]
 ·intro i h1 h2
  simp [madeCells, Value.cells, Nat.mod_one]
theorem setCell_row (w : World) (g : Nat) (c : Array Value) (t : TypeId) (fz : Nat × Nat) (j : Nat) (v : Value) (hg : w.heap[g]? = some (.cells c t fz)) : (w.setCell ⟨g, j, none⟩ v).heap[g]? = some (.cells (c.setIfInBounds j v) t fz) := by
 simp [World.setCell, Array.getElem?_modify, hg]
set_option maxHeartbeats 2000000 in
theorem fold_in (s : ByteArray) (n : Nat) (h1 : 1 ≤ n) (hn : n ≤ 64) (w : World) (hs : s.size ≤ 549755813888) :
  Calls Tryz.prog 34 #[.string s, .int .i64 (n : Int)] w fun e w2 => e = .returned (.string ⟨(fold s.data.toList n).toArray⟩) ∧ Below w.heap.size w w2 := by
 refine (callsIn_wide (n := 5)).1 ?_
 refine callsIn_of_wp Tryz.func34 rfl trivial ?_ rfl
 simp only [Tryz.ntmps34, List.size_toArray, List.length_cons, List.length_nil, Nat.reduceAdd, Nat.reduceSub, Array.replicate_succ, Array.replicate_zero, List.push_toArray, List.append_toArray, List.nil_append, List.cons_append]
 have hmk := make_u8 n (by omega)
 rw [made_row] at hmk
 have n1 : ¬ ((n : Int) < 1) := by omega
 have n64 : ¬ ((n : Int) > 64) := by omega
 obtain ⟨g, hg⟩ : ∃ g, g = w.heap.size := ⟨_, rfl⟩
 have hG0 : (w.alloc (.cells (rowF n []) 5)).heap[g]? = some (.cells (rowF n []) 5 (0, 0)) := by rw [hg]; exact World.alloc_heap_new w _
 have hB0 : Below g w (w.alloc (.cells (rowF n []) 5)) := by rw [hg]; exact (Below.refl _ w).alloc (Nat.le_refl _) _
 have hgH := Lib.hid hg
 clear hg
 gi_wp2
 gi_loopw [17] (fun v wr => ∃ i : Nat, v = .int .i64 i ∧ i ≤ s.size ∧ wr.heap[g]? = some (.cells (rowF n (s.data.toList.take i)) 5 (0, 0)) ∧ Below g w wr)
  (fun v _ => s.size - (intOf v).toNat)
 case atStart => exact ⟨0, rfl, Nat.zero_le _, by simpa using hG0, hB0⟩
 case round =>
  obtain ⟨i, rfl, hi, hG, hB⟩ := hrel
  rw [← hgH.out]
  by_cases hlt : i < s.size
  ·obtain ⟨P, hP⟩ : ∃ P, P = s.data.toList.take i := ⟨_, rfl⟩
   obtain ⟨j, hj⟩ : ∃ j, j = i % n := ⟨_, rfl⟩
   have hjn : j < n := by rw [hj]; exact Nat.mod_lt _ (by omega)
   obtain ⟨a, ha⟩ : ∃ a, a = foldN n j P 0 := ⟨_, rfl⟩
   have ha8 : a < 256 := by rw [ha]; exact foldN_lt _ _ _ _
   rw [← hP] at hG
   have hPl : P.length = i := by rw [hP, List.length_take]; simp; omega
   have hPn : s.data.toList.take (i + 1) = P ++ [s[i]] := by
    rw [hP, List.take_add_one]
    simp [hlt, ByteArray.getElem_eq_getElem_data]
   have HPN := Lib.hid hPn
   have HPL := Lib.hid hPl
   have hG2 := hG
   clear hP hPn hPl
   gi_wp2
   rename_i K2 hK2
   refine wpIn_mono (Q := onlyK K2) ?_ (fun e a w h => by cases e <;> first | exact h | exact h.elim)
   refine wpIn_region_any (by kernel_rfl) ?_
   change wpAnyIn _ _ _ _ _ _ _ _ _ (World.drew _)
   refine anyIn_of_G (T := fun i => i < 11) (S := (fun i w => w.heap[g]? = some (.cells (rowF n P) 5 (0, 0)))) _ _ _ _ ?_
   have hG2 : wr.drew.heap[g]? = some (.cells (rowF n P) 5 (0, 0)) := hG
   refine AnyG.take 0 (some 20) (.move (.tmp 5)) (.slice (some ⟨g, 0, none⟩) n n) rfl rfl (fun _ e => by cases e) (by kernel_rfl) (by kernel_rfl) (by kernel_rfl) (by kernel_rfl) rfl (fun _ _ _ h => h) (fun o ho w hw => by unfold execOp; rw [ho]; go_simp) hG2 ?_
   simp only [Act.put, sT, sS, sZ]
   refine AnyG.take 1 (some 21) (.move (.tmp 6)) (.int .i64 (i : Int)) rfl rfl (fun _ e => by cases e) (by kernel_rfl) (by kernel_rfl) (by kernel_rfl) (by kernel_rfl) rfl (fun _ _ _ h => h) (fun o ho w hw => by unfold execOp; rw [ho]; go_simp) hG2 ?_
   simp only [Act.put, sT, sS, sZ]
   refine AnyG.take 2 (some 22) (.move (.tmp 1)) (.int .i64 (n : Int)) rfl rfl (fun _ e => by cases e) (by kernel_rfl) (by kernel_rfl) (by kernel_rfl) (by kernel_rfl) rfl (fun _ _ _ h => h) (fun o ho w hw => by unfold execOp; rw [ho]; go_simp) hG2 ?_
   simp only [Act.put, sT, sS, sZ]
   refine AnyG.take 3 (some 23) (.binOp .rem 3 (.tmp 21) (.tmp 22) 3) (.int .i64 (j : Int)) rfl rfl (fun _ e => by cases e) (by kernel_rfl) (by kernel_rfl) (by kernel_rfl) (by kernel_rfl) rfl (fun _ _ _ h => h) (fun o ho w hw => by rw [hj]; exact exec_rem3 (.tmp 21) (.tmp 22) ho i n rfl rfl (by omega) (by omega) w) hG2 ?_
   simp only [Act.put, sT, sS, sZ]
   refine AnyG.take 4 (some 24) (.indexAddr 22 (.tmp 20) (.tmp 23)) (.pointer (some ⟨g, j, none⟩)) rfl rfl (fun _ e => by cases e) (by kernel_rfl) (by kernel_rfl) (by kernel_rfl) (by kernel_rfl) rfl (fun _ _ _ h => h) (fun o ho w hw => exec_indexAddr31 (.tmp 20) (.tmp 23) ho g n n j rfl rfl hjn w) hG2 ?_
   simp only [Act.put, sT, sS, sZ]
   refine AnyG.take 5 (some 25) (.load 5 (.tmp 24)) (.int .u8 (a : Int)) rfl rfl (fun _ e => by cases e) (by kernel_rfl) (by kernel_rfl) (by kernel_rfl) (by kernel_rfl) rfl (fun _ _ _ h => h) (fun o ho w hw => exec_load5 (.tmp 24) ho g j _ rfl w (by rw [Lib.cell_of_heap hw, rowF_get n P j hjn, ha])) hG2 ?_
   simp only [Act.put, sT, sS, sZ]
   refine AnyG.take 6 (some 26) (.move (.tmp 0)) (.string s) rfl rfl (fun _ e => by cases e) (by kernel_rfl) (by kernel_rfl) (by kernel_rfl) (by kernel_rfl) rfl (fun _ _ _ h => h) (fun o ho w hw => by unfold execOp; rw [ho]; go_simp) hG2 ?_
   simp only [Act.put, sT, sS, sZ]
   refine AnyG.take 7 (some 27) (.move (.tmp 6)) (.int .i64 (i : Int)) rfl rfl (fun _ e => by cases e) (by kernel_rfl) (by kernel_rfl) (by kernel_rfl) (by kernel_rfl) rfl (fun _ _ _ h => h) (fun o ho w hw => by unfold execOp; rw [ho]; go_simp) hG2 ?_
   simp only [Act.put, sT, sS, sZ]
   refine AnyG.take 8 (some 28) (.index 9 (.tmp 26) (.tmp 27)) (.int .u8 (s[i].toNat : Int)) rfl rfl (fun _ e => by cases e) (by kernel_rfl) (by kernel_rfl) (by kernel_rfl) (by kernel_rfl) rfl (fun _ _ _ h => h) (fun o ho w hw => exec_index9 (.tmp 26) (.tmp 27) ho s i rfl rfl hlt w) hG2 ?_
   simp only [Act.put, sT, sS, sZ]
   refine AnyG.take 9 (some 29) (.binOp .xor 5 (.tmp 25) (.tmp 28) 5) (.int .u8 ((a ^^^ s[i].toNat : Nat) : Int)) rfl rfl (fun _ e => by cases e) (by kernel_rfl) (by kernel_rfl) (by kernel_rfl) (by kernel_rfl) rfl (fun _ _ _ h => h) (fun o ho w hw => exec_xor5 (.tmp 25) (.tmp 28) ho a s[i].toNat rfl rfl ha8 s[i].toNat_lt w) hG2 ?_
   simp only [Act.put, sT, sS, sZ]
   refine AnyG.take 10 (some 30) (.indexAddr 22 (.tmp 20) (.tmp 23)) (.pointer (some ⟨g, j, none⟩)) rfl rfl (fun _ e => by cases e) (by kernel_rfl) (by kernel_rfl) (by kernel_rfl) (by kernel_rfl) rfl (fun _ _ _ h => h) (fun o ho w hw => exec_indexAddr31 (.tmp 20) (.tmp 23) ho g n n j rfl rfl hjn w) hG2 ?_
   simp only [Act.put, sT, sS, sZ]
   refine AnyG.ready (rs := [11]) (by kernel_rfl) (by simp) (ReadyG.skip (.store 5 (.tmp 30) (.tmp 29)) rfl rfl (fun _ e => by cases e) (fun o ho => exec_store5 (.tmp 30) (.tmp 29) ho g j _ (a : Int) rfl rfl _ (by rw [Lib.cell_of_heap hG2, rowF_get n P j hjn, ha]) (Lib.frozen_of_heap hG2 j)) rfl ?_ ?_ ReadyG.nil)
   ·exact tight_any (f := 12) (by kernel_rfl) (Nat.le_refl _)
   refine AnyG.done (by kernel_rfl) ?_ _
   have hG3 := setCell_row _ g _ 5 (0, 0) j (Value.int .u8 ((a ^^^ s[i].toNat : Nat) : Int)) hG2
   have hB3 : Below g w (wr.drew.setCell ⟨g, j, none⟩ (Value.int .u8 ((a ^^^ s[i].toNat : Nat) : Int))) := hB.drew.setCell (p := ⟨g, j, none⟩) (Nat.le_refl _) _
   have hG4 : (wr.drew.setCell ⟨g, j, none⟩ (Value.int .u8 ((a ^^^ s[i].toNat : Nat) : Int))).heap[g]? = some (.cells (rowF n (s.data.toList.take (i + 1))) 5 (0, 0)) := by
    rw [hG3, HPN.out, rowF_snoc n (by omega), HPL.out, ← hj, ← ha]
   have HG4 := Lib.hid hG4
   have HB3 := Lib.hid hB3
   show K2 _ _
   refine hK2 _ _ ?_
   clear hK2 hG3 hB3 hG4 hG hG2 hB
   generalize wr.drew.setCell ⟨g, j, none⟩ (Value.int .u8 ((a ^^^ s[i].toNat : Nat) : Int)) = W5 at *
   gi_wp2
   go_roundw
   case rel => exact ⟨i + 1, by simp, by omega, HG4.out, HB3.out⟩
   case measure => simp [intOf]; omega
  ·have hie : i = s.size := by omega
   have hall : s.data.toList.take i = s.data.toList := List.take_of_length_le (by simp; omega)
   rw [hall] at hG
   have hcv : (Go.convert 22 9 (.slice (some ⟨g, 0, none⟩) n n)).run Tryz.prog wr = .ok (.string ⟨(fold s.data.toList n).toArray⟩) wr := by
    have hl : (fold s.data.toList n).length = n := by simp [fold]
    have := run_convert_bytes_back (P := Tryz.prog) wr 22 9 5 ⟨g, 0, none⟩ n (fold s.data.toList n) Tryz.underlying22 Tryz.underlying5 Tryz.underlying9 (fun j hj => by
     have hjn : j < n := by rw [hl] at hj; exact hj
     rw [show (⟨g, 0, none⟩ : Addr).add j = ⟨g, j, none⟩ by unfold Addr.add; split <;> simp_all, Lib.cell_of_heap hG, rowF_get n _ j hjn]
     have hlt2 := foldN_lt n j s.data.toList 0
     simp [fold, Nat.mod_eq_of_lt hlt2])
    rwa [hl] at this
   have HB := Lib.hid hB
   clear hall hG hB
   subst hie
   gi_wp2
   go_ret
   exact ⟨rfl, by rw [← hgH.out]; exact HB.out⟩
def foldI (l : List UInt8) (n : Int) : List UInt8 := if 1 ≤ n ∧ n ≤ 64 then fold l n.toNat else []
theorem fold_any (s : ByteArray) (n : Int) (w : World) (hs : s.size ≤ 549755813888) :
  Calls Tryz.prog 34 #[.string s, .int .i64 n] w fun e w2 => e = .returned (.string ⟨(foldI s.data.toList n).toArray⟩) ∧ Below w.heap.size w w2 := by
 by_cases hr : 1 ≤ n ∧ n ≤ 64
 ·obtain ⟨m, rfl⟩ : ∃ m : Nat, n = (m : Int) := ⟨n.toNat, by omega⟩
  have h := fold_in s m (by omega) (by omega) w hs
  have e : foldI s.data.toList (m : Int) = fold s.data.toList m := by unfold foldI; rw [if_pos hr]; simp
  rw [e]
  exact h
 ·have e : Hid (foldI s.data.toList n = []) := by unfold Hid foldI; rw [if_neg hr]
  by_cases h1 : n < 1
  ·clear hr
   go_enter Tryz.func34, Tryz.ntmps34
   go_wp2
   go_ret
   exact ⟨by rw [e.out]; rfl, Below.refl _ _⟩
  ·have h2 : n > 64 := by omega
   clear hr
   go_enter Tryz.func34, Tryz.ntmps34
   go_wp2
   go_ret
   exact ⟨by rw [e.out]; rfl, Below.refl _ _⟩
end Go.Proofs.YtdbbcngolcnniaaGreatDoor
/- Laws on operations over rows of cells, as the later texts use them: a whole aggregate read out of a row, stored into it, an append of one element, one step of a region that draws its order. No condition but what each law names. -/
namespace Go.Proofs.YtdbbcngolcnniaaGreatDoor.S3
open Go.RowKit
set_option linter.unusedVariables false
set_option linter.unusedSimpArgs false
section
variable {P : Program}
theorem addr_add (g o j : Nat) : (⟨g, o, none⟩ : Addr).add j = ⟨g, o + j, none⟩ := by unfold Addr.add; split <;> simp_all
theorem run_loadVar_seg (w : World) (ty : TypeId) (g off : Nat) (cs : List Value) (d : TypeDesc) (hc : ∀ j v, cs[j]? = some v → w.cell? ⟨g, off + j, none⟩ = some v)
  (hu : P.underlying ty = some d) (hd : (match d with | .struct _ | .array _ _ => true | _ => false) = true) (hi : (P.info? ty).map (·.size) = some cs.length) :
  (loadVar ty ⟨g, off, none⟩).run P w = .ok (.agg cs.toArray) w := by
 have hl : (loadCells ⟨g, off, none⟩ cs.length).run P w = .ok cs.toArray w :=
  run_loadCells_list (P := P) w ⟨g, off, none⟩ cs (fun j v hv => by rw [addr_add]; exact hc j v hv)
 cases hq : P.info? ty with
 | none => simp [hq] at hi
 | some i =>
  have hs : i.size = cs.length := by simpa [hq] using hi
  have hagg : (isAgg ty).run P w = .ok true w := by
   unfold isAgg
   rw [Sem.run_bind, run_underlying hu w]
   cases d <;> simp_all
  simp [loadVar, Sem.run_bind, hagg, sizeOf, typeInfo, hq, hs, hl]
theorem wp_load_seg {o : Oper} {a : Act} {w : World} {K : Act → World → Prop} {Q : Exit → Act → World → Prop} (ty : TypeId) (x : Operand) (ho : o.op = .load ty x)
  (g off : Nat) (hx : a.eval x = .pointer (some ⟨g, off, none⟩)) (cs : List Value) (d : TypeDesc) (hc : ∀ j v, cs[j]? = some v → w.cell? ⟨g, off + j, none⟩ = some v)
  (hu : P.underlying ty = some d) (hd : (match d with | .struct _ | .array _ _ => true | _ => false) = true) (hi : (P.info? ty).map (·.size) = some cs.length)
  (h : K (a.put o.dst (.agg cs.toArray)) w) : o.wp P a w K Q := by
 unfold Oper.wp execOp
 simp only [ho, hx, Instr.loadAt, Instr.sureAddr, Sem.run_bind, Sem.run_pure, Result.andThen_ok, run_loadVar_seg w ty g off cs d hc hu hd hi]
 exact h
theorem wpList_load_seg {ops : Array Oper} {rest : List Oper} {o : Oper} {a : Act} {w : World} {Q : Exit → Act → World → Prop} (hgd : o.guard = none) (ty : TypeId) (x : Operand) (ho : o.op = .load ty x)
  (g off : Nat) (hx : a.eval x = .pointer (some ⟨g, off, none⟩)) (cs : List Value) (d : TypeDesc) (hc : ∀ j v, cs[j]? = some v → w.cell? ⟨g, off + j, none⟩ = some v)
  (hu : P.underlying ty = some d) (hd : (match d with | .struct _ | .array _ _ => true | _ => false) = true) (hi : (P.info? ty).map (·.size) = some cs.length)
  (h : wpList P ops Q rest (a.put o.dst (.agg cs.toArray)) w) : wpList P ops Q (o :: rest) a w :=
 wpList_plain hgd fun _ hK => wp_load_seg ty x ho g off hx cs d hc hu hd hi (hK _ _ h)
def splice (cur : Array Value) (off : Nat) (cs : List Value) : Array Value := (cur.toList.take off ++ cs ++ cur.toList.drop (off + cs.length)).toArray
theorem run_storeVar_seg (w : World) (ty : TypeId) (g off : Nat) (cur : Array Value) (t : TypeId) (cs : List Value) (hg : w.heap[g]? = some (.cells cur t (0, 0))) (hfit : off + cs.length ≤ cur.size)
  (h1 : ∀ v ∈ cs, v.oneCell' = true) (hi : (P.info? ty).map (·.size) = some cs.length) :
  (storeVar ty ⟨g, off, none⟩ (.agg cs.toArray)).run P w = .ok () (w.setRow g (splice cur off cs)) := by
 have hst := run_storeCells_at P g off t cs 0 cur w hg (by simpa using hfit) h1
 cases hq : P.info? ty with
 | none => simp [hq] at hi
 | some i =>
  have hs : i.size = cs.length := by simpa [hq] using hi
  simp only [Nat.add_zero] at hst
  simp [storeVar, sizeOf, typeInfo, hq, hs, Value.cells, hst, splice]
theorem wp_store_seg {o : Oper} {a : Act} {w : World} {K : Act → World → Prop} {Q : Exit → Act → World → Prop} (ty : TypeId) (x y : Operand) (ho : o.op = .store ty x y)
  (g off : Nat) (hx : a.eval x = .pointer (some ⟨g, off, none⟩)) (cs : List Value) (hy : a.eval y = .agg cs.toArray) (cur : Array Value) (t : TypeId) (hg : w.heap[g]? = some (.cells cur t (0, 0))) (hfit : off + cs.length ≤ cur.size)
  (h1 : ∀ v ∈ cs, v.oneCell' = true) (hi : (P.info? ty).map (·.size) = some cs.length)
  (h : K (a.put o.dst undef) (w.setRow g (splice cur off cs))) : o.wp P a w K Q := by
 unfold Oper.wp execOp
 simp only [ho, hx, hy, Instr.storeAt, Instr.sureAddr, Sem.run_bind, Sem.run_pure, Result.andThen_ok, run_storeVar_seg w ty g off cur t cs hg hfit h1 hi]
 exact h
theorem wpList_store_seg {ops : Array Oper} {rest : List Oper} {o : Oper} {a : Act} {w : World} {Q : Exit → Act → World → Prop} (hgd : o.guard = none) (ty : TypeId) (x y : Operand) (ho : o.op = .store ty x y)
  (g off : Nat) (hx : a.eval x = .pointer (some ⟨g, off, none⟩)) (cs : List Value) (hy : a.eval y = .agg cs.toArray) (cur : Array Value) (t : TypeId) (hg : w.heap[g]? = some (.cells cur t (0, 0))) (hfit : off + cs.length ≤ cur.size)
  (h1 : ∀ v ∈ cs, v.oneCell' = true) (hi : (P.info? ty).map (·.size) = some cs.length)
  (h : wpList P ops Q rest (a.put o.dst undef) (w.setRow g (splice cur off cs))) : wpList P ops Q (o :: rest) a w :=
 wpList_plain hgd fun _ hK => wp_store_seg ty x y ho g off hx cs hy cur t hg hfit h1 hi (hK _ _ h)
theorem wpList_run {ops : Array Oper} {rest : List Oper} {o : Oper} {a : Act} {w w2 : World} {Q : Exit → Act → World → Prop} (hgd : o.guard = none) (v : Value)
  (hrun : (execOp a.eval o).run P w = .ok (.value v) w2) (h : wpList P ops Q rest (a.put o.dst v) w2) : wpList P ops Q (o :: rest) a w :=
 wpList_plain hgd fun K hK => by unfold Oper.wp; rw [hrun]; exact hK _ _ h
theorem wpList_run0 {ops : Array Oper} {rest : List Oper} {o : Oper} {a : Act} {w w2 : World} {Q : Exit → Act → World → Prop} (hgd : o.guard = none)
  (hrun : (execOp a.eval o).run P w = .ok .skip w2) (h : wpList P ops Q rest (a.put o.dst undef) w2) : wpList P ops Q (o :: rest) a w :=
 wpList_plain hgd fun K hK => by unfold Oper.wp; rw [hrun]; exact hK _ _ h
theorem exec_build1 {ρ : Operand → Value} {o : Oper} (w : World) (t : TypeId) (k : Nat) (x : Operand) (ho : o.op = .build t #[(k, x)]) (u : Value) (hx : ρ x = u) (v : Value)
  (hrun : (Instr.build t #[(k, u)]).run P w = .ok v w) : (execOp ρ o).run P w = .ok (.value v) w := by
 subst hx
 unfold execOp
 simp [ho, hrun]
theorem exec_load_seg {ρ : Operand → Value} {o : Oper} (w : World) (ty : TypeId) (x : Operand) (ho : o.op = .load ty x)
  (g off : Nat) (hx : ρ x = .pointer (some ⟨g, off, none⟩)) (cs : List Value) (d : TypeDesc) (hc : ∀ j v, cs[j]? = some v → w.cell? ⟨g, off + j, none⟩ = some v)
  (hu : P.underlying ty = some d) (hd : (match d with | .struct _ | .array _ _ => true | _ => false) = true) (hi : (P.info? ty).map (·.size) = some cs.length) :
  (execOp ρ o).run P w = .ok (.value (.agg cs.toArray)) w := by
 unfold execOp
 simp only [ho, hx, Instr.loadAt, Instr.sureAddr, Sem.run_bind, Sem.run_pure, Result.andThen_ok, run_loadVar_seg w ty g off cs d hc hu hd hi]
theorem exec_store_seg {ρ : Operand → Value} {o : Oper} (w : World) (ty : TypeId) (x y : Operand) (ho : o.op = .store ty x y)
  (g off : Nat) (hx : ρ x = .pointer (some ⟨g, off, none⟩)) (cs : List Value) (hy : ρ y = .agg cs.toArray) (cur : Array Value) (t : TypeId) (hg : w.heap[g]? = some (.cells cur t (0, 0))) (hfit : off + cs.length ≤ cur.size)
  (h1 : ∀ v ∈ cs, v.oneCell' = true) (hi : (P.info? ty).map (·.size) = some cs.length) :
  (execOp ρ o).run P w = .ok .skip (w.setRow g (splice cur off cs)) := by
 unfold execOp
 simp only [ho, hx, hy, Instr.storeAt, Instr.sureAddr, Sem.run_bind, Sem.run_pure, Result.andThen_ok, run_storeVar_seg w ty g off cur t cs hg hfit h1 hi]
theorem exec_alloc_agg {ρ : Operand → Value} {o : Oper} (w : World) (ty : TypeId) (ho : o.op = .alloc ty) (cs : Array Value) (hz : (zeroValue ty).run P w = .ok (.agg cs) w) :
  (execOp ρ o).run P w = .ok (.value (.pointer (some ⟨w.heap.size, 0, none⟩))) (w.alloc (.cells cs ty)) := by
 unfold execOp
 simp only [ho, Instr.alloc, Sem.run_bind, hz, Result.andThen_ok, newVar, newRow, Value.cells, run_newObj_alloc, Sem.run_pure]
theorem setRow_alloc (w : World) (c c2 : Array Value) (t : TypeId) (fr : Nat × Nat) (k : Nat) (hk : k = w.heap.size) : (w.alloc (.cells c t fr)).setRow k c2 = w.alloc (.cells c2 t fr) := by
 subst hk
 have e : (w.heap.push (Obj.cells c t fr)).modify w.heap.size (fun | .cells _ elem f => .cells c2 elem f | o => o) = w.heap.push (Obj.cells c2 t fr) := by
  apply Array.ext
  ·rw [Array.size_modify, Array.size_push, Array.size_push]
  ·intro i h1 h2
   rw [Array.getElem_modify]
   by_cases e : w.heap.size = i
   ·subst e; rw [if_pos rfl, Array.getElem_push_eq, Array.getElem_push_eq]
   ·have h3 : i < w.heap.size := by rw [Array.size_push] at h2; omega
    rw [if_neg e, Array.getElem_push_lt h3, Array.getElem_push_lt h3]
 unfold World.setRow World.alloc
 exact congrArg (fun h : Array Obj => ({ w with heap := h } : World)) e
theorem splice_all (cur : Array Value) (cs : List Value) (h : cur.size = cs.length) : splice cur 0 cs = cs.toArray := by
 unfold splice
 simp [List.drop_eq_nil_of_le, h]
theorem exec_store_new {ρ : Operand → Value} {o : Oper} (w : World) (ty : TypeId) (x y : Operand) (ho : o.op = .store ty x y) (c : Array Value) (t : TypeId)
  (hx : ρ x = .pointer (some ⟨w.heap.size, 0, none⟩)) (cs : List Value) (hy : ρ y = .agg cs.toArray) (hfit : c.size = cs.length)
  (h1 : ∀ v ∈ cs, v.oneCell' = true) (hi : (P.info? ty).map (·.size) = some cs.length) :
  (execOp ρ o).run P (w.alloc (.cells c t)) = .ok .skip (w.alloc (.cells cs.toArray t)) := by
 have h := exec_store_seg (P := P) (o := o) (w.alloc (.cells c t)) ty x y ho w.heap.size 0 hx cs hy c t (heap_alloc_new _ _) (by omega) h1 hi
 rw [h, setRow_alloc _ _ _ _ _ _ rfl, splice_all _ _ hfit]
theorem AllReady.run {ops : Array Oper} {Q : Exit → Act → World → Prop} {md : Region.Mode} {fuel : Nat} {listed : Array Bool} {a : Act} {w w2 : World} {i : Nat} {o : Oper} {rs : List Nat} (ho : ops[i]? = some o) (hg : o.guard = none) (v : Value)
  (hrun : (execOp a.eval o).run P w = .ok (.value v) w2) (h : wpAny P md ops Q fuel (listed.setIfInBounds i true) (a.put o.dst v) w2)
  (hs : AllReady P md ops Q fuel listed a w rs) : AllReady P md ops Q fuel listed a w (i :: rs) :=
 AllReady.cons ho (fun K' hK => by rw [if_pos (by simp [Region.wanted, hg])]; unfold Oper.wp; rw [hrun]; exact hK _ _ h) hs
theorem AllReady.run0 {ops : Array Oper} {Q : Exit → Act → World → Prop} {md : Region.Mode} {fuel : Nat} {listed : Array Bool} {a : Act} {w w2 : World} {i : Nat} {o : Oper} {rs : List Nat} (ho : ops[i]? = some o) (hg : o.guard = none)
  (hrun : (execOp a.eval o).run P w = .ok .skip w2) (h : wpAny P md ops Q fuel (listed.setIfInBounds i true) (a.put o.dst undef) w2)
  (hs : AllReady P md ops Q fuel listed a w rs) : AllReady P md ops Q fuel listed a w (i :: rs) :=
 AllReady.cons ho (fun K' hK => by rw [if_pos (by simp [Region.wanted, hg])]; unfold Oper.wp; rw [hrun]; exact hK _ _ h) hs
theorem exec_append_own (w : World) (base : Nat) (t e : TypeId) (i : TypeInfo) (z : Value) (size bytes : Nat) (ht : P.underlying t = some (.slice e)) (hi : P.info? e = some i) (hz : i.zero = some z)
  (hsize : i.size = size) (hby : i.bytes = bytes) (hzs : z.cells.size = size) (hsz : 0 < size)
  (v : Value) (n : Nat) (xs : List Value) (hown : w.ownsRow base e size v n xs)
  (a : Addr) (m c : Nat) (news : List Value) (hl : news.length = m * size) (hnews : ∀ j u, news[j]? = some u → w.cell? (a.add j) = some u) (h1 : ∀ u ∈ news, u.oneCell' = true)
  (h63 : n + m ≤ maxLen) (hbytes : (n + m) * bytes ≤ 140737488355328) (hbase : base ≤ w.heap.size) :
  ∃ v' w', (∀ (ρ : Operand → Value) (o : Oper) (s x : Operand), o.op = Op.call { callee := Callee.builtin Builtin.append, args := #[s, x], argTypes := #[t, t] } → ρ s = v → ρ x = .slice (some a) m c → (execOp ρ o).run P w = .ok (.value v') w') ∧
   w'.ownsRow base e size v' (n + m) (xs ++ news) ∧ w.grownBy w' v.ownBlock ∧ (v'.ownBlock = v.ownBlock ∨ v'.ownBlock = some w.heap.size) := by
 obtain ⟨v', w', hrun, h2, h3, -, h4⟩ := run_append_own_at (P := P) w base t t e i z size bytes ht hi hz hsize hby hzs hsz v n xs hown a m c news hl hnews h1 h63 hbytes hbase
 refine ⟨v', w', ?_, h2, h3, h4⟩
 intro ρ o s x ho hs hx
 have hrun2 : (Builtin.append_ #[t, t] o.type #[v, .slice (some a) m c]).run P w = .ok v' w' := hrun
 unfold execOp
 simp [ho, resolve, invoke, builtin, hs, hx, hrun2]
section
variable {ops : Array Oper} {Q : Exit → Act → World → Prop} {md : Region.Mode} {fuel : Nat} {listed : Array Bool} {a : Act} {w w2 w3 : World} {i j : Nat} {rs : List Nat}
theorem AllReady.op (d : Option Tmp) (opr : Op) (ho : (ops[i]?).map (fun o => (o.dst, o.op, o.guard)) = some (d, opr, none)) (v : Value)
  (hrun : ∀ o : Oper, o.op = opr → (execOp a.eval o).run P w = .ok (.value v) w2) (h : wpAny P md ops Q fuel (listed.setIfInBounds i true) (a.put d v) w2)
  (hs : AllReady P md ops Q fuel listed a w rs) : AllReady P md ops Q fuel listed a w (i :: rs) := by
 cases hq : ops[i]? with
 | none => simp [hq] at ho
 | some o =>
  simp [hq] at ho
  obtain ⟨rfl, rfl, hg⟩ := ho
  exact AllReady.run hq hg v (hrun o rfl) h hs
theorem AllReady.op0 (opr : Op) (ho : (ops[i]?).map (fun o => (o.dst, o.op, o.guard)) = some (none, opr, none))
  (hrun : ∀ o : Oper, o.op = opr → (execOp a.eval o).run P w = .ok .skip w2) (h : wpAny P md ops Q fuel (listed.setIfInBounds i true) a w2)
  (hs : AllReady P md ops Q fuel listed a w rs) : AllReady P md ops Q fuel listed a w (i :: rs) := by
 cases hq : ops[i]? with
 | none => simp [hq] at ho
 | some o =>
  simp [hq] at ho
  obtain ⟨hd, rfl, hg⟩ := ho
  exact AllReady.run0 hq hg (hrun o rfl) (by rw [hd]; exact h) hs
theorem any_one (i : Nat) (d : Option Tmp) (opr : Op) (hr : Region.ready md ops listed = [i]) (ho : (ops[i]?).map (fun o => (o.dst, o.op, o.guard)) = some (d, opr, none)) (v : Value)
  (hrun : ∀ o : Oper, o.op = opr → (execOp a.eval o).run P w = .ok (.value v) w2) (h : wpAny P md ops Q fuel (listed.setIfInBounds i true) (a.put d v) w2) : wpAny P md ops Q (fuel + 1) listed a w :=
 wpAny_ready hr (by simp) (AllReady.op d opr ho v hrun h AllReady.nil)
theorem any_take (i : Nat) (d : Option Tmp) (opr : Op) (v : Value) (ho : (ops[i]?).map (fun o => (o.dst, o.op, o.guard)) = some (d, opr, none)) (hs : Region.noSelect ops = true) (hf : Region.free md ops listed i = true) (hr : (Region.ready md ops listed).contains i = true)
  (hQ : ∀ c a w, Q (.panic c) (a.put d v) w → Q (.panic c) a w) (hy : ∀ (o : Oper), o.op = opr → ∀ w, (execOp a.eval o).run P w = .ok (.value v) w)
  (h : wpAny P md ops Q fuel (listed.setIfInBounds i true) (a.put d v) w) : wpAny P md ops Q (fuel + 1) listed a w := by
 cases hq : ops[i]? with
 | none => simp [hq] at ho
 | some o =>
  simp [hq] at ho
  obtain ⟨rfl, rfl, hg⟩ := ho
  exact wpAny_take hq hs hf hr hQ (Or.inl ⟨by simp [Region.wanted, hg], hy o rfl⟩) h
end
theorem exec_load_one {ρ : Operand → Value} {o : Oper} (w : World) (ty : TypeId) (x : Operand) (ho : o.op = .load ty x) (ad : Addr) (hx : ρ x = .pointer (some ad)) (v : Value) (hc : w.cell? ad = some v)
  (d : TypeDesc) (hu : P.underlying ty = some d) (hd : (match d with | .struct _ | .array _ _ => true | _ => false) = false) : (execOp ρ o).run P w = .ok (.value v) w := by
 have hagg : (isAgg ty).run P w = .ok false w := by
  unfold isAgg
  rw [Sem.run_bind, run_underlying hu w]
  cases d <;> simp_all
 unfold execOp
 simp [ho, hx, Instr.loadAt, Instr.sureAddr, loadVar, hagg, hc]
theorem exec_move {ρ : Operand → Value} {o : Oper} (x : Operand) (ho : o.op = .move x) (v : Value) (hx : ρ x = v) (w : World) : (execOp ρ o).run P w = .ok (.value v) w := by
 subst hx; unfold execOp; simp [ho]
theorem exec_nilCheck {ρ : Operand → Value} {o : Oper} (x : Operand) (ho : o.op = .nilCheck x) (ad : Addr) (hx : ρ x = .pointer (some ad)) (w : World) : (execOp ρ o).run P w = .ok (.value (.pointer (some ad))) w := by
 unfold execOp; simp [ho, hx]
end
end Go.Proofs.YtdbbcngolcnniaaGreatDoor.S3
/- The plain arithmetic of hashes of 32 bytes: words, rounds, blocks, what fills up. No condition. -/
namespace Go.Proofs.YtdbbcngolcnniaaGreatDoor.S3
set_option linter.unusedSimpArgs false
set_option linter.unusedVariables false
def force {α : Type} (x : Nat) (f : Nat → α) : α := match x with
 | 0 => f 0
 | n + 1 => f (n + 1)
theorem force_eq {α : Type} (x : Nat) (f : Nat → α) : force x f = f x := by unfold force; cases x <;> rfl
def add (a b : Nat) : Nat := (a + b) % 4294967296
def rorN (x n : Nat) : Nat := x / 2 ^ n ||| x * 2 ^ (32 - n) % 4294967296
def nearN (x : Nat) : Nat := rorN x 7 ^^^ rorN x 18 ^^^ x / 8
def farN (x : Nat) : Nat := rorN x 17 ^^^ rorN x 19 ^^^ x / 1024
def be (l : List UInt8) (i : Nat) : Nat := (l.getD (4 * i) 0).toNat * 16777216 + (l.getD (4 * i + 1) 0).toNat * 65536 + (l.getD (4 * i + 2) 0).toNat * 256 + (l.getD (4 * i + 3) 0).toNat
def nx (q : List Nat) : Nat := add (add (add (q.getD 15 0) (nearN (q.getD 14 0))) (q.getD 6 0)) (farN (q.getD 1 0))
def wrev (l : List UInt8) : Nat → List Nat
 | 0 => [be l 15, be l 14, be l 13, be l 12, be l 11, be l 10, be l 9, be l 8, be l 7, be l 6, be l 5, be l 4, be l 3, be l 2, be l 1, be l 0]
 | k + 1 => nx (wrev l k) :: wrev l k
def W (l : List UInt8) (i : Nat) : Nat := (wrev l (i - 15)).getD (15 - i) 0
structure St where
 a : Nat
 b : Nat
 c : Nat
 d : Nat
 e : Nat
 f : Nat
 g : Nat
 h : Nat
def uN (s : St) (k w : Nat) : Nat := add (add (add (add s.h (rorN s.e 6 ^^^ rorN s.e 11 ^^^ rorN s.e 25)) ((s.e &&& s.f) ^^^ ((4294967295 ^^^ s.e) &&& s.g))) k) w
def vN (s : St) : Nat := add (rorN s.a 2 ^^^ rorN s.a 13 ^^^ rorN s.a 22) ((s.a &&& s.b) ^^^ (s.a &&& s.c) ^^^ (s.b &&& s.c))
def rnd (s : St) (k w : Nat) : St := ⟨add (uN s k w) (vN s), s.a, s.b, s.c, add s.d (uN s k w), s.e, s.f, s.g⟩
def kL : List Nat := [1116352408, 1899447441, 3049323471, 3921009573, 961987163, 1508970993, 2453635748, 2870763221, 3624381080, 310598401, 607225278, 1426881987, 1925078388, 2162078206, 2614888103, 3248222580, 3835390401, 4022224774, 264347078, 604807628, 770255983, 1249150122, 1555081692, 1996064986, 2554220882, 2821834349, 2952996808, 3210313671, 3336571891, 3584528711, 113926993, 338241895, 666307205, 773529912, 1294757372, 1396182291, 1695183700, 1986661051, 2177026350, 2456956037, 2730485921, 2820302411, 3259730800, 3345764771, 3516065817, 3600352804, 4094571909, 275423344, 430227734, 506948616, 659060556, 883997877, 958139571, 1322822218, 1537002063, 1747873779, 1955562222, 2024104815, 2227730452, 2361852424, 2428436474, 2756734187, 3204031479, 3329325298]
def kN (i : Nat) : Nat := kL.getD i 0
def rnds (l : List UInt8) (s : St) : Nat → St
 | 0 => s
 | i + 1 => rnd (rnds l s i) (kN i) (W l i)
def plus (s t : St) : St := ⟨add s.a t.a, add s.b t.b, add s.c t.c, add s.d t.d, add s.e t.e, add s.f t.f, add s.g t.g, add s.h t.h⟩
def comp (s : St) (l : List UInt8) : St := plus s (rnds l s 64)
def h0 : St := ⟨1779033703, 3144134277, 1013904242, 2773480762, 1359893119, 2600822924, 528734635, 1541459225⟩
def chunk (l : List UInt8) (i : Nat) : List UInt8 := (l.drop (64 * i)).take 64
def mids (s : St) (l : List UInt8) : Nat → St
 | 0 => s
 | k + 1 => comp (mids s l k) (chunk l k)
def be4 (n : Nat) : List UInt8 := [UInt8.ofNat (n / 16777216), UInt8.ofNat (n / 65536), UInt8.ofNat (n / 256), UInt8.ofNat n]
def be8 (n : Nat) : List UInt8 := [UInt8.ofNat (n / 72057594037927936), UInt8.ofNat (n / 281474976710656), UInt8.ofNat (n / 1099511627776), UInt8.ofNat (n / 4294967296), UInt8.ofNat (n / 16777216), UInt8.ofNat (n / 65536), UInt8.ofNat (n / 256), UInt8.ofNat n]
def tell (s : St) : List UInt8 := be4 s.a ++ be4 s.b ++ be4 s.c ++ be4 s.d ++ be4 s.e ++ be4 s.f ++ be4 s.g ++ be4 s.h
def fill (n : Nat) : Nat := (119 - n % 64) % 64
def tailN (n : Nat) : List UInt8 := 128 :: (List.replicate (fill n) 0 ++ be8 (8 * n))
def pad (l : List UInt8) : List UInt8 := l ++ tailN l.length
def sha (l : List UInt8) : List UInt8 := tell (mids h0 (pad l) ((pad l).length / 64))
def hexd (n : Nat) : UInt8 := if n < 10 then UInt8.ofNat (48 + n) else UInt8.ofNat (87 + n)
def hex : List UInt8 → List UInt8
 | [] => []
 | c :: l => hexd (c.toNat / 16) :: hexd (c.toNat % 16) :: hex l
theorem add_lt (a b : Nat) : add a b < 4294967296 := Nat.mod_lt _ (by decide)
theorem xor_lt {a b : Nat} (ha : a < 4294967296) (hb : b < 4294967296) : a ^^^ b < 4294967296 := Nat.xor_lt_two_pow (n := 32) ha hb
theorem and_lt {a b : Nat} (ha : a < 4294967296) : a &&& b < 4294967296 := Nat.lt_of_le_of_lt Nat.and_le_left ha
theorem div_lt {a : Nat} (k : Nat) (ha : a < 4294967296) : a / k < 4294967296 := Nat.lt_of_le_of_lt (Nat.div_le_self _ _) ha
theorem rorN_lt {x : Nat} (n : Nat) (hx : x < 4294967296) : rorN x n < 4294967296 :=
 Nat.or_lt_two_pow (n := 32) (div_lt _ hx) (Nat.mod_lt _ (by decide))
theorem be_lt (l : List UInt8) (i : Nat) : be l i < 4294967296 := by
 have h1 := (l.getD (4 * i) 0).toNat_lt
 have h2 := (l.getD (4 * i + 1) 0).toNat_lt
 have h3 := (l.getD (4 * i + 2) 0).toNat_lt
 have h4 := (l.getD (4 * i + 3) 0).toNat_lt
 unfold be
 omega
theorem nx_lt (q : List Nat) : nx q < 4294967296 := add_lt _ _
theorem wrev_lt (l : List UInt8) : ∀ (k : Nat), ∀ x ∈ wrev l k, x < 4294967296
 | 0 => by
  intro x hx
  unfold wrev at hx
  simp only [List.mem_cons, List.not_mem_nil, or_false] at hx
  rcases hx with rfl | rfl | rfl | rfl | rfl | rfl | rfl | rfl | rfl | rfl | rfl | rfl | rfl | rfl | rfl | rfl <;> exact be_lt _ _
 | k + 1 => by
  intro x hx
  unfold wrev at hx
  rcases List.mem_cons.1 hx with rfl | h
  ·exact nx_lt _
  ·exact wrev_lt l k x h
theorem W_lt (l : List UInt8) (i : Nat) : W l i < 4294967296 := by
 unfold W
 rw [List.getD_eq_getElem?_getD]
 rcases h : (wrev l (i - 15))[15 - i]? with _ | v
 ·simp
 ·exact wrev_lt l _ _ (List.mem_of_getElem? h)
theorem wrev_get (l : List UInt8) : ∀ (k j : Nat), j < 16 + k → (wrev l k).getD j 0 = W l (15 + k - j)
 | 0, j, hj => by
  unfold W
  rw [show 15 + 0 - j - 15 = 0 by omega, show 15 - (15 + 0 - j) = j by omega]
 | k + 1, 0, _ => by
  unfold W
  rw [show 15 + (k + 1) - 0 - 15 = k + 1 by omega, show 15 - (15 + (k + 1) - 0) = 0 by omega]
 | k + 1, j + 1, hj => by
  have ih := wrev_get l k j (by omega)
  rw [show 15 + (k + 1) - (j + 1) = 15 + k - j by omega, ← ih]
  rfl
theorem W_low (l : List UInt8) (i : Nat) (hi : i < 16) : W l i = be l i := by
 rcases (show i = 0 ∨ i = 1 ∨ i = 2 ∨ i = 3 ∨ i = 4 ∨ i = 5 ∨ i = 6 ∨ i = 7 ∨ i = 8 ∨ i = 9 ∨ i = 10 ∨ i = 11 ∨ i = 12 ∨ i = 13 ∨ i = 14 ∨ i = 15 by omega) with rfl | rfl | rfl | rfl | rfl | rfl | rfl | rfl | rfl | rfl | rfl | rfl | rfl | rfl | rfl | rfl <;> rfl
theorem W_high (l : List UInt8) (i : Nat) (hi : 16 ≤ i) : W l i = add (add (add (W l (i - 16)) (nearN (W l (i - 15)))) (W l (i - 7))) (farN (W l (i - 2))) := by
 obtain ⟨k, rfl⟩ : ∃ k, i = 16 + k := ⟨i - 16, by omega⟩
 have h0 : W l (16 + k) = nx (wrev l k) := by
  unfold W
  rw [show 16 + k - 15 = k + 1 by omega, show 15 - (16 + k) = 0 by omega]
  rfl
 rw [h0]
 unfold nx
 rw [wrev_get l k 15 (by omega), wrev_get l k 14 (by omega), wrev_get l k 6 (by omega), wrev_get l k 1 (by omega)]
 rw [show 15 + k - 15 = 16 + k - 16 by omega, show 15 + k - 14 = 16 + k - 15 by omega, show 15 + k - 6 = 16 + k - 7 by omega, show 15 + k - 1 = 16 + k - 2 by omega]
def St.ok (s : St) : Prop := s.a < 4294967296 ∧ s.b < 4294967296 ∧ s.c < 4294967296 ∧ s.d < 4294967296 ∧ s.e < 4294967296 ∧ s.f < 4294967296 ∧ s.g < 4294967296 ∧ s.h < 4294967296
theorem rnd_ok {s : St} (h : s.ok) (k w : Nat) : (rnd s k w).ok := ⟨add_lt _ _, h.1, h.2.1, h.2.2.1, add_lt _ _, h.2.2.2.2.1, h.2.2.2.2.2.1, h.2.2.2.2.2.2.1⟩
theorem rnds_ok (l : List UInt8) {s : St} (h : s.ok) : ∀ i, (rnds l s i).ok
 | 0 => h
 | i + 1 => rnd_ok (rnds_ok l h i) _ _
theorem plus_ok (s t : St) : (plus s t).ok := ⟨add_lt _ _, add_lt _ _, add_lt _ _, add_lt _ _, add_lt _ _, add_lt _ _, add_lt _ _, add_lt _ _⟩
theorem comp_ok (s : St) (l : List UInt8) : (comp s l).ok := plus_ok _ _
theorem h0_ok : h0.ok := by unfold St.ok h0; decide
theorem mids_ok {s : St} (h : s.ok) (l : List UInt8) : ∀ k, (mids s l k).ok
 | 0 => h
 | k + 1 => comp_ok _ _
end Go.Proofs.YtdbbcngolcnniaaGreatDoor.S3
/- Turning to the right, near and far of package sha, and the document's turning. No condition but that the numbers have 32 bits. -/
namespace Go.Proofs.YtdbbcngolcnniaaGreatDoor.S3
set_option linter.unusedSimpArgs false
open Go.RowKit
set_option linter.unusedVariables false
theorem mask_of (n : Nat) (h0 : 0 < n) (hn : n < 32) : bits BinOp.and IntKind.u64 (IntKind.u64.wrap (-(n : Int))) 31 = ((32 - n : Nat) : Int) := by
 have h : ∀ n : Nat, n < 32 → 0 < n → bits BinOp.and IntKind.u64 (IntKind.u64.wrap (-(n : Int))) 31 = ((32 - n : Nat) : Int) := by decide +kernel
 exact h n hn h0
theorem ret_int {k : IntKind} {a b : Int} (h : a = b) : Ending.returned (.int k a) = .returned (.int k b) := by rw [h]
theorem shl_cast (x m : Nat) : ((x : Int) * 2 ^ m % 4294967296) = ((x * 2 ^ m % 4294967296 : Nat) : Int) := by rw [Int.natCast_emod, Int.natCast_mul, Int.natCast_pow]; rfl
theorem shr_cast (x m : Nat) : ((x : Int) / 2 ^ m) = ((x / 2 ^ m : Nat) : Int) := by rw [Int.natCast_ediv, Int.natCast_pow]; rfl
theorem or_turn (x m : Nat) (hx : x < 4294967296) (hm : m < 32) : bits BinOp.or IntKind.u32 ((x : Int) * 2 ^ m % 4294967296) ((x : Int) / 2 ^ (32 - m)) = ((rorN x (32 - m) : Nat) : Int) := by
 have h := u32_or_nat (x * 2 ^ m % 4294967296) (x / 2 ^ (32 - m)) (Nat.mod_lt _ (by decide)) (div_lt _ hx)
 rw [shl_cast, shr_cast, h]
 unfold rorN
 rw [Nat.or_comm, show 32 - (32 - m) = m by omega]
theorem or_turn2 (x n : Nat) (hx : x < 4294967296) (hn : n < 32) : bits BinOp.or IntKind.u32 ((x : Int) / 2 ^ n) ((x : Int) * 2 ^ (32 - n) % 4294967296) = ((rorN x n : Nat) : Int) := by
 have h := u32_or_nat (x / 2 ^ n) (x * 2 ^ (32 - n) % 4294967296) (div_lt _ hx) (Nat.mod_lt _ (by decide))
 rw [shl_cast, shr_cast, h]
 rfl
theorem rot_any (x n : Nat) (hx : x < 4294967296) (h0 : 0 < n) (hn : n < 32) (w : World) :
  Calls Tryz.prog 99 #[.int .u32 x, .int .i64 (-(n : Int))] w fun e w' => e = .returned (.int .u32 (rorN x n)) ∧ w = w' := by
 obtain ⟨m, hm⟩ : ∃ m, 32 - n = m := ⟨_, rfl⟩
 have hb := mask_of n h0 hn
 rw [hm] at hb
 obtain rfl : n = 32 - m := by omega
 have hm1 : m < 32 := by omega
 have HO := Lib.hid (or_turn x m hx hm1)
 clear hm
 go_enter Tryz.func99, Tryz.ntmps99
 go_wp2
 go_ret
 exact ⟨ret_int HO.out, rfl⟩
theorem ror_any (x n : Nat) (k : Int) (hk : k = n) (hx : x < 4294967296) (h0 : 0 < n) (hn : n < 32) (w : World) :
  Calls Tryz.prog 89 #[.int .u32 x, .int .i64 k] w fun e w' => e = .returned (.int .u32 (rorN x n)) ∧ w = w' := by
 subst hk
 go_enter Tryz.func89, Tryz.ntmps89
 go_wp2_with fail
 refine (rot_any x n hx h0 hn _).mono ?_
 rintro e w' ⟨rfl, rfl⟩
 go_wp2
 go_ret
 exact ⟨rfl, rfl⟩
theorem near_any (x : Nat) (hx : x < 4294967296) (w : World) :
  Calls Tryz.prog 97 #[.int .u32 x] w fun e w' => e = .returned (.int .u32 (nearN x)) ∧ w = w' := by
 have l1 := rorN_lt 7 hx
 have l2 := rorN_lt 18 hx
 have x1 := u32_xor_nat (rorN x 7) (rorN x 18) l1 l2
 have x2 : bits .xor .u32 ((rorN x 7 ^^^ rorN x 18 : Nat) : Int) ((x : Int) / 8) = ((nearN x : Nat) : Int) := u32_xor_nat (rorN x 7 ^^^ rorN x 18) (x / 8) (xor_lt l1 l2) (div_lt _ hx)
 have H1 := Lib.hid (ror_any x 7 7 rfl hx (by decide) (by decide))
 have H2 := Lib.hid (ror_any x 18 18 rfl hx (by decide) (by decide))
 generalize rorN x 7 ^^^ rorN x 18 = q at *
 generalize nearN x = r at *
 generalize rorN x 7 = p1 at *
 generalize rorN x 18 = p2 at *
 clear l1 l2
 go_enter Tryz.func97, Tryz.ntmps97
 go_wp2_with fail
 refine (H1.out _).mono ?_
 rintro e w' ⟨rfl, rfl⟩
 go_wp2_with fail
 refine (H2.out _).mono ?_
 rintro e w' ⟨rfl, rfl⟩
 go_wp2
 go_ret
 exact ⟨rfl, rfl⟩
theorem far_any (x : Nat) (hx : x < 4294967296) (w : World) :
  Calls Tryz.prog 98 #[.int .u32 x] w fun e w' => e = .returned (.int .u32 (farN x)) ∧ w = w' := by
 have l1 := rorN_lt 17 hx
 have l2 := rorN_lt 19 hx
 have x1 := u32_xor_nat (rorN x 17) (rorN x 19) l1 l2
 have x2 : bits .xor .u32 ((rorN x 17 ^^^ rorN x 19 : Nat) : Int) ((x : Int) / 1024) = ((farN x : Nat) : Int) := u32_xor_nat (rorN x 17 ^^^ rorN x 19) (x / 1024) (xor_lt l1 l2) (div_lt _ hx)
 have H1 := Lib.hid (ror_any x 17 17 rfl hx (by decide) (by decide))
 have H2 := Lib.hid (ror_any x 19 19 rfl hx (by decide) (by decide))
 generalize rorN x 17 ^^^ rorN x 19 = q at *
 generalize farN x = r at *
 generalize rorN x 17 = p1 at *
 generalize rorN x 19 = p2 at *
 clear l1 l2
 go_enter Tryz.func98, Tryz.ntmps98
 go_wp2_with fail
 refine (H1.out _).mono ?_
 rintro e w' ⟨rfl, rfl⟩
 go_wp2_with fail
 refine (H2.out _).mono ?_
 rintro e w' ⟨rfl, rfl⟩
 go_wp2
 go_ret
 exact ⟨rfl, rfl⟩
theorem rror_any (x n : Nat) (k : Int) (hk : k = n) (hx : x < 4294967296) (h0 : 0 < n) (hn : n < 32) (w : World) :
  Calls Tryz.prog 53 #[.int .u32 x, .int .i64 k] w fun e w' => e = .returned (.int .u32 (rorN x n)) ∧ ∃ m, w' = w.drewN m := by
 subst hk
 have HO := Lib.hid (or_turn2 x n hx hn)
 go_enter Tryz.func53, Tryz.ntmps53
 go_wp2
 go_quiet (fail)
 go_wp2
 go_ret
 exact ⟨ret_int HO.out, _, rfl⟩
end Go.Proofs.YtdbbcngolcnniaaGreatDoor.S3
/- Rows of numbers in memory, and how they turn. No condition. -/
namespace Go.Proofs.YtdbbcngolcnniaaGreatDoor.S3
set_option linter.unusedSimpArgs false
open Go.RowKit
set_option linter.unusedVariables false
def rowOf (kd : IntKind) (n : Nat) (f : Nat → Nat) : List Value := (List.range n).map fun j => Value.int kd (f j)
theorem rowOf_get (kd : IntKind) (n : Nat) (f : Nat → Nat) (j : Nat) (hj : j < n) : (rowOf kd n f)[j]? = some (.int kd (f j)) := by
 unfold rowOf
 rw [List.getElem?_map, List.getElem?_range hj]; rfl
theorem rowOf_length (kd : IntKind) (n : Nat) (f : Nat → Nat) : (rowOf kd n f).length = n := by simp [rowOf]
theorem rowOf_size (kd : IntKind) (n : Nat) (f : Nat → Nat) : (rowOf kd n f).toArray.size = n := by simp [rowOf]
theorem rowOf_one (kd : IntKind) (n : Nat) (f : Nat → Nat) : ∀ v ∈ rowOf kd n f, v.oneCell' = true := by
 intro v hv
 simp [rowOf] at hv
 obtain ⟨j, _, rfl⟩ := hv
 rfl
theorem rowOf_ext {kd : IntKind} {n : Nat} {f g : Nat → Nat} (h : ∀ j, j < n → f j = g j) : rowOf kd n f = rowOf kd n g := by
 unfold rowOf
 apply List.map_congr_left
 intro j hj
 rw [h j (List.mem_range.1 hj)]
def upd (f : Nat → Nat) (k v : Nat) : Nat → Nat := fun j => if j = k then v else f j
theorem rowOf_set (kd : IntKind) (n : Nat) (f : Nat → Nat) (k v : Nat) : (rowOf kd n f).toArray.setIfInBounds k (.int kd v) = (rowOf kd n (upd f k v)).toArray := by
 apply Array.ext'
 rw [Array.toList_setIfInBounds]
 apply List.ext_getElem?
 intro j
 show ((rowOf kd n f).set k _)[j]? = (rowOf kd n (upd f k v))[j]?
 rw [List.getElem?_set, rowOf_length]
 by_cases hj : j < n
 ·rw [rowOf_get _ _ _ _ hj, rowOf_get _ _ _ _ hj]
  unfold upd
  by_cases e : k = j
  ·subst e
   rw [if_pos rfl, if_pos hj, if_pos rfl]
  ·rw [if_neg e, if_neg (fun h => e h.symm)]
 ·rw [List.getElem?_eq_none (by rw [rowOf_length]; omega), List.getElem?_eq_none (by rw [rowOf_length]; omega)]
  by_cases e : k = j
  ·rw [if_pos e, if_neg (by omega)]
  ·rw [if_neg e]
def Row (w : World) (g : Nat) (t : TypeId) (kd : IntKind) (n : Nat) (f : Nat → Nat) : Prop := w.heap[g]? = some (.cells (rowOf kd n f).toArray t (0, 0))
theorem Row.cell {w : World} {g : Nat} {t : TypeId} {kd : IntKind} {n : Nat} {f : Nat → Nat} (h : Row w g t kd n f) (j : Nat) (hj : j < n) : w.cell? ⟨g, j, none⟩ = some (.int kd (f j)) := by
 rw [cell_of_row w g j _ t (0, 0) h, List.getElem?_toArray, rowOf_get _ _ _ _ hj]
theorem Row.free {w : World} {g : Nat} {t : TypeId} {kd : IntKind} {n : Nat} {f : Nat → Nat} (h : Row w g t kd n f) (j : Nat) : w.frozen? ⟨g, j, none⟩ = false := by
 have h' : w.heap[g]? = some (.cells (rowOf kd n f).toArray t (0, 0)) := h
 simp [World.frozen?, h']
theorem Row.lt {w : World} {g : Nat} {t : TypeId} {kd : IntKind} {n : Nat} {f : Nat → Nat} (h : Row w g t kd n f) : g < w.heap.size := lt_of_block h
theorem Row.set {w : World} {g : Nat} {t : TypeId} {kd : IntKind} {n : Nat} {f : Nat → Nat} (h : Row w g t kd n f) (k v : Nat) : Row (w.setCell ⟨g, k, none⟩ (.int kd v)) g t kd n (upd f k v) := by
 unfold Row
 rw [← rowOf_set]
 exact heap_setCell_same w g k _ t _ h
theorem Row.other {w : World} {g : Nat} {t : TypeId} {kd : IntKind} {n : Nat} {f : Nat → Nat} (h : Row w g t kd n f) (a : Addr) (v : Value) (ha : g ≠ a.block) : Row (w.setCell a v) g t kd n f := by
 unfold Row
 rw [heap_setCell_other _ _ _ _ ha]
 exact h
theorem Row.ext {w : World} {g : Nat} {t : TypeId} {kd : IntKind} {n : Nat} {f f' : Nat → Nat} (h : Row w g t kd n f) (he : ∀ j, j < n → f j = f' j) : Row w g t kd n f' := by
 unfold Row
 rw [← rowOf_ext he]; exact h
theorem Row.seg {w : World} {g : Nat} {t : TypeId} {kd : IntKind} {n : Nat} {f : Nat → Nat} (h : Row w g t kd n f) : ∀ j v, (rowOf kd n f)[j]? = some v → w.cell? ⟨g, 0 + j, none⟩ = some v := by
 intro j v hv
 rw [cell_of_row w g (0 + j) _ t (0, 0) h, Nat.zero_add, List.getElem?_toArray, hv]
theorem Row.new (w : World) (t : TypeId) (kd : IntKind) (n : Nat) (f : Nat → Nat) : Row (w.alloc (.cells (rowOf kd n f).toArray t)) w.heap.size t kd n f := heap_alloc_new w _
theorem Row.alloc {w : World} {g : Nat} {t : TypeId} {kd : IntKind} {n : Nat} {f : Nat → Nat} (h : Row w g t kd n f) (o : Obj) : Row (w.alloc o) g t kd n f := by
 unfold Row
 rw [Below.heap_alloc _ _ _ h.lt]; exact h
theorem Row.below {w w' : World} {g : Nat} {t : TypeId} {kd : IntKind} {n : Nat} {f : Nat → Nat} (h : Row w g t kd n f) (hb : Below w.heap.size w w') : Row w' g t kd n f := by
 unfold Row
 rw [hb.block g h.lt]; exact h
theorem Row.drewN {w : World} {g : Nat} {t : TypeId} {kd : IntKind} {n : Nat} {f : Nat → Nat} (h : Row w g t kd n f) (m : Nat) : Row (w.drewN m) g t kd n f := h
theorem Below.drewN' {B : Nat} {a w : World} (h : Below B a w) (m : Nat) : Below B a (w.drewN m) := ⟨h.os, h.tape, h.output, h.size, h.block⟩
theorem replicate_rowOf (kd : IntKind) (n : Nat) : List.replicate n (Value.int kd 0) = rowOf kd n (fun _ => 0) := by
 unfold rowOf
 rw [List.map_const']
 simp
end Go.Proofs.YtdbbcngolcnniaaGreatDoor.S3
