/- What it means that a disk of package disk lies in memory, and what has, Len, Loose, Read do to such a one. No condition but that. -/
import Derived.Test.YtpkhddnehhophaaBase
namespace Go.Proofs.Ytpkhddnehhophaa
open Go.RowKit

def bget (s : List UInt8) (j : Nat) : Value := .int .u8 ((s.getD j 0).toNat : Int)
def bv (s : List UInt8) : List Value := s.map fun x => .int .u8 (x.toNat : Int)
theorem bv_length (s : List UInt8) : (bv s).length = s.length := by simp [bv]
theorem bv_get (s : List UInt8) (j : Nat) : (bv s)[j]? = if j < s.length then some (bget s j) else none := by
  unfold bv bget
  by_cases h : j < s.length
  · simp [h]
  · simp [h]
theorem bv_one (s : List UInt8) : ∀ v ∈ bv s, v.oneCell' = true := by
  intro v hv
  simp [bv] at hv
  obtain ⟨x, _, rfl⟩ := hv
  rfl

structure DS where
  n : Nat
  firm : Nat → List UInt8
  now : Nat → List UInt8
  loose : List (Nat × List UInt8)
  fuse : Int
  down : Bool

/-- The sectors' row. -/
structure Secs (cur : Array Value) (n : Nat) (firm now : Nat → List UInt8) : Prop where
  size : cur.size = n * 128
  lf : ∀ i, i < n → (firm i).length = 64
  ln : ∀ i, i < n → (now i).length = 64
  cf : ∀ i, i < n → ∀ j, j < 64 → cur[i * 128 + j]? = some (bget (firm i) j)
  cn : ∀ i, i < n → ∀ j, j < 64 → cur[i * 128 + 64 + j]? = some (bget (now i) j)

def lcells (l : List (Nat × List UInt8)) : List Value := l.flatMap fun x => .int .i64 (x.1 : Int) :: bv x.2

/-- A disk lies at block b, its sectors at bs, its loose writes at lv; all of them at B or beyond. -/
structure Rep (w : World) (B b bs : Nat) (lv : Value) (D : DS) : Prop where
  hb : B ≤ b
  hbs : B ≤ bs
  hd : w.heap[b]? = some (.cells #[.slice (some ⟨bs, 0, none⟩) D.n D.n, lv, .int .i64 D.fuse, .bool D.down] 62 (0, 0))
  hn : D.n ≤ 4096
  hs : ∃ cur, w.heap[bs]? = some (.cells cur 69 (0, 0)) ∧ Secs cur D.n D.firm D.now
  hl : w.ownsRow B 67 65 lv D.loose.length (lcells D.loose)
  hx : ∀ x ∈ D.loose, x.1 < D.n ∧ x.2.length = 64
  hm : D.loose.length ≤ 1000000
  hf : (Lit.int .i64 D.fuse).wf = true

theorem Rep.c {w : World} {B b bs : Nat} {lv : Value} {D : DS} (h : Rep w B b bs lv D) :
    w.cell? ⟨b, 0, none⟩ = some (.slice (some ⟨bs, 0, none⟩) D.n D.n) ∧ w.cell? ⟨b, 1, none⟩ = some lv ∧ w.cell? ⟨b, 2, none⟩ = some (.int .i64 D.fuse) ∧ w.cell? ⟨b, 3, none⟩ = some (.bool D.down) := by
  refine ⟨?_, ?_, ?_, ?_⟩ <;> simp [World.cell?, h.hd]
theorem Rep.f {w : World} {B b bs : Nat} {lv : Value} {D : DS} (h : Rep w B b bs lv D) (k : Nat) : w.frozen? ⟨b, k, none⟩ = false := by
  simp [World.frozen?, h.hd]

set_option maxHeartbeats 400000 in
theorem has_yes (b bs n cap : Nat) (i : Int) (w : World) (h1 : 0 ≤ i) (h2 : i < n)
   (h0 : w.cell? ⟨b, 0, none⟩ = some (.slice (some ⟨bs, 0, none⟩) n cap)) :
    Calls Try.prog 30 #[.pointer (some ⟨b, 0, none⟩), .int .i64 i] w fun e w' => e = .returned (.bool true) ∧ w = w' := by
  go_enter Try.func30, Try.ntmps30
  go_wp2
  go_ret
  exact ⟨rfl, rfl⟩
set_option maxHeartbeats 400000 in
theorem has_no (b bs n cap : Nat) (i : Int) (w : World) (h1 : i < 0 ∨ (n : Int) ≤ i)
   (h0 : w.cell? ⟨b, 0, none⟩ = some (.slice (some ⟨bs, 0, none⟩) n cap)) :
    Calls Try.prog 30 #[.pointer (some ⟨b, 0, none⟩), .int .i64 i] w fun e w' => e = .returned (.bool false) ∧ w = w' := by
  by_cases h2 : 0 ≤ i
  · have h3 : (n : Int) ≤ i := by omega
    clear h1
    go_enter Try.func30, Try.ntmps30
    go_wp2
    go_ret
    exact ⟨by simp; omega, rfl⟩
  · have h3 : i < 0 := by omega
    clear h1 h2
    go_enter Try.func30, Try.ntmps30
    go_wp2
    go_ret
    exact ⟨rfl, rfl⟩

set_option maxHeartbeats 400000 in
theorem len_any {w : World} {B b bs : Nat} {lv : Value} {D : DS} (h : Rep w B b bs lv D) :
    Calls Try.prog 22 #[.pointer (some ⟨b, 0, none⟩)] w fun e w' => e = .returned (.int .i64 D.n) ∧ w = w' := by
  obtain ⟨c0, -, -, -⟩ := h.c
  clear h
  go_enter Try.func22, Try.ntmps22
  go_wp2
  go_ret
  exact ⟨rfl, rfl⟩

set_option maxHeartbeats 400000 in
theorem loose_any {w : World} {B b bs : Nat} {lv : Value} {D : DS} (h : Rep w B b bs lv D) :
    Calls Try.prog 17 #[.pointer (some ⟨b, 0, none⟩)] w fun e w' => e = .returned (.int .i64 D.loose.length) ∧ w = w' := by
  obtain ⟨-, c1, -, -⟩ := h.c
  have hv : ∃ p c, lv = .slice p D.loose.length c := by
    rcases h.hl.2 with ⟨rfl, h0⟩ | ⟨g, cap, cur, rfl, _⟩
    · rw [h0]; exact ⟨_, _, rfl⟩
    · exact ⟨_, _, rfl⟩
  obtain ⟨p, c, rfl⟩ := hv
  clear h
  generalize D.loose.length = k at *
  go_enter Try.func17, Try.ntmps17
  go_wp2
  go_ret
  exact ⟨rfl, rfl⟩

set_option maxHeartbeats 400000 in
theorem err_any (n : Int) (w : World) : Calls Try.prog 13 #[.int .i64 n] w fun e w' => e = .returned (.int .i64 n) ∧ w = w' := by
  go_enter Try.func13, Try.ntmps13
  go_wp2
  go_ret
  exact ⟨rfl, rfl⟩


theorem bget_of (s : List UInt8) (j : Nat) (h : j < s.length) : bget s j = .int .u8 (s[j].toNat : Int) := by
  simp [bget, List.getD, List.getElem?_eq_getElem h]

theorem read_nil (i : Int) (w : World) : Calls Try.prog 19 #[.pointer none, .int .i64 i] w fun e w' => e = .returned (.tuple #[.string ByteArray.empty, .int .i64 1]) ∧ w = w' := by
  go_enter Try.func19, Try.ntmps19
  go_wp2
  go_ret2
  exact ⟨rfl, rfl⟩

set_option maxHeartbeats 400000 in
theorem read_down {w : World} {B b bs : Nat} {lv : Value} {D : DS} (h : Rep w B b bs lv D) (hd : D.down = true) (i : Int) :
    Calls Try.prog 19 #[.pointer (some ⟨b, 0, none⟩), .int .i64 i] w fun e w' => e = .returned (.tuple #[.string ByteArray.empty, .int .i64 7]) ∧ w = w' := by
  obtain ⟨-, -, -, c3⟩ := h.c
  rw [hd] at c3
  clear h hd
  go_enter Try.func19, Try.ntmps19
  go_wp2
  go_ret2
  exact ⟨rfl, rfl⟩

set_option maxHeartbeats 400000 in
theorem read_arg {w : World} {B b bs : Nat} {lv : Value} {D : DS} (h : Rep w B b bs lv D) (hd : D.down = false) (i : Int) (hi : i < 0 ∨ (D.n : Int) ≤ i) :
    Calls Try.prog 19 #[.pointer (some ⟨b, 0, none⟩), .int .i64 i] w fun e w' => e = .returned (.tuple #[.string ByteArray.empty, .int .i64 1]) ∧ w = w' := by
  obtain ⟨c0, -, -, c3⟩ := h.c
  rw [hd] at c3
  have K := has_no b bs D.n D.n i w hi c0
  clear h hd hi
  go_enter Try.func19, Try.ntmps19
  go_wp2_with (go_at_call 30; refine K.mono ?_; clear K; rintro e w' ⟨rfl, rfl⟩)
  go_ret2
  exact ⟨rfl, rfl⟩

set_option maxHeartbeats 400000 in
theorem read_ok {w : World} {B b bs : Nat} {lv : Value} {D : DS} (h : Rep w B b bs lv D) (hd : D.down = false) (i : Nat) (hi : i < D.n) :
    Calls Try.prog 19 #[.pointer (some ⟨b, 0, none⟩), .int .i64 i] w fun e w' => e = .returned (.tuple #[.string ⟨(D.now i).toArray⟩, .int .i64 0]) ∧ w = w' := by
  obtain ⟨c0, -, -, c3⟩ := h.c
  rw [hd] at c3
  have hn := h.hn
  have K := has_yes b bs D.n D.n i w (by omega) (by omega) c0
  obtain ⟨cur, hg, hS⟩ := h.hs
  have hl := hS.ln i hi
  have hc : ∀ j (hj : j < (D.now i).length), w.cell? ((⟨bs, i * 128 + 64, none⟩ : Addr).add j) = some (.int .u8 ((D.now i)[j].toNat : Int)) := by
    intro j hj
    rw [addr_add, cell_of_row w bs _ cur 69 (0, 0) hg, hS.cn i hi j (by omega), bget_of _ _ hj]
  generalize D.now i = s at *
  generalize D.n = n at *
  have HC := Lib.hid hc
  clear h hd hS hg hc
  have HL := Lib.hid hl
  clear hl
  go_enter Try.func19, Try.ntmps19
  go_wp2_with (first | (go_at_call 30; refine K.mono ?_; clear K; rintro e w' ⟨rfl, rfl⟩) | (refine wpList_convert_bytes rfl 25 9 5 (.tmp 26) rfl ⟨bs, i * 128 + 64, none⟩ 64 64 rfl s HL.out Try.underlying25 Try.underlying5 Try.underlying9 HC.out ?_))
  go_ret2
  exact ⟨rfl, rfl⟩


def upd (f : Nat → List UInt8) (i : Nat) (s : List UInt8) : Nat → List UInt8 := fun k => if k = i then s else f k

theorem Secs.set {cur cur2 : Array Value} {n i : Nat} {firm now : Nat → List UInt8} {f2 g2 : List UInt8} (h : Secs cur n firm now) (hs : cur2.size = n * 128)
    (ho : ∀ k, k / 128 ≠ i → cur2[k]? = cur[k]?) (hf : ∀ j, j < 64 → cur2[i * 128 + j]? = some (bget f2 j)) (hg : ∀ j, j < 64 → cur2[i * 128 + 64 + j]? = some (bget g2 j))
    (hf2 : f2.length = 64) (hg2 : g2.length = 64) : Secs cur2 n (upd firm i f2) (upd now i g2) := by
  refine ⟨hs, ?_, ?_, ?_, ?_⟩
  · intro k hk; unfold upd; split; exact hf2; exact h.lf k hk
  · intro k hk; unfold upd; split; exact hg2; exact h.ln k hk
  · intro k hk j hj
    unfold upd
    split
    · rename_i e; subst e; exact hf j hj
    · rename_i e; rw [ho _ (by omega)]; exact h.cf k hk j hj
  · intro k hk j hj
    unfold upd
    split
    · rename_i e; subst e; exact hg j hj
    · rename_i e; rw [ho _ (by omega)]; exact h.cn k hk j hj

/-- What a call may have changed: nothing that was there, but the blocks of S. -/
structure Fr (S : Nat → Prop) (w w' : World) : Prop where
  os : w'.os = w.os
  tape : w'.tape = w.tape
  output : w'.output = w.output
  size : w.heap.size ≤ w'.heap.size
  block : ∀ k, k < w.heap.size → ¬ S k → w'.heap[k]? = w.heap[k]?

theorem Fr.refl (S : Nat → Prop) (w : World) : Fr S w w := ⟨rfl, rfl, rfl, Nat.le_refl _, fun _ _ _ => rfl⟩
theorem Fr.trans {S : Nat → Prop} {a b c : World} (h : Fr S a b) (k : Fr S b c) : Fr S a c :=
  ⟨k.os.trans h.os, k.tape.trans h.tape, k.output.trans h.output, Nat.le_trans h.size k.size, fun i hi hS => (k.block i (Nat.lt_of_lt_of_le hi h.size) hS).trans (h.block i hi hS)⟩
theorem Fr.mono {S T : Nat → Prop} {a b : World} (h : Fr S a b) (hST : ∀ k, k < a.heap.size → S k → T k) : Fr T a b := ⟨h.os, h.tape, h.output, h.size, fun k hk hT => h.block k hk (fun hS => hT (hST k hk hS))⟩
theorem Fr.drew {S : Nat → Prop} {a w : World} (h : Fr S a w) : Fr S a w.drew := ⟨h.os, h.tape, h.output, h.size, h.block⟩
theorem Fr.alloc {S : Nat → Prop} {a w : World} (h : Fr S a w) (o : Obj) : Fr S a (w.alloc o) :=
  h.trans ⟨rfl, rfl, rfl, by simp, fun k hk _ => Below.heap_alloc _ _ _ hk⟩
theorem Fr.setCell {S : Nat → Prop} {a w : World} (h : Fr S a w) {p : Addr} (hp : S p.block) (u : Value) : Fr S a (w.setCell p u) :=
  h.trans ⟨rfl, rfl, rfl, by simp [World.setCell], fun k _ hS => Below.heap_setCell _ _ _ _ (fun e => hS (e ▸ hp))⟩
theorem Fr.setRow {S : Nat → Prop} {a w : World} (h : Fr S a w) {g : Nat} (hp : S g) (cs : Array Value) : Fr S a (w.setRow g cs) :=
  h.trans ⟨rfl, rfl, rfl, by simp, fun k _ hS => setRow_other _ _ _ _ (fun e => hS (e ▸ hp))⟩
theorem Fr.below {S : Nat → Prop} {a b : World} (h : Fr S a b) {B : Nat} (hB : B ≤ a.heap.size) (hS : ∀ k, k < B → ¬ S k) : Below B a b :=
  ⟨h.os, h.tape, h.output, h.size, fun k hk => h.block k (by omega) (hS k hk)⟩

/-- A disk's own blocks. -/
def Foot (b bs : Nat) (lv : Value) (k : Nat) : Prop := k = b ∨ k = bs ∨ lv.ownBlock = some k

theorem Rep.sl {w : World} {B b bs : Nat} {lv : Value} {D : DS} (h : Rep w B b bs lv D) : ∃ p c, lv = .slice p D.loose.length c := by
  rcases h.hl.2 with ⟨rfl, h0⟩ | ⟨g, cap, cur, rfl, _⟩
  · rw [h0]; exact ⟨_, _, rfl⟩
  · exact ⟨_, _, rfl⟩
theorem Rep.ne {w : World} {B b bs : Nat} {lv : Value} {D : DS} (h : Rep w B b bs lv D) : bs ≠ b ∧ lv.ownBlock ≠ some b ∧ lv.ownBlock ≠ some bs := by
  obtain ⟨cur, hg, -⟩ := h.hs
  have hd := h.hd
  refine ⟨?_, ?_, ?_⟩
  · rintro rfl; rw [hd] at hg; simp at hg
  · intro e
    rcases h.hl.2 with ⟨rfl, -⟩ | ⟨g, cap, cur, rfl, -, hh, -⟩
    · simp [Value.ownBlock] at e
    · simp [Value.ownBlock] at e; subst e; rw [hd] at hh; simp at hh
  · intro e
    rcases h.hl.2 with ⟨rfl, -⟩ | ⟨g, cap, cur2, rfl, -, hh, -⟩
    · simp [Value.ownBlock] at e
    · simp [Value.ownBlock] at e; subst e; rw [hg] at hh; simp at hh

end Go.Proofs.Ytpkhddnehhophaa
