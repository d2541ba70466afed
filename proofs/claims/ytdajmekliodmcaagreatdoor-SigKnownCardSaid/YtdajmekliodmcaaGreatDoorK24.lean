/- Several texts, one behind the other; each says by itself what it proves, and on what conditions. -/
import Derived.Test.YtdajmekliodmcaaGreatDoorK23
import Derived.Shelf.Strings.Builder1
import Derived.Shelf.Strings.Builder2
import Derived.Shelf.Strings.OnBuilder
import Derived.Shelf.Strings.Trim
import Derived.Shelf.Small.Utf8
import Derived.Shelf.Small.Strs
import Derived.Shelf.Strings.BuilderF
import Derived.Shelf.Strings.BuilderK
import Derived.Shelf.Strings.Builder2Cap
import Derived.Shelf.LaysM
import Derived.Shelf.Strconv.Clone
import Derived.Shelf.Strings.Search1
import Derived.Shelf.Strings.Search2
import Derived.Shelf.Strings.Cut
import Derived.Shelf.Strings.Shaped
import Derived.Shelf.Strings.Prefix
import Derived.Shelf.Unicode.Decode
import Derived.Shelf.Strings.Runes
import Derived.Shelf.Strings.AsciiSet
import Derived.Shelf.Bits.Mul64
import Derived.Shelf.Strings.Repeat
import Derived.Shelf.Unicode.DecodeSlow
import Derived.Shelf.Unicode.DecodeAny
import Derived.Shelf.Unicode.DecodeLast
import Derived.Shelf.Strings.BuilderCap
import Derived.Test.YtdajmekliodmcaaGreatDoorProg
namespace Go.Proofs.YtdajmekliodmcaaGreatDoor
set_option linter.unusedSimpArgs false
set_option linter.unusedVariables false
open Go.Proofs.YtdajmekliodmcaaGreatDoor.P8
open Go.Shelf
def lays169_ren : Go.Shelf.Ren := ⟨fun | 169 => 123 | n => n, fun | 70 => 130 | 9 => 9 | 0 => 0 | 72 => 132 | 37 => 33 | 127 => 152 | 3 => 3 | 5 => 5 | n => n, fun | n => n⟩
theorem lays169 : Go.Proofs.Lays.n169 Tryz.prog lays169_ren := {
  mixed := by kernel_rfl
  f169 := Tryz.func123.trans (congrArg some (by kernel_rfl))
  t0 := Tryz.underlying0
  a0 := Tryz.isAgg0
  z0 := Tryz.sizeOf0
  v0 := Tryz.zeroValue0
  t3 := Tryz.underlying3
  a3 := Tryz.isAgg3
  z3 := Tryz.sizeOf3
  v3 := Tryz.zeroValue3
  t9 := Tryz.underlying9
  a9 := Tryz.isAgg9
  z9 := Tryz.sizeOf9
  v9 := Tryz.zeroValue9
  t37 := Tryz.underlying33
  a37 := Tryz.isAgg33
  z37 := Tryz.sizeOf33
  v37 := Tryz.zeroValue33
  t70 := Tryz.underlying130
  a70 := Tryz.isAgg130
  z70 := Tryz.sizeOf130
  v70 := Tryz.zeroValue130
  t72 := Tryz.underlying132
  a72 := Tryz.isAgg132
  z72 := Tryz.sizeOf132
  v72 := Tryz.zeroValue132
  t127 := Tryz.underlying152
  a127 := Tryz.isAgg152
  z127 := Tryz.sizeOf152
  v127 := Tryz.zeroValue152 }
theorem Builder_Extra_169 : Builder.Extra Tryz.prog lays169_ren := {
  sizeBuilder := by kernel_rfl
  liesBuilder := by kernel_rfl
  t5 := Tryz.underlying5
  a5 := Tryz.isAgg5
  z5 := Tryz.sizeOf5
  v5 := Tryz.zeroValue5
  infoByte := by kernel_rfl
  cellsByte := by kernel_rfl
  sizeByte := by kernel_rfl
  neB5 := by decide }
def lays165_ren : Go.Shelf.Ren := ⟨fun | 165 => 121 | 240 => 161 | 241 => 162 | 276 => 179 | 277 => 180 | n => n, fun | 70 => 130 | 3 => 3 | 0 => 0 | 4 => 4 | 9 => 9 | 20 => 20 | 72 => 132 | 37 => 33 | 164 => 180 | 5 => 5 | n => n, fun | n => n⟩
theorem lays165 : Go.Proofs.Lays.n165 Tryz.prog lays165_ren := {
  mixed := by kernel_rfl
  f165 := Tryz.func121.trans (congrArg some (by kernel_rfl))
  f240 := Tryz.func161.trans (congrArg some (by kernel_rfl))
  f241 := Tryz.func162.trans (congrArg some (by kernel_rfl))
  f276 := Tryz.func179.trans (congrArg some (by kernel_rfl))
  f277 := Tryz.func180.trans (congrArg some (by kernel_rfl))
  t0 := Tryz.underlying0
  a0 := Tryz.isAgg0
  z0 := Tryz.sizeOf0
  v0 := Tryz.zeroValue0
  t3 := Tryz.underlying3
  a3 := Tryz.isAgg3
  z3 := Tryz.sizeOf3
  v3 := Tryz.zeroValue3
  t4 := Tryz.underlying4
  a4 := Tryz.isAgg4
  z4 := Tryz.sizeOf4
  v4 := Tryz.zeroValue4
  t9 := Tryz.underlying9
  a9 := Tryz.isAgg9
  z9 := Tryz.sizeOf9
  v9 := Tryz.zeroValue9
  t20 := Tryz.underlying20
  a20 := Tryz.isAgg20
  z20 := Tryz.sizeOf20
  v20 := Tryz.zeroValue20
  t37 := Tryz.underlying33
  a37 := Tryz.isAgg33
  z37 := Tryz.sizeOf33
  v37 := Tryz.zeroValue33
  t70 := Tryz.underlying130
  a70 := Tryz.isAgg130
  z70 := Tryz.sizeOf130
  v70 := Tryz.zeroValue130
  t72 := Tryz.underlying132
  a72 := Tryz.isAgg132
  z72 := Tryz.sizeOf132
  v72 := Tryz.zeroValue132
  t164 := Tryz.underlying180
  a164 := Tryz.isAgg180
  z164 := Tryz.sizeOf180
  v164 := Tryz.zeroValue180 }
theorem Builder_Extra_165 : Builder.Extra Tryz.prog lays165_ren := {
  sizeBuilder := by kernel_rfl
  liesBuilder := by kernel_rfl
  t5 := Tryz.underlying5
  a5 := Tryz.isAgg5
  z5 := Tryz.sizeOf5
  v5 := Tryz.zeroValue5
  infoByte := by kernel_rfl
  cellsByte := by kernel_rfl
  sizeByte := by kernel_rfl
  neB5 := by decide }
def lays156_ren : Go.Shelf.Ren := ⟨fun | 156 => 72 | 165 => 121 | 166 => 122 | 169 => 123 | 240 => 161 | 241 => 162 | 276 => 179 | 277 => 180 | n => n, fun | 31 => 45 | 9 => 9 | 3 => 3 | 4 => 4 | 0 => 0 | 20 => 20 | 72 => 132 | 76 => 136 | 70 => 130 | 37 => 33 | 75 => 135 | 127 => 152 | 164 => 180 | 5 => 5 | 80 => 83 | n => n, fun | n => n⟩
theorem lays156 : Go.Proofs.Lays.n156 Tryz.prog lays156_ren := {
  mixed := by kernel_rfl
  f156 := Tryz.func72.trans (congrArg some (by kernel_rfl))
  f165 := Tryz.func121.trans (congrArg some (by kernel_rfl))
  f166 := Tryz.func122.trans (congrArg some (by kernel_rfl))
  f169 := Tryz.func123.trans (congrArg some (by kernel_rfl))
  f240 := Tryz.func161.trans (congrArg some (by kernel_rfl))
  f241 := Tryz.func162.trans (congrArg some (by kernel_rfl))
  f276 := Tryz.func179.trans (congrArg some (by kernel_rfl))
  f277 := Tryz.func180.trans (congrArg some (by kernel_rfl))
  t0 := Tryz.underlying0
  a0 := Tryz.isAgg0
  z0 := Tryz.sizeOf0
  v0 := Tryz.zeroValue0
  t3 := Tryz.underlying3
  a3 := Tryz.isAgg3
  z3 := Tryz.sizeOf3
  v3 := Tryz.zeroValue3
  t4 := Tryz.underlying4
  a4 := Tryz.isAgg4
  z4 := Tryz.sizeOf4
  v4 := Tryz.zeroValue4
  t9 := Tryz.underlying9
  a9 := Tryz.isAgg9
  z9 := Tryz.sizeOf9
  v9 := Tryz.zeroValue9
  t20 := Tryz.underlying20
  a20 := Tryz.isAgg20
  z20 := Tryz.sizeOf20
  v20 := Tryz.zeroValue20
  t31 := Tryz.underlying45
  a31 := Tryz.isAgg45
  z31 := Tryz.sizeOf45
  v31 := Tryz.zeroValue45
  t37 := Tryz.underlying33
  a37 := Tryz.isAgg33
  z37 := Tryz.sizeOf33
  v37 := Tryz.zeroValue33
  t70 := Tryz.underlying130
  a70 := Tryz.isAgg130
  z70 := Tryz.sizeOf130
  v70 := Tryz.zeroValue130
  t72 := Tryz.underlying132
  a72 := Tryz.isAgg132
  z72 := Tryz.sizeOf132
  v72 := Tryz.zeroValue132
  t75 := Tryz.underlying135
  a75 := Tryz.isAgg135
  z75 := Tryz.sizeOf135
  v75 := Tryz.zeroValue135
  t76 := Tryz.underlying136
  a76 := Tryz.isAgg136
  z76 := Tryz.sizeOf136
  v76 := Tryz.zeroValue136
  t127 := Tryz.underlying152
  a127 := Tryz.isAgg152
  z127 := Tryz.sizeOf152
  v127 := Tryz.zeroValue152
  t164 := Tryz.underlying180
  a164 := Tryz.isAgg180
  z164 := Tryz.sizeOf180
  v164 := Tryz.zeroValue180 }
theorem Builder_Extra_156 : Builder.Extra Tryz.prog lays156_ren := {
  sizeBuilder := by kernel_rfl
  liesBuilder := by kernel_rfl
  t5 := Tryz.underlying5
  a5 := Tryz.isAgg5
  z5 := Tryz.sizeOf5
  v5 := Tryz.zeroValue5
  infoByte := by kernel_rfl
  cellsByte := by kernel_rfl
  sizeByte := by kernel_rfl
  neB5 := by decide }
open Go.RowKit in
theorem strings_Join (bk o c : Nat) (xs : List ByteArray) (sep : ByteArray) (w : World) (hcells : ∀ (j : Nat) x, xs[j]? = some x → w.cell? ⟨bk, o + j, none⟩ = some (.string x)) (hbk : bk < w.heap.size) (hN : xs.length ≤ 140737488355328) (hcap : xs.length ≤ c) (hlen : (Lib.join (xs.map (·.data.toList)) sep.data.toList).length ≤ 140737488355328) :
    Calls Tryz.prog 72 #[.slice (some ⟨bk, o, none⟩) xs.length c, .string sep] w fun e w' => e = .returned (.string ⟨(Lib.join (xs.map (·.data.toList)) sep.data.toList).toArray⟩) ∧ Below w.heap.size w w' := Any.strings_Join lays156 Builder_Extra_156 bk o c xs sep w hcells hbk hN hcap hlen
def lays162_ren : Go.Shelf.Ren := ⟨fun | 162 => 102 | 232 => 138 | 227 => 139 | 234 => 140 | 236 => 141 | 228 => 169 | 271 => 170 | 151 => 171 | 120 => 184 | 197 => 185 | 152 => 186 | 260 => 192 | 137 => 146 | 119 => 193 | 224 => 182 | 225 => 181 | 217 => 172 | 266 => 187 | n => n, fun | 9 => 9 | 4 => 4 | 3 => 3 | 5 => 5 | 117 => 146 | 116 => 145 | 0 => 0 | 124 => 149 | 21 => 21 | 105 => 170 | 46 => 79 | 119 => 188 | 139 => 191 | 138 => 190 | n => n, fun | 3 => 5 | 4 => 6 | n => n⟩
theorem lays162 : Go.Proofs.Lays.n162 Tryz.prog lays162_ren := {
  mixed := by kernel_rfl
  f119 := Tryz.func193.trans (congrArg some (by kernel_rfl))
  f120 := Tryz.func184.trans (congrArg some (by kernel_rfl))
  f137 := Tryz.func146.trans (congrArg some (by kernel_rfl))
  f151 := Tryz.func171.trans (congrArg some (by kernel_rfl))
  f152 := Tryz.func186.trans (congrArg some (by kernel_rfl))
  f162 := Tryz.func102.trans (congrArg some (by kernel_rfl))
  f197 := Tryz.func185.trans (congrArg some (by kernel_rfl))
  f217 := Tryz.func172.trans (congrArg some (by kernel_rfl))
  f224 := Tryz.func182.trans (congrArg some (by kernel_rfl))
  f225 := Tryz.func181.trans (congrArg some (by kernel_rfl))
  f227 := Tryz.func139.trans (congrArg some (by kernel_rfl))
  f228 := Tryz.func169.trans (congrArg some (by kernel_rfl))
  f232 := Tryz.func138.trans (congrArg some (by kernel_rfl))
  f234 := Tryz.func140.trans (congrArg some (by kernel_rfl))
  f236 := Tryz.func141.trans (congrArg some (by kernel_rfl))
  f260 := Tryz.func192.trans (congrArg some (by kernel_rfl))
  f266 := Tryz.func187.trans (congrArg some (by kernel_rfl))
  f271 := Tryz.func170.trans (congrArg some (by kernel_rfl))
  t0 := Tryz.underlying0
  a0 := Tryz.isAgg0
  z0 := Tryz.sizeOf0
  v0 := Tryz.zeroValue0
  t3 := Tryz.underlying3
  a3 := Tryz.isAgg3
  z3 := Tryz.sizeOf3
  v3 := Tryz.zeroValue3
  t4 := Tryz.underlying4
  a4 := Tryz.isAgg4
  z4 := Tryz.sizeOf4
  v4 := Tryz.zeroValue4
  t5 := Tryz.underlying5
  a5 := Tryz.isAgg5
  z5 := Tryz.sizeOf5
  v5 := Tryz.zeroValue5
  t9 := Tryz.underlying9
  a9 := Tryz.isAgg9
  z9 := Tryz.sizeOf9
  v9 := Tryz.zeroValue9
  t21 := Tryz.underlying21
  a21 := Tryz.isAgg21
  z21 := Tryz.sizeOf21
  v21 := Tryz.zeroValue21
  t46 := Tryz.underlying79
  a46 := Tryz.isAgg79
  z46 := Tryz.sizeOf79
  v46 := Tryz.zeroValue79
  t105 := Tryz.underlying170
  a105 := Tryz.isAgg170
  z105 := Tryz.sizeOf170
  v105 := Tryz.zeroValue170
  t116 := Tryz.underlying145
  a116 := Tryz.isAgg145
  z116 := Tryz.sizeOf145
  t117 := Tryz.underlying146
  a117 := Tryz.isAgg146
  z117 := Tryz.sizeOf146
  v117 := Tryz.zeroValue146
  t119 := Tryz.underlying188
  a119 := Tryz.isAgg188
  z119 := Tryz.sizeOf188
  t124 := Tryz.underlying149
  a124 := Tryz.isAgg149
  z124 := Tryz.sizeOf149
  v124 := Tryz.zeroValue149
  t138 := Tryz.underlying190
  a138 := Tryz.isAgg190
  z138 := Tryz.sizeOf190
  v138 := Tryz.zeroValue190
  t139 := Tryz.underlying191
  a139 := Tryz.isAgg191
  z139 := Tryz.sizeOf191
  v139 := Tryz.zeroValue191
  g3 := by kernel_rfl
  g4 := by kernel_rfl }
open Go.RowKit in
theorem strings_TrimRight_one (s : ByteArray) (c : UInt8) (hc : c.toNat < 128) (w : World) (hs : s.size ≤ 9223372036854775807) :
    Calls Tryz.prog 102 #[.string s, .string ⟨#[c]⟩] w fun e w' => e = .returned (.string ⟨(Lib.trimRightB s.data.toList c).toArray⟩) ∧ w' = w := Any.strings_TrimRight_one lays162 s c hc w hs
def lays137_ren : Go.Shelf.Ren := ⟨fun | 137 => 146 | 217 => 172 | 266 => 187 | n => n, fun | 9 => 9 | 5 => 5 | 3 => 3 | n => n, fun | n => n⟩
theorem lays137 : Go.Proofs.Lays.n137 Tryz.prog lays137_ren := {
  mixed := by kernel_rfl
  f137 := Tryz.func146.trans (congrArg some (by kernel_rfl))
  f217 := Tryz.func172.trans (congrArg some (by kernel_rfl))
  f266 := Tryz.func187.trans (congrArg some (by kernel_rfl))
  t3 := Tryz.underlying3
  a3 := Tryz.isAgg3
  z3 := Tryz.sizeOf3
  v3 := Tryz.zeroValue3
  t5 := Tryz.underlying5
  a5 := Tryz.isAgg5
  z5 := Tryz.sizeOf5
  v5 := Tryz.zeroValue5
  t9 := Tryz.underlying9
  a9 := Tryz.isAgg9
  z9 := Tryz.sizeOf9
  v9 := Tryz.zeroValue9 }
open Go.RowKit in
theorem strings_IndexByte (s : ByteArray) (c : Int) (w : World) :
    Calls Tryz.prog 146 #[.string s, .int .u8 c] w fun e w' => e = .returned (.int .i64 (Lib.indexByte s.data.toList c.toNat.toUInt8)) ∧ w' = w := Any.strings_IndexByte lays137 s c w
open Go.RowKit in
theorem Builder_String_any_k (B b : Nat) (l : List UInt8) (w : World) (h : Lib.IsBuilderF 132 5 B b (Lib.byteCells l) w) (hBw : B ≤ w.heap.size) :
    Calls Tryz.prog 123 #[.pointer (some ⟨b, 0, none⟩)] w fun e w' => e = .returned (.string ⟨l.toArray⟩) ∧ (Lib.IsBuilderF 132 5 B b (Lib.byteCells l) w' ∧ Below B w w' ∧ Lib.OthersKept 5 (some b) w w') := Any.Builder_String_any_k lays169 Builder_Extra_169 B b l w h hBw
open Go.RowKit in
theorem Builder_Grow_fresh_cap (B b n : Nat) (w : World) (hB : B ≤ b) (hbk : w.heap[b]? = some (.cells #[.pointer none, .slice none 0 0] 132 (0, 0))) (hBw : B ≤ w.heap.size) (hn : n ≤ 281474976710656) :
    Calls Tryz.prog 121 #[.pointer (some ⟨b, 0, none⟩), .int .i64 n] w fun e w' => e = .returned (.tuple #[]) ∧ (Lib.BuilderAt 132 5 B b (.pointer (some ⟨b, 0, none⟩)) [] w' ∧ Below B w w') ∧ ∃ p cap, w'.cell? ⟨b, 1, none⟩ = some (.slice p 0 cap) ∧ n ≤ cap := Any.Builder_Grow_fresh_cap lays165 Builder_Extra_165 B b n w hB hbk hBw hn
def laysM316_ren : Go.Shelf.Ren := ⟨fun | 316 => 108 | n => n, fun | 9 => 9 | 3 => 3 | 4 => 4 | 37 => 33 | 0 => 0 | 127 => 152 | 5 => 5 | n => n, fun | n => n⟩
theorem laysM316 : Go.Proofs.LaysM.n316 Tryz.prog laysM316_ren := {
  mixed := by kernel_rfl
  f316 := Tryz.func108.trans (congrArg some (by kernel_rfl))
  t0 := Tryz.underlying0
  a0 := Tryz.isAgg0
  z0 := Tryz.sizeOf0
  v0 := Tryz.zeroValue0
  t3 := Tryz.underlying3
  a3 := Tryz.isAgg3
  z3 := Tryz.sizeOf3
  v3 := Tryz.zeroValue3
  t4 := Tryz.underlying4
  a4 := Tryz.isAgg4
  z4 := Tryz.sizeOf4
  v4 := Tryz.zeroValue4
  t9 := Tryz.underlying9
  a9 := Tryz.isAgg9
  z9 := Tryz.sizeOf9
  v9 := Tryz.zeroValue9
  t37 := Tryz.underlying33
  a37 := Tryz.isAgg33
  z37 := Tryz.sizeOf33
  v37 := Tryz.zeroValue33
  t127 := Tryz.underlying152
  a127 := Tryz.isAgg152
  z127 := Tryz.sizeOf152
  v127 := Tryz.zeroValue152
  t5 := Tryz.underlying5
  a5 := Tryz.isAgg5
  z5 := Tryz.sizeOf5
  v5 := Tryz.zeroValue5
  i0 := by kernel_rfl
  i3 := by kernel_rfl
  i4 := by kernel_rfl
  i5 := by kernel_rfl
  i9 := by kernel_rfl
  i37 := by kernel_rfl
  i127 := by kernel_rfl }
open Go.RowKit in
theorem stringslite_Clone (s : ByteArray) (w : World) (hlim : s.size ≤ 281474976710656) :
    Calls Tryz.prog 108 #[.string s] w fun e w' => e = .returned (.string s) ∧ Below w.heap.size w w' := Any.stringslite_Clone laysM316 s w hlim
def lays219_ren : Go.Shelf.Ren := ⟨fun | 219 => 168 | 217 => 172 | 225 => 181 | 224 => 182 | 267 => 183 | 266 => 187 | 314 => 191 | n => n, fun | 9 => 9 | 3 => 3 | 4 => 4 | 5 => 5 | 46 => 79 | 146 => 174 | 51 => 173 | n => n, fun | 1 => 4 | n => n⟩
theorem lays219 : Go.Proofs.Lays.n219 Tryz.prog lays219_ren := {
  mixed := by kernel_rfl
  f217 := Tryz.func172.trans (congrArg some (by kernel_rfl))
  f219 := Tryz.func168.trans (congrArg some (by kernel_rfl))
  f224 := Tryz.func182.trans (congrArg some (by kernel_rfl))
  f225 := Tryz.func181.trans (congrArg some (by kernel_rfl))
  f266 := Tryz.func187.trans (congrArg some (by kernel_rfl))
  f267 := Tryz.func183.trans (congrArg some (by kernel_rfl))
  f314 := Tryz.func191.trans (congrArg some (by kernel_rfl))
  t3 := Tryz.underlying3
  a3 := Tryz.isAgg3
  z3 := Tryz.sizeOf3
  v3 := Tryz.zeroValue3
  t4 := Tryz.underlying4
  a4 := Tryz.isAgg4
  z4 := Tryz.sizeOf4
  v4 := Tryz.zeroValue4
  t5 := Tryz.underlying5
  a5 := Tryz.isAgg5
  z5 := Tryz.sizeOf5
  v5 := Tryz.zeroValue5
  t9 := Tryz.underlying9
  a9 := Tryz.isAgg9
  z9 := Tryz.sizeOf9
  v9 := Tryz.zeroValue9
  t46 := Tryz.underlying79
  a46 := Tryz.isAgg79
  z46 := Tryz.sizeOf79
  v46 := Tryz.zeroValue79
  t51 := Tryz.underlying173
  a51 := Tryz.isAgg173
  z51 := Tryz.sizeOf173
  v51 := Tryz.zeroValue173
  t146 := Tryz.underlying174
  a146 := Tryz.isAgg174
  z146 := Tryz.sizeOf174
  v146 := Tryz.zeroValue174
  g1 := by kernel_rfl }
open Go.RowKit Go.Lib in
theorem stringslite_Index_one (s : ByteArray) (c : UInt8) (w : World) :
    Calls Tryz.prog 168 #[.string s, .string ⟨#[c]⟩] w fun e w' => e = .returned (.int .i64 (Lib.indexByte s.data.toList c)) ∧ w' = w := Any.stringslite_Index_one lays219 s c w
def lays105_ren : Go.Shelf.Ren := ⟨fun | 105 => 110 | 212 => 149 | 99 => 150 | 165 => 121 | 166 => 122 | 170 => 142 | 169 => 123 | 263 => 173 | 264 => 174 | 206 => 175 | 240 => 161 | 241 => 162 | 276 => 179 | 277 => 180 | n => n, fun | 9 => 9 | 3 => 3 | 4 => 4 | 20 => 20 | 0 => 0 | 46 => 79 | 109 => 153 | 5 => 5 | 72 => 132 | 76 => 136 | 51 => 173 | 146 => 174 | 53 => 34 | 148 => 138 | 70 => 130 | 37 => 33 | 75 => 135 | 127 => 152 | 164 => 180 | 80 => 83 | n => n, fun | n => n⟩
theorem lays105 : Go.Proofs.Lays.n105 Tryz.prog lays105_ren := {
  mixed := by kernel_rfl
  f99 := Tryz.func150.trans (congrArg some (by kernel_rfl))
  f105 := Tryz.func110.trans (congrArg some (by kernel_rfl))
  f165 := Tryz.func121.trans (congrArg some (by kernel_rfl))
  f166 := Tryz.func122.trans (congrArg some (by kernel_rfl))
  f169 := Tryz.func123.trans (congrArg some (by kernel_rfl))
  f170 := Tryz.func142.trans (congrArg some (by kernel_rfl))
  f206 := Tryz.func175.trans (congrArg some (by kernel_rfl))
  f212 := Tryz.func149.trans (congrArg some (by kernel_rfl))
  f240 := Tryz.func161.trans (congrArg some (by kernel_rfl))
  f241 := Tryz.func162.trans (congrArg some (by kernel_rfl))
  f263 := Tryz.func173.trans (congrArg some (by kernel_rfl))
  f264 := Tryz.func174.trans (congrArg some (by kernel_rfl))
  f276 := Tryz.func179.trans (congrArg some (by kernel_rfl))
  f277 := Tryz.func180.trans (congrArg some (by kernel_rfl))
  t0 := Tryz.underlying0
  a0 := Tryz.isAgg0
  z0 := Tryz.sizeOf0
  v0 := Tryz.zeroValue0
  t3 := Tryz.underlying3
  a3 := Tryz.isAgg3
  z3 := Tryz.sizeOf3
  v3 := Tryz.zeroValue3
  t4 := Tryz.underlying4
  a4 := Tryz.isAgg4
  z4 := Tryz.sizeOf4
  v4 := Tryz.zeroValue4
  t5 := Tryz.underlying5
  a5 := Tryz.isAgg5
  z5 := Tryz.sizeOf5
  v5 := Tryz.zeroValue5
  t9 := Tryz.underlying9
  a9 := Tryz.isAgg9
  z9 := Tryz.sizeOf9
  v9 := Tryz.zeroValue9
  t20 := Tryz.underlying20
  a20 := Tryz.isAgg20
  z20 := Tryz.sizeOf20
  v20 := Tryz.zeroValue20
  t37 := Tryz.underlying33
  a37 := Tryz.isAgg33
  z37 := Tryz.sizeOf33
  v37 := Tryz.zeroValue33
  t46 := Tryz.underlying79
  a46 := Tryz.isAgg79
  z46 := Tryz.sizeOf79
  v46 := Tryz.zeroValue79
  t51 := Tryz.underlying173
  a51 := Tryz.isAgg173
  z51 := Tryz.sizeOf173
  v51 := Tryz.zeroValue173
  t53 := Tryz.underlying34
  a53 := Tryz.isAgg34
  z53 := Tryz.sizeOf34
  v53 := Tryz.zeroValue34
  t70 := Tryz.underlying130
  a70 := Tryz.isAgg130
  z70 := Tryz.sizeOf130
  v70 := Tryz.zeroValue130
  t72 := Tryz.underlying132
  a72 := Tryz.isAgg132
  z72 := Tryz.sizeOf132
  v72 := Tryz.zeroValue132
  t75 := Tryz.underlying135
  a75 := Tryz.isAgg135
  z75 := Tryz.sizeOf135
  v75 := Tryz.zeroValue135
  t76 := Tryz.underlying136
  a76 := Tryz.isAgg136
  z76 := Tryz.sizeOf136
  v76 := Tryz.zeroValue136
  t109 := Tryz.underlying153
  a109 := Tryz.isAgg153
  z109 := Tryz.sizeOf153
  v109 := Tryz.zeroValue153
  t127 := Tryz.underlying152
  a127 := Tryz.isAgg152
  z127 := Tryz.sizeOf152
  v127 := Tryz.zeroValue152
  t146 := Tryz.underlying174
  a146 := Tryz.isAgg174
  z146 := Tryz.sizeOf174
  v146 := Tryz.zeroValue174
  t148 := Tryz.underlying138
  a148 := Tryz.isAgg138
  z148 := Tryz.sizeOf138
  v148 := Tryz.zeroValue138
  t164 := Tryz.underlying180
  a164 := Tryz.isAgg180
  z164 := Tryz.sizeOf180
  v164 := Tryz.zeroValue180 }
theorem Builder_Extra_105 : Builder.Extra Tryz.prog lays105_ren := {
  sizeBuilder := by kernel_rfl
  liesBuilder := by kernel_rfl
  t5 := Tryz.underlying5
  a5 := Tryz.isAgg5
  z5 := Tryz.sizeOf5
  v5 := Tryz.zeroValue5
  infoByte := by kernel_rfl
  cellsByte := by kernel_rfl
  sizeByte := by kernel_rfl
  neB5 := by decide }
open Go.RowKit Go.Lib in
theorem strings_Repeat (s : ByteArray) (c : Nat) (w : World) (hc : c ≤ 9223372036854775807) (hlen : s.size * c ≤ 140737488355328) :
    Calls Tryz.prog 110 #[.string s, .int .i64 c] w fun e w' => e = .returned (.string ⟨(Lib.repeatL s.data.toList c).toArray⟩) ∧ Below w.heap.size w w' := Any.strings_Repeat lays105 Builder_Extra_105 s c w hc hlen
end Go.Proofs.YtdajmekliodmcaaGreatDoor
namespace Go.Proofs.YtdajmekliodmcaaGreatDoor.P8
open Go.RowKit Go.Shelf
set_option linter.unusedVariables false
set_option linter.unusedSimpArgs false
def onT (p : Nat × Nat) : Bool := decide (p.1 < pp) && (decide (p.2 < pp) && decide (subF (mulF p.2 p.2) (mulF p.1 p.1) = addF 1 (mulF dN (mulF (mulF p.1 p.1) (mulF p.2 p.2)))))
theorem on_eq (x y : Nat) : subF (mulF y y) (mulF x x) = addF 1 (mulF dN (mulF (mulF x x) (mulF y y))) ↔ onK (toK x) (toK y) := by
  constructor
  · intro h
    have h2 := congrArg toK h
    rw [toK_subM, toK_mul, toK_add, toK_mul, toK_mul, toK_mul, toK_mul, toK_one] at h2
    unfold onK
    rw [h2]
    show 1 + dK * (toK x * toK x * (toK y * toK y)) = _
    generalize toK x = a
    generalize toK y = b
    grind
  · intro h
    apply toK_inj (subF_lt _ _) (addF_lt _ _)
    rw [toK_subM, toK_mul, toK_add, toK_mul, toK_mul, toK_mul, toK_mul, toK_one]
    unfold onK at h
    rw [h]
    show _ = 1 + dK * (toK x * toK x * (toK y * toK y))
    generalize toK x = a
    generalize toK y = b
    grind
theorem onT_iff (p : Nat × Nat) : onT p = true ↔ onN p := by
  unfold onT onN
  rw [Bool.and_eq_true, Bool.and_eq_true, decide_eq_true_iff, decide_eq_true_iff, decide_eq_true_iff, on_eq]
theorem baseN_on : onN baseN := by
  rw [← onT_iff]
  unfold onT
  rw [dN_val]
  decide +kernel
theorem base_load {w : World} (h : Glob w) : (loadVar 60 ⟨0, 0, none⟩).run Tryz.prog w = .ok (.agg (num baseN.1 ++ num baseN.2)) w := by
  obtain ⟨_, t, h⟩ := h
  exact loadT26 (rw_app (isRw4 (isNum _)) (isRw4 (isNum _))) h
set_option maxRecDepth 100000 in
set_option maxHeartbeats 2000000 in
theorem base_any (w : World) (hG0 : Glob w) :
    Calls Tryz.prog 64 #[] w fun e w' => e = .returned (.agg (num baseN.1 ++ num baseN.2)) ∧ Below w.heap.size w w' := by
  have HG := Lib.hid hG0
  obtain ⟨ZR1, hZR1⟩ : ∃ zz9, Hid (zz9 = (rowOf .u64 8 (fun _ => 0)).toArray) := ⟨_, Lib.hid rfl⟩
  have SZZR1 : ZR1.size = 8 := by rw [hZR1.out]; rfl
  obtain ⟨NN2, hNN2⟩ : ∃ zz9, Hid (zz9 = num (baseN.1)) := ⟨_, Lib.hid rfl⟩
  have INN2 : IsNum NN2 := by rw [hNN2.out]; exact isNum _
  obtain ⟨NN3, hNN3⟩ : ∃ zz9, Hid (zz9 = num (baseN.2)) := ⟨_, Lib.hid rfl⟩
  have INN3 : IsNum NN3 := by rw [hNN3.out]; exact isNum _
  obtain ⟨PP4, hPP4⟩ : ∃ zz9, Hid (zz9 = NN2 ++ NN3) := ⟨_, Lib.hid rfl⟩
  have IPP4 : IsRw 8 PP4 := by rw [hPP4.out]; exact rw_app (isRw4 INN2) (isRw4 INN3)
  have SPP4_0 : Part PP4 0 NN2 := by rw [hPP4.out]; exact part_left 0 (part_all NN2) NN3
  have SPP4_4 : Part PP4 4 NN3 := by rw [hPP4.out]; exact part_right (NN2) NN3 4 (by simp [INN2.size])
  have HZ26 : ∀ w, (zeroValue 60).run Tryz.prog w = .ok (.agg ZR1) w := by rw [hZR1.out]; exact zeroT26
  have LB : ∀ W, Below w.heap.size w W → (loadVar 60 ⟨0, 0, none⟩).run Tryz.prog W = .ok (.agg PP4) W := fun W hb => by rw [hPP4.out, hNN2.out, hNN3.out]; exact base_load (HG.out.below hb)
  try simp only [← hNN2.out, ← hNN3.out] at  ⊢
  try simp only [← hZR1.out, ← hPP4.out] at  ⊢
  clear hZR1 hNN2 hNN3 hPP4 hG0
  go_enter Tryz.func64, Tryz.ntmps64
  have HS : Hid (Kt w [] w) := Lib.hid (Kt.nil w)
  go_upto_region 0 with fail
  refine wp_region_list ?_
  refine wpList_run rfl _ (exec_alloc_agg _ 60 rfl _ (HZ26 _)) ?_
  simp only [Act.put, sT, sS, sZ]
  have bg3 := HS.out.1.size
  have HS2 := Lib.hid (HS.out.new ZR1 60)
  clear HS
  generalize w.alloc (.cells ZR1 60) = w1 at *
  refine wpList_nil ?_
  go_upto_region 1 with fail
  refine wp_region_list ?_
  refine wpList_run rfl (.agg PP4) (exec_load_of _ 60 (.global 0) rfl ⟨0, 0, none⟩ rfl _ (LB _ (HS2.out.1))) ?_
  simp only [Act.put, sT, sS, sZ]
  refine wpList_run0 rfl (exec_storeT26 _ (.tmp 0) (.tmp 1) rfl (w.heap.size) rfl PP4 IPP4 rfl ZR1 60 (HS2.out.get (w.heap.size) ZR1 60 (by simp)) SZZR1) ?_
  simp only [Act.put, sT, sS, sZ]
  have HS5 : Hid (Kt w [(w.heap.size, PP4, 60)] (w1.setRow (w.heap.size) PP4)) := Lib.hid (HS2.out.set (w.heap.size) PP4 ZR1 60 (HS2.out.get (w.heap.size) ZR1 60 (by simp)) (by omega) (fun p hp => by simp at hp; subst hp; exact .inl rfl))
  clear HS2
  generalize w1.setRow (w.heap.size) PP4 = w4 at *
  refine wpList_nil ?_
  go_wp2
  exact bodyPost_ret (results_cell rfl _ _ _ ⟨w.heap.size, 0, none⟩ rfl _ (loadT26 IPP4 (HS5.out.get (w.heap.size) PP4 60 (by simp)))) rfl ⟨rfl, HS5.out.1⟩
theorem enQ64 : ∀ args w, (callFunc 64 args).run Tryz.prog w = .ok (.enter 64 args) w := enters_of Tryz.func64 (by kernel_rfl) rfl
theorem enQ48 : ∀ args w, (callFunc 48 args).run Tryz.prog w = .ok (.enter 48 args) w := enters_of Tryz.func48 (by kernel_rfl) rfl
set_option maxRecDepth 100000 in
set_option maxHeartbeats 2000000 in
theorem ofBase_any (k : Nat) (hk : k < 115792089237316195423570985008687907853269984665640564039457584007913129639936) (w : World) (hG0 : Glob w) :
    Calls Tryz.prog 32 #[.agg (num k)] w fun e w' => e = .returned (.agg (ptV (mulN k baseN))) ∧ Below w.heap.size w w' := by
  have HG := Lib.hid hG0
  have H1 : Hid (∀ w, Glob w → _) := Lib.hid (fun w hw => base_any w hw)
  have H2 : Hid (∀ w, Glob w → Calls Tryz.prog 48 #[.agg (num k), .agg (num baseN.1 ++ num baseN.2)] w fun e w' => e = .returned (.agg (ptV (mulN k baseN))) ∧ Below w.heap.size w w') := Lib.hid (fun w hw => mul_pt k baseN hk baseN_on w hw)
  obtain ⟨R, hR⟩ : ∃ R, Hid (R = ptV (mulN k baseN)) := ⟨_, Lib.hid rfl⟩
  have IR : IsRw 8 R := by rw [hR.out]; exact ptV_rw _
  obtain ⟨B, hB⟩ : ∃ B, Hid (B = num baseN.1 ++ num baseN.2) := ⟨_, Lib.hid rfl⟩
  obtain ⟨Kx, hKx⟩ : ∃ B, Hid (B = num k) := ⟨_, Lib.hid rfl⟩
  have IKx : IsNum Kx := by rw [hKx.out]; exact isNum _
  obtain ⟨ZR1, hZR1⟩ : ∃ zz9, Hid (zz9 = (rowOf .u64 8 (fun _ => 0)).toArray) := ⟨_, Lib.hid rfl⟩
  have SZZR1 : ZR1.size = 8 := by rw [hZR1.out]; rfl
  have HZ26 : ∀ w, (zeroValue 60).run Tryz.prog w = .ok (.agg ZR1) w := by rw [hZR1.out]; exact zeroT26
  rw [← hR.out, ← hKx.out, ← hB.out] at H2
  rw [← hB.out] at H1
  rw [← hR.out, ← hKx.out]
  clear hR hB hKx hZR1 hG0
  go_enter Tryz.func32, Tryz.ntmps32
  have HS : Hid (Kt w [] w) := Lib.hid (Kt.nil w)
  go_upto_region 0 with fail
  refine wp_region_list ?_
  refine wpList_run rfl _ (exec_box _ 36 (.tmp 0) rfl _ rfl (Kx) rfl) ?_
  simp only [Act.put, sT, sS, sZ]
  have bg3 := HS.out.1.size
  have HS2 := Lib.hid (HS.out.new Kx 36)
  clear HS
  generalize w.alloc (.cells Kx 36) = w1 at *
  refine wpList_run rfl _ (exec_alloc_agg _ 60 rfl _ (HZ26 _)) ?_
  simp only [Act.put, sT, sS, sZ]
  have lg6_0 := HS2.out.lt (w.heap.size) Kx 36 (by simp)
  have bg6 := HS2.out.1.size
  have HS5 := Lib.hid (HS2.out.new ZR1 60)
  clear HS2
  generalize w1.alloc (.cells ZR1 60) = w4 at *
  generalize w1.heap.size = g6 at *
  refine wpList_nil ?_
  go_upto_region 1 with fail
  refine wp_cut (fun a' W' => a' = { tmps := #[.agg Kx, .pointer (some ⟨w.heap.size, 0, none⟩), .pointer (some ⟨g6, 0, none⟩), .agg Kx, .agg B, .agg R], defers := [] } ∧ Kt w [(g6, R, 60)] W') ?_ ?_
  · refine wp_region_any (by kernel_rfl) ?_
    change wpAny _ _ _ _ _ _ _ (World.drew _)
    have HD := HS5.out.drew
    clear HS5
    generalize w4.drew = wd at *
    refine any_of_F (S := Kt w [(g6, ZR1, 60), (w.heap.size, Kx, 36)]) (f := 3) _ _ _ _ ?_
    refine tkL 0 (some 3) (.load 36 (.tmp 1)) (.agg Kx) (fun o ho w2 hw => exec_load_of _ 36 (.tmp 1) ho ⟨w.heap.size, 0, none⟩ rfl _ (loadA IKx (hw.get (w.heap.size) Kx 36 (by simp)))) HD ?_
    simp only [Act.put, sT, sS, sZ]
    refine rdy [1] (rcl (some 4) 64 #[] #[] #[] enQ64 _ (H1.out _ (HG.out.below HD.1)) ?_ ReadyF.nil)
    rintro v x1 ⟨he, hb⟩
    cases he
    have HD2 := HD.below hb
    clear hb
    refine ⟨HD2, ?_⟩
    simp only [Act.put, sT, sS, sZ]
    refine rdy [2] (rcl (some 5) 48 #[.tmp 3, .tmp 4] #[36, 60] #[.agg Kx, .agg B] enQ48 _ (H2.out _ (HG.out.below HD2.1)) ?_ ReadyF.nil)
    rintro v x2 ⟨he, hb⟩
    cases he
    have HD3 := HD2.below hb
    clear hb
    refine ⟨HD3, ?_⟩
    simp only [Act.put, sT, sS, sZ]
    refine rdy [3] (ReadyF.last (.store 60 (.tmp 2) (.tmp 5)) rfl (fun o ho => exec_storeT26 x2 (.tmp 2) (.tmp 5) ho g6 rfl R IR rfl ZR1 60 (HD3.get g6 ZR1 60 (by simp)) SZZR1) ?_ ReadyF.nil)
    refine any_doneF (by kernel_rfl) ?_ _
    have HD4 : Kt w [(g6, R, 60)] (x2.setRow g6 R) := HD3.set g6 R ZR1 60 (HD3.get g6 ZR1 60 (by simp)) (by omega) (fun p hp => by simp at hp; subst hp; exact .inl rfl)
    exact nrm_intro ⟨rfl, HD4⟩
  rintro a' w11 ⟨rfl, hk⟩
  have HS12 := Lib.hid hk
  clear hk
  go_wp2
  exact bodyPost_ret (results_cell rfl _ _ _ ⟨g6, 0, none⟩ rfl _ (loadT26 IR (HS12.out.get g6 R 60 (by simp)))) rfl ⟨rfl, HS12.out.1⟩
def strRow (xs : List ByteArray) : Array Value := (xs.map Value.string).toArray
theorem strRow_get (xs : List ByteArray) (j : Nat) (x : ByteArray) (h : xs[j]? = some x) : (strRow xs)[j]? = some (.string x) := by
  unfold strRow
  rw [List.getElem?_toArray, List.getElem?_map, h]
  rfl
def numT (l : List UInt8) : Nat := S7.reduceL (W4.sha l)
theorem numT_lt (l : List UInt8) : numT l < 115792089237316195423570985008687907853269984665640564039457584007913129639936 := S7.LL_lt (Nat.mod_lt _ S7.LL_pos)
set_option maxRecDepth 100000 in
set_option maxHeartbeats 2000000 in
theorem number_any (bk : Nat) (xs : List ByteArray) (n : Nat) (t : TypeId) (l : List UInt8) (w : World) (hrow : w.heap[bk]? = some (.cells (strRow xs) t (0, 0))) (hn : xs.length = n) (hN : n ≤ 1000) (hl : Lib.join (xs.map (·.data.toList)) [] = l) (hlen : l.length ≤ 100000) (hG0 : S7.Glob w) :
    Calls Tryz.prog 37 #[.slice (some ⟨bk, 0, none⟩) n n] w fun e w' => e = .returned (.agg (num (numT l))) ∧ Below w.heap.size w w' := by
  have hbk : bk < w.heap.size := (Array.getElem?_eq_some_iff.1 hrow).1
  obtain ⟨J, hJ⟩ : ∃ J : ByteArray, Hid (J = ⟨l.toArray⟩) := ⟨_, Lib.hid rfl⟩
  obtain ⟨H, hH⟩ : ∃ H : ByteArray, Hid (H = ⟨(W4.sha l).toArray⟩) := ⟨_, Lib.hid rfl⟩
  obtain ⟨R, hR⟩ : ∃ R, Hid (R = num (numT l)) := ⟨_, Lib.hid rfl⟩
  have IR : IsNum R := by rw [hR.out]; exact isNum _
  have C1 : Hid (∀ W, Below w.heap.size w W → Calls Tryz.prog 72 #[.slice (some ⟨bk, 0, none⟩) n n, .string { data := #[] }] W fun e w' => e = .returned (.string J) ∧ Below W.heap.size W w') := by
    refine Lib.hid (fun W hb => ?_)
    have h := strings_Join bk 0 n xs ⟨#[]⟩ W (fun j x hx => ((cell_of_row W bk (0 + j) (strRow xs) t (0, 0) ((hb.block bk hbk).trans hrow)).trans (by rw [Nat.zero_add]; exact strRow_get xs j x hx))) (Nat.lt_of_lt_of_le hbk hb.size) (by omega) (by omega) (by show (Lib.join (xs.map (·.data.toList)) []).length ≤ _; rw [hl]; omega)
    rw [show (⟨#[]⟩ : ByteArray).data.toList = [] from rfl, hl, ← hJ.out, hn] at h
    exact h
  have C2 : Hid (∀ W, Calls Tryz.prog 62 #[.string J] W fun e w' => e = .returned (.string H) ∧ Below W.heap.size W w') := by
    refine Lib.hid (fun W => ?_)
    have h := W4.sum_any J (by rw [hJ.out]; exact hlen) W
    rw [show J.data.toList = l by rw [hJ.out], ← hH.out] at h
    exact h
  have C3 : Hid (∀ W, S7.Glob W → Calls Tryz.prog 71 #[.string H] W fun e w' => e = .returned (.agg R) ∧ Below W.heap.size W w') := by
    refine Lib.hid (fun W hW => ?_)
    have hs : H.size = 64 := by rw [hH.out]; exact sha_len l
    have h := S7.reduce_any H (by omega) W hW
    rw [show H.data.toList = W4.sha l by rw [hH.out]] at h
    rw [hR.out]
    exact h
  rw [← hR.out]
  have HG := Lib.hid hG0
  have HZ := zero_run
  obtain ⟨Z, hZe⟩ : ∃ Z, Hid (Z = num 0) := ⟨_, Lib.hid rfl⟩
  have IZ : IsNum Z := by rw [hZe.out]; exact isNum 0
  have HZ2 : ∀ w, (zeroValue 36).run Tryz.prog w = .ok (.agg Z) w := by rw [hZe.out]; exact HZ
  have HK : Hid (Kn w [(w.heap.size, Z)] (w.alloc (.cells Z 36))) := Lib.hid ((Kn.nil w).new Z)
  clear HZ hG0 hJ hH hrow hl
  go_enter Tryz.func37, Tryz.ntmps37
  go_upto_region 1 with (refine wpList_run rfl _ (exec_alloc_agg _ 36 rfl _ (HZ2 _)) ?_)
  try simp only [Act.put, sT, sS, sZ]
  generalize w.alloc (.cells Z 36) = W0 at *
  go_wp2_with fail
  refine (C1.out _ HK.out.1).mono ?_
  rintro e w2 ⟨rfl, hb⟩
  have HK2 := Lib.hid (HK.out.below hb)
  clear hb HK
  go_wp2_with fail
  refine (C2.out _).mono ?_
  rintro e w3 ⟨rfl, hb⟩
  have HK3 := Lib.hid (HK2.out.below hb)
  clear hb HK2
  go_wp2_with fail
  refine (C3.out _ (HG.out.below HK3.out.1)).mono ?_
  rintro e w4 ⟨rfl, hb⟩
  have HK4 := Lib.hid (HK3.out.below hb)
  clear hb HK3
  go_wp2_with (refine wpList_run0 rfl (exec_store_kn (w0 := w) (l := [(w.heap.size, Z)]) _ HK4.out (.tmp 2) (.tmp 6) rfl (w.heap.size) rfl R IR rfl Z IZ (by simp)) ?_)
  have HS6 : Kn w [(w.heap.size, R)] (w4.setRow (w.heap.size) R) := HK4.out.set (w.heap.size) R Z (HK4.out.get (w.heap.size) Z (by simp)) (by omega) (fun p hp => by simp at hp; subst hp; simp)
  exact bodyPost_ret (results_cell rfl _ _ _ ⟨w.heap.size, 0, none⟩ rfl _ (HS6.load (w.heap.size) R (by simp) IR)) rfl ⟨rfl, HS6.1⟩
end Go.Proofs.YtdajmekliodmcaaGreatDoor.P8
