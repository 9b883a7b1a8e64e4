/- Contracts of Go's library at this program: each is one application of a theorem of the kit; conditions as each says. -/
import Derived.Shelf.Strings.Trim
import Derived.Shelf.Small.Utf8
import Derived.Shelf.Small.Wraps
import Derived.Shelf.Sort.Plain
import Derived.Shelf.Unicode.Decode
import Derived.Shelf.Strings.Runes
import Derived.Shelf.Strings.AsciiSet
import Derived.Shelf.Unicode.DecodeAny
import Derived.Shelf.Slices.Turned
import Derived.Shelf.Slices.Clone
import Derived.Shelf.Slices.SearchI
import Derived.Shelf.Slices.Cells
import Derived.Shelf.Slices.In.SortNone
import Derived.Shelf.SlicesE.Clone
import Derived.Shelf.SlicesE.DeleteFunc
import Derived.Shelf.Strings.OnBuilder
import Derived.Shelf.Strconv.Itoa1
import Derived.Shelf.Strconv.Itoa2
import Derived.Shelf.Strings.Repeat
import Derived.Shelf.Strings.BuilderCap
import Derived.Test.YtkflnpjapgiajaaGreatDoorProg
namespace Go.Proofs
theorem qk {α:Type} {a:Option α} {b c:α} (h:a=some b) (e:b=c:=by kernel_rfl):a=some c:=h.trans (congrArg some e)
open Tryz
open Go.Shelf
open Go.RowKit in
def Tryz.lays161_ren : Go.Shelf.Ren:=⟨fun|161=>277|231=>289|227=>290|233=>291|235=>292|228=>294|197=>295|151=>296|260=>297|152=>298|137=>299|119=>300|224=>301|225=>302|217=>303|266=>304|n=>n, fun|9=>9|4=>4|3=>3|5=>5|117=>297|116=>296|0=>0|124=>300|105=>302|21=>21|119=>306|46=>168|139=>309|138=>308|n=>n, fun|3=>0|4=>1|n=>n⟩
theorem Tryz.lays161 : Go.Proofs.Lays.n161 Tryz.prog Tryz.lays161_ren:={mixed:=by kernel_rfl,f119:=qk func300,f137:=qk func299,f151:=qk func296,f152:=qk func298,f161:=qk func277,f197:=qk func295,f217:=qk func303,f224:=qk func301,f225:=qk func302,f227:=qk func290,f228:=qk func294,f231:=qk func289,f233:=qk func291,f235:=qk func292,f260:=qk func297,f266:=qk func304,t0:=underlying0,a0:=isAgg0,z0:=sizeOf0,v0:=zeroValue0,t3:=underlying3,a3:=isAgg3,z3:=sizeOf3,v3:=zeroValue3,t4:=underlying4,a4:=isAgg4,z4:=sizeOf4,v4:=zeroValue4,t5:=underlying5,a5:=isAgg5,z5:=sizeOf5,v5:=zeroValue5,t9:=underlying9,a9:=isAgg9,z9:=sizeOf9,v9:=zeroValue9,t21:=underlying21,a21:=isAgg21,z21:=sizeOf21,v21:=zeroValue21,t46:=underlying168,a46:=isAgg168,z46:=sizeOf168,v46:=zeroValue168,t105:=underlying302,a105:=isAgg302,z105:=sizeOf302,v105:=zeroValue302,t116:=underlying296,a116:=isAgg296,z116:=sizeOf296,t117:=underlying297,a117:=isAgg297,z117:=sizeOf297,v117:=zeroValue297,t119:=underlying306,a119:=isAgg306,z119:=sizeOf306,t124:=underlying300,a124:=isAgg300,z124:=sizeOf300,v124:=zeroValue300,t138:=underlying308,a138:=isAgg308,z138:=sizeOf308,v138:=zeroValue308,t139:=underlying309,a139:=isAgg309,z139:=sizeOf309,v139:=zeroValue309,g3:=by kernel_rfl,g4:=by kernel_rfl}
open Go.RowKit in
theorem Tryz.strings_TrimLeft_one (s : ByteArray) (c : UInt8) (hc : c.toNat < 128) (w : World) :
    Calls Tryz.prog 277 #[.string s, .string ⟨#[c]⟩] w fun e w'=>e = .returned (.string ⟨(Lib.trimLeftB s.data.toList c).toArray⟩) ∧ w' = w:=Any.strings_TrimLeft_one Tryz.lays161 s c hc w
def Tryz.lays133_ren : Go.Shelf.Ren:=⟨fun|133=>273|128=>235|n=>n, fun|51=>157|3=>3|4=>4|46=>168|5=>5|9=>9|n=>n, fun|n=>n⟩
theorem Tryz.lays133 : Go.Proofs.Lays.n133 Tryz.prog Tryz.lays133_ren:={mixed:=by kernel_rfl,f128:=qk func235,f133:=qk func273,t3:=underlying3,a3:=isAgg3,z3:=sizeOf3,v3:=zeroValue3,t4:=underlying4,a4:=isAgg4,z4:=sizeOf4,v4:=zeroValue4,t5:=underlying5,a5:=isAgg5,z5:=sizeOf5,v5:=zeroValue5,t9:=underlying9,a9:=isAgg9,z9:=sizeOf9,v9:=zeroValue9,t46:=underlying168,a46:=isAgg168,z46:=sizeOf168,v46:=zeroValue168,t51:=underlying157,a51:=isAgg157,z51:=sizeOf157,v51:=zeroValue157}
theorem Tryz.bits_LeadingZeros32 (x : Int) (w : World) (h0 : 0 ≤ x) (h1 : x ≤ 4294967295) :
    Calls Tryz.prog 273 #[.int .u32 x] w fun e w'=>e = .returned (.int .i64 (32 - (Lib.bitLen x.toNat : Int))) ∧ w' = w:=Any.bits_LeadingZeros32 Tryz.lays133 x w h0 h1
open Go.RowKit in
def Tryz.lays122_ren : Go.Shelf.Ren:=⟨fun|122=>261|215=>269|n=>n, fun|3=>3|4=>4|n=>n, fun|n=>n⟩
theorem Tryz.lays122 : Go.Proofs.Lays.n122 Tryz.prog Tryz.lays122_ren:={mixed:=by kernel_rfl,f122:=qk func261,f215:=qk func269,t3:=underlying3,a3:=isAgg3,z3:=sizeOf3,v3:=zeroValue3,t4:=underlying4,a4:=isAgg4,z4:=sizeOf4,v4:=zeroValue4}
open Go.RowKit in
theorem Tryz.cmp_Compare_int (x y : Int) (w : World) :
    Calls Tryz.prog 261 #[.int .i64 x, .int .i64 y] w fun e w'=>e = .returned (.int .i64 (Lib.compareInt x y)) ∧ w' = w:=Any.cmp_Compare_int Tryz.lays122 x y w
open Go.RowKit Go.Lib in
def Tryz.lays189_ren : Go.Shelf.Ren:=⟨fun|189=>133|125=>186|257=>185|128=>235|129=>236|294=>226|295=>227|296=>228|297=>229|298=>230|299=>231|216=>232|300=>233|301=>234|328=>264|329=>265|330=>266|331=>267|332=>268|215=>269|343=>287|n=>n, fun|28=>27|3=>3|46=>168|0=>0|51=>157|53=>216|4=>4|183=>250|182=>249|131=>197|5=>5|9=>9|218=>274|222=>278|228=>291|229=>292|n=>n, fun|n=>n⟩
theorem Tryz.lays189 : Go.Proofs.Lays.n189 Tryz.prog Tryz.lays189_ren:={mixed:=by kernel_rfl,f125:=qk func186,f128:=qk func235,f129:=qk func236,f189:=qk func133,f215:=qk func269,f216:=qk func232,f257:=qk func185,f294:=qk func226,f295:=qk func227,f296:=qk func228,f297:=qk func229,f298:=qk func230,f299:=qk func231,f300:=qk func233,f301:=qk func234,f328:=qk func264,f329:=qk func265,f330:=qk func266,f331:=qk func267,f332:=qk func268,f343:=qk func287,t0:=underlying0,a0:=isAgg0,z0:=sizeOf0,v0:=zeroValue0,t3:=underlying3,a3:=isAgg3,z3:=sizeOf3,v3:=zeroValue3,t4:=underlying4,a4:=isAgg4,z4:=sizeOf4,v4:=zeroValue4,t5:=underlying5,a5:=isAgg5,z5:=sizeOf5,v5:=zeroValue5,t9:=underlying9,a9:=isAgg9,z9:=sizeOf9,v9:=zeroValue9,t28:=underlying27,a28:=isAgg27,z28:=sizeOf27,v28:=zeroValue27,t46:=underlying168,a46:=isAgg168,z46:=sizeOf168,v46:=zeroValue168,t51:=underlying157,a51:=isAgg157,z51:=sizeOf157,v51:=zeroValue157,t53:=underlying216,a53:=isAgg216,z53:=sizeOf216,v53:=zeroValue216,t131:=underlying197,a131:=isAgg197,z131:=sizeOf197,v131:=zeroValue197,t182:=underlying249,a182:=isAgg249,z182:=sizeOf249,v182:=zeroValue249,t183:=underlying250,a183:=isAgg250,z183:=sizeOf250,v183:=zeroValue250,t218:=underlying274,a218:=isAgg274,z218:=sizeOf274,v218:=zeroValue274,t222:=underlying278,a222:=isAgg278,z222:=sizeOf278,v222:=zeroValue278,t228:=underlying291,a228:=isAgg291,z228:=sizeOf291,v228:=zeroValue291,t229:=underlying292,a229:=isAgg292,z229:=sizeOf292,v229:=zeroValue292}
open Go.Sort Go.RowKit in
theorem Tryz.slices_Sort_int (blk off cap : Nat) (zs : List Int) (w : World) (hH : Holds (Value.int .i64) w blk off zs.toArray) (hblk : blk < w.heap.size) (hsz : zs.length < 4611686018427387904) :
    Calls Tryz.prog 133 #[.slice (some ⟨blk, off, none⟩) zs.length cap] w fun e w' =>
      e = .returned (.tuple #[]) ∧ ∃ n os, w' = grow (putRow (Value.int .i64) (Sort.ahead w n) blk off (zs.mergeSort fun x y=>decide (x ≤ y)).toArray) os:=Any.slices_Sort_int Tryz.lays189 blk off cap zs w hH hblk hsz
open Go.RowKit Go.Lib in
def Tryz.lays212_ren : Go.Shelf.Ren:=⟨fun|212=>139|263=>193|264=>194|n=>n, fun|46=>168|51=>157|146=>214|53=>216|148=>217|n=>n, fun|n=>n⟩
theorem Tryz.lays212 : Go.Proofs.Lays.n212 Tryz.prog Tryz.lays212_ren:={mixed:=by kernel_rfl,f212:=qk func139,f263:=qk func193,f264:=qk func194,t46:=underlying168,a46:=isAgg168,z46:=sizeOf168,v46:=zeroValue168,t51:=underlying157,a51:=isAgg157,z51:=sizeOf157,v51:=zeroValue157,t53:=underlying216,a53:=isAgg216,z53:=sizeOf216,v53:=zeroValue216,t146:=underlying214,a146:=isAgg214,z146:=sizeOf214,v146:=zeroValue214,t148:=underlying217,a148:=isAgg217,z148:=sizeOf217,v148:=zeroValue217}
open Go.RowKit Go.Lib in
theorem Tryz.bits_Mul (x y : Nat) (hx : x < 18446744073709551616) (hy : y < 18446744073709551616) (w : World) :
    Calls Tryz.prog 139 #[.int .u64 x, .int .u64 y] w fun e w'=>e = .returned (.tuple #[.int .u64 ((x * y / 18446744073709551616 : Nat) : Int), .int .u64 ((x * y % 18446744073709551616 : Nat) : Int)]) ∧ w' = w:=Any.bits_Mul Tryz.lays212 x y hx hy w
open Go.Lib in
def Tryz.lays107_ren : Go.Shelf.Ren:=⟨fun|107=>98|108=>154|n=>n, fun|28=>27|3=>3|4=>4|0=>0|n=>n, fun|n=>n⟩
theorem Tryz.lays107 : Go.Proofs.Lays.n107 Tryz.prog Tryz.lays107_ren:={mixed:=by kernel_rfl,f107:=qk func98,f108:=qk func154,t0:=underlying0,a0:=isAgg0,z0:=sizeOf0,v0:=zeroValue0,t3:=underlying3,a3:=isAgg3,z3:=sizeOf3,v3:=zeroValue3,t4:=underlying4,a4:=isAgg4,z4:=sizeOf4,v4:=zeroValue4,t28:=underlying27,a28:=isAgg27,z28:=sizeOf27,v28:=zeroValue27}
open Go.Lib in
theorem Tryz.slices_Contains_int (b off n c : Nat) (zs : List Int) (x : Int) (w : World) (hz : n ≤ zs.length) (hbig : n ≤ 9223372036854775807) (hc : ∀ j, j < zs.length → w.cell? ⟨b, off + j, none⟩ = some (.int .i64 (zs.getD j 0))) :
    Calls Tryz.prog 98 #[.slice (some ⟨b, off, none⟩) n c, .int .i64 x] w fun e w'=>e = .returned (.bool ((zs.take n).contains x)) ∧ w' = w:=Any.slices_Contains_int Tryz.lays107 b off n c zs x w hz hbig hc
open Go.Lib in
theorem Tryz.slices_Contains_int_empty (a : Option Addr) (c : Nat) (x : Int) (w : World) :
    Calls Tryz.prog 98 #[.slice a 0 c, .int .i64 x] w fun e w'=>e = .returned (.bool false) ∧ w' = w:=Any.slices_Contains_int_empty Tryz.lays107 a c x w
open Go.Lib in
def Tryz.laysNm215_ren : Go.Shelf.Ren:=⟨fun|15=>85|n=>n, fun|22=>27|3=>3|4=>4|n=>n, fun|n=>n⟩
theorem Tryz.laysNm215 : Go.Proofs.Lays2.n15 Tryz.prog Tryz.laysNm215_ren:={mixed:=by kernel_rfl,f15:=qk func85,t3:=underlying3,a3:=isAgg3,z3:=sizeOf3,v3:=zeroValue3,t4:=underlying4,a4:=isAgg4,z4:=sizeOf4,v4:=zeroValue4,t22:=underlying27,a22:=isAgg27,z22:=sizeOf27,v22:=zeroValue27,i3:=by kernel_rfl}
open Go.RowKit Go.Lib in
theorem Tryz.slices_Clone_int (b off n c : Nat) (zs : List Int) (w : World) (hz : n ≤ zs.length) (hbig : n * 8 ≤ 140737488355328) (hc : ∀ j, j < zs.length → w.cell? ⟨b, off + j, none⟩ = some (.int .i64 (zs.getD j 0))) :
    Calls Tryz.prog 85 #[.slice (some ⟨b, off, none⟩) n c] w fun e w'=>∃ v', e = .returned v' ∧ w'.ownsRow w.heap.size 3 1 v' n ((zs.take n).map (Value.int .i64)) ∧ v' ≠ .slice none 0 0 ∧ Below w.heap.size w w':=Any.slices_Clone_int Tryz.laysNm215 b off n c zs w hz hbig hc
open Go.RowKit Go.Lib in
theorem Tryz.slices_Clone_int_nil (n c : Nat) (w : World) :
    Calls Tryz.prog 85 #[.slice none n c] w fun e w'=>e = .returned (.slice none 0 0) ∧ w' = w:=Any.slices_Clone_int_nil Tryz.laysNm215 n c w
open Go.RowKit Go.Lib in
theorem Tryz.slices_Clone_int_zero (a : Addr) (c : Nat) (w : World) :
    Calls Tryz.prog 85 #[.slice (some a) 0 c] w fun e w'=>∃ v', e = .returned v' ∧ w'.ownsRow w.heap.size 3 1 v' 0 [] ∧ v' ≠ .slice none 0 0 ∧ Below w.heap.size w w':=Any.slices_Clone_int_zero Tryz.laysNm215 a c w
open Go.RowKit Go.Lib in
def Tryz.laysNm220_ren : Go.Shelf.Ren:=⟨fun|20=>213|n=>n, fun|22=>27|3=>3|4=>4|0=>0|n=>n, fun|n=>n⟩
theorem Tryz.laysNm220 : Go.Proofs.Lays2.n20 Tryz.prog Tryz.laysNm220_ren:={mixed:=by kernel_rfl,f20:=qk func213,t0:=underlying0,a0:=isAgg0,z0:=sizeOf0,v0:=zeroValue0,t3:=underlying3,a3:=isAgg3,z3:=sizeOf3,v3:=zeroValue3,t4:=underlying4,a4:=isAgg4,z4:=sizeOf4,v4:=zeroValue4,t22:=underlying27,a22:=isAgg27,z22:=sizeOf27,v22:=zeroValue27,i3:=by kernel_rfl}
open Go.RowKit Go.Lib Go.Sort in
theorem Tryz.slices_Compact_int (blk off cap : Nat) (zs : List Int) (w : World) (hH : Holds (Value.int .i64) w blk off zs.toArray) (hsz : zs.length ≤ 9223372036854775807) (hcap : zs.length ≤ cap) :
    Calls Tryz.prog 213 #[.slice (some ⟨blk, off, none⟩) zs.length cap] w fun e w'=>e = .returned (.slice (some ⟨blk, off, none⟩) (Lib.compact zs).length cap) ∧ ∃ q, w' = putRow (Value.int .i64) (Sort.ahead w q) blk off (Lib.compact zs ++ List.replicate (zs.length - (Lib.compact zs).length) 0).toArray:=Any.slices_Compact_int Tryz.laysNm220 blk off cap zs w hH hsz hcap
open Go.RowKit Go.Lib Go.Sort in
theorem Tryz.slices_Compact_int_empty (a : Option Addr) (cap : Nat) (w : World) :
    Calls Tryz.prog 213 #[.slice a 0 cap] w fun e w'=>e = .returned (.slice a 0 cap) ∧ w' = w:=Any.slices_Compact_int_empty Tryz.laysNm220 a cap w
open Go.RowKit Go.Sort in
theorem Tryz.slices_Sort_int_none (p : Option Addr) (cap : Nat) (w : World) :
    Calls Tryz.prog 133 #[.slice p 0 cap] w fun e w'=>e = .returned (.tuple #[]) ∧ w' = w:=Any.slices_Sort_int_none Tryz.lays189 p cap w
open Go.RowKit Go.Lib in
def Tryz.laysSlH6_f149_ren : Go.Shelf.Ren:=⟨fun|6=>149|n=>n, fun|22=>27|23=>3|25=>126|3=>3|0=>0|4=>4|n=>n, fun|n=>n⟩
theorem Tryz.laysSlH6_f149 : Go.Proofs.SlLaysH.n6 Tryz.prog Tryz.laysSlH6_f149_ren:={mixed:=by kernel_rfl,f6:=⟨Tryz.f149.name, by decide, qk func149⟩,t0:=underlying0,a0:=isAgg0,z0:=sizeOf0,v0:=zeroValue0,t3:=underlying3,a3:=isAgg3,z3:=sizeOf3,v3:=zeroValue3,t4:=underlying4,a4:=isAgg4,z4:=sizeOf4,v4:=zeroValue4,t22:=underlying27,a22:=isAgg27,z22:=sizeOf27,v22:=zeroValue27,a23:=isAgg3,z23:=sizeOf3,t25:=underlying126,a25:=isAgg126,z25:=sizeOf126,v25:=zeroValue126}
open Go.RowKit Go.Lib in
theorem Tryz.slices_IndexFunc_empty {α : Type} [Inhabited α] (a : Option Addr) (c : Nat) (fv : Value) (w : World) :
    Calls Tryz.prog 149 #[.slice a 0 c, fv] w fun e w'=>e = .returned (.int .i64 (-1)) ∧ w' = w:=AnyE.slices_IndexFunc_empty Tryz.laysSlH6_f149 a c fv w
open Go.RowKit Go.Lib in
def Tryz.laysSlH10_f130_ren : Go.Shelf.Ren:=⟨fun|10=>130|6=>149|n=>n, fun|22=>27|23=>3|25=>126|3=>3|4=>4|0=>0|n=>n, fun|n=>n⟩
theorem Tryz.laysSlH10_f130 : Go.Proofs.SlLaysH.n10 Tryz.prog Tryz.laysSlH10_f130_ren:={mixed:=by kernel_rfl,f6:=⟨Tryz.f149.name, by decide, qk func149⟩,f10:=⟨Tryz.f130.name, by decide, qk func130⟩,t0:=underlying0,a0:=isAgg0,z0:=sizeOf0,v0:=zeroValue0,t3:=underlying3,a3:=isAgg3,z3:=sizeOf3,v3:=zeroValue3,t4:=underlying4,a4:=isAgg4,z4:=sizeOf4,v4:=zeroValue4,t22:=underlying27,a22:=isAgg27,z22:=sizeOf27,v22:=zeroValue27,a23:=isAgg3,z23:=sizeOf3,t25:=underlying126,a25:=isAgg126,z25:=sizeOf126,v25:=zeroValue126}
open Go.RowKit Go.Lib Go.Sort in
theorem Tryz.slices_DeleteFunc {α : Type} [Inhabited α] (enc : α → Value) (hO : OneCell enc) (p : α → Bool) (g : Nat) (lb : Array Value) (eg : ∀ args w, (callFunc g args).run Tryz.prog w = .ok (.enter g args) w) (zr : α) (v23 : ∀ w, (zeroValue 3).run Tryz.prog w = .ok (enc zr) w) (blk off cap : Nat) (d : Array α) (w : World) (hp : PredAt Tryz.prog g lb enc p w) (hpo : PredOver Tryz.prog g lb enc p blk off d.size w) (hH : Holds enc w blk off d) (hsz : d.size ≤ 9223372036854775807) (hcap : d.size ≤ cap) :
    Calls Tryz.prog 130 #[.slice (some ⟨blk, off, none⟩) d.size cap, .func (.func g) #[] lb] w fun e w'=>e = .returned (.slice (some ⟨blk, off, none⟩) (d.toList.filter fun x=>!p x).length cap) ∧ ∃ q, w' = putRow enc (Sort.ahead w q) blk off ((d.toList.filter fun x=>!p x) ++ List.replicate (d.size - (d.toList.filter fun x=>!p x).length) zr).toArray:=AnyE.slices_DeleteFunc Tryz.laysSlH10_f130 enc hO p g lb eg zr v23 blk off cap d w hp hpo hH hsz hcap
end Go.Proofs
