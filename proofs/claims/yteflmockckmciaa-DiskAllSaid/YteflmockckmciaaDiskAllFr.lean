/-
  The frame of a round of 'DiskAll', and its switch.
-/
import Derived.Test.YteflmockckmciaaDiskDeeds
import Derived.Test.YteflmockckmciaaDiskMay
import Derived.Test.YteflmockckmciaaLent
import Derived.Test.YteflmockckmciaaRegDet
import Derived.Test.YteflmockckmciaaDiskKeepsWalk
namespace Go.Proofs.Yteflmockckmciaa
open Go Go.RowKit MapS DiskMem DiskFile DiskHit DiskFind DiskBegin DiskOps DiskApp DiskList DiskCrash DiskCopy DiskRising KeyMath
set_option maxRecDepth 100000

/-- the frame: X: what the round writes -/
def litF (room : Int) (A : Option Addr) (n cc ba bm da0 : Nat) (X : Nat → Value) : Array Value := #[.int .i64 room, .slice A n cc, undef, undef, X 4, X 5, .map (some ba), .map (some bm), X 8, X 9, X 10, X 11, X 12, X 13, X 14, X 15, X 16, X 17, X 18, X 19, X 20, undef, undef, undef, undef, undef, undef, undef, undef, undef, undef, .bool true, .bool false, .slice A n cc, .int .i64 (n : Int), .bool false, .int .i64 room, .pointer (some ⟨da0, 0, none⟩), .map (some ba), .map (some bm), X 40, X 41, X 42, X 43, X 44, X 45, X 46, X 47, X 48, X 49, X 50, X 51, X 52, X 53, X 54, X 55, X 56, X 57, X 58, X 59, X 60, X 61, X 62, X 63, X 64, X 65, X 66, X 67, X 68, X 69, X 70, X 71, X 72, X 73, X 74, X 75, X 76, X 77, X 78, X 79, X 80, X 81, X 82, X 83, X 84, X 85, X 86, X 87, X 88, X 89, X 90, X 91, X 92, X 93, X 94, X 95, X 96, X 97, X 98, X 99, X 100, X 101, X 102, X 103, X 104, X 105, X 106, X 107, X 108, X 109, X 110, X 111, X 112, X 113, X 114, X 115, X 116, X 117, X 118, X 119, X 120, X 121, X 122, X 123, X 124, X 125, X 126, X 127, X 128, X 129, X 130, X 131, X 132, X 133, X 134, X 135, X 136, X 137, X 138, X 139, X 140, X 141, X 142, X 143, X 144, X 145, X 146, X 147, X 148, X 149, X 150, X 151, X 152, X 153, X 154, X 155, X 156, X 157, X 158, X 159, X 160, X 161, X 162, X 163, X 164, X 165, X 166, X 167, X 168, X 169, X 170, X 171, X 172, X 173, X 174, X 175, X 176, X 177, X 178, X 179, X 180, X 181, X 182, X 183, X 184, X 185, X 186, X 187, X 188, X 189, X 190, X 191, X 192, X 193, X 194, X 195, X 196, X 197, X 198, X 199, X 200, X 201, X 202, X 203, X 204, X 205, X 206, X 207, X 208, X 209, X 210, X 211, X 212, X 213, X 214, X 215, X 216, X 217, X 218, X 219, X 220, X 221, X 222, X 223, X 224, X 225, X 226, X 227, X 228, X 229, X 230, X 231, X 232, X 233, X 234, X 235, X 236, X 237, X 238, X 239, X 240, X 241, X 242, X 243, X 244, X 245, X 246, X 247, X 248, X 249, X 250, X 251, X 252, X 253, X 254, X 255, X 256, X 257, X 258, X 259, X 260, X 261, X 262, X 263, X 264, X 265, X 266, X 267, X 268, X 269, X 270, X 271, X 272, X 273, X 274, X 275, X 276, X 277, undef, undef, undef, undef, undef, undef, undef, undef, undef, undef, undef, undef, undef, undef, undef, undef, undef, undef, undef, undef, undef, undef, undef, undef, undef, undef, undef, undef, undef, undef, undef, undef, undef, undef, undef, undef, undef, undef, undef, undef, undef, undef, undef, undef, undef, undef, undef, undef, undef, undef, undef, undef, undef, undef, undef, undef, undef, undef, undef, undef, undef, undef, undef, undef, undef, undef, undef, undef, undef, undef, undef]
def Fr (room : Int) (A : Option Addr) (n cc ba bm da0 : Nat) (a : Act) : Prop := ∃ X, a = ⟨litF room A n cc ba bm da0 X, []⟩
theorem fr_mk {room : Int} {A : Option Addr} {n cc ba bm da0 : Nat} (a : Act) (h : a = ⟨litF room A n cc ba bm da0 (fun t => a.tmps.getD t undef), []⟩) : Fr room A n cc ba bm da0 a := ⟨_, h⟩
/-- a block of a body -/
def findBlock (n : Nat) : Code → Option Code
  | .block m c => bif Nat.beq m n then some (.block m c) else findBlock n c
  | .seq a b => match findBlock n a with
    | some c => some c
    | none => findBlock n b
  | .loop c => findBlock n c
  | .scope c => findBlock n c
  | .cond _ a b => match findBlock n a with
    | some c => some c
    | none => findBlock n b
  | _ => none
noncomputable def sw : Code := ((Try.f3.body.bind (findBlock 4)).getD .skip)

def deedV (x : DeedT) : Array Value := #[.int .i64 x.kind, .int .i64 x.n, .string x.name, .slice x.B x.b.length x.bc, .slice x.K x.keep.length x.kc]
structure SwAt (w w3 : World) (room : Int) (rm j da ba bm g cn : Nat) (x : DeedT) (Sd : Nat → Prop) (F : Fs) (G : KV Int) (N : Option Addr) (was : List UInt8) (there : Bool) : Prop where
  deed : DeedOk w x
  rd : RdAt w w3 da ba bm Sd rm F (valsA F) (valsG G) g #[.int .i64 x.kind, .int .i64 x.n, .string x.name, .slice x.B x.b.length x.bc, .slice x.K x.keep.length x.kc] N cn (nameV F)
  su : SureOk F G
  fl : F.length ≤ j
  gl : G.length ≤ 41 * j
  us : usedF F ≤ 60 * j
  j40 : j < 40
  hrm : max room 0 = (rm : Int)
  room64 : -9223372036854775808 ≤ room ∧ room ≤ 9223372036854775807
  b60 : x.b.length ≤ 60
  n20 : x.name.size ≤ 20
  k10 : x.keep.length ≤ 10
  was_ : ((getE F x.name.data.toList).getD f0).b = was
  there_ : (getE F x.name.data.toList).isSome = there
/-- what the switch comes to -/
def SwTo (w : World) (room : Int) (A : Option Addr) (n cc ba bm da0 rm j : Nat) (K : Act → World → Prop) : Prop :=
  ∀ a' w' (da' : Nat) (e : Int), Fr room A n cc ba bm da0 a' → a'.tmps.getD 8 undef = .int .i64 (j : Int) → a'.tmps.getD 5 undef = .pointer (some ⟨da', 0, none⟩) → a'.tmps.getD 15 undef = .int .i64 e → a'.tmps.getD 16 undef = .int .i64 e →
    Keeps w da' ba bm rm (j + 1) w' → K a' w'

end Go.Proofs.Yteflmockckmciaa
