/- A strings.Builder of the call's own: WriteString's contract, laid by hand. -/
import Derived.Test.YtkmkhegekonbmaaDoorRowAA
import Derived.Test.YtkmkhegekonbmaaDoorShelf
namespace Go.Proofs.YtkmkhegekonbmaaDoor
open Go.RowKit
open Rw6

theorem lays166 : Go.Proofs.Lays.n166 Tryd.prog Tryd.lays156_ren :=
  let L := Tryd.lays156
  { mixed := L.mixed, f166 := L.f166, f240 := L.f240, f276 := L.f276, t0 := L.t0, a0 := L.a0, z0 := L.z0, v0 := L.v0, t3 := L.t3, a3 := L.a3, z3 := L.z3, v3 := L.v3, t4 := L.t4, a4 := L.a4, z4 := L.z4, v4 := L.v4, t9 := L.t9, a9 := L.a9, z9 := L.z9, v9 := L.v9, t20 := L.t20, a20 := L.a20, z20 := L.z20, v20 := L.v20, t37 := L.t37, a37 := L.a37, z37 := L.z37, v37 := L.v37, t70 := L.t70, a70 := L.a70, z70 := L.z70, v70 := L.v70, t72 := L.t72, a72 := L.a72, z72 := L.z72, v72 := L.v72, t75 := L.t75, a75 := L.a75, z75 := L.z75, v75 := L.v75, t164 := L.t164, a164 := L.a164, z164 := L.z164, v164 := L.v164 }
/-- The builder in block b holds these bytes. -/
def Bld (b : Nat) (l : List UInt8) (w : World) : Prop := Lib.IsBuilder 63 5 b b (bvals l) w
theorem strCells_is (l : List UInt8) : Lib.strCells (strOf l) = bvals l := by
  unfold Lib.strCells bvals strOf
  simp
theorem write_any (b : Nat) (l x : List UInt8) (w : World) (h : Bld b l w) (hl : l.length + x.length ≤ 1000000) (hb : b ≤ w.heap.size) :
    Calls Tryd.prog 36 #[.pointer (some ⟨b, 0, none⟩), .string (strOf x)] w fun e w' => e = .returned (.tuple #[.int .i64 (x.length : Int), .nilIface]) ∧ Bld b (l ++ x) w' ∧ Below b w w' := by
  have := Any.Builder_WriteString lays166 Tryd.Builder_Extra_156 b b (bvals l) (strOf x) w h (by rw [bvals_length, strOf_size]; omega) hb
  rw [strCells_is, ← bvals_app, strOf_size] at this
  exact this.mono fun _ _ ⟨h1, h2, h3⟩ => ⟨h1, .inr h2, h3⟩
theorem bldLen_any (b : Nat) (l : List UInt8) (w : World) (h : Bld b l w) :
    Calls Tryd.prog 35 #[.pointer (some ⟨b, 0, none⟩)] w fun e w' => e = .returned (.int .i64 (l.length : Int)) ∧ w = w' := by
  have := Tryd.Builder_Len b b (bvals l) w h
  rw [bvals_length] at this
  exact this.mono fun _ _ ⟨h1, h2⟩ => ⟨h1, h2.symm⟩
theorem byteCells_is (l : List UInt8) : Lib.byteCells l = bvals l := rfl
theorem bldString_any (b : Nat) (l : List UInt8) (w : World) (h : Bld b l w) (hb : b ≤ w.heap.size) :
    Calls Tryd.prog 37 #[.pointer (some ⟨b, 0, none⟩)] w fun e w' => e = .returned (.string (strOf l)) ∧ Below b w w' :=
  Tryd.Builder_String_any b b l w h hb
end Go.Proofs.YtkmkhegekonbmaaDoor
