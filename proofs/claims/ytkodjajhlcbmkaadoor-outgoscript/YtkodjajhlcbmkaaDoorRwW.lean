/-
  Blocks of cells that are no bytes (RwC), beside bytes: what reads as a list stays; slices of the call's own beyond a block. (Nothing of a program's own functions.)
-/
import Derived.Test.YtkodjajhlcbmkaaDoorRwC
import Derived.Test.YtkodjajhlcbmkaaDoorBase
import Derived.Test.YtkodjajhlcbmkaaDoorOwnW
namespace Go.Proofs.YtkodjajhlcbmkaaDoor
open Go.RowKit
set_option linter.unusedVariables false

theorem Sl.only {w w' : World} {B g n : Nat} {A : Option Addr} {l : List UInt8} (h : Sl w B A n l) (ho : Only g w w') (hB : B ≤ g) (hg : g < w.heap.size) : Sl w' B A n l :=
  h.keep fun p hp => World.cell?_of_block (ho.block p.block (by omega) (by omega))
/-- bytes of the call's own, beyond hb -/
structure OwnS (hb : Nat) (v : World) (A : Option Addr) (n c : Nat) (l : List UInt8) : Prop where
  o : Own v (hb + 1) (.slice A n c) n l
  le : n ≤ c
  m : c ≤ maxLen
theorem OwnS.only {hb g : Nat} {v v' : World} {A : Option Addr} {n c : Nat} {l : List UInt8} (k : OwnS hb v A n c l) (ho : Only g v v') (hg : g ≤ hb) : OwnS hb v' A n c l :=
  ⟨k.o.onlyA ho fun a ha => by have := (k.o.blk a ha).1; omega, k.le, k.m⟩
theorem OwnS.nil (hb : Nat) (v : World) : OwnS hb v none 0 0 [] := ⟨Own.nil _ _, Nat.le_refl _, by simp [maxLen]⟩
theorem OwnS.below {hb : Nat} {v v' : World} {A : Option Addr} {n c : Nat} {l : List UInt8} (k : OwnS hb v A n c l) (h : Below v.heap.size v v') : OwnS hb v' A n c l := ⟨k.o.below h, k.le, k.m⟩
theorem OwnS.drew {hb : Nat} {v : World} {A : Option Addr} {n c : Nat} {l : List UInt8} (k : OwnS hb v A n c l) : OwnS hb v.drew A n c l := ⟨k.o.drew, k.le, k.m⟩
end Go.Proofs.YtkodjajhlcbmkaaDoor
