/-
  A drawn region whose operations read and whose calls make nothing but new memory: one walk, in the order of the text.
-/
import Derived.Test.YtdponkpgokncdaaBase
import Derived.BigQuiet
namespace Go.Proofs.Ytdponkpgokncdaa
open Go.RowKit

/-- A world in which nothing but new memory has been made since W. -/
structure Nw (W : World) where
  w : World
  f : Fresh W w
theorem nw_some (W : World) : Nonempty (Nw W) := ⟨⟨W, Kept.refl _ _⟩⟩
theorem wp_region_new {P : Program} {id : Nat} {Q : Exit → Act → World → Prop} {a : Act} {W : World} {l : List Oper} (hm : P.follows .mixedOrders = true) (hB : Region.lexB .any l.toArray = true)
    (h : wpQuiet P l.toArray (fun w' => ∃ d : Nw W, w' = d.w) (fun a' => ∀ w', (∃ d : Nw W, w' = d.w) → Q .normal a' w') l a) : (Code.region id l.toArray true).wp P Q a W :=
  wp_region_quiet (C := fun w' => ∃ d : Nw W, w' = d.w) hm hB ⟨⟨_, (Kept.refl (fun _ => False) W).drew⟩, rfl⟩ (by simpa using h)
theorem Calls.new_of {P : Program} {f : FuncId} {args : Array Value} {W : World} {d : Nw W} {v : Value} (h : Calls P f args d.w fun e w' => e = .returned v ∧ Fresh d.w w') : Calls P f args d.w fun e w'' => e = .returned v ∧ ∃ d' : Nw W, w'' = d'.w :=
  h.mono fun _ w' ⟨he, hf⟩ => ⟨he, ⟨w', d.f.trans hf (fun _ _ e => e)⟩, rfl⟩
end Go.Proofs.Ytdponkpgokncdaa
