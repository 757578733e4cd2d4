/-
  A region that draws its order, whose operations only read, and whose callees leave all that was in memory as it was: walked once, in the order of the text, over the class of the later worlds. Conditions: as each theorem names them.
-/
import Derived.Test.YtpnbpjhoilibcaaDoorLater
import Derived.Deep.Quiet
import Derived.Deep.QuietTactic
import Derived.BigQuiet
namespace Go.Proofs.YtpnbpjhoilibcaaDoor
open Go.RowKit

/-- A world later than W. -/
structure After (W : World) where
  world : World
  later : Later W world

theorem wp_region_later {id : Nat} {Q : Exit → Act → World → Prop} {a : Act} {w : World} {l : List Oper} (hm : Tryd.prog.follows .mixedOrders = true) (hB : Region.lexB .any l.toArray = true)
    (h : wpQuiet Tryd.prog l.toArray (fun w' => ∃ p : After w, w' = p.world) (fun a' => ∀ w', (∃ p : After w, w' = p.world) → Q .normal a' w') l a) : (Code.region id l.toArray true).wp Tryd.prog Q a w :=
  wp_region_quiet (C := fun w' => ∃ p : After w, w' = p.world) hm hB ⟨⟨w.drew, Later.drew (Later.refl w)⟩, rfl⟩ (by simpa using h)

theorem Calls.after_of {W : World} {p : After W} {f : FuncId} {args : Array Value} {v : Value} (h : Calls Tryd.prog f args p.world fun e w' => e = .returned v ∧ Later p.world w') :
    Calls Tryd.prog f args p.world fun e w'' => e = .returned v ∧ ∃ q : After W, w'' = q.world :=
  h.mono fun _ w' ⟨he, hl⟩ => ⟨he, ⟨w', p.later.trans hl⟩, rfl⟩

theorem cell_after {W : World} {a : Addr} {v : Value} (h : W.cell? a = some v) (p : After W) : p.world.cell? a = some v := cell_later h p.later

end Go.Proofs.YtpnbpjhoilibcaaDoor
