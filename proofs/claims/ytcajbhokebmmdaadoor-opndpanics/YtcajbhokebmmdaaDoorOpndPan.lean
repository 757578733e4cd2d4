/-
  opnd.Reg of what is no register's part, and of nil, panics; the law's look at that returns true. Nothing that was in memory turns. Conditions: none.
-/
import Derived.Test.YtcajbhokebmmdaaDoorOpndAsserts
import Derived.Test.YtcajbhokebmmdaaDoorBoxes
import Derived.Tactics2
import Derived.Defers
import Derived.Recover
import Derived.Laws.Pointers
namespace Go.Proofs.YtcajbhokebmmdaaDoor
open Go.RowKit
set_option linter.unusedVariables false
set_option linter.unusedSimpArgs false

/-- What is no register's part: none, or one of the three others. -/
def NoReg (x : Value) : Prop := x = .nilIface ∨ (∃ v, x = .iface 45 v) ∨ (∃ v, x = .iface 47 v) ∨ (∃ v, x = .iface 49 v)

theorem asRegNo (x : Value) (hx : NoReg x) (w : World) : ∃ o, (Instr.typeAssert x 27 43 false).run Tryd.prog w = .halt (.panic (.iface 15 (.pointer (some ⟨w.heap.size, 0, none⟩)))) (w.alloc o) := by
  rcases hx with rfl | ⟨v, rfl⟩ | ⟨v, rfl⟩ | ⟨v, rfl⟩
  · exact ⟨.cells #[.pointer (some ⟨Tryd.prog.globals.size, 27, none⟩), .pointer none, .pointer (some ⟨Tryd.prog.globals.size, 43, none⟩), .string ⟨#[]⟩] 71, by kernel_rfl⟩
  · exact ⟨.cells #[.pointer (some ⟨Tryd.prog.globals.size, 27, none⟩), .pointer (some ⟨Tryd.prog.globals.size, 45, none⟩), .pointer (some ⟨Tryd.prog.globals.size, 43, none⟩), .string ⟨#[]⟩] 71, by kernel_rfl⟩
  · exact ⟨.cells #[.pointer (some ⟨Tryd.prog.globals.size, 27, none⟩), .pointer (some ⟨Tryd.prog.globals.size, 47, none⟩), .pointer (some ⟨Tryd.prog.globals.size, 43, none⟩), .string ⟨#[]⟩] 71, by kernel_rfl⟩
  · exact ⟨.cells #[.pointer (some ⟨Tryd.prog.globals.size, 27, none⟩), .pointer (some ⟨Tryd.prog.globals.size, 49, none⟩), .pointer (some ⟨Tryd.prog.globals.size, 43, none⟩), .string ⟨#[]⟩] 71, by kernel_rfl⟩

theorem reg_no (x : Value) (hx : NoReg x) (w : World) :
    Calls Tryd.prog 21 #[x] w fun e w' => (∃ a, e = .panicked [{ v := .iface 15 a, recovered := false }]) ∧ Later w w' := by
  obtain ⟨o, ho⟩ := asRegNo x hx w
  have L := Later.alloc (Later.refl w) o
  go_enter Tryd.func21, Tryd.ntmps21
  go_wp2
  exact ⟨rfl, ⟨_, rfl⟩, L⟩

theorem catch_panicking (p : Addr) (x : Value) (u : TypeId) (pv : Value) (older : List PanicEntry) (w : World) (hc : w.cell? p = some x) (hz : w.frozen? p = false) :
    CallsD Tryd.prog 27 #[.pointer (some p)] (.panicking ({ v := .iface u pv, recovered := false } :: older)) w fun e u' w' =>
      e = .returned (.tuple #[]) ∧ u' = .panicking ({ v := .iface u pv, recovered := true } :: older) ∧ w' = w.setCell p (.bool true) := by
  refine callsD_of_wpS Tryd.func27 rfl fun c₀ cs hu => ?_
  apply wpS_seq
  apply wpS_region
  simp [wpOpsS, go_sem, recoverD, hu, Tryd.ntmps27, Exit.thenS]
  refine wpS_cond (t := true) (by simp [Act.eval, Array.replicate]) ?_
  simp only [if_true]
  apply wpS_region
  simp [wpOpsS, go_sem, hc, hz, bodyPostS, results, Tryd.results27]

theorem panics_no (x : Value) (hx : NoReg x) (w : World) :
    Calls Tryd.prog 20 #[x] w fun e w' => e = .returned (.bool true) ∧ Later w w' := by
  have hmf : ∀ (fn : Fn) (first cap : Array Value) (w : World), (Instr.makeFunc fn first cap).run Tryd.prog w = .ok (.func fn first cap) w := fun _ _ _ _ => rfl
  have cr := fun w' => reg_no x hx w'
  have L := Later.alloc (Later.refl w) (.cells #[.bool false] 4)
  have hb := at_new w (.cells #[.bool false] 4)
  clear hx
  go_enter_defers Tryd.func20, Tryd.ntmps20
  go_wp2_with (go_at_call 21; apply Calls.mono; (focus (with_reducible (exact cr _))); rintro e w1 ⟨⟨a, rfl⟩, hl1⟩)
  have h1 := heap_later hl1 hb
  obtain ⟨c0, f0⟩ := box1_facts h1
  refine leaves_cons (f := 27) (args := #[.pointer (some ⟨w.heap.size, 0, none⟩)]) (by simp) (by simp [go_sem]) ?_
  refine (catch_panicking ⟨w.heap.size, 0, none⟩ (.bool false) 15 a [] w1 c0 f0).mono ?_
  rintro e u' w'' ⟨rfl, rfl, rfl⟩
  have hs : (w1.setCell ⟨w.heap.size, 0, none⟩ (.bool true)).cell? ⟨w.heap.size, 0, none⟩ = some (.bool true) := (box1_facts (setCell_block h1 0 (.bool true))).1
  have hl : Later w (w1.setCell ⟨w.heap.size, 0, none⟩ (.bool true)) := Below.setCell (L.trans hl1) (Nat.le_refl _) _
  simp [Leaves, settle, results, Tryd.results20, go_sem, hs, hl]

end Go.Proofs.YtcajbhokebmmdaaDoor
