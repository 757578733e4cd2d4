/-
  What the listed package variables give the calls: the table of powers of ten and the two errors stand where their names say, and they stand so in every later world. And one start in which the list is met: the one that the variables' own text lays. Conditions: the row's list.
-/
import Derived.Test.YtidlapopnigcjaaDoorRows
import Derived.Test.YtidlapopnigcjaaDoorShelf
import Derived.Test.YtidlapopnigcjaaDoorPlain
import Derived.Stop.LaidErr
import Derived.Lib.LaidTab
import Derived.Lib.ConvBytes
import Derived.Lib.AtoiErrMem
import Derived.LaidMore
import Derived.LaidHandle
import Derived.MakeChecks
import Derived.WalkKit
import Derived.ProofKit
import Derived.OpenShut
namespace Go.Proofs.YtidlapopnigcjaaDoor
open Go.RowKit

/-- Of what was there nothing has turned: new blocks, and draws, at the most. -/
def Later (w w' : World) : Prop := Below w.heap.size w w'

theorem Later.refl (w : World) : Later w w := Below.refl _ _
theorem Later.trans {a b c : World} (h : Later a b) (k : Later b c) : Later a c := Below.trans h (Below.mono k h.size)
theorem Later.alloc {a w : World} (h : Later a w) (o : Obj) : Later a (w.alloc o) := Below.alloc h h.size o
theorem Later.drew {a w : World} (h : Later a w) : Later a w.drew := Below.drew h
theorem Later.drewN {a w : World} (h : Later a w) (n : Nat) : Later a (w.drewN n) := ⟨h.os, h.tape, h.output, h.size, h.block⟩
theorem Later.grow (w : World) (k : Nat) (os : Array Obj) : Later w (Sort.grow (w.drewN k) os) :=
  ⟨rfl, rfl, rfl, by simp [Sort.grow, World.drewN], fun j hj => Sort.heap_grow_old (w.drewN k) os hj⟩
theorem Later.bytes (w : World) (s : ByteArray) : Later w (Lib.bytesWorld w 5 s) := Lib.bytesWorld_below _ _ _

theorem var_later {n : String} {cs : Array Value} {w w' : World} (h : w.var? Tryd.prog n = some cs) (hb : Later w w') : w'.var? Tryd.prog n = some cs := by
  unfold World.var? at h ⊢
  cases hg : Tryd.prog.globalNamed n with
  | none => rw [hg] at h; cases h
  | some g =>
    rw [hg] at h
    simp only [Option.bind_some] at h ⊢
    have hlt : g < w.heap.size := by
      rcases Nat.lt_or_ge g w.heap.size with h' | h'
      · exact h'
      · rw [Array.getElem?_eq_none h'] at h; cases h
    rw [hb.block g hlt]
    exact h

/-- The three variables that the calls read. -/
structure Good (w : World) : Prop where
  tab : Lib.TabIs Tryd.prog w "internal/strconv.uint64pow10" .u64 Lib.pow10Tab
  syn : ∃ tp p, w.var? Tryd.prog "strconv.ErrSyntax" = some #[.iface tp p]
  rng : ∃ tp p, w.var? Tryd.prog "strconv.ErrRange" = some #[.iface tp p]

theorem Good.later {w w' : World} (g : Good w) (h : Later w w') : Good w' :=
  ⟨var_later g.tab h, g.syn.elim fun tp k => k.elim fun p e => ⟨tp, p, var_later e h⟩, g.rng.elim fun tp k => k.elim fun p e => ⟨tp, p, var_later e h⟩⟩

theorem gES : Tryd.prog.globalNamed "strconv.ErrSyntax" = some 0 := by kernel_rfl
theorem gER : Tryd.prog.globalNamed "strconv.ErrRange" = some 1 := by kernel_rfl
theorem gTab : Tryd.prog.globalNamed "internal/strconv.uint64pow10" = some 2 := by kernel_rfl
theorem tES : (Tryd.prog.globals[0]?).map (·.type) = some 35 := by kernel_rfl
theorem tER : (Tryd.prog.globals[1]?).map (·.type) = some 35 := by kernel_rfl
theorem tTab : (Tryd.prog.globals[2]?).map (·.type) = some 62 := by kernel_rfl
theorem c70 : Tryd.prog.cellsOf 70 = 1 := by kernel_rfl
theorem c9 : Tryd.prog.cellsOf 9 = 1 := by kernel_rfl
theorem c38 : Tryd.prog.cellsOf 38 = 1 := by kernel_rfl
theorem c62 : Tryd.prog.cellsOf 62 = 20 := by kernel_rfl
theorem star : "*" ++ "errors.errorString" = "*errors.errorString" := by decide
theorem row68 (u : TypeId) (h : Tryd.prog.typeName? 3 u = some "*errors.errorString") : u = 68 :=
  typeName_ptr_named (nm := "errors.errorString") (by rw [star]; kernel_rfl) (by kernel_rfl) (by decide) u (by rw [star]; exact h)

/-- The list, as each of the five rows has it. -/
abbrev theList : List (String × DataW Unit) := Rows.numBackRow.laid

theorem tabData_eq : (Rows.laid_internal_strconv_uint64pow10 : DataW Unit) = Lib.tabData .u64 Lib.pow10Tab := by kernel_rfl

theorem Good.of_laid {W : World} (h : laidMetH Tryd.prog theList W) : Good W := by
  rw [MakeChecks.laidMetH_plain _ _ _ (by kernel_rfl)] at h
  have h2 : laidMet Tryd.prog (("internal/strconv.uint64pow10", Rows.laid_internal_strconv_uint64pow10) :: ("strconv.ErrRange", Rows.laid_strconv_ErrRange) :: ("strconv.ErrSyntax", Rows.laid_strconv_ErrSyntax) :: []) W := laidMet.tail (laidMet.tail h)
  have h3 := laidMet.tail h2
  have h4 := laidMet.tail h3
  rw [tabData_eq] at h2
  have t := Lib.tabIs_of_head gTab tTab Tryd.underlying62 Tryd.underlying38 c38 c62 h2
  obtain ⟨a1, s1, hv1, -, -, -⟩ := laid_sentinel h3 gER tER Tryd.underlying35 row68 Tryd.underlying68 Tryd.underlying70 rfl rfl Tryd.underlying9 c70 c9
  obtain ⟨a0, s0, hv0, -, -, -⟩ := laid_sentinel h4 gES tES Tryd.underlying35 row68 Tryd.underlying68 Tryd.underlying70 rfl rfl Tryd.underlying9 c70 c9
  exact ⟨t, ⟨_, _, hv0⟩, ⟨_, _, hv1⟩⟩

/-- The start that the variables' own text lays meets the list. -/
theorem door_met (os : Os) (args : Array Value) : laidMetH Tryd.prog theList ((World.doorLaid Tryd.prog 400 os).forCall (fun _ _ => 0) ⟨#[], args, []⟩).memory :=
  laidMetH_of_parts3 (fuel := 8) (laidMet_of_run' 8 (by kernel_rfl) (by kernel_rfl)) (by kernel_rfl) (by kernel_rfl)

end Go.Proofs.YtidlapopnigcjaaDoor
