/-
  What the listed package variables give the calls: the library's tables and its two errors stand where their names say, and they stand so in every later world. And one start in which the list is met. Conditions: the row's list.
-/
import Derived.Test.YtfgnogdlkhagdaaDoorRows
import Derived.Test.YtfgnogdlkhagdaaDoorShelf
import Derived.Test.YtfgnogdlkhagdaaDoorJa
import Derived.Lib.LaidU8T
import Derived.Lib.LaidTab
import Derived.Lib.AtoiErrMem
import Derived.Stop.LaidErr
import Derived.LaidMore
import Derived.LaidHandle
import Derived.Lay
import Derived.MakeChecks
namespace Go.Proofs.YtfgnogdlkhagdaaDoor
open Go.RowKit

theorem Later.grow (w : World) (k : Nat) (os : Array Obj) : Later w (Sort.grow (w.drewN k) os) :=
  ⟨rfl, rfl, rfl, by simp [Sort.grow, World.drewN], fun j hj => Sort.heap_grow_old (w.drewN k) os hj⟩
theorem Later.bytes (w : World) (s : ByteArray) : Later w (Lib.bytesWorld w 5 s) := Lib.bytesWorld_below _ _ _

/-- The library's variables that the calls read. -/
structure Good (w : World) : Prop where
  utf : Lib.Utf8Tabs 1 2 w
  tab : Lib.TabIs Tryd.prog w "internal/strconv.uint64pow10" .u64 Lib.pow10Tab
  syn : ∃ tp p, w.var? Tryd.prog "strconv.ErrSyntax" = some #[.iface tp p]
  rng : ∃ tp p, w.var? Tryd.prog "strconv.ErrRange" = some #[.iface tp p]

theorem Good.later {w w' : World} (g : Good w) (h : Later w w') : Good w' :=
  ⟨⟨fun c hc => cell_later (g.utf.1 c hc) h, fun i hi => ⟨cell_later (g.utf.2 i hi).1 h, cell_later (g.utf.2 i hi).2 h⟩⟩,
    var_later g.tab h, g.syn.elim fun tp k => k.elim fun p e => ⟨tp, p, var_later e h⟩, g.rng.elim fun tp k => k.elim fun p e => ⟨tp, p, var_later e h⟩⟩

theorem gES : Tryd.prog.globalNamed "strconv.ErrSyntax" = some 6 := by kernel_rfl
theorem gER : Tryd.prog.globalNamed "strconv.ErrRange" = some 7 := by kernel_rfl
theorem gTab : Tryd.prog.globalNamed "internal/strconv.uint64pow10" = some 8 := by kernel_rfl
theorem tES : (Tryd.prog.globals[6]?).map (·.type) = some 140 := by kernel_rfl
theorem tER : (Tryd.prog.globals[7]?).map (·.type) = some 140 := by kernel_rfl
theorem tTab : (Tryd.prog.globals[8]?).map (·.type) = some 206 := by kernel_rfl
theorem cErr : Tryd.prog.cellsOf 216 = 1 := by kernel_rfl
theorem cStr : Tryd.prog.cellsOf 9 = 1 := by kernel_rfl
theorem cU64 : Tryd.prog.cellsOf 112 = 1 := by kernel_rfl
theorem cTab : Tryd.prog.cellsOf 206 = 20 := by kernel_rfl
theorem star : "*" ++ "errors.errorString" = "*errors.errorString" := by decide
theorem rowErr (u : TypeId) (h : Tryd.prog.typeName? 3 u = some "*errors.errorString") : u = 214 :=
  typeName_ptr_named (nm := "errors.errorString") (by rw [star]; kernel_rfl) (by kernel_rfl) (by decide) u (by rw [star]; exact h)

/-- The list, as each of the rows has it. -/
abbrev theList : List (String × DataW Unit) := Rows.lexShownRow.laid

theorem tabData_eq : (Rows.laid_internal_strconv_uint64pow10 : DataW Unit) = Lib.tabData .u64 Lib.pow10Tab := by kernel_rfl
theorem first_eq : Rows.laid_unicode_utf8_first = Lib.firstData := by kernel_rfl
theorem accept_eq : (Rows.laid_unicode_utf8_acceptRanges : DataW Unit) = Lib.acceptData := by kernel_rfl

theorem extra : U8Extra Tryd.prog Tryd.lays197_ren :=
  ⟨by kernel_rfl, by kernel_rfl, by kernel_rfl, by kernel_rfl, by kernel_rfl, by kernel_rfl, by kernel_rfl⟩

theorem Good.of_laid {W : World} (h : laidMetH Tryd.prog theList W) : Good W := by
  rw [MakeChecks.laidMetH_plain _ _ _ (by kernel_rfl)] at h
  have u4 := Lib.laidMet.reads h (n := "unicode/utf8.acceptRanges") (d := Rows.laid_unicode_utf8_acceptRanges) (by simp [theList, Rows.lexShownRow])
  have u3 := Lib.laidMet.reads h (n := "unicode/utf8.first") (d := Rows.laid_unicode_utf8_first) (by simp [theList, Rows.lexShownRow])
  rw [first_eq] at u3
  rw [accept_eq] at u4
  have h2 : laidMet Tryd.prog (("internal/strconv.uint64pow10", Rows.laid_internal_strconv_uint64pow10) :: ("unicode/utf8.acceptRanges", Rows.laid_unicode_utf8_acceptRanges) :: ("strconv.ErrRange", Rows.laid_strconv_ErrRange) :: ("strconv.ErrSyntax", Rows.laid_strconv_ErrSyntax) :: ("unicode/utf8.first", Rows.laid_unicode_utf8_first) :: []) W := laidMet.tail (laidMet.tail h)
  have h3 := laidMet.tail (laidMet.tail h2)
  have h4 := laidMet.tail h3
  rw [tabData_eq] at h2
  have t := Lib.tabIs_of_head gTab tTab Tryd.underlying206 Tryd.underlying112 cU64 cTab h2
  obtain ⟨a1, s1, hv1, -, -, -⟩ := laid_sentinel h3 gER tER Tryd.underlying140 rowErr Tryd.underlying214 Tryd.underlying216 rfl rfl Tryd.underlying9 cErr cStr
  obtain ⟨a0, s0, hv0, -, -, -⟩ := laid_sentinel h4 gES tES Tryd.underlying140 rowErr Tryd.underlying214 Tryd.underlying216 rfl rfl Tryd.underlying9 cErr cStr
  exact ⟨utf8Tabs_of_readsT (P := Tryd.prog) (ρ := Tryd.lays197_ren) ⟨Tryd.underlying5, Tryd.underlying161, Tryd.underlying164, Tryd.underlying165⟩ extra u3 u4, t, ⟨_, _, hv0⟩, ⟨_, _, hv1⟩⟩

/-- A start that the list itself lays meets it. -/
theorem door_met (os : Os) (args : Array Value) : laidMetH Tryd.prog theList ((World.laidAll Tryd.prog os theList).forCall (fun _ _ => 0) ⟨#[], args, []⟩).memory := by
  rw [MakeChecks.laidMetH_plain _ _ _ (by kernel_rfl)]
  exact laidMet_laidAll _ (by kernel_rfl) (by kernel_rfl)

end Go.Proofs.YtfgnogdlkhagdaaDoor
