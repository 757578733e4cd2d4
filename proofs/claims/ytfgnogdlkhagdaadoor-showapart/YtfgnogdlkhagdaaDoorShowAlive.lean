/-
  The statements' own first look at package show: it returns true. Nothing that was in memory turns. Conditions: the listed tables stand as they are laid.
-/
import Derived.Test.YtfgnogdlkhagdaaDoorShowProg
import Derived.Test.YtfgnogdlkhagdaaDoorJk
namespace Go.Proofs.YtfgnogdlkhagdaaDoor
open Go.RowKit
set_option linter.unusedVariables false
set_option linter.unusedSimpArgs false

/-- 'top: jmp top' and 'mov rax, -1'. -/
def topIns (v : Value) : Ins := ⟨10, false, 0, ⟨0, 0, 0, 0⟩, ⟨0, 0, 0, 0⟩, ⟨#[116, 111, 112]⟩, v⟩
def movIns : Ins := ⟨1, false, 0, ⟨1, 0, 0, 0⟩, ⟨2, 0, 0, -1⟩, ⟨#[]⟩, .slice none 0 0⟩

theorem top_text (v : Value) : progL [] [[(topIns v, [⟨#[116, 111, 112]⟩])]] = [116, 104, 114, 101, 97, 100, 10, 116, 111, 112, 58, 10, 9, 106, 109, 112, 32, 116, 111, 112, 10] := by kernel_rfl
theorem mov_text : insT movIns [] = ⟨#[109, 111, 118, 32, 114, 97, 120, 44, 32, 45, 49]⟩ := by kernel_rfl
theorem top_fine (v : Value) : FineP [] [[(topIns v, [⟨#[116, 111, 112]⟩])]] := by
  refine ⟨fun _ h => by simp at h, fun T h => ?_⟩
  simp at h
  subst h
  refine ⟨fun x hx => ?_, fun x hx t ht => ?_, by simp [labelsOf]⟩
  · simp at hx
    subst hx
    show 3 ≤ 1000
    omega
  · simp at hx
    subst hx
    simp at ht
    subst ht
    show 3 ≤ 1000
    omega
theorem top_ok (v : Value) : (topIns v).Ok := by
  have z : I64 0 := by unfold I64; omega
  exact ⟨by unfold topIns I64; dsimp only; omega, z, ⟨z, z, z, z⟩, ⟨z, z, z, z⟩, by show 3 ≤ _; unfold maxLen; omega⟩
theorem mov_ok : movIns.Ok := by
  have z : I64 0 := by unfold I64; omega
  have z1 : I64 1 := by unfold I64; omega
  have z2 : I64 2 := by unfold I64; omega
  have z3 : I64 (-1) := by unfold I64; omega
  exact ⟨z1, z, ⟨z1, z, z, z⟩, ⟨z2, z, z, z3⟩, by show 0 ≤ _; omega⟩

theorem four_new4 (w : World) (o p q r : Obj) : ((((w.alloc o).alloc p).alloc q).alloc r).heap[w.heap.size]? = some o ∧ ((((w.alloc o).alloc p).alloc q).alloc r).heap[w.heap.size + 1]? = some p ∧ ((((w.alloc o).alloc p).alloc q).alloc r).heap[w.heap.size + 1 + 1]? = some q ∧ ((((w.alloc o).alloc p).alloc q).alloc r).heap[w.heap.size + 1 + 1 + 1]? = some r := by
  obtain ⟨h1, h2, h3⟩ := three_new3 w o p q
  have L := Later.alloc (Later.refl ((((w.alloc o).alloc p).alloc q))) r
  refine ⟨heap_later L h1, heap_later L h2, heap_later L h3, ?_⟩
  have := at_new (((w.alloc o).alloc p).alloc q) r
  simpa using this

def topC (b : Nat) : Obj := .cells #[.int .i64 10, .bool false, .int .i64 0, .int .i64 0, .int .i64 0, .int .i64 0, .int .i64 0, .int .i64 0, .int .i64 0, .int .i64 0, .int .i64 0, .string ⟨#[116, 111, 112]⟩, .slice (some ⟨b, 0, none⟩) 1 1] 54

set_option maxRecDepth 1000000 in
set_option maxHeartbeats 4000000 in
theorem showAlive_any (w : World) (hG : ShowGood w) :
    Calls Tryd.prog 25 #[] w fun e w' => e = .returned (.bool true) ∧ Later w w' := by
  have cP := fun v v' w' h h' => showProg_any (.slice none 0 0) v [] [[(topIns v', [⟨#[116, 111, 112]⟩])]] w' h (RowIn.nil _ _ _) h' (top_fine _) (by rw [top_text]; decide)
  have cI := fun w' h => showIns_any movIns mov_ok (by show 0 ≤ _; omega) [] (by simp) (by simp) none 0 w' h (CRow.nil _ _)
  simp only [top_text] at cP
  rw [mov_text] at cI
  unfold movIns Ins.val Ins.cells at cI
  dsimp only at cI
  simp only [List.length_nil] at cI
  go_enter Tryd.func25, Tryd.ntmps25
  go_upto_region 2 with (fail)
  obtain ⟨h0, h1, h2, h3⟩ := four_new4 w (.cells #[.string ⟨#[116, 111, 112]⟩] 9) (topC w.heap.size) (.cells #[.slice (some ⟨w.heap.size + 1, 0, none⟩) 1 1] 49) (.cells #[.slice none 0 0, .slice (some ⟨w.heap.size + 1 + 1, 0, none⟩) 1 1] 28)
  have LL := Later.alloc (Later.alloc (Later.alloc (Later.alloc (Later.refl w) (.cells #[.string ⟨#[116, 111, 112]⟩] 9)) (topC w.heap.size)) (.cells #[.slice (some ⟨w.heap.size + 1, 0, none⟩) 1 1] 49)) (.cells #[.slice none 0 0, .slice (some ⟨w.heap.size + 1 + 1, 0, none⟩) 1 1] 28)
  unfold topC at h0 h1 h2 h3 LL
  generalize (((w.alloc (.cells #[.string ⟨#[116, 111, 112]⟩] 9)).alloc (.cells #[.int .i64 10, .bool false, .int .i64 0, .int .i64 0, .int .i64 0, .int .i64 0, .int .i64 0, .int .i64 0, .int .i64 0, .int .i64 0, .int .i64 0, .string ⟨#[116, 111, 112]⟩, .slice (some ⟨w.heap.size, 0, none⟩) 1 1] 54)).alloc (.cells #[.slice (some ⟨w.heap.size + 1, 0, none⟩) 1 1] 49)).alloc (.cells #[.slice none 0 0, .slice (some ⟨w.heap.size + 1 + 1, 0, none⟩) 1 1] 28) = W at *
  have hT : ThrRow W (.slice (some ⟨w.heap.size + 1 + 1, 0, none⟩) 1 1) [[(topIns (.slice (some ⟨w.heap.size, 0, none⟩) 1 1), [⟨#[116, 111, 112]⟩])]] := RowIn.one h2 ⟨_, rfl, RowIn.one h1 ⟨rfl, top_ok _, TextsIn.one h0 (by show 3 ≤ _; unfold maxLen; omega)⟩⟩
  have cQ := cP _ _ W (hG.later LL) hT
  obtain ⟨b0, b1, -⟩ := box2_facts h3
  have HG : Hid (ShowGood W) := hG.later LL
  clear cP hT hG h0 h1 h2 h3
  go_wp2_with (first
    | (go_at_call 24; apply Calls.mono; (focus (with_reducible (exact cQ))); rintro e w1 ⟨rfl, hl1⟩)
    | (go_at_call 64; apply Calls.mono; (focus (with_reducible (exact cI _ (HG.out.later hl1)))); rintro e w2 ⟨rfl, hl2⟩))
  go_ret
  exact ⟨rfl, LL.trans (hl1.trans hl2)⟩

end Go.Proofs.YtfgnogdlkhagdaaDoor
