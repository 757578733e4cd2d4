/-
  The first call whose answer the document fixes returns true; two rows of the same tokens are held the same. Nothing that was in memory turns. Conditions: the library's variables stand as its text lays them; the rows stand in memory.
-/
import Derived.Test.YtfgnogdlkhagdaaDoorLexTokens
import Derived.RegionTactic
import Derived.Deep.CutRange
namespace Go.Proofs.YtfgnogdlkhagdaaDoor
open Go.RowKit
set_option linter.unusedVariables false

theorem toks1 : tokens ⟨#[120, 91, 49, 93, 32, 59, 32, 97]⟩ = .ok [⟨1, 1, 1, ⟨#[120]⟩⟩, ⟨3, 1, 2, ⟨#[91]⟩⟩, ⟨2, 1, 3, ⟨#[49]⟩⟩, ⟨3, 1, 4, ⟨#[93]⟩⟩, ⟨4, 1, 9, ⟨#[]⟩⟩] := by kernel_rfl
theorem toks2 : tokens ⟨#[97, 32, 36]⟩ = .bad 1 1 3 := by kernel_rfl

/-- The four cells of the i-th token. -/
theorem tok_get {w : World} {a : Option Addr} {T : List Tok} (h : CRow w a (flatC Tok.cells T)) {i : Nat} {x : Tok} (hx : T[i]? = some x) : ∃ g, a = some ⟨g, 0, none⟩ ∧
    w.cell? ⟨g, i * 4, none⟩ = some (.int .i64 (x.kind : Nat)) ∧ w.cell? ⟨g, i * 4 + 1, none⟩ = some (.int .i64 (x.line : Nat)) ∧ w.cell? ⟨g, i * 4 + 2, none⟩ = some (.int .i64 (x.col : Nat)) ∧ w.cell? ⟨g, i * 4 + 3, none⟩ = some (.string x.text) := by
  obtain ⟨g, rfl⟩ := CRow.some Tok.cells_len (by decide) h hx
  exact ⟨g, rfl, CRow.cell Tok.cells_len h hx (k := 0) (by decide) rfl, CRow.cell Tok.cells_len h hx (k := 1) (by decide) rfl, CRow.cell Tok.cells_len h hx (k := 2) (by decide) rfl, CRow.cell Tok.cells_len h hx (k := 3) (by decide) rfl⟩

set_option maxRecDepth 1000000 in
set_option maxHeartbeats 1000000 in
theorem lexAlive_any (w : World) (g : Good w) :
    Calls Tryd.prog 13 #[] w fun e w' => e = .returned (.bool true) ∧ Later w w' := by
  have h1 : ∀ w', Good w' → _ := fun w' (g' : Good w') => tokens_any ⟨#[120, 91, 49, 93, 32, 59, 32, 97]⟩ (by decide) w' g'
  have h2 : ∀ w', Good w' → _ := fun w' (g' : Good w') => tokens_any ⟨#[97, 32, 36]⟩ (by decide) w' g'
  rw [toks1] at h1
  rw [toks2] at h2
  have go : ∀ {w'}, Later w w' → Good w' := fun h => g.later h
  go_enter Tryd.func13, Tryd.ntmps13
  go_upto_region 3 with (first
    | (go_at_call 10; apply Calls.mono; (focus (with_reducible (exact h1 _ (go (Later.refl _))))); rintro e w1 ⟨⟨a, cap, rfl, hrow⟩, hl1⟩)
    | (go_at_call 10; apply Calls.mono; (focus (with_reducible (exact h2 _ (go (Later.alloc hl1 _))))); rintro e w2 ⟨hres, hl2⟩; obtain rfl : e = _ := hres))
  have L2 := Later.alloc (Later.trans (Later.alloc hl1 (.cells #[.int .i64 0, .int .i64 0, .int .i64 0] 34)) hl2) (.cells #[.int .i64 1, .int .i64 1, .int .i64 3] 34)
  have lx : Later w2 (w2.alloc (.cells #[.int .i64 1, .int .i64 1, .int .i64 3] 34)) := Later.alloc (Later.refl _) _
  have hr2 := ((hrow.later (Later.alloc (Later.refl _) _)).later hl2).later lx
  have hbx := (lx.block _ (by have := hl2.size; simp at this; omega)).trans ((hl2.block _ (by simp)).trans (at_new w1 _))
  obtain ⟨b0, b1, b2, -, -, -⟩ := box3_facts hbx
  obtain ⟨c0, c1, c2, -, -, -⟩ := box3_facts (at_new w2 (.cells #[.int .i64 1, .int .i64 1, .int .i64 3] 34))
  obtain ⟨g1, e1, p0, p1, p2, p3⟩ := tok_get hr2 (i := 0) rfl
  cases e1
  obtain ⟨g2, e2, q0, q1, q2, q3⟩ := tok_get hr2 (i := 4) rfl
  cases e2
  simp only [Nat.zero_mul, Nat.zero_add] at p0 p1 p2 p3 q0 q1 q2 q3
  clear hrow hr2 hbx lx
  generalize w2.alloc (.cells #[.int .i64 1, .int .i64 1, .int .i64 3] 34) = W3 at *
  go_wp2
  go_ret
  exact ⟨by simp, L2⟩

set_option maxRecDepth 1000000 in
set_option maxHeartbeats 1000000 in
theorem lexSame_any (w : World) (T : List Tok) (a b : Option Addr) (ca cb : Nat) (hT : T.length ≤ 1000001) (ra : CRow w a (flatC Tok.cells T)) (rb : CRow w b (flatC Tok.cells T)) :
    Calls Tryd.prog 12 #[.slice a T.length ca, .slice b T.length cb] w fun e w' => e = .returned (.bool true) ∧ Later w w' := by
  go_enter Tryd.func12, Tryd.ntmps12
  go_wp2
  go_loopw [5] (fun vi wr => ∃ (k : Nat), vi = .int .i64 (k : Nat) ∧ k ≤ T.length ∧ Later w wr) (fun vi _ => T.length - (intOf vi).toNat)
  case atStart => exact ⟨0, rfl, by omega, Later.refl _⟩
  case round =>
    obtain ⟨k, rfl, hk, hlw⟩ := hrel
    by_cases hlt : k < T.length
    · obtain ⟨x, hx⟩ : ∃ x, T[k]? = some x := ⟨_, List.getElem?_eq_getElem hlt⟩
      obtain ⟨ga, rfl, p0, p1, p2, p3⟩ := tok_get (ra.later hlw) hx
      obtain ⟨gb, rfl, q0, q1, q2, q3⟩ := tok_get (rb.later hlw) hx
      clear hx ra rb
      generalize x.kind = k1 at *
      generalize x.line = k2 at *
      generalize x.col = k3 at *
      generalize x.text = k4 at *
      have hi1 : (k : Int) < (T.length : Int) := by omega
      go_wp2
      go_quiet (fail)
      go_wp2
      go_roundw
      case rel => exact ⟨k + 1, by go_num, by omega, Later.drewN hlw _⟩
      case measure => simp [intOf]; omega
    · go_wp2
      go_ret
      exact ⟨rfl, hlw⟩

end Go.Proofs.YtfgnogdlkhagdaaDoor
