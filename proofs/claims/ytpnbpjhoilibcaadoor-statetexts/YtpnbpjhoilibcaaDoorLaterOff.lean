/-
  A region that draws its order, whose last operation waits for all the others, and of which the others only read and leave all that was in memory as it was: walked once, in the order of the text, over the class of the later worlds, and then the last one. Conditions: as the theorem names them.
-/
import Derived.Test.YtpnbpjhoilibcaaDoorAfter
import Derived.Test.YtpnbpjhoilibcaaDoorLastChain
namespace Go.Proofs.YtpnbpjhoilibcaaDoor
open Go.RowKit

theorem wp_later_off {full : List Oper} {o : Oper} {Q : Exit → Act → World → Prop} {id : Nat} {a : Act} {w : World} (n : Nat) (hn : full.length = n + 1) (hof : full[n]? = some o) (hm : Tryd.prog.follows .mixedOrders = true)
    (hg : plainOps (full.take n) = true) (hgo : o.guard = none) (ht : textOps (full.take n) = true) (hw : chainAll (full.take n) o = true) (ho : (o.after.all fun e => !Region.binds .any e || decide (e.on < n)) = true) (hB : Region.lexB .any (full.take n).toArray = true)
    (h : wpQuiet Tryd.prog (full.take n).toArray (fun w' => ∃ p : After w, w' = p.world) (fun a' => ∀ w', (∃ p : After w, w' = p.world) → o.wp Tryd.prog a' w' (Q .normal) Q) (full.take n) a) : (Code.region id full.toArray true).wp Tryd.prog Q a w := by
  have hl : (full.take n).length = n := by rw [List.length_take]; omega
  have e : full = full.take n ++ [o] := by
    have h1 := List.take_append_drop n full
    have h2 : full.drop n = [o] := by
      obtain ⟨hlt, hget⟩ := List.getElem?_eq_some_iff.1 hof
      rw [List.drop_eq_getElem_cons hlt, hget, List.drop_of_length_le (by omega)]
    rw [h2] at h1
    exact h1.symm
  rw [e]
  generalize full.take n = l at *
  subst hl
  clear hn hof e
  refine wp_region_any hm ?_
  simp only [Region.lexB, Bool.and_eq_true] at hB
  have h0 : wpAny Tryd.prog .any l.toArray (TailPost Tryd.prog o Q) l.toArray.size (Array.replicate l.toArray.size false) a w.drew := by
    refine wpAny_of_quiet (C := fun w' => ∃ p : After w, w' = p.world) (Q := fun a' => ∀ w', (∃ p : After w, w' = p.world) → o.wp Tryd.prog a' w' (Q .normal) Q) (fun _ w' hw' h => h w' hw') _ _ _ _ ⟨⟨w.drew, Later.drew (Later.refl w)⟩, rfl⟩ ?_
    have := wpAnyQ_lex (C := fun w' => ∃ p : After w, w' = p.world) (md := .any) hB.1 l.toArray.toList 0 (Array.replicate l.toArray.size false) a (by simp) (by simpa using hB.2) (by simpa using h)
    simpa using this
  have e0 : (List.replicate l.length false).toArray = Array.replicate l.toArray.size false := by
    apply Array.toList_inj.1
    simp
  have h1 := wpAny_chain hg hgo ht hw ho l.length (List.replicate l.length false) a w.drew (by simp) (by simp) (down_start _ _) (by rw [e0]; simpa using h0)
  have e1 : (l ++ [o]).toArray.size = l.length + 1 := by simp
  have e2 : Array.replicate (l.length + 1) false = (List.replicate l.length false).toArray.push false := by
    apply Array.toList_inj.1
    simp [List.replicate_succ']
  rw [e1, e2]
  exact h1

end Go.Proofs.YtpnbpjhoilibcaaDoor
