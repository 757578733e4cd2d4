/-
  How many lines a program's text has, and how it ends. Conditions: no name and no label bears a line's end.
-/
import Derived.Test.YtmmimlpgpionnaaDoorShowProg
import Derived.Test.YtmmimlpgpionnaaDoorMadeRow
namespace Go.Proofs.YtmmimlpgpionnaaDoor
open Go.RowKit
set_option linter.unusedVariables false
set_option linter.unusedSimpArgs false

/-- No line's end in it. -/
abbrev Line (l : List UInt8) : Prop := l.count 10 = 0
theorem Line.app {a b : List UInt8} (ha : Line a) (hb : Line b) : Line (a ++ b) := by unfold Line at *; rw [List.count_append]; omega
theorem Line.of {l : List UInt8} (h : ∀ b ∈ l, b ≠ 10) : Line l := List.count_eq_zero.2 fun hm => h _ hm rfl

theorem digit_byte : ∀ k : Fin 10, UInt8.ofNat (48 + k.1) ≠ 10 ∧ UInt8.ofNat (48 + k.1) ≠ 44 ∧ UInt8.ofNat (48 + k.1) ≠ 91 := by decide
theorem digit_ne (u : Nat) : digit u ≠ 10 ∧ digit u ≠ 44 ∧ digit u ≠ 91 := digit_byte ⟨u % 10, Nat.mod_lt _ (by omega)⟩

theorem dec_ne (u : Nat) : ∀ b ∈ Lib.decDigits u, b ≠ 10 ∧ b ≠ 44 ∧ b ≠ 91 := by
  induction u using Nat.strongRecOn with
  | ind u ih =>
    intro b hb
    rw [ahead_step] at hb
    rcases List.mem_append.1 hb with hb | hb
    · unfold ahead at hb
      split at hb
      · simp at hb
      · rename_i h0
        exact ih (u / 10) (Nat.div_lt_self (by omega) (by omega)) b hb
    · simp at hb
      subst hb
      exact digit_ne u

theorem txt_bytes (n : Int) : ∀ b ∈ (txt n).data.toList, b ≠ 10 ∧ b ≠ 44 ∧ b ≠ 91 := by
  rw [txt_list]
  unfold Lib.itoa
  split
  · intro b hb
    rcases List.mem_cons.1 hb with rfl | hb
    · decide
    · exact dec_ne _ b hb
  · exact dec_ne _

theorem txt_line (n : Int) : Line (txt n).data.toList := Line.of fun b hb => (txt_bytes n b hb).1

theorem textAt_line {T : List ByteArray} (h : ∀ t ∈ T, t.data.toList.count 10 = 0) (i : Int) : Line (textAt T i).data.toList := by
  unfold textAt
  split
  · rename_i hi
    have : i.toNat < T.length := by omega
    rw [List.getD_eq_getElem?_getD, List.getElem?_eq_getElem this]
    exact h _ (List.getElem_mem _)
  · rfl

theorem opText_line (op cond : Int) : Line (opTextF op cond).data.toList := by
  unfold opTextF
  split
  · exact textAt_line (by decide) _
  split
  · exact textAt_line (by decide) _
  · rfl

theorem head_line (x : Ins) : Line (headT x).data.toList := by
  unfold headT
  split
  · rw [bytes_app]; exact Line.app (by decide) (opText_line _ _)
  · exact opText_line _ _

theorem opd_line (o : Opd) {N : List ByteArray} (hN : ∀ t ∈ N, Line t.data.toList) : Line (opdTextF o N).data.toList := by
  unfold opdTextF
  split
  · rfl
  split
  · exact textAt_line (by decide) _
  split
  · exact txt_line _
  split
  · rfl
  · rename_i t ht
    have h5 := hN t (List.mem_of_getElem? ht)
    split
    · simp only [bytes_app]
      exact Line.app (Line.app (Line.app h5 (by decide)) (txt_line _)) (by decide)
    · simp only [bytes_app]
      exact Line.app (Line.app (Line.app h5 (by decide)) (textAt_line (by decide) _)) (by decide)

theorem insT_line (x : Ins) {N : List ByteArray} (hN : ∀ t ∈ N, Line t.data.toList) (hd : Line x.dest.data.toList) : Line (insT x N).data.toList := by
  unfold insT
  split
  · rfl
  split
  · simp only [bytes_app]
    exact Line.app (Line.app (head_line x) (by decide)) hd
  split
  · exact head_line x
  split
  · rfl
  · simp only [bytes_app]
    exact Line.app (Line.app (Line.app (Line.app (head_line x) (by decide)) (opd_line _ hN)) (by decide)) (opd_line _ hN)

theorem flat_count {α : Type} {f : α → List UInt8} {g : α → Nat} : ∀ {l : List α}, (∀ x ∈ l, (f x).count 10 = g x) → (l.flatMap f).count 10 = (l.map g).sum
  | [], _ => rfl
  | x :: r, h => by
    rw [List.flatMap_cons, List.count_append, h x (List.mem_cons_self ..), flat_count (fun y hy => h y (List.mem_cons_of_mem _ hy))]
    rfl

theorem sum_one {α : Type} : ∀ (l : List α), (l.map fun _ => 1).sum = l.length
  | [] => rfl
  | x :: r => by simp [sum_one r]; omega
theorem sum_zero {α : Type} : ∀ (l : List α), (l.map fun _ => 0).sum = 0
  | [] => rfl
  | x :: r => by simp [sum_zero r]

/-- How many lines a thread's instructions have. -/
def linesT (T : Thr) : Nat := (T.map fun x => 1 + x.2.length).sum
def linesP (P : List Thr) : Nat := (P.map fun T => linesT T).sum

theorem sym_count {s : Sym × List Int} (hs : Line s.1.name.data.toList) : (symL s).count 10 = 1 := by
  have h1 : (s.2.flatMap (fun n => [32] ++ (txt n).data.toList)).count 10 = 0 := by
    rw [flat_count (g := fun _ => 0) (fun n _ => Line.app (a := [32]) (by decide) (txt_line n))]
    exact sum_zero _
  unfold Line at hs
  have h2 : (txt s.1.size).data.toList.count 10 = 0 := txt_line _
  unfold symL
  simp only [List.count_append, hs, h1, h2]
  rfl

theorem ins_count {N : List ByteArray} (hN : ∀ t ∈ N, Line t.data.toList) {x : Ins × List ByteArray} (hd : Line x.1.dest.data.toList) (hl : ∀ t ∈ x.2, Line t.data.toList) : (insL N x).count 10 = 1 + x.2.length := by
  have h1 : (x.2.flatMap (fun l => l.data.toList ++ [58, 10])).count 10 = x.2.length := by
    rw [flat_count (g := fun _ => 1) (fun t ht => by
      have := hl t ht
      unfold Line at this
      rw [List.count_append, this]
      rfl)]
    exact sum_one _
  have h2 := insT_line x.1 hN hd
  unfold Line at h2
  unfold insL
  simp only [List.count_append, h1, h2]
  have h3 : ([9] : List UInt8).count 10 = 0 := by decide
  have h4 : ([10] : List UInt8).count 10 = 1 := by decide
  omega

theorem prog_count {S : Syms} {P : List Thr} (hc : checkC S P = 0) (hS : ∀ s ∈ S, Line s.1.name.data.toList) (hd : ∀ T ∈ P, ∀ x ∈ T, Line x.1.dest.data.toList) (hl : ∀ T ∈ P, ∀ x ∈ T, ∀ t ∈ x.2, Line t.data.toList) : (progL S P).count 10 = S.length + P.length + linesP P := by
  have hN : ∀ t ∈ namesOf S, Line t.data.toList := fun t ht => by
    obtain ⟨s, hs, rfl⟩ := List.mem_map.1 ht
    exact hS s hs
  have h1 : (symsL S).count 10 = S.length := by
    unfold symsL
    rw [flat_count (g := fun _ => 1) (fun s hs => sym_count (hS s hs))]
    exact sum_one _
  have h2 : (thrsL (namesOf S) P).count 10 = (P.map fun T => 1 + linesT T).sum := by
    unfold thrsL
    refine flat_count fun T hT => ?_
    unfold thrL
    rw [List.count_append, flat_count (g := fun x => 1 + x.2.length) (fun x hx => ins_count hN (hd T hT x hx) (hl T hT x hx))]
    rfl
  have h3 : ∀ Q : List Thr, (Q.map fun T => 1 + linesT T).sum = Q.length + linesP Q := by
    intro Q
    induction Q with
    | nil => rfl
    | cons T r ih =>
      unfold linesP at *
      simp only [List.map_cons, List.sum_cons, List.length_cons, ih]
      omega
  rw [progL_yes hc, List.count_append, h1, h2, h3]
  omega

/-- It ends with a line's end. -/
def EndsLn (l : List UInt8) : Prop := l.getLast? = some 10
theorem EndsLn.app {a b : List UInt8} (h : EndsLn b) : EndsLn (a ++ b) := by
  unfold EndsLn at *
  rw [List.getLast?_append, h]
  rfl
theorem flat_ends {α : Type} {f : α → List UInt8} : ∀ {l : List α}, l ≠ [] → (∀ x ∈ l, EndsLn (f x)) → EndsLn (l.flatMap f)
  | [], h, _ => absurd rfl h
  | [x], _, h => by simpa using h x (List.mem_cons_self ..)
  | x :: y :: r, _, h => by
    rw [List.flatMap_cons]
    exact EndsLn.app (flat_ends (by simp) (fun z hz => h z (List.mem_cons_of_mem _ hz)))

theorem thr_ends (N : List ByteArray) (T : Thr) : EndsLn (thrL N T) := by
  unfold thrL
  rcases List.eq_nil_or_concat T with rfl | ⟨T', x, rfl⟩
  · rfl
  · refine EndsLn.app (flat_ends (by simp) fun x _ => ?_)
    unfold insL
    exact EndsLn.app (EndsLn.app rfl)
theorem prog_ends {S : Syms} {P : List Thr} (hc : checkC S P = 0) (hS : S ≠ []) : EndsLn (progL S P) := by
  rw [progL_yes hc]
  rcases List.eq_nil_or_concat P with rfl | ⟨P', T, rfl⟩
  · rw [show thrsL (namesOf S) [] = [] from rfl, List.append_nil]
    exact flat_ends hS fun s _ => EndsLn.app rfl
  · exact EndsLn.app (flat_ends (by simp) fun T _ => thr_ends _ T)

theorem labelT_line (k : Nat) (hk : k < 100) : Line (labelT k).data.toList := by
  have : ∀ k : Fin 100, (labelT k.1).data.toList.count 10 = 0 := by decide +kernel
  exact this ⟨k, hk⟩

theorem insOf_line (x : Act5) (many : Nat) (hm : 0 < many ∧ many ≤ 100) : Line (insOf x many).dest.data.toList := by
  by_cases hj : jumpsF (insOf x many).op = true
  · obtain ⟨q, hq, h⟩ := jump_made hm.1 hj
    rw [h]
    exact labelT_line q (by omega)
  · have hr := insOf_right x many hm
    have : (insOf x many).dest.data.toList.isEmpty = true := by
      unfold insF at hr
      split at hr
      · cases hr
      split at hr
      · cases hr
      split at hr
      · cases hr
      · rename_i h3
        cases he : (insOf x many).dest.data.toList.isEmpty with
        | true => rfl
        | false => exact absurd ⟨by simpa using hj, he⟩ h3
    rw [List.isEmpty_iff.1 this]
    rfl

theorem made_line {w : World} {N mn t : Nat} {l : List (List Act5)} {vs : List Value} {P : List Thr} (hmn : mn ≤ 90) (htl : t ≤ l.length) (h : MadeThrs w N mn l t vs P) : ∀ T ∈ P, ∀ x ∈ T, Line x.1.dest.data.toList ∧ ∀ t ∈ x.2, Line t.data.toList := by
  intro T hT x hx
  obtain ⟨v, acts, hm⟩ := made_thr htl h hT
  have hi := hm.is
  have hlen := hi.len
  have hn : min acts.length mn ≤ 90 := Nat.le_trans (Nat.min_le_right _ _) hmn
  rw [rawL_length (Nat.min_le_left _ _)] at hlen
  generalize min acts.length mn = n at *
  obtain ⟨k, hk, rfl⟩ := List.getElem_of_mem hx
  obtain ⟨r, hr⟩ : ∃ r, (rawL acts n)[k]? = some r := ⟨_, List.getElem?_eq_getElem (by rw [← hi.len]; exact hk)⟩
  have h2 := (hi.is k (T[k]).1 (T[k]).2 r (List.getElem?_eq_getElem hk) hr).2
  have hd := dest_of hi (x := (T[k]).1) (L := (T[k]).2) (List.getElem?_eq_getElem hk) hr
  refine ⟨?_, ?_⟩
  · rw [hd]
    rcases raw_mem hr with ⟨a, rfl⟩ | rfl
    · exact insOf_line a (n + 1) (by omega)
    · rfl
  · rw [h2]
    split
    · intro t ht
      simp at ht
      subst ht
      exact labelT_line k (by omega)
    · simp

/-- What a made program's text is like. -/
theorem made_text {w : World} {N mn t b : Nat} {l : List (List Act5)} {vs : List Value} {P : List Thr} (hmn : mn ≤ 90) (ht : t ≤ 60) (htl : t ≤ l.length) (h : MadeThrs w N mn l t vs P) :
    (progL (xyz b) P).count 10 = 3 + P.length + linesP P ∧ EndsLn (progL (xyz b) P) := by
  have hc := (made_valid (b := b) hmn ht htl h).1
  have hl := made_line hmn htl h
  refine ⟨prog_count hc (fun s hs => ?_) (fun T hT x hx => (hl T hT x hx).1) (fun T hT x hx => (hl T hT x hx).2), prog_ends hc (by simp [xyz])⟩
  simp only [xyz, List.mem_cons, List.not_mem_nil, or_false] at hs
  rcases hs with rfl | rfl | rfl <;> rfl

end Go.Proofs.YtmmimlpgpionnaaDoor
