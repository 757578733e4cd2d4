/-
  What lex.Tokens returns: the tokens of a text, or what is wrong with it and where. Nothing that was in memory turns. Conditions: the text has at most 1000000 bytes; the library's variables stand as its text lays them.
-/
import Derived.Test.YtfgnogdlkhagdaaDoorLexKind
import Derived.Test.YtfgnogdlkhagdaaDoorJb
namespace Go.Proofs.YtfgnogdlkhagdaaDoor
open Go.RowKit
open Go.Lib (decodeL)
set_option linter.unusedVariables false

/-- The four cells of a token. -/
def Tok.cells (x : Tok) : List Value := [.int .i64 (x.kind : Nat), .int .i64 (x.line : Nat), .int .i64 (x.col : Nat), .string x.text]
theorem Tok.cells_len (x : Tok) : x.cells.length = 4 := rfl

/-- What is returned, and found. -/
def Tells (o : Out) (e : Ending) (w : World) : Prop :=
  match o with
  | Except.ok T => ∃ a cap, e = .returned (.tuple #[.slice a T.length cap, .agg #[.int .i64 0, .int .i64 0, .int .i64 0]]) ∧ CRow w a (flatC Tok.cells T)
  | Except.error (k, l, c) => e = .returned (.tuple #[.slice none 0 0, .agg #[.int .i64 (k : Nat), .int .i64 (l : Nat), .int .i64 (c : Nat)]])

theorem kind_le (r : Nat) : kindF r ≤ 5 := by
  unfold kindF
  repeat' split
  all_goals omega

/-- What was taken is read again as the same runes. -/
theorem marks_text (l : List UInt8) (hne : l ≠ []) (hb : (mk1 l).bad = false) (hk : kindF (mk1 l).r = 1 ∨ kindF (mk1 l).r = 2) (h59 : (mk1 l).r ≠ 59) :
    marks (textF (mk1 l) (marks (l.drop (decodeL l).2))) = mk1 l :: (marks (l.drop (decodeL l).2)).take (moreF (mk1 l).r (marks (l.drop (decodeL l).2))) := by
  have hw : ∀ x ∈ mk1 l :: (marks (l.drop (decodeL l).2)).take (moreF (mk1 l).r (marks (l.drop (decodeL l).2))), Wf x := by
    intro x hx
    rcases List.mem_cons.1 hx with rfl | hx
    · exact wf_mk1 l hne hb
    · unfold moreF at hx
      rw [if_neg h59, if_pos hk, take_takeWhile] at hx
      exact wf_marks _ x ((List.takeWhile_prefix _).subset hx) (wordy_good (List.all_eq_true.1 List.all_takeWhile x hx))
  have := marks_of_wfs _ hw
  rw [bytes_cons] at this
  exact this

theorem wrong_same (t : ByteArray) (h : 0 < t.size) (hb : (mk1 t.data.toList).bad = false) :
    wrongC (kindF (mk1 t.data.toList).r) (pieceT t) = wrongF (kindF (mk1 t.data.toList).r) (moreF (mk1 t.data.toList).r (marks (t.data.toList.drop (decodeL t.data.toList).2))) (textF (mk1 t.data.toList) (marks (t.data.toList.drop (decodeL t.data.toList).2))) := by
  have hne := ne_nil t h
  unfold wrongC wrongF pieceT
  by_cases k0 : kindF (mk1 t.data.toList).r = 0
  · rw [if_pos k0, if_pos k0]
  · rw [if_neg k0, if_neg k0, if_neg k0]
    by_cases k1 : kindF (mk1 t.data.toList).r = 1
    · have h59 : (mk1 t.data.toList).r ≠ 59 := fun e => by rw [e] at k1; exact absurd k1 (by decide)
      rw [if_pos k1, if_pos k1, ofL_list, marks_text _ hne hb (Or.inl k1) h59, List.length_cons, List.length_take, Nat.min_eq_left (moreF_le _ _)]
    · rw [if_neg k1, if_neg k1, ofL_list]

theorem Tryd.infoTok : (Tryd.prog.info? 74).map (fun i => (i.zero, i.size, i.bytes)) = some (some (.agg #[.int .i64 0, .int .i64 0, .int .i64 0, .string ⟨#[]⟩]), 4, 40) := by kernel_rfl

theorem four_at (w : World) (n : Nat) (hn : w.heap.size = n) (a b c d : Value) (t : TypeId) : ∀ j u, [a, b, c, d][j]? = some u → (w.alloc (.cells #[a, b, c, d] t)).cell? ((⟨n, 0, none⟩ : Addr).add j) = some u := by
  subst hn
  intro j u hj
  match j, hj with
  | 0, hj => simp at hj; subst hj; simp [Addr.add]
  | 1, hj => simp at hj; subst hj; simp [Addr.add]
  | 2, hj => simp at hj; subst hj; simp [Addr.add]
  | 3, hj => simp at hj; subst hj; simp [Addr.add]
  | j + 4, hj => simp at hj

theorem owns_set3 {w : World} {base : Nat} {e : TypeId} {size : Nat} {v : Value} {n : Nat} {xs : List Value} (h : w.ownsRow base e size v n xs) {B : Nat} (hB : B < base) (x y z : Value) :
    (((w.setCell ⟨B, 0, none⟩ x).setCell ⟨B, 1, none⟩ y).setCell ⟨B, 2, none⟩ z).ownsRow base e size v n xs :=
  ownsRow_setCell_below (ownsRow_setCell_below (ownsRow_setCell_below h (by exact hB) x) (by exact hB) y) (by exact hB) z

theorem Later.set3 {w w' : World} (h : Later w w') {B : Nat} (hB : w.heap.size ≤ B) (x y z : Value) : Later w (((w'.setCell ⟨B, 0, none⟩ x).setCell ⟨B, 1, none⟩ y).setCell ⟨B, 2, none⟩ z) :=
  Below.setCell (Below.setCell (Below.setCell h hB _) hB _) hB _

theorem decode_mk1 (s : ByteArray) (pos : Nat) : (mk1 (s.data.toList.drop pos)).r = (Utf8.decode s pos).1 := by
  rw [← decodeL_drop]; rfl

/-- What a round needs of the rune at its place. -/
theorem round_facts (s : ByteArray) (hsz : s.size ≤ 1000000) (pos : Nat) (h : pos < s.size) : ∃ (x : Mk) (R : List Mk) (X : ByteArray),
    marks (s.data.toList.drop pos) = x :: R ∧ R = marks (s.data.toList.drop (pos + (Utf8.decode s pos).2)) ∧ x.r = (Utf8.decode s pos).1 ∧ x.b.length = (Utf8.decode s pos).2 ∧ x.bad = badOf (Utf8.decode s pos).1 (Utf8.decode s pos).2 ∧
    (∀ w, Good w → Calls Tryd.prog 32 #[.int .i32 ((Utf8.decode s pos).1 : Nat), .string (s.extract pos s.size)] w fun e w' => e = .returned (.tuple #[.int .i64 (goKind (kindF x.r)), .string X]) ∧ Later w w') ∧
    (x.bad = false → wrongC (kindF x.r) X = wrongF (kindF x.r) (moreF x.r R) (textF x R)) ∧
    (kindF x.r ≠ 0 → X = ofL (textF x R)) ∧ X.size ≤ s.size - pos := by
  have hs : 0 < (s.extract pos s.size).size := by rw [ByteArray.size_extract]; omega
  have hne : s.data.toList.drop pos ≠ [] := by
    have := ne_nil _ hs
    rwa [ext_tail] at this
  have hm := marks_cons _ hne
  rw [List.drop_drop, decodeL_drop] at hm
  have hX : pieceT (s.extract pos s.size) = if kindF (mk1 (s.data.toList.drop pos)).r = 0 then ofL [] else ofL (textF (mk1 (s.data.toList.drop pos)) (marks (s.data.toList.drop (pos + (Utf8.decode s pos).2)))) := by
    unfold pieceT
    rw [ext_tail, decodeL_drop, List.drop_drop]
  refine ⟨mk1 (s.data.toList.drop pos), _, pieceT (s.extract pos s.size), hm, rfl, decode_mk1 s pos, ?_, ?_, ?_, ?_, ?_, ?_⟩
  · rw [mk1_len _ hne, decodeL_drop]
  · show badOf _ _ = _
    rw [mk1_len _ hne, decodeL_drop, decode_mk1]
  · intro w g
    have := piece_any (s.extract pos s.size) hs (by rw [ByteArray.size_extract]; omega) w g
    rw [ext_tail, decode_mk1] at this
    rw [decode_mk1]
    exact this
  · intro hb
    have := wrong_same (s.extract pos s.size) hs (by rw [ext_tail]; exact hb)
    rw [ext_tail, decodeL_drop, List.drop_drop] at this
    exact this
  · intro hk
    rw [hX, if_neg hk]
  · rw [hX]
    split
    · simp [ofL_size]
    · rw [ofL_size]
      unfold textF
      have hb := congrArg List.length (marks_bytes (s.data.toList.drop pos))
      rw [hm, bytes_cons, List.length_append, List.length_drop, size_len] at hb
      rw [List.length_append]
      have hle : (bytes ((marks (s.data.toList.drop (pos + (Utf8.decode s pos).2))).take (moreF (mk1 (s.data.toList.drop pos)).r (marks (s.data.toList.drop (pos + (Utf8.decode s pos).2)))))).length ≤ (bytes (marks (s.data.toList.drop (pos + (Utf8.decode s pos).2)))).length := by
        rw [← List.take_append_drop (moreF (mk1 (s.data.toList.drop pos)).r (marks (s.data.toList.drop (pos + (Utf8.decode s pos).2)))) (marks (s.data.toList.drop (pos + (Utf8.decode s pos).2))), bytes_append, List.length_append]
        simp
      omega

set_option maxRecDepth 1000000 in
set_option maxHeartbeats 2000000 in
theorem tokens_any (s : ByteArray) (hsz : s.size ≤ 1000000) (w : World) (g : Good w) :
    Calls Tryd.prog 10 #[.string s] w fun e w' => Tells (tokens s) e w' ∧ Later w w' := by
  obtain ⟨i0, hi, hz0, hz1, hz2⟩ := info_parts Tryd.infoTok
  go_enter Tryd.func10, Tryd.ntmps10
  go_wp2
  go_loopw [4, 5, 6, 7] (fun vt vl vc vb wr => ∃ (pos n l c b : Nat) (D : List Tok), vl = .int .i64 (l : Nat) ∧ vc = .int .i64 (c : Nat) ∧ vb = .int .i64 (b : Nat) ∧ wr.heap[w.heap.size]? = some (.cells #[.int .i64 0, .int .i64 0, .int .i64 0] 34) ∧ wr.heap[w.heap.size + 1]? = some (.stringIter s pos) ∧ wr.ownsRow (w.heap.size + 2) 74 4 vt D.length (flatC Tok.cells D) ∧ Later w wr ∧ Hid (b = pos + (bytes ((marks (s.data.toList.drop pos)).take n)).length) ∧ Hid (tk D n (marks (s.data.toList.drop pos)) l (c + 1) = tokens s) ∧ Hid (adv l (c + 1) (marks (s.data.toList.drop pos)) = adv 1 1 (marks s.data.toList)) ∧ pos ≤ s.size ∧ l ≤ pos + 1 ∧ c ≤ pos ∧ D.length ≤ pos) (fun _ _ _ _ wr => s.size - wr.iterPos (w.heap.size + 1))
  case atStart => exact ⟨0, 0, 1, 0, 0, [], rfl, rfl, rfl, (two_new w _ _).1, (two_new w _ _).2, World.ownsRow_nil _ _ _ _, Later.alloc (Later.alloc (Later.refl _) _) _, (by show _ = _; simp [bytes]), (by show _ = _; rw [List.drop_zero]; rfl), (by show _ = _; rw [List.drop_zero]), by omega, by omega, by omega, by simp⟩
  case round =>
    obtain ⟨pos, n, l, c, b, D, rfl, rfl, rfl, hbx, hit, hown, hlw, HB, HS, HA, hp, hlp, hcp, hDp⟩ := hrel
    have hpos0 := iterPos_of hit
    have go : ∀ {w'}, Later w w' → Good w' := fun h => g.later h
    by_cases hp : pos < s.size
    · have hnx : ∀ ty, (Instr.next (.pointer (some ⟨w.heap.size + 1, 0, none⟩)) true ty).run Tryd.prog wr = _ := fun ty => Lib.run_next_any_at wr (w.heap.size + 1) s pos ty hit hp
      have hd := decode_pos s pos hp
      have cb : ∀ w', Good w' → _ := fun w' (g' : Good w') => badAt_any s pos hp w' g'
      obtain ⟨x, R, X, hM, hR, hxr, hxb, hxd, cp, hwr, hXt, hXs⟩ := round_facts s hsz pos hp
      have hit2 := Lib.iterAt_heap wr (w.heap.size + 1) s pos (pos + (Utf8.decode s pos).2) hit
      have hlw2 : Later w _ := Lib.below_iterAt hlw (k := w.heap.size + 1) (by omega) s (pos + (Utf8.decode s pos).2)
      have hbx2 : (wr.iterAt (w.heap.size + 1) s (pos + (Utf8.decode s pos).2)).heap[w.heap.size]? = some (.cells #[.int .i64 0, .int .i64 0, .int .i64 0] 34) := by rw [Lib.iterAt_other _ _ _ _ _ (by omega)]; exact hbx
      have hown2 := ownsRow_iterAt hown (k := w.heap.size + 1) (by omega) s (pos + (Utf8.decode s pos).2)
      obtain ⟨W1, hW1⟩ : ∃ W1, W1 = wr.iterAt (w.heap.size + 1) s (pos + (Utf8.decode s pos).2) := ⟨_, rfl⟩
      rw [← hW1] at hnx hit2 hlw2 hbx2 hown2
      have hs := HS.out
      have ha := HA.out
      have hb := HB.out
      rw [hM] at hs ha hb
      have HA2 : Hid (adv (nl l x.r) (nc (c + 1) x.r) R = adv 1 1 (marks s.data.toList)) := ha
      have hkd := kind_le x.r
      have cw : ∀ w', Good w' → _ := fun w' (g' : Good w') => wrong_any (kindF x.r) hkd X (by omega) w' g'
      have cc := fun w' => clone_any X (by omega) w'
      rw [← hxd] at cb
      rw [← hxr] at cb cp hnx
      rw [← hxb] at hR hit2 hd
      have hd2 := hd.1
      have hd3 := hd.2.1
      clear hW1 hit hlw hbx hown HS HA HB ha hM hd hxd hxr
      have hpi : (pos : Int) ≤ (s.size : Int) := by omega
      by_cases hbd : x.bad = true
      · have HT : Hid (tokens s = .bad 1 l (c + 1)) := by
          show _ = _
          rw [← hs, tk_bad _ _ _ _ _ _ hbd]
        rw [hbd] at cb
        clear hs hb HA2 hwr hXt hR cp cw cc hown2 hit2
        generalize x.r = r at *
        go_wp2_with (go_at_call 31; refine (cb _ (go hlw2)).mono ?_; rintro e w2 ⟨rfl, hl2⟩; have L2 := Later.trans hlw2 hl2; have hbx3 := (hl2.block _ (lt_of_block hbx2)).trans hbx2; obtain ⟨b0, b1, b2, q0, q1, q2⟩ := box3_facts hbx3)
        obtain ⟨r0, r1, r2, -, -, -⟩ := box3_facts (box3_stored hbx3 (.int .i64 1) (.int .i64 (l : Nat)) (.int .i64 ((c : Int) + 1)))
        have L4 := Later.set3 L2 (Nat.le_refl _) (.int .i64 1) (.int .i64 (l : Nat)) (.int .i64 ((c : Int) + 1))
        generalize ((w2.setCell ⟨w.heap.size, 0, none⟩ (.int .i64 1)).setCell ⟨w.heap.size, 1, none⟩ (.int .i64 (l : Nat))).setCell ⟨w.heap.size, 2, none⟩ (.int .i64 ((c : Int) + 1)) = W4 at *
        (try simp only [Exit.inBlock, Exit.then])
        refine bodyPost_ret (by simp [results, Tryd.results10, go_sem, r0, r1, r2]; try rfl) rfl ?_
        refine ⟨?_, L4⟩
        rw [HT.out]
        rfl

      · have hbd0 : x.bad = false := by simpa using hbd
        rw [hbd0] at cb
        by_cases hr : x.r = 10
        · have e1 : nl l x.r = l + 1 := by simp [nl, hr]
          have e2 : nc (c + 1) x.r = 0 + 1 := by simp [nc, hr]
          have HA3 : Hid (adv (l + 1) (0 + 1) (marks (s.data.toList.drop (pos + x.b.length))) = adv 1 1 (marks s.data.toList)) := by
            show _ = _
            rw [← HA2.out, e1, e2, ← hR]
          clear HA2
          cases n with
          | succ m =>
            rw [tk_skip _ _ _ _ _ _ hbd0, e1, e2, hR] at hs
            rw [List.take_succ_cons, bytes_cons, List.length_append, ← Nat.add_assoc, hR] at hb
            have HT : Hid _ := hs
            have HB2 : Hid _ := hb
            have hbl : ¬ (b : Int) ≤ (pos : Int) := by omega
            clear hs hb hwr hXt hR cp cw cc hbd hbd0 e1 e2
            rw [hr] at cb hnx; (try rw [hr] at cp); generalize x.r = r at *
            generalize x.b.length = k at *
            go_wp2_with (go_at_call 31; refine (cb _ (go hlw2)).mono ?_; rintro e w2 ⟨rfl, hl2⟩; have L2 := Later.trans hlw2 hl2)
            have hit6 := (hl2.block _ (lt_of_block hit2)).trans hit2
            go_roundw
            case rel => exact ⟨pos + k, m, l + 1, 0, b, D, by go_num, by go_num, by go_num, (hl2.block _ (lt_of_block hbx2)).trans hbx2, hit6, ownsC_later hown2 hl2, L2, HB2, HT, HA3, by omega, by omega, by omega, by omega⟩
            case measure => rw [iterPos_of hit6, hpos0]; omega
          | zero =>
            have hbe : b = pos := by simpa [bytes] using hb
            subst hbe
            have hw := hwr hbd0
            by_cases hc0 : wrongF (kindF x.r) (moreF x.r R) (textF x R) = 0
            · rw [tk_new _ _ _ _ _ hbd0 hc0, e1, e2] at hs
              rw [hw, hc0] at cw
              have hk0 : kindF x.r ≠ 0 := fun h => by rw [h] at hc0; exact absurd hc0 (by simp [wrongF])
              have hX := hXt hk0
              have HB2 : Hid (b + X.size = b + x.b.length + (bytes ((marks (s.data.toList.drop (b + x.b.length))).take (moreF x.r R))).length) := by
                show _ = _
                rw [hX, ofL_size, ← hR]
                unfold textF
                rw [List.length_append, Nat.add_assoc]
              rw [← hX] at hs
              generalize moreF x.r R = mo at *
              rw [hR] at hs
              generalize kindF x.r = kd at *
              clear hb hwr hXt hR hbd hbd0 e1 e2 hw hc0 hX
              by_cases hk5 : kd = 5
              · subst hk5
                rw [if_pos rfl] at hs
                have HT : Hid _ := hs
                clear hs
                rw [hr] at cb hnx; (try rw [hr] at cp); generalize x.r = r at *
                generalize x.b.length = k at *
                rw [show goKind 5 = -1 from rfl] at cp cw
                go_wp2_with (first | (go_at_call 31; refine (cb _ (go hlw2)).mono ?_; rintro e w2 ⟨rfl, hl2⟩; have L2 := Later.trans hlw2 hl2) | (go_at_call 32; refine (cp _ (go L2)).mono ?_; rintro e w3 ⟨rfl, hl3⟩; have L3 := Later.trans L2 hl3) | (go_at_call 33; refine (cw _ (go L3)).mono ?_; rintro e w4 ⟨rfl, hl4⟩; have L4 := Later.trans L3 hl4; have l4 := Later.trans hl2 (Later.trans hl3 hl4); have hbx4 := (l4.block _ (lt_of_block hbx2)).trans hbx2; obtain ⟨b0, b1, b2, q0, q1, q2⟩ := box3_facts hbx4))
                have hit6 := (l4.block _ (lt_of_block hit2)).trans hit2
                go_roundw
                case rel => exact ⟨b + k, mo, l + 1, 0, b + X.size, D, by go_num, by go_num, by go_num, hbx4, hit6, ownsC_later hown2 l4, L4, HB2, HT, HA3, by omega, by omega, by omega, by omega⟩
                case measure => rw [iterPos_of hit6, hpos0]; omega
              · rw [if_neg hk5] at hs
                have HT : Hid _ := hs
                clear hs
                rw [hr] at cb hnx; (try rw [hr] at cp); generalize x.r = r at *
                generalize x.b.length = k at *
                rw [show goKind kd = (kd : Int) by simp [goKind, hk5]] at cp cw
                have hkm : ((kd : Int) != -1) = true := by simp only [bne_iff_ne, ne_eq]; omega
                go_wp2_with (first | (go_at_call 31; refine (cb _ (go hlw2)).mono ?_; rintro e w2 ⟨rfl, hl2⟩; have L2 := Later.trans hlw2 hl2) | (go_at_call 32; refine (cp _ (go L2)).mono ?_; rintro e w3 ⟨rfl, hl3⟩; have L3 := Later.trans L2 hl3) | (go_at_call 33; refine (cw _ (go L3)).mono ?_; rintro e w4 ⟨rfl, hl4⟩; have L4 := Later.trans L3 hl4; have l4 := Later.trans hl2 (Later.trans hl3 hl4); have hbx4 := (l4.block _ (lt_of_block hbx2)).trans hbx2; obtain ⟨b0, b1, b2, q0, q1, q2⟩ := box3_facts hbx4) | (go_at_call 34; refine (cc _).mono ?_; rintro e w5 ⟨rfl, hl5⟩; have L5 := Later.trans L4 hl5; have l5 := Later.trans l4 hl5; have hown5 := ownsC_later hown2 l5; have hit5 := (l5.block _ (lt_of_block hit2)).trans hit2; have hbx5 := (l5.block _ (lt_of_block hbx2)).trans hbx2) | (at_builtin; refine wpList_append_own _ rfl _ _ 31 rfl (w.heap.size + 2) 74 i0 (.agg #[.int .i64 0, .int .i64 0, .int .i64 0, .string ⟨#[]⟩]) 4 40 Tryd.underlying31 hi hz0 hz1 hz2 rfl (by decide) _ _ _ rfl (hown5.alloc _) ⟨w5.heap.size, 0, none⟩ 1 1 [.int .i64 (kd : Nat), .int .i64 (l : Nat), .int .i64 ((c : Int) + 1), .string X] rfl rfl (four_at _ _ rfl _ _ _ _ _) (fun x hx => by simp at hx; rcases hx with rfl | rfl | rfl | rfl <;> rfl) (by unfold maxLen; omega) (by omega) (by have := lt_of_block hit5; simp; omega) ?_; intro v' w6 hown' hgrow6 hnil6; have X6 := after_app L5 (by omega) hown5 hgrow6 hown'; clear hown' hgrow6 hnil6))
                have hit6 := X6.out.2.2 _ _ (by omega) hit5
                go_roundw
                case rel => exact ⟨b + k, mo, l + 1, 0, b + X.size, D ++ [⟨kd, l, c + 1, X⟩], by go_num, by go_num, by go_num, X6.out.2.2 _ _ (by omega) hbx5, hit6, (by rw [flatC_append, flatC_one, List.length_append]; exact X6.out.1), X6.out.2.1, HB2, HT, HA3, by omega, by omega, by omega, by simp; omega⟩
                case measure => rw [iterPos_of hit6, hpos0]; omega
            · rw [tk_wrong _ _ _ _ _ hbd0 hc0] at hs
              rw [← hw] at hs hc0
              have hc1 : ((wrongC (kindF x.r) X : Nat) : Int) ≠ 0 := by omega
              generalize wrongC (kindF x.r) X = cd at *
              have hc2 : ((cd : Int) != 0) = true := by simpa using hc1
              have HT : Hid (tokens s = .bad cd l (c + 1)) := hs.symm
              clear hs hb hwr hXt hR hbd hbd0 e1 e2 hw hc0 hc1 cc hXs
              generalize kindF x.r = kd at *
              rw [hr] at cb hnx; (try rw [hr] at cp); generalize x.r = r at *
              generalize x.b.length = k at *
              go_wp2_with (first | (go_at_call 31; refine (cb _ (go hlw2)).mono ?_; rintro e w2 ⟨rfl, hl2⟩; have L2 := Later.trans hlw2 hl2) | (go_at_call 32; refine (cp _ (go L2)).mono ?_; rintro e w3 ⟨rfl, hl3⟩; have L3 := Later.trans L2 hl3) | (go_at_call 33; refine (cw _ (go L3)).mono ?_; rintro e w4 ⟨rfl, hl4⟩; have L4 := Later.trans L3 hl4; have l4 := Later.trans hl2 (Later.trans hl3 hl4); have hbx4 := (l4.block _ (lt_of_block hbx2)).trans hbx2; obtain ⟨b0, b1, b2, q0, q1, q2⟩ := box3_facts hbx4))
              obtain ⟨r0, r1, r2, -, -, -⟩ := box3_facts (box3_stored hbx4 (.int .i64 (cd : Nat)) (.int .i64 (l : Nat)) (.int .i64 ((c : Int) + 1)))
              have L9 := Later.set3 L4 (Nat.le_refl _) (.int .i64 (cd : Nat)) (.int .i64 (l : Nat)) (.int .i64 ((c : Int) + 1))
              generalize ((w4.setCell ⟨w.heap.size, 0, none⟩ (.int .i64 (cd : Nat))).setCell ⟨w.heap.size, 1, none⟩ (.int .i64 (l : Nat))).setCell ⟨w.heap.size, 2, none⟩ (.int .i64 ((c : Int) + 1)) = W9 at *
              (try simp only [Exit.inBlock, Exit.then])
              refine bodyPost_ret (by simp [results, Tryd.results10, go_sem, r0, r1, r2]; try rfl) rfl ?_
              refine ⟨?_, L9⟩
              rw [HT.out]
              rfl
        · have e1 : nl l x.r = l := by simp [nl, hr]
          have e2 : nc (c + 1) x.r = c + 1 + 1 := by simp [nc, hr]
          have hr' : ((x.r : Int) == 10) = false := by simp; omega
          have HA3 : Hid (adv (l) (c + 1 + 1) (marks (s.data.toList.drop (pos + x.b.length))) = adv 1 1 (marks s.data.toList)) := by
            show _ = _
            rw [← HA2.out, e1, e2, ← hR]
          clear HA2
          cases n with
          | succ m =>
            rw [tk_skip _ _ _ _ _ _ hbd0, e1, e2, hR] at hs
            rw [List.take_succ_cons, bytes_cons, List.length_append, ← Nat.add_assoc, hR] at hb
            have HT : Hid _ := hs
            have HB2 : Hid _ := hb
            have hbl : ¬ (b : Int) ≤ (pos : Int) := by omega
            clear hs hb hwr hXt hR cp cw cc hbd hbd0 e1 e2
            generalize x.r = r at *
            generalize x.b.length = k at *
            go_wp2_with (go_at_call 31; refine (cb _ (go hlw2)).mono ?_; rintro e w2 ⟨rfl, hl2⟩; have L2 := Later.trans hlw2 hl2)
            have hit6 := (hl2.block _ (lt_of_block hit2)).trans hit2
            go_roundw
            case rel => exact ⟨pos + k, m, l, c + 1, b, D, by go_num, by go_num, by go_num, (hl2.block _ (lt_of_block hbx2)).trans hbx2, hit6, ownsC_later hown2 hl2, L2, HB2, HT, HA3, by omega, by omega, by omega, by omega⟩
            case measure => rw [iterPos_of hit6, hpos0]; omega
          | zero =>
            have hbe : b = pos := by simpa [bytes] using hb
            subst hbe
            have hw := hwr hbd0
            by_cases hc0 : wrongF (kindF x.r) (moreF x.r R) (textF x R) = 0
            · rw [tk_new _ _ _ _ _ hbd0 hc0, e1, e2] at hs
              rw [hw, hc0] at cw
              have hk0 : kindF x.r ≠ 0 := fun h => by rw [h] at hc0; exact absurd hc0 (by simp [wrongF])
              have hX := hXt hk0
              have HB2 : Hid (b + X.size = b + x.b.length + (bytes ((marks (s.data.toList.drop (b + x.b.length))).take (moreF x.r R))).length) := by
                show _ = _
                rw [hX, ofL_size, ← hR]
                unfold textF
                rw [List.length_append, Nat.add_assoc]
              rw [← hX] at hs
              generalize moreF x.r R = mo at *
              rw [hR] at hs
              generalize kindF x.r = kd at *
              clear hb hwr hXt hR hbd hbd0 e1 e2 hw hc0 hX
              by_cases hk5 : kd = 5
              · subst hk5
                rw [if_pos rfl] at hs
                have HT : Hid _ := hs
                clear hs
                generalize x.r = r at *
                generalize x.b.length = k at *
                rw [show goKind 5 = -1 from rfl] at cp cw
                go_wp2_with (first | (go_at_call 31; refine (cb _ (go hlw2)).mono ?_; rintro e w2 ⟨rfl, hl2⟩; have L2 := Later.trans hlw2 hl2) | (go_at_call 32; refine (cp _ (go L2)).mono ?_; rintro e w3 ⟨rfl, hl3⟩; have L3 := Later.trans L2 hl3) | (go_at_call 33; refine (cw _ (go L3)).mono ?_; rintro e w4 ⟨rfl, hl4⟩; have L4 := Later.trans L3 hl4; have l4 := Later.trans hl2 (Later.trans hl3 hl4); have hbx4 := (l4.block _ (lt_of_block hbx2)).trans hbx2; obtain ⟨b0, b1, b2, q0, q1, q2⟩ := box3_facts hbx4))
                have hit6 := (l4.block _ (lt_of_block hit2)).trans hit2
                go_roundw
                case rel => exact ⟨b + k, mo, l, c + 1, b + X.size, D, by go_num, by go_num, by go_num, hbx4, hit6, ownsC_later hown2 l4, L4, HB2, HT, HA3, by omega, by omega, by omega, by omega⟩
                case measure => rw [iterPos_of hit6, hpos0]; omega
              · rw [if_neg hk5] at hs
                have HT : Hid _ := hs
                clear hs
                generalize x.r = r at *
                generalize x.b.length = k at *
                rw [show goKind kd = (kd : Int) by simp [goKind, hk5]] at cp cw
                have hkm : ((kd : Int) != -1) = true := by simp only [bne_iff_ne, ne_eq]; omega
                go_wp2_with (first | (go_at_call 31; refine (cb _ (go hlw2)).mono ?_; rintro e w2 ⟨rfl, hl2⟩; have L2 := Later.trans hlw2 hl2) | (go_at_call 32; refine (cp _ (go L2)).mono ?_; rintro e w3 ⟨rfl, hl3⟩; have L3 := Later.trans L2 hl3) | (go_at_call 33; refine (cw _ (go L3)).mono ?_; rintro e w4 ⟨rfl, hl4⟩; have L4 := Later.trans L3 hl4; have l4 := Later.trans hl2 (Later.trans hl3 hl4); have hbx4 := (l4.block _ (lt_of_block hbx2)).trans hbx2; obtain ⟨b0, b1, b2, q0, q1, q2⟩ := box3_facts hbx4) | (go_at_call 34; refine (cc _).mono ?_; rintro e w5 ⟨rfl, hl5⟩; have L5 := Later.trans L4 hl5; have l5 := Later.trans l4 hl5; have hown5 := ownsC_later hown2 l5; have hit5 := (l5.block _ (lt_of_block hit2)).trans hit2; have hbx5 := (l5.block _ (lt_of_block hbx2)).trans hbx2) | (at_builtin; refine wpList_append_own _ rfl _ _ 31 rfl (w.heap.size + 2) 74 i0 (.agg #[.int .i64 0, .int .i64 0, .int .i64 0, .string ⟨#[]⟩]) 4 40 Tryd.underlying31 hi hz0 hz1 hz2 rfl (by decide) _ _ _ rfl (hown5.alloc _) ⟨w5.heap.size, 0, none⟩ 1 1 [.int .i64 (kd : Nat), .int .i64 (l : Nat), .int .i64 ((c : Int) + 1), .string X] rfl rfl (four_at _ _ rfl _ _ _ _ _) (fun x hx => by simp at hx; rcases hx with rfl | rfl | rfl | rfl <;> rfl) (by unfold maxLen; omega) (by omega) (by have := lt_of_block hit5; simp; omega) ?_; intro v' w6 hown' hgrow6 hnil6; have X6 := after_app L5 (by omega) hown5 hgrow6 hown'; clear hown' hgrow6 hnil6))
                have hit6 := X6.out.2.2 _ _ (by omega) hit5
                go_roundw
                case rel => exact ⟨b + k, mo, l, c + 1, b + X.size, D ++ [⟨kd, l, c + 1, X⟩], by go_num, by go_num, by go_num, X6.out.2.2 _ _ (by omega) hbx5, hit6, (by rw [flatC_append, flatC_one, List.length_append]; exact X6.out.1), X6.out.2.1, HB2, HT, HA3, by omega, by omega, by omega, by simp; omega⟩
                case measure => rw [iterPos_of hit6, hpos0]; omega
            · rw [tk_wrong _ _ _ _ _ hbd0 hc0] at hs
              rw [← hw] at hs hc0
              have hc1 : ((wrongC (kindF x.r) X : Nat) : Int) ≠ 0 := by omega
              generalize wrongC (kindF x.r) X = cd at *
              have hc2 : ((cd : Int) != 0) = true := by simpa using hc1
              have HT : Hid (tokens s = .bad cd l (c + 1)) := hs.symm
              clear hs hb hwr hXt hR hbd hbd0 e1 e2 hw hc0 hc1 cc hXs
              generalize kindF x.r = kd at *
              generalize x.r = r at *
              generalize x.b.length = k at *
              go_wp2_with (first | (go_at_call 31; refine (cb _ (go hlw2)).mono ?_; rintro e w2 ⟨rfl, hl2⟩; have L2 := Later.trans hlw2 hl2) | (go_at_call 32; refine (cp _ (go L2)).mono ?_; rintro e w3 ⟨rfl, hl3⟩; have L3 := Later.trans L2 hl3) | (go_at_call 33; refine (cw _ (go L3)).mono ?_; rintro e w4 ⟨rfl, hl4⟩; have L4 := Later.trans L3 hl4; have l4 := Later.trans hl2 (Later.trans hl3 hl4); have hbx4 := (l4.block _ (lt_of_block hbx2)).trans hbx2; obtain ⟨b0, b1, b2, q0, q1, q2⟩ := box3_facts hbx4))
              obtain ⟨r0, r1, r2, -, -, -⟩ := box3_facts (box3_stored hbx4 (.int .i64 (cd : Nat)) (.int .i64 (l : Nat)) (.int .i64 ((c : Int) + 1)))
              have L9 := Later.set3 L4 (Nat.le_refl _) (.int .i64 (cd : Nat)) (.int .i64 (l : Nat)) (.int .i64 ((c : Int) + 1))
              generalize ((w4.setCell ⟨w.heap.size, 0, none⟩ (.int .i64 (cd : Nat))).setCell ⟨w.heap.size, 1, none⟩ (.int .i64 (l : Nat))).setCell ⟨w.heap.size, 2, none⟩ (.int .i64 ((c : Int) + 1)) = W9 at *
              (try simp only [Exit.inBlock, Exit.then])
              refine bodyPost_ret (by simp [results, Tryd.results10, go_sem, r0, r1, r2]; try rfl) rfl ?_
              refine ⟨?_, L9⟩
              rw [HT.out]
              rfl
    · have hnx : ∀ ty, (Instr.next (.pointer (some ⟨w.heap.size + 1, 0, none⟩)) true ty).run Tryd.prog wr = _ := fun ty => Lib.run_next_end_at wr (w.heap.size + 1) s pos ty hit hp
      have hnil : marks (s.data.toList.drop pos) = [] := by rw [List.drop_of_length_le (by rw [size_len]; omega)]; rfl
      have hs := HS.out
      have ha := HA.out
      rw [hnil] at hs ha
      have ce := fun w' => end_any s hsz w'
      have e1 : (placeOf (spots s)).2.1 = l := by rw [end_marks, ← ha]; rfl
      have e2 : (placeOf (spots s)).2.2 = c + 1 := by rw [end_marks, ← ha]; rfl
      rw [e1, e2] at ce
      have HT : Hid (tokens s = .ok (D ++ [⟨4, l, c + 1, ofL []⟩])) := hs.symm
      clear hs ha e1 e2 HB HS HA hnil
      go_wp2_with (first
        | (go_at_call 35; refine (ce _).mono ?_; rintro e w2 ⟨rfl, hl2⟩; have L2 := Later.trans hlw hl2; have hown2 := ownsC_later hown hl2; have hbx2 := (hl2.block _ (lt_of_block hbx)).trans hbx)
        | (at_builtin; refine wpList_append_own _ rfl _ _ 31 rfl (w.heap.size + 2) 74 i0 (.agg #[.int .i64 0, .int .i64 0, .int .i64 0, .string ⟨#[]⟩]) 4 40 Tryd.underlying31 hi hz0 hz1 hz2 rfl (by decide) _ _ _ rfl (hown2.alloc _) ⟨w2.heap.size, 0, none⟩ 1 1 [.int .i64 4, .int .i64 (l : Nat), .int .i64 ((c + 1 : Nat) : Int), .string ⟨#[]⟩] rfl rfl (four_at _ _ rfl _ _ _ _ _) (fun x hx => by simp at hx; rcases hx with rfl | rfl | rfl | rfl <;> rfl) (by unfold maxLen; omega) (by omega) (by have := lt_of_block hit; have := hl2.size; simp; omega) ?_; intro v' w3 hown' hgrow3 hnil3; have X3 := after_app L2 (by omega) hown2 hgrow3 hown'; clear hown' hgrow3 hnil3; have hbx3 := X3.out.2.2 _ _ (by omega) hbx2; obtain ⟨b0, b1, b2, q0, q1, q2⟩ := box3_facts hbx3))
      obtain ⟨r0, r1, r2, -, -, -⟩ := box3_facts (box3_stored hbx3 (.int .i64 0) (.int .i64 0) (.int .i64 0))
      have L4 := Later.set3 X3.out.2.1 (Nat.le_refl _) (.int .i64 0) (.int .i64 0) (.int .i64 0)
      have HO := Lib.hid (owns_set3 (B := w.heap.size) X3.out.1 (by omega) (.int .i64 0) (.int .i64 0) (.int .i64 0))
      clear hbx3 X3 b0 b1 b2 q0 q1 q2 hown2 hbx2
      generalize ((w3.setCell ⟨w.heap.size, 0, none⟩ (.int .i64 0)).setCell ⟨w.heap.size, 1, none⟩ (.int .i64 0)).setCell ⟨w.heap.size, 2, none⟩ (.int .i64 0) = W4 at *
      (try simp only [Exit.inBlock, Exit.then])
      refine bodyPost_ret (by simp [results, Tryd.results10, go_sem, r0, r1, r2]; try rfl) rfl ?_
      refine ⟨?_, L4⟩
      rw [HT.out]
      obtain ⟨a, cap, rfl, hrow⟩ := crow_of_owns (by rw [List.length_append, flatC_length Tok.cells 4 Tok.cells_len]; simp; omega) HO.out
      exact ⟨a, cap, by simp, by rw [flatC_append, flatC_one]; exact hrow⟩

end Go.Proofs.YtfgnogdlkhagdaaDoor
