/-
  LexShown, as a tied card: of a program's text, with a byte of it another one, what lex.Tokens tells is what the document says, for every list of acts, every number and byte. Conditions: the listed variables of the library stand as the program's text lays them.
-/
import Derived.Test.YtfgnogdlkhagdaaDoorRows
import Derived.Test.YtfgnogdlkhagdaaDoorCards
import Derived.Test.YtfgnogdlkhagdaaDoorTie
import Derived.Test.YtfgnogdlkhagdaaDoorLaid
import Derived.Test.YtfgnogdlkhagdaaDoorJh
import Derived.Test.YtfgnogdlkhagdaaDoorJm
import Derived.Test.YtfgnogdlkhagdaaDoorRefTokens
import Derived.Test.YtfgnogdlkhagdaaDoorJn
import Derived.Test.YtfgnogdlkhagdaaDoorBookProg
import Derived.Test.YtfgnogdlkhagdaaDoorMadeRow
import Derived.Test.YtfgnogdlkhagdaaDoorShowSize
import Derived.Test.YtfgnogdlkhagdaaDoorOpensActs
import Derived.WalkKit
import Derived.ProofKit
import Derived.OpenShut
import Derived.SizedLaws
import Derived.ShutString
import Derived.Carry
import Derived.Stop.Joined
import Derived.SevenTiedAt
namespace Go.Proofs.YtfgnogdlkhagdaaDoor.lexShown
open Go.ChangeShapes Go.WideShapes Go.ChangeAt Go.RowKit
open Go.ChangeMaps (open_string shut_string)
set_option linter.unusedVariables false
set_option linter.unusedSimpArgs false

theorem own : ownKnob Tryd.prog.godebug = none := by kernel_rfl
theorem laidOut : laidOutB Tryd.prog = true := by kernel_rfl

/-- Bytes in memory, as the conversion of a text leaves them. -/
structure BytesAt (w : World) (G : Nat) (l : List UInt8) : Prop where
  cell : ∀ j (hj : j < l.length), w.cell? ⟨G, j, none⟩ = some (.int .u8 (l[j].toNat : Int))
  free : ∀ j, j < l.length → w.frozen? ⟨G, j, none⟩ = false

theorem BytesAt.later {w w' : World} {G : Nat} {l : List UInt8} (h : BytesAt w G l) (hl : Later w w') : BytesAt w' G l :=
  ⟨fun j hj => cell_later (h.cell j hj) hl, fun j hj => by
    have hb : w'.heap[G]? = w.heap[G]? := hl.block G (block_of_cell (h.cell j hj))
    have := h.free j hj
    unfold World.frozen? at this ⊢
    rw [show (⟨G, j, none⟩ : Addr).block = G from rfl] at *
    rw [hb]
    exact this⟩

theorem bytes_new (w : World) (s : ByteArray) : BytesAt (Lib.bytesWorld w 5 s) w.heap.size s.data.toList :=
  ⟨fun j hj => by
    have h1 : j < s.size := by rw [← bytes_size]; exact hj
    rw [Lib.bytesWorld_cell w _ s j h1, List.getD_eq_getElem?_getD, List.getElem?_eq_getElem hj]
    rfl,
   fun j hj => by
    have h1 : j < s.size := by rw [← bytes_size]; exact hj
    have h2 := Lib.bytesWorld_at_new w 5 s
    have h3 : s.size ≤ (Lib.bytesCells w 5 s).size := by
      unfold Lib.bytesCells
      rw [Array.size_append, Array.size_map]
      exact Nat.le_add_right _ _
    simp only [World.frozen?, h2]
    simp
    omega⟩

theorem BytesAt.set {w : World} {G : Nat} {l : List UInt8} (h : BytesAt w G l) (p : Nat) (hp : p < l.length) (n : Int) (hn : 0 ≤ n ∧ n < 256) : BytesAt (w.setCell ⟨G, p, none⟩ (.int .u8 n)) G (l.set p (UInt8.ofNat n.toNat)) := by
  obtain ⟨cs, t, fz, hG⟩ : ∃ cs t fz, w.heap[G]? = some (.cells cs t fz) := by
    have h1 := h.cell p hp
    unfold World.cell? at h1
    split at h1
    · rename_i cs t fz he
      exact ⟨cs, t, fz, he⟩
    · cases h1
  have hG' : (w.setCell ⟨G, p, none⟩ (.int .u8 n)).heap[G]? = some (.cells (cs.setIfInBounds p (.int .u8 n)) t fz) := by
    show (w.heap.modify G _)[G]? = _
    rw [Array.getElem?_modify, if_pos rfl, hG]
    rfl
  refine ⟨fun j hj => ?_, fun j hj => ?_⟩
  · rw [List.length_set] at hj
    have h1 := h.cell j hj
    simp only [World.cell?, hG] at h1
    simp only [World.cell?, hG']
    by_cases hjp : j = p
    · subst hjp
      have hlt : j < cs.size := by
        rcases Nat.lt_or_ge j cs.size with h' | h'
        · exact h'
        · rw [Array.getElem?_eq_none h'] at h1; cases h1
      simp only [List.getElem_set_self]
      rw [Array.getElem?_setIfInBounds_self_of_lt hlt]
      have e1 : ((UInt8.ofNat n.toNat).toNat : Int) = n := by
        have e2 : (UInt8.ofNat n.toNat).toNat = n.toNat % 256 := by simp
        rw [e2]
        omega
      rw [e1]
      rfl
    · rw [List.getElem_set_ne (fun e => hjp e.symm), Array.getElem?_setIfInBounds_ne (fun e => hjp e.symm)]
      exact h1
  · rw [List.length_set] at hj
    have h1 := h.free j hj
    simp only [World.frozen?, hG] at h1
    simp only [World.frozen?, hG']
    exact h1

theorem byte_of_wf {x : Int} (h : (Lit.int .u8 x).wf = true) : 0 ≤ x ∧ x < 256 := by
  have h1 : IntKind.u8.min = 0 := rfl
  have h2 : IntKind.u8.max = 255 := rfl
  simp only [Lit.wf, Bool.and_eq_true, decide_eq_true_eq] at h
  omega

theorem run_back (w : World) (G : Nat) (cap : Nat) (l : List UInt8) (h : BytesAt w G l) : (convert 23 9 (.slice (some ⟨G, 0, none⟩) l.length cap)).run Tryd.prog w = .ok (.string ⟨l.toArray⟩) w :=
  run_convert_bytes_back w _ _ 5 _ cap l Tryd.underlying23 Tryd.underlying5 Tryd.underlying9 (fun j hj => by
    rw [Go.WideShapes.add_plain, Nat.zero_add]
    exact h.cell j hj)

set_option maxRecDepth 1000000 in
set_option maxHeartbeats 4000000 in
theorem walk (w : World) (g : Good w) (v : Value) (l : List (List Act5)) (ia : ActsRow w v l) (at0 : Int) (hat : I64 at0) (by0 : Int) (hby : 0 ≤ by0 ∧ by0 < 256) :
    Calls Tryd.prog 3 #[v, .int .i64 at0, .int .u8 by0] w fun e w' => e = .returned (.bool true) ∧ Later w w' := by
  have cB := bookProg_any v l 2 5 (by omega) (by omega) w ia
  rw [show ((2 : Nat) : Int) = 2 from rfl, show ((5 : Nat) : Int) = 5 from rfl] at cB
  have HG : Hid (Good w) := g
  have kc := fun (X : ByteArray) (w : World) => Lib.run_convert_string_bytes (P := Tryd.prog) w 9 23 5 X Tryd.underlying9 Tryd.underlying23 Tryd.underlying5
  clear ia g
  go_enter Tryd.func3, Tryd.ntmps3
  go_upto_region 2 with (first
    | (go_at_call 8; go_loud (apply Calls.mono; (focus (with_reducible (exact cB))); rintro e w1 ⟨tv, vs, P, rfl, hl1, hx, ho, hm⟩; obtain ⟨q0, q1, rfl⟩ := owns_slice ho; have hmv := made_valid (b := w.heap.size) (by omega) (by omega) (Nat.min_le_left l.length 2) hm; have hsm := made_small (b := w.heap.size) (by omega) (by omega) (Nat.min_le_left l.length 2) hm; have hnear := progL_near hsm (by simp [xyz]) (by rw [hm.plen]; omega); have cS := refShow_any (.slice (some ⟨w.heap.size + 1 + 1 + 1, 0, none⟩) 3 3) (.slice q0 (min l.length 2) q1) (xyz w.heap.size) P w1 hx.row (made_row (Nat.min_le_left l.length 2) ho hm) hmv.2 (progL_length hsm); obtain ⟨X, hX⟩ : ∃ X, X = (⟨(progL (xyz w.heap.size) P).toArray⟩ : ByteArray) := ⟨_, rfl⟩; rw [← hX] at cS; have hXs : X.size ≤ 200000 := (by rw [hX]; exact hnear); clear hmv hsm hnear hX hx ho hm))
    | (go_at_call 7; apply Calls.mono; (focus (with_reducible (exact cS))); rintro e w2 ⟨rfl, hl2⟩; have kx := kc X w2))
  have L2 := (hl1.trans hl2).trans (Lib.bytesWorld_below w2 5 X)
  have hB2 := bytes_new w2 X
  have hG2 : w.heap.size ≤ w2.heap.size := (hl1.trans hl2).size
  have hsz : X.data.toList.length = X.size := bytes_size X
  generalize Lib.bytesWorld w2 5 X = W2 at *
  generalize grownCap w2 X.size 0 5 = cap at *
  generalize w2.heap.size = G at *
  clear kc kx cB cS hl1 hl2
  generalize X.data.toList = bs at *
  rw [← hsz] at hXs ⊢
  clear hsz
  rcases Nat.eq_zero_or_pos bs.length with h0 | hpos
  · obtain rfl : bs = [] := List.length_eq_zero_iff.1 h0
    rw [show ([] : List UInt8).length = 0 from rfl]
    clear h0
    go_upto_region 4 with (fail)
    obtain ⟨W3, rfl⟩ : ∃ W3, W3 = W2 := ⟨_, rfl⟩
    have L3 := L2
    have hB3 := hB2
    obtain ⟨ys, hyy⟩ : ∃ ys : List UInt8, ys = [] := ⟨_, rfl⟩
    rw [← hyy] at hB3
    have hys : ys.length = 0 := by rw [hyy]; rfl
    clear hyy hB2 L2
    have kb := run_back W3 G cap ys hB3
    have kback : ∀ w', Later W3 w' → _ := fun w' (h : Later W3 w') => run_back w' G cap ys (hB3.later h)
    rw [hys] at kb kback
    obtain ⟨Y, hY⟩ : ∃ Y, Y = (⟨ys.toArray⟩ : ByteArray) := ⟨_, rfl⟩
    rw [← hY] at kb kback
    have hYs : Y.size ≤ 200000 := by
      rw [hY]
      show ys.toArray.size ≤ _
      rw [List.size_toArray]
      omega
    have cT : ∀ w', Good w' → _ := fun w' (g' : Good w') => tokens_any Y (by omega) w' g'
    have cR := fun w' => refTokens_any Y (by omega) w'
    have hst := tokens_stand Y
    have hlen := spots_len Y
    have hlenS : (spots Y).length ≤ 200000 := by rw [hlen]; have := bytes_le Y (marks Y.data.toList) [] (by simp); omega
    clear hY hB3 hys
    generalize tokens Y = o at *
    cases o with
    | ok T =>
      have hT : T.length ≤ 1000001 := by
        have := (hst T rfl).len
        rw [← hlen] at this
        simp at this
        omega
      clear hst hlen hlenS
      go_upto_region 5 with (go_at_call 10; apply Calls.mono; (focus (with_reducible (exact cT _ (HG.out.later L3)))); rintro e w4 ⟨⟨a, cap, rfl, hra⟩, hl4⟩)
      have L4 := Later.alloc (L3.trans hl4) (.cells #[.int .i64 0, .int .i64 0, .int .i64 0] 34)
      have H4 := at_new w4 (.cells #[.int .i64 0, .int .i64 0, .int .i64 0] 34)
      have M4 := Later.alloc hl4 (.cells #[.int .i64 0, .int .i64 0, .int .i64 0] 34)
      have kb5 := kback _ M4
      have hra5 := hra.later (Later.alloc (Later.refl w4) (.cells #[.int .i64 0, .int .i64 0, .int .i64 0] 34))
      clear kb L3
      generalize hg4 : w4.heap.size = n4 at *
      generalize w4.alloc (.cells #[.int .i64 0, .int .i64 0, .int .i64 0] 34) = W4 at *
      clear hg4
      go_upto_region 6 with (go_at_call 11; apply Calls.mono; (focus (with_reducible (exact cR _))); rintro e w6 ⟨⟨b, capb, rfl, hrb⟩, hl6⟩)
      have L6 := Later.alloc (L4.trans hl6) (.cells #[.int .i64 0, .int .i64 0, .int .i64 0] 34)
      have lx := Later.alloc hl6 (.cells #[.int .i64 0, .int .i64 0, .int .i64 0] 34)
      have hra6 := hra5.later lx
      have hrb6 := hrb.later (Later.alloc (Later.refl w6) (.cells #[.int .i64 0, .int .i64 0, .int .i64 0] 34))
      obtain ⟨c0, c1, c2, -, -, -⟩ := box3_facts (heap_later lx H4)
      obtain ⟨f0, f1, f2, -, -, -⟩ := box3_facts (at_new w6 (.cells #[.int .i64 0, .int .i64 0, .int .i64 0] 34))
      clear lx H4 kb5 L4 kback cT cR
      generalize w6.alloc (.cells #[.int .i64 0, .int .i64 0, .int .i64 0] 34) = W6 at *
      go_wp2_with (first
        | (go_at_call 12; refine (lexSame_any _ T _ _ _ _ hT hra6 hrb6).mono ?_; rintro e w7 ⟨rfl, hl7⟩; have d0 := cell_later c0 hl7; have d1 := cell_later c1 hl7; have d2 := cell_later c2 hl7; have e0 := cell_later f0 hl7; have e1 := cell_later f1 hl7; have e2 := cell_later f2 hl7; have L7 := Later.trans L6 hl7)
        | (go_at_call 13; refine (lexAlive_any _ (HG.out.later L7)).mono ?_; rintro e w8 ⟨rfl, hl8⟩))
      go_ret
      exact ⟨by simp, Later.trans L7 hl8⟩
    | error p =>
      obtain ⟨k, l, c⟩ := p
      have cN : ∀ w', Calls Tryd.prog 12 #[.slice none 0 0, .slice none 0 0] w' fun e w'' => e = .returned (.bool true) ∧ Later w' w'' := fun w' => lexSame_any w' [] none none 0 0 (by simp) (CRow.nil _ _) (CRow.nil _ _)
      clear hst hlen hlenS
      go_upto_region 5 with (go_at_call 10; apply Calls.mono; (focus (with_reducible (exact cT _ (HG.out.later L3)))); rintro e w4 ⟨hres, hl4⟩; obtain rfl : e = _ := hres)
      have L4 := Later.alloc (L3.trans hl4) (.cells #[.int .i64 (k : Nat), .int .i64 (l : Nat), .int .i64 (c : Nat)] 34)
      have H4 := at_new w4 (.cells #[.int .i64 (k : Nat), .int .i64 (l : Nat), .int .i64 (c : Nat)] 34)
      have M4 := Later.alloc hl4 (.cells #[.int .i64 (k : Nat), .int .i64 (l : Nat), .int .i64 (c : Nat)] 34)
      have kb5 := kback _ M4
      clear kb L3
      generalize hg4 : w4.heap.size = n4 at *
      generalize w4.alloc (.cells #[.int .i64 (k : Nat), .int .i64 (l : Nat), .int .i64 (c : Nat)] 34) = W4 at *
      clear hg4
      go_upto_region 6 with (go_at_call 11; apply Calls.mono; (focus (with_reducible (exact cR _))); rintro e w6 ⟨hres, hl6⟩; obtain rfl : e = _ := hres)
      have L6 := Later.alloc (L4.trans hl6) (.cells #[.int .i64 (k : Nat), .int .i64 (l : Nat), .int .i64 (c : Nat)] 34)
      have lx := Later.alloc hl6 (.cells #[.int .i64 (k : Nat), .int .i64 (l : Nat), .int .i64 (c : Nat)] 34)
      obtain ⟨c0, c1, c2, -, -, -⟩ := box3_facts (heap_later lx H4)
      obtain ⟨f0, f1, f2, -, -, -⟩ := box3_facts (at_new w6 (.cells #[.int .i64 (k : Nat), .int .i64 (l : Nat), .int .i64 (c : Nat)] 34))
      clear lx H4 kb5 L4 kback cT cR
      generalize w6.alloc (.cells #[.int .i64 (k : Nat), .int .i64 (l : Nat), .int .i64 (c : Nat)] 34) = W6 at *
      go_wp2_with (first
        | (go_at_call 12; apply Calls.mono; (focus (with_reducible (exact cN _))); rintro e w7 ⟨rfl, hl7⟩; have d0 := cell_later c0 hl7; have d1 := cell_later c1 hl7; have d2 := cell_later c2 hl7; have e0 := cell_later f0 hl7; have e1 := cell_later f1 hl7; have e2 := cell_later f2 hl7; have L7 := Later.trans L6 hl7)
        | (go_at_call 13; refine (lexAlive_any _ (HG.out.later L7)).mono ?_; rintro e w8 ⟨rfl, hl8⟩))
      go_ret
      exact ⟨by simp, Later.trans L7 hl8⟩
  · obtain ⟨p, hp, hpn⟩ := pick_nat at0 bs.length hpos
    have cP : ∀ w', Calls Tryd.prog 9 #[.int .i64 at0, .int .i64 (bs.length : Nat)] w' fun e w'' => e = .returned (.int .i64 (p : Nat)) ∧ w'' = w' := fun w' => (pick_any at0 bs.length hat (by omega) w').mono fun e w'' h => ⟨by rw [h.1, hp], h.2⟩
    have hce := hB2.cell p hpn
    have hfr := hB2.free p hpn
    have hpi : (p : Int) < bs.length := by omega
    have hgt : decide ((0 : Int) < bs.length) = true := by simp; omega
    clear hp
    go_upto_region 4 with (go_at_call 9; apply Calls.mono; (focus (with_reducible (exact cP _))); rintro e wn ⟨rfl, hr⟩; obtain rfl := hr.symm)
    have L3 : Later w (W2.setCell ⟨G, p, none⟩ (.int .u8 by0)) := Below.setCell L2 hG2 _
    have hB3 := hB2.set p hpn by0 hby
    have hys : (bs.set p (UInt8.ofNat by0.toNat)).length = bs.length := List.length_set ..
    generalize W2.setCell ⟨G, p, none⟩ (.int .u8 by0) = W3 at *
    generalize bs.set p (UInt8.ofNat by0.toNat) = ys at *
    clear hce hfr hB2 L2 cP hpn hpi hgt
    have kb := run_back W3 G cap ys hB3
    have kback : ∀ w', Later W3 w' → _ := fun w' (h : Later W3 w') => run_back w' G cap ys (hB3.later h)
    rw [hys] at kb kback
    obtain ⟨Y, hY⟩ : ∃ Y, Y = (⟨ys.toArray⟩ : ByteArray) := ⟨_, rfl⟩
    rw [← hY] at kb kback
    have hYs : Y.size ≤ 200000 := by
      rw [hY]
      show ys.toArray.size ≤ _
      rw [List.size_toArray]
      omega
    have cT : ∀ w', Good w' → _ := fun w' (g' : Good w') => tokens_any Y (by omega) w' g'
    have cR := fun w' => refTokens_any Y (by omega) w'
    have hst := tokens_stand Y
    have hlen := spots_len Y
    have hlenS : (spots Y).length ≤ 200000 := by rw [hlen]; have := bytes_le Y (marks Y.data.toList) [] (by simp); omega
    clear hY hB3 hys
    generalize tokens Y = o at *
    cases o with
    | ok T =>
      have hT : T.length ≤ 1000001 := by
        have := (hst T rfl).len
        rw [← hlen] at this
        simp at this
        omega
      clear hst hlen hlenS
      go_upto_region 5 with (go_at_call 10; apply Calls.mono; (focus (with_reducible (exact cT _ (HG.out.later L3)))); rintro e w4 ⟨⟨a, cap, rfl, hra⟩, hl4⟩)
      have L4 := Later.alloc (L3.trans hl4) (.cells #[.int .i64 0, .int .i64 0, .int .i64 0] 34)
      have H4 := at_new w4 (.cells #[.int .i64 0, .int .i64 0, .int .i64 0] 34)
      have M4 := Later.alloc hl4 (.cells #[.int .i64 0, .int .i64 0, .int .i64 0] 34)
      have kb5 := kback _ M4
      have hra5 := hra.later (Later.alloc (Later.refl w4) (.cells #[.int .i64 0, .int .i64 0, .int .i64 0] 34))
      clear kb L3
      generalize hg4 : w4.heap.size = n4 at *
      generalize w4.alloc (.cells #[.int .i64 0, .int .i64 0, .int .i64 0] 34) = W4 at *
      clear hg4
      go_upto_region 6 with (go_at_call 11; apply Calls.mono; (focus (with_reducible (exact cR _))); rintro e w6 ⟨⟨b, capb, rfl, hrb⟩, hl6⟩)
      have L6 := Later.alloc (L4.trans hl6) (.cells #[.int .i64 0, .int .i64 0, .int .i64 0] 34)
      have lx := Later.alloc hl6 (.cells #[.int .i64 0, .int .i64 0, .int .i64 0] 34)
      have hra6 := hra5.later lx
      have hrb6 := hrb.later (Later.alloc (Later.refl w6) (.cells #[.int .i64 0, .int .i64 0, .int .i64 0] 34))
      obtain ⟨c0, c1, c2, -, -, -⟩ := box3_facts (heap_later lx H4)
      obtain ⟨f0, f1, f2, -, -, -⟩ := box3_facts (at_new w6 (.cells #[.int .i64 0, .int .i64 0, .int .i64 0] 34))
      clear lx H4 kb5 L4 kback cT cR
      generalize w6.alloc (.cells #[.int .i64 0, .int .i64 0, .int .i64 0] 34) = W6 at *
      go_wp2_with (first
        | (go_at_call 12; refine (lexSame_any _ T _ _ _ _ hT hra6 hrb6).mono ?_; rintro e w7 ⟨rfl, hl7⟩; have d0 := cell_later c0 hl7; have d1 := cell_later c1 hl7; have d2 := cell_later c2 hl7; have e0 := cell_later f0 hl7; have e1 := cell_later f1 hl7; have e2 := cell_later f2 hl7; have L7 := Later.trans L6 hl7)
        | (go_at_call 13; refine (lexAlive_any _ (HG.out.later L7)).mono ?_; rintro e w8 ⟨rfl, hl8⟩))
      go_ret
      exact ⟨by simp, Later.trans L7 hl8⟩
    | error p =>
      obtain ⟨k, l, c⟩ := p
      have cN : ∀ w', Calls Tryd.prog 12 #[.slice none 0 0, .slice none 0 0] w' fun e w'' => e = .returned (.bool true) ∧ Later w' w'' := fun w' => lexSame_any w' [] none none 0 0 (by simp) (CRow.nil _ _) (CRow.nil _ _)
      clear hst hlen hlenS
      go_upto_region 5 with (go_at_call 10; apply Calls.mono; (focus (with_reducible (exact cT _ (HG.out.later L3)))); rintro e w4 ⟨hres, hl4⟩; obtain rfl : e = _ := hres)
      have L4 := Later.alloc (L3.trans hl4) (.cells #[.int .i64 (k : Nat), .int .i64 (l : Nat), .int .i64 (c : Nat)] 34)
      have H4 := at_new w4 (.cells #[.int .i64 (k : Nat), .int .i64 (l : Nat), .int .i64 (c : Nat)] 34)
      have M4 := Later.alloc hl4 (.cells #[.int .i64 (k : Nat), .int .i64 (l : Nat), .int .i64 (c : Nat)] 34)
      have kb5 := kback _ M4
      clear kb L3
      generalize hg4 : w4.heap.size = n4 at *
      generalize w4.alloc (.cells #[.int .i64 (k : Nat), .int .i64 (l : Nat), .int .i64 (c : Nat)] 34) = W4 at *
      clear hg4
      go_upto_region 6 with (go_at_call 11; apply Calls.mono; (focus (with_reducible (exact cR _))); rintro e w6 ⟨hres, hl6⟩; obtain rfl : e = _ := hres)
      have L6 := Later.alloc (L4.trans hl6) (.cells #[.int .i64 (k : Nat), .int .i64 (l : Nat), .int .i64 (c : Nat)] 34)
      have lx := Later.alloc hl6 (.cells #[.int .i64 (k : Nat), .int .i64 (l : Nat), .int .i64 (c : Nat)] 34)
      obtain ⟨c0, c1, c2, -, -, -⟩ := box3_facts (heap_later lx H4)
      obtain ⟨f0, f1, f2, -, -, -⟩ := box3_facts (at_new w6 (.cells #[.int .i64 (k : Nat), .int .i64 (l : Nat), .int .i64 (c : Nat)] 34))
      clear lx H4 kb5 L4 kback cT cR
      generalize w6.alloc (.cells #[.int .i64 (k : Nat), .int .i64 (l : Nat), .int .i64 (c : Nat)] 34) = W6 at *
      go_wp2_with (first
        | (go_at_call 12; apply Calls.mono; (focus (with_reducible (exact cN _))); rintro e w7 ⟨rfl, hl7⟩; have d0 := cell_later c0 hl7; have d1 := cell_later c1 hl7; have d2 := cell_later c2 hl7; have e0 := cell_later f0 hl7; have e1 := cell_later f1 hl7; have e2 := cell_later f2 hl7; have L7 := Later.trans L6 hl7)
        | (go_at_call 13; refine (lexAlive_any _ (HG.out.later L7)).mono ?_; rintro e w8 ⟨rfl, hl8⟩))
      go_ret
      exact ⟨by simp, Later.trans L7 hl8⟩

set_option maxRecDepth 100000 in
theorem lifted (os : Os) (started : os.Started) (H : Type) (enc : TypeId × Value → H) :
    ReturnsInHanded {} Tryd.checked os 3 .any (fun w args => (Rows.lexShownSpec.pre enc Tryd.prog Tryd.f3 [] false w args ∧ laidMetH Tryd.prog theList w) ∧ sizedMet enc Tryd.prog Tryd.f3 (OpenSpec.ofChange Rows.lexShownSpec) false w args)
      (Rows.lexShownSpec.post enc Tryd.prog Tryd.f3 false true false false) := by
  refine returnsInHanded_of_change_and (C := Tryd.checked) (X := fun w _ => laidMetH Tryd.prog theList w) (fun _ _ _ hh h => h.of_heap hh) own started (by kernel_rfl) Tryd.func3
    (ChangeSpec.witness_shaped (enc := enc) (C := Tryd.checked) (os := os) (X := fun w _ => laidMetH Tryd.prog theList w) false (World.laidAll Tryd.prog os theList) #[.slice none 0 0, .int .i64 0, .int .u8 0] 8 (World.laidAll_os _ _ _) (World.shaped_of_ZipB (by kernel_rfl) (by kernel_rfl)) (by kernel_rfl) (by kernel_rfl) (by kernel_rfl) (door_met os _)) ?_
  intro W base args ds gs before hval0 hW _ hsz0 hL _
  have hsz : (DataW.weightsEach Tryd.prog (Tryd.f3.params.toList ++ Rows.lexShownSpec.plain.varTypes Tryd.prog) (ds ++ gs)).all (· ≤ reachBytes) = true := hsz0
  clear hsz0
  have hval : ∀ (j : Nat) t v, Tryd.f3.params[j]? = some t → args[j]? = some v → Value.okWide Tryd.prog W .any base t v := hval0
  have hW' := hW
  obtain ⟨p, q, hA0, hV, rfl, hfz, hnd⟩ := hW
  have hA : DataW.TrodAll enc Tryd.prog W 0 (fun _ => true) true Tryd.f3.params.toList args.toList ds p := hA0
  rw [Tryd.params3] at hA hval hsz
  obtain ⟨v0, vs0, d0, ds0, p0, q0, hargs, rfl, rfl, h0, r0⟩ := trodAll_cons hA
  obtain ⟨v1, vs1, d1, ds1, p1, q1, rfl, rfl, rfl, h1, r1⟩ := trodAll_cons r0
  obtain ⟨v2, vs2, d2, ds2, p2, q2, rfl, rfl, rfl, h2, r2⟩ := trodAll_cons r1
  obtain ⟨rfl, rfl, rfl⟩ := trodAll_nil r2
  obtain rfl : args = #[v0, v1, v2] := by cases args; simp_all
  obtain ⟨rfl, rfl⟩ := trodVars_none hV
  simp only [List.append_nil] at hW'
  have h0k := h0
  have hlt0 : ∀ x ∈ p0, x.block < W.heap.size := fun x hx => by simpa using hW'.lt x (by simp [hx])
  obtain ⟨l0, ia0⟩ := open_acts (hval 0 22 v0 rfl rfl) h0
  obtain ⟨a1, rfl, rfl, rfl, w1⟩ := open_int Tryd.underlying3 (hval 1 3 v1 rfl rfl) h1
  obtain ⟨a2, rfl, rfl, rfl, w2⟩ := open_int Tryd.underlying5 (hval 2 5 v2 rfl rfl) h2
  clear hA0 hval0
  refine (walk W (Good.of_laid hL) _ l0 ia0 a1 (int64_of_wf w1) a2 (byte_of_wf w2)).mono fun e W' ⟨he, hnx⟩ => ?_
  subst he
  refine ⟨_, rfl, _, _, _, [], (p0 ++ ([] ++ ([] ++ []))), [], hW', ?_, ?_, rfl, Below.frame hnx _, fun h => by cases h⟩
  · exact (trodAll_cons_mk (shut_bool Tryd.underlying4 _) trodAll_mk0)
  · exact (trodAll_cons_mk (Below.trod laidOut (by kernel_rfl) (of_decide_eq_true (by kernel_rfl)) h0k hnx hlt0) (trodAll_cons_mk (shut_int Tryd.underlying3 w1) (trodAll_cons_mk (shut_int Tryd.underlying5 w2) trodAll_mk0)))

theorem over : Rows.lexShownRow.holds Tryd.pinned (OpenSpec.ofChange Rows.lexShownSpec) :=
  OpenClaim.holds_of_wide 3 Tryd.f3 rfl rfl rfl rfl rfl rfl rfl ⟨rfl, rfl, rfl, rfl, rfl⟩ rfl rfl rfl rfl rfl (by kernel_rfl) Tryd.func3 (by kernel_rfl)
    (of_decide_eq_true (by kernel_rfl)) (by unfold Func.isWrapper; first | (rw [if_pos (by decide +kernel)]; kernel_rfl) | (rw [if_neg (by decide +kernel)]; exact ⟨rfl, rfl⟩))
    (fun os started H enc _ => lifted os started H enc)

end Go.Proofs.YtfgnogdlkhagdaaDoor.lexShown

namespace Go.Proofs.YtfgnogdlkhagdaaDoor
open Go
/-- The statement: the row, with its listed variables tied to the program's text. -/
theorem lexShown_holds : Rows.LexShownCardSaid :=
  Claim7.holds_tied_plain_at .later [] [.data, .data, .data, .data, .sentinel, .sentinel, .pinned] true Rows.lexShownCard.stood.harness true
    lexShown.over (fun _ h => by cases h) (by kernel_rfl) (fun _ h => by cases h) lexShown_row_tie rfl ⟨rfl, rfl⟩ (by kernel_rfl) rfl
    (fun f fn hf hfn => by
      obtain rfl : f = 3 := Option.some.inj ((show Tryd.prog.funcNamed Rows.lexShownRow.func = some 3 by kernel_rfl).symm.trans hf) |>.symm
      obtain rfl : fn = Tryd.f3 := (Option.some.inj (Tryd.func3.symm.trans hfn)).symm
      exact ⟨by kernel_rfl, fun j t ht => by
        rw [Tryd.params3] at ht
        have hm : t ∈ [22, 3, 5] := by simpa using Array.mem_of_getElem? ht
        have hall : ([22, 3, 5].all fun u => !Tryd.prog.wantsStandIn u) = true := by kernel_rfl
        exact (show Tryd.prog.wantsStandIn t = false by simpa using List.all_eq_true.1 hall t hm)⟩)
    (by kernel_rfl)
#print axioms lexShown_holds
end Go.Proofs.YtfgnogdlkhagdaaDoor
