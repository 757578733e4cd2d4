/-
  What package num's two functions do, for every number of 64 bits and every text of at most 2 to the 48th bytes, in every world in which the listed variables stand: Text returns the number's decimal text; Read returns the number whose text it is, or 0 and false; nothing that was in memory turns. And alive returns true.
-/
import Derived.Test.YtfgnogdlkhagdaaDoorLaid
import Derived.Test.YtfgnogdlkhagdaaDoorJa
namespace Go.Proofs.YtfgnogdlkhagdaaDoor
open Go.RowKit

theorem text_any (n : Int) (h0 : -9223372036854775808 ≤ n) (h1 : n ≤ 9223372036854775807) (w : World) (g : Good w) :
    Calls Tryd.prog 107 #[.int .i64 n] w fun e w' => e = .returned (.string (txt n)) ∧ Later w w' := by
  have ht := g.tab
  go_enter Tryd.func107, Tryd.ntmps107
  go_wp2_with (go_at_call 129; refine (Tryd.strconv_FormatInt_10 n h0 h1 _ ht).mono ?_; rintro e w' ⟨rfl, k, os, rfl⟩)
  go_ret
  exact ⟨rfl, Later.grow _ _ _⟩

theorem read_any (s : ByteArray) (hs : s.size ≤ 281474976710656) (w : World) (g : Good w) :
    Calls Tryd.prog 80 #[.string s] w fun e w' => e = .returned (.tuple #[.int .i64 (valOf s.data.toList), .bool (okOf s.data.toList)]) ∧ Later w w' := by
  cases h : Lib.atoiAll s.data.toList with
  | ok v =>
    have hb := Lib.atoiAll_bounds h
    have h64 : Lib.parseIntB 64 s.data.toList = .ok v := by rw [Lib.parseIntB_64]; exact h
    by_cases he : Lib.itoa v = s.data.toList
    · have e1 : valOf s.data.toList = v := by simp only [valOf, h, he, if_true]
      have e2 : okOf s.data.toList = true := by simp only [okOf, h, he, decide_true]
      have e3 := txt_eq he
      rw [e1, e2]
      clear e1 e2 he h
      go_enter Tryd.func80, Tryd.ntmps80
      go_wp2_with (first | (go_at_call 119; refine (Tryd.strconv_ParseInt_10_at64_ok s (by omega) v h64 _).mono ?_; rintro e w' ⟨rfl, hw⟩; have hl : Later w w' := (by rcases hw with rfl | ⟨t, rfl⟩; exact Later.refl _; exact Later.bytes _ _)) | (go_at_call 107; refine (text_any v hb.1 hb.2 _ (g.later ‹Later w _›)).mono ?_; rintro e w'' ⟨rfl, hl2⟩; rw [e3]))
      go_ret2
      exact ⟨rfl, hl.trans hl2⟩
    · have e1 : valOf s.data.toList = 0 := by simp only [valOf, h, he, if_false]
      have e2 : okOf s.data.toList = false := by simp only [okOf, h, he, decide_false]
      have e3 : ((txt v).toList == s.toList) = false := by rw [ByteArray.toList_eq, ByteArray.toList_eq, txt_list]; simpa using he
      rw [e1, e2]
      clear e1 e2 he h
      go_enter Tryd.func80, Tryd.ntmps80
      go_wp2_with (first | (go_at_call 119; refine (Tryd.strconv_ParseInt_10_at64_ok s (by omega) v h64 _).mono ?_; rintro e w' ⟨rfl, hw⟩; have hl : Later w w' := (by rcases hw with rfl | ⟨t, rfl⟩; exact Later.refl _; exact Later.bytes _ _)) | (go_at_call 107; refine (text_any v hb.1 hb.2 _ (g.later ‹Later w _›)).mono ?_; rintro e w'' ⟨rfl, hl2⟩))
      go_ret2
      exact ⟨rfl, hl.trans hl2⟩
  | «syntax» =>
    have e1 : valOf s.data.toList = 0 := by simp only [valOf, h]
    have e2 : okOf s.data.toList = false := by simp only [okOf, h]
    have h64 : Lib.parseIntB 64 s.data.toList = .«syntax» := by rw [Lib.parseIntB_64]; exact h
    obtain ⟨tp, p, hv⟩ := g.syn
    rw [e1, e2]
    clear e1 e2 h
    go_enter Tryd.func80, Tryd.ntmps80
    go_wp2_with (go_at_call 119; refine (Tryd.strconv_ParseInt_10_at64_syntax_var s hs h64 tp p _ hv).mono ?_; rintro e w' ⟨N, rfl, -, -, hl⟩)
    go_ret2
    exact ⟨rfl, hl⟩
  | range =>
    have e1 : valOf s.data.toList = 0 := by simp only [valOf, h]
    have e2 : okOf s.data.toList = false := by simp only [okOf, h]
    have h64 : Lib.parseIntB 64 s.data.toList = .range := by rw [Lib.parseIntB_64]; exact h
    obtain ⟨tp, p, hv⟩ := g.rng
    rw [e1, e2]
    clear e1 e2 h
    go_enter Tryd.func80, Tryd.ntmps80
    go_wp2_with (go_at_call 119; refine (Tryd.strconv_ParseInt_10_at64_range_var s hs h64 tp p _ hv).mono ?_; rintro e w' ⟨N, rfl, -, -, hl⟩)
    go_ret2
    exact ⟨rfl, hl⟩

/-- Read of a text that is a number's own. -/
theorem read_txt (n : Int) (h0 : -9223372036854775808 ≤ n) (h1 : n ≤ 9223372036854775807) (w : World) (g : Good w) :
    Calls Tryd.prog 80 #[.string (txt n)] w fun e w' => e = .returned (.tuple #[.int .i64 n, .bool true]) ∧ Later w w' := by
  have h := read_any (txt n) (by have := txt_size n h0 h1; omega) w g
  rw [txt_list, ok_itoa n h0 h1, val_itoa n h0 h1] at h
  exact h

/-- Read of a text that is none's. -/
theorem read_no (s : ByteArray) (hs : s.size ≤ 281474976710656) (hn : okOf s.data.toList = false) (w : World) (g : Good w) :
    Calls Tryd.prog 80 #[.string s] w fun e w' => e = .returned (.tuple #[.int .i64 0, .bool false]) ∧ Later w w' := by
  have h := read_any s hs w g
  rw [hn, val_none hn] at h
  exact h

end Go.Proofs.YtfgnogdlkhagdaaDoor
