/-
  The runes of a text, a line's end and another text: those of the first, the line's end, those of the second, so many bytes and lines on. Nothing runs here. Conditions: none.
-/
import Derived.Test.YthlbkjalagiobaaDoorBytes
namespace Go.Proofs.YthlbkjalagiobaaDoor
open Go.Lib

/-- A byte that goes on no rune ends what may be read there. -/
theorem dN_grow (n m b0 b1 b2 b3 c1 c2 c3 : Nat) (hn : 1 ≤ n) (hm : n < m) (h1 : 1 < n → c1 = b1) (h2 : 2 < n → c2 = b2) (h3 : 3 < n → c3 = b3)
    (e1 : n = 1 → c1 = 10) (e2 : n = 2 → c2 = 10) (e3 : n = 3 → c3 = 10) : decodeN m b0 c1 c2 c3 = decodeN n b0 b1 b2 b3 := by
  rcases Nat.lt_or_ge n 4 with h4 | h4
  · obtain rfl | rfl | rfl : n = 1 ∨ n = 2 ∨ n = 3 := by omega
    · have := e1 rfl; subst this
      simp [decodeN]
    · have := e2 rfl; subst this
      have := h1 (by omega); subst this
      have m1 : 1 < m := by omega
      simp [decodeN, m1]
    · have := e3 rfl; subst this
      have := h1 (by omega); subst this
      have := h2 (by omega); subst this
      have m1 : 1 < m := by omega
      have m2 : 2 < m := by omega
      simp [decodeN, m1, m2]
  · have := h1 (by omega); subst this
    have := h2 (by omega); subst this
    have := h3 (by omega); subst this
    have m1 : 1 < m := by omega
    have m2 : 2 < m := by omega
    have m3 : 3 < m := by omega
    have n1 : 1 < n := by omega
    have n2 : 2 < n := by omega
    have n3 : 3 < n := by omega
    simp [decodeN, m1, m2, m3, n1, n2, n3]

/-- A text, a line's end, another text. -/
def join (s t : ByteArray) : ByteArray := s ++ ⟨#[10]⟩ ++ t

theorem join_size (s t : ByteArray) : (join s t).size = s.size + 1 + t.size := by
  unfold join
  rw [ByteArray.size_append, ByteArray.size_append]
  rfl

theorem join_data (s t : ByteArray) : (join s t).data = s.data ++ #[10] ++ t.data := by
  unfold join
  simp [ByteArray.data_append]

theorem get_none (s : ByteArray) (i : Nat) (h : ¬ i < s.size) : s.get! i = 0 := by
  show s.data[i]! = 0
  have h' : ¬ i < s.data.size := h
  rw [getElem!_neg s.data i h']
  rfl

theorem join_left (s t : ByteArray) (i : Nat) (h : i < s.size) : (join s t).get! i = s.get! i := by
  have h1 := get_at' (join s t) i (by rw [join_size]; omega)
  have h2 := get_at' s i h
  rw [join_data, Array.getElem?_append_left (by have : s.data.size = s.size := rfl; simp; omega), Array.getElem?_append_left (by exact h), h2] at h1
  exact (Option.some.inj h1).symm

theorem join_mid (s t : ByteArray) : (join s t).get! s.size = 10 := by
  have h1 := get_at' (join s t) s.size (by rw [join_size]; omega)
  have hs : s.data.size = s.size := rfl
  rw [join_data, Array.getElem?_append_left (by rw [Array.size_append, hs]; simp), Array.getElem?_append_right (by omega)] at h1
  simp [hs] at h1
  exact h1.symm

theorem join_right (s t : ByteArray) (i : Nat) : (join s t).get! (s.size + 1 + i) = t.get! i := by
  by_cases h : i < t.size
  · have h1 := get_at' (join s t) (s.size + 1 + i) (by rw [join_size]; omega)
    have hs : s.data.size = s.size := rfl
    have h2 := get_at' t i h
    rw [join_data, Array.getElem?_append_right (by simp [hs])] at h1
    simp [hs] at h1
    rw [h2] at h1
    exact (Option.some.inj h1).symm
  · rw [get_none t i h, get_none _ _ (by rw [join_size]; omega)]

theorem decode_left (s t : ByteArray) (pos : Nat) (h : pos < s.size) : Utf8.decode (join s t) pos = Utf8.decode s pos := by
  rw [decode_at, decode_at, join_size, join_left s t pos h]
  have j : ∀ k, k < s.size - pos → ((join s t).get! (pos + k)).toNat = (s.get! (pos + k)).toNat := fun k hk => by rw [join_left s t _ (by omega)]
  have e : ∀ k, s.size - pos = k → ((join s t).get! (pos + k)).toNat = 10 := fun k hk => by rw [show pos + k = s.size by omega, join_mid]; rfl
  exact dN_grow _ _ _ _ _ _ _ _ _ (by omega) (by omega) (j 1) (j 2) (j 3) (e 1) (e 2) (e 3)

theorem decode_mid (s t : ByteArray) : Utf8.decode (join s t) s.size = (10, 1) := by
  rw [decode_at, join_mid]
  rfl

theorem decode_right (s t : ByteArray) (pos : Nat) : Utf8.decode (join s t) (s.size + 1 + pos) = Utf8.decode t pos := by
  rw [decode_at, decode_at, join_size, join_right, show s.size + 1 + pos + 1 = s.size + 1 + (pos + 1) by omega, join_right, show s.size + 1 + pos + 2 = s.size + 1 + (pos + 2) by omega, join_right, show s.size + 1 + pos + 3 = s.size + 1 + (pos + 3) by omega, join_right, show s.size + 1 + t.size - (s.size + 1 + pos) = t.size - pos by omega]

/-- A rune, so many bytes and lines on. -/
def Sp.on (x : Sp) (b l : Nat) : Sp := ⟨x.rune, x.at_ + b, x.size, x.line + l, x.col, x.bad⟩

theorem nl_on (l d r : Nat) : nl (l + d) r = nl l r + d := by simp only [nl]; split <;> omega

theorem spots_right (s t : ByteArray) (d : Nat) : ∀ (f pos l c : Nat), spotsFrom (join s t) f (s.size + 1 + pos) (l + d) c = (spotsFrom t f pos l c).map fun x => x.on (s.size + 1) d
  | 0, pos, l, c => rfl
  | f + 1, pos, l, c => by
    by_cases h : pos < t.size
    · have hj : s.size + 1 + pos < (join s t).size := by rw [join_size]; omega
      rw [spots_more _ _ _ _ _ hj, spots_more _ _ _ _ _ h, List.map_cons, decode_right, nl_on, show s.size + 1 + pos + (Utf8.decode t pos).2 = s.size + 1 + (pos + (Utf8.decode t pos).2) by omega, spots_right s t d f]
      congr 1
      simp only [spotAt, Sp.on, decode_right]
      congr 1
      omega
    · rw [spots_end _ _ _ _ _ h, spots_end _ _ _ _ _ (by rw [join_size]; omega)]
      rfl

theorem spots_left (s t : ByteArray) : ∀ (f pos l c : Nat), s.size ≤ pos + f → pos ≤ s.size → ∀ g, s.size + 1 + t.size ≤ pos + g →
    spotsFrom (join s t) g pos l c = spotsFrom s f pos l c ++ spotsFrom (join s t) (t.size + 1) s.size ((spotsFrom s f pos l c).foldl step (pos, l, c)).2.1 ((spotsFrom s f pos l c).foldl step (pos, l, c)).2.2
  | f, pos, l, c => fun hf hp g hg => by
    by_cases h : pos < s.size
    · obtain ⟨f, rfl⟩ : ∃ f', f = f' + 1 := ⟨f - 1, by omega⟩
      obtain ⟨g, rfl⟩ : ∃ g', g = g' + 1 := ⟨g - 1, by omega⟩
      have hd := decode_pos s pos h
      rw [spots_more _ g _ _ _ (by rw [join_size]; omega), spots_more s f _ _ _ h, decode_left s t pos h]
      have ih := spots_left s t f (pos + (Utf8.decode s pos).2) (nl l (Utf8.decode s pos).1) (nc c (Utf8.decode s pos).1) (by omega) (by omega) g (by omega)
      rw [ih, List.cons_append]
      have e : spotAt (join s t) pos l c = spotAt s pos l c := by simp only [spotAt, decode_left s t pos h]
      rw [e]
      rfl
    · obtain rfl : pos = s.size := by omega
      rw [spots_end s f s.size l c (by omega)]
      rw [List.nil_append]
      exact spots_fuel _ _ _ _ _ _ (by rw [join_size]; omega) (by rw [join_size]; omega)
  termination_by f => f

/-- The runes of a text, a line's end, another text. -/
theorem spots_join (s t : ByteArray) : spots (join s t) = spots s ++ ⟨10, s.size, 1, (placeOf (spots s)).2.1, (placeOf (spots s)).2.2, false⟩ :: (spots t).map fun x => x.on (s.size + 1) (placeOf (spots s)).2.1 := by
  have h := spots_left s t s.size 0 1 1 (by omega) (by omega) (join s t).size (by rw [join_size]; omega)
  unfold spots
  rw [h, spots_more _ _ _ _ _ (by rw [join_size]; omega), decode_mid]
  show _ ++ _ :: _ = _ ++ _ :: _
  congr 2
  · simp only [spotAt, decode_mid]; rfl
  · have e1 : ∀ l, nl l 10 = 1 + l := fun l => by simp [nl]; omega
    have e2 : ∀ c, nc c 10 = 1 := fun c => by simp [nc]
    rw [e1, e2]
    exact spots_right s t _ t.size 0 1 1

theorem end_join (s : ByteArray) : (placeOf (spots (join s ⟨#[]⟩))).2 = ((placeOf (spots s)).2.1 + 1, 1) := by
  rw [spots_join]
  have : spots ⟨#[]⟩ = [] := rfl
  rw [this, List.map_nil, placeOf_snoc]
  rfl

theorem join_empty (s : ByteArray) : join s ⟨#[]⟩ = s ++ ⟨#[10]⟩ := by
  unfold join
  apply ByteArray.ext
  simp [ByteArray.data_append]

end Go.Proofs.YthlbkjalagiobaaDoor
