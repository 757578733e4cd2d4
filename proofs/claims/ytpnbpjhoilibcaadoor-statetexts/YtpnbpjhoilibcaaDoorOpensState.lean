/-
  How a machine's state lies in memory when it comes in. Conditions: none.
-/
import Derived.Test.YtpnbpjhoilibcaaDoorStateIn
import Derived.OpenShut
namespace Go.Proofs.YtpnbpjhoilibcaaDoor
open Go.RowKit Go.ChangeShapes Go.WideShapes Go.Deep
set_option linter.unusedSimpArgs false

section
variable {H : Type} {enc : TypeId × Value → H} {W : World} {base : Nat} {spare : Nat → Bool} {held : Bool} {fuel : Nat} {cs : List Value} {y : DataW H × List MemPlace}

theorem trod_i64s {t : TypeId} {v : Value} (ht : Tryd.prog.underlying t = some (.int .i64)) (h : DataW.trod enc Tryd.prog W base spare held fuel t [v] = some y) : ∃ n, v = .int .i64 n ∧ I64 n := by
  obtain ⟨n, h1, -, h2⟩ := DataW.trod_int ht h
  simp at h1
  exact ⟨n, h1, int64_of_wf h2⟩

theorem trod_bool1 {t : TypeId} {v : Value} (ht : Tryd.prog.underlying t = some .bool) (h : DataW.trod enc Tryd.prog W base spare held fuel t [v] = some y) : ∃ b, v = .bool b := by
  obtain ⟨b, h1, -⟩ := DataW.trod_bool ht h
  simp at h1
  exact ⟨b, h1⟩

theorem cells_i64s : Tryd.prog.cellsOf 2 = 1 := by kernel_rfl
theorem cells_bools : Tryd.prog.cellsOf 4 = 1 := by kernel_rfl
theorem cells_regss : Tryd.prog.cellsOf 34 = 8 := by kernel_rfl
theorem cells_flags : Tryd.prog.cellsOf 36 = 4 := by kernel_rfl
theorem cells_ts : Tryd.prog.cellsOf 38 = 16 := by kernel_rfl
theorem cells_ent2 : Tryd.prog.cellsOf 41 = 2 := by kernel_rfl
theorem cells_ents : Tryd.prog.cellsOf 39 = 1 := by kernel_rfl
theorem cells_mst : Tryd.prog.cellsOf 26 = 4 := by kernel_rfl
theorem cells_memv : Tryd.prog.cellsOf 22 = 1 := by kernel_rfl
theorem cells_thrv : Tryd.prog.cellsOf 23 = 1 := by kernel_rfl
theorem cells_bufv : Tryd.prog.cellsOf 24 = 1 := by kernel_rfl

theorem list4s {l : List Value} (h : l.length = 4) : ∃ a b c d, l = [a, b, c, d] := by
  match l, h with
  | [a, b, c, d], _ => exact ⟨a, b, c, d, rfl⟩

theorem list8s {l : List Value} (h : l.length = 8) : ∃ a b c d e f g i, l = [a, b, c, d, e, f, g, i] := by
  match l, h with
  | [a, b, c, d, e, f, g, i], _ => exact ⟨a, b, c, d, e, f, g, i, rfl⟩

theorem list16s {l : List Value} (h : l.length = 16) : ∃ a0 a1 a2 a3 a4 a5 a6 a7 a8 a9 b0 b1 b2 b3 b4 b5, l = [a0, a1, a2, a3, a4, a5, a6, a7, a8, a9, b0, b1, b2, b3, b4, b5] := by
  match l, h with
  | [a0, a1, a2, a3, a4, a5, a6, a7, a8, a9, b0, b1, b2, b3, b4, b5], _ => exact ⟨a0, a1, a2, a3, a4, a5, a6, a7, a8, a9, b0, b1, b2, b3, b4, b5, rfl⟩

theorem trod_regss (h : DataW.trod enc Tryd.prog W base spare held fuel 34 cs = some y) : ∃ r : Nat → Int, cs = [.int .i64 (r 0), .int .i64 (r 1), .int .i64 (r 2), .int .i64 (r 3), .int .i64 (r 4), .int .i64 (r 5), .int .i64 (r 6), .int .i64 (r 7)] ∧ ∀ j, I64 (r j) := by
  obtain ⟨xs, m, -, -, hl, hx, hall⟩ := DataW.trod_array Tryd.underlying34 h
  rw [cells_regss] at hl
  obtain ⟨c0, c1, c2, c3, c4, c5, c6, c7, rfl⟩ := list8s hl
  have hk : ∀ i, i < 8 → ∃ z, DataW.trod enc Tryd.prog W base spare held m 2 ((([c0, c1, c2, c3, c4, c5, c6, c7] : List Value).drop i).take 1) = some z := fun i hi => by
    have h1 := hall i hi
    rw [cells_i64s, Nat.mul_one, List.getElem?_eq_getElem (by omega)] at h1
    exact ⟨_, h1⟩
  have get : ∀ c z, DataW.trod enc Tryd.prog W base spare held m 2 [c] = some z → ∃ a, c = .int .i64 a ∧ I64 a := fun c z hz => trod_i64s Tryd.underlying2 hz
  obtain ⟨z0, k0⟩ := hk 0 (by omega)
  obtain ⟨z1, k1⟩ := hk 1 (by omega)
  obtain ⟨z2, k2⟩ := hk 2 (by omega)
  obtain ⟨z3, k3⟩ := hk 3 (by omega)
  obtain ⟨z4, k4⟩ := hk 4 (by omega)
  obtain ⟨z5, k5⟩ := hk 5 (by omega)
  obtain ⟨z6, k6⟩ := hk 6 (by omega)
  obtain ⟨z7, k7⟩ := hk 7 (by omega)
  obtain ⟨a0, rfl, h0⟩ := get c0 z0 k0
  obtain ⟨a1, rfl, h1⟩ := get c1 z1 k1
  obtain ⟨a2, rfl, h2⟩ := get c2 z2 k2
  obtain ⟨a3, rfl, h3⟩ := get c3 z3 k3
  obtain ⟨a4, rfl, h4⟩ := get c4 z4 k4
  obtain ⟨a5, rfl, h5⟩ := get c5 z5 k5
  obtain ⟨a6, rfl, h6⟩ := get c6 z6 k6
  obtain ⟨a7, rfl, h7⟩ := get c7 z7 k7
  refine ⟨fun j => match j with | 0 => a0 | 1 => a1 | 2 => a2 | 3 => a3 | 4 => a4 | 5 => a5 | 6 => a6 | _ => a7, rfl, fun j => ?_⟩
  match j with
  | 0 => exact h0
  | 1 => exact h1
  | 2 => exact h2
  | 3 => exact h3
  | 4 => exact h4
  | 5 => exact h5
  | 6 => exact h6
  | j + 7 => exact h7

theorem trod_flags (h : DataW.trod enc Tryd.prog W base spare held fuel 36 cs = some y) : ∃ z s c o : Bool, cs = [.bool z, .bool s, .bool c, .bool o] := by
  have hl := trod_len Tryd.underlying36 h
  rw [cells_flags] at hl
  obtain ⟨c0, c1, c2, c3, rfl⟩ := list4s hl
  obtain ⟨n0, z0, h0⟩ := trod_field Tryd.underlying36 h 0 4 0 cells_bools rfl
  obtain ⟨n1, z1, h1⟩ := trod_field Tryd.underlying36 h 1 4 1 cells_bools rfl
  obtain ⟨n2, z2, h2⟩ := trod_field Tryd.underlying36 h 2 4 2 cells_bools rfl
  obtain ⟨n3, z3, h3⟩ := trod_field Tryd.underlying36 h 3 4 3 cells_bools rfl
  simp only [List.drop_zero, List.drop_succ_cons, List.take_succ_cons, List.take_zero] at h0 h1 h2 h3
  obtain ⟨a0, rfl⟩ := trod_bool1 Tryd.underlying4 h0
  obtain ⟨a1, rfl⟩ := trod_bool1 Tryd.underlying4 h1
  obtain ⟨a2, rfl⟩ := trod_bool1 Tryd.underlying4 h2
  obtain ⟨a3, rfl⟩ := trod_bool1 Tryd.underlying4 h3
  exact ⟨a0, a1, a2, a3, rfl⟩

theorem trod_ts (h : DataW.trod enc Tryd.prog W base spare held fuel 38 cs = some y) : ∃ x : TS, cs = tsC x ∧ x.Ok := by
  have hl := trod_len Tryd.underlying38 h
  rw [cells_ts] at hl
  obtain ⟨a0, a1, a2, a3, a4, a5, a6, a7, a8, a9, b0, b1, b2, b3, b4, b5, rfl⟩ := list16s hl
  obtain ⟨n0, z0, h0⟩ := trod_field Tryd.underlying38 h 0 34 0 cells_regss rfl
  obtain ⟨n1, z1, h1⟩ := trod_field Tryd.underlying38 h 1 36 8 cells_flags rfl
  obtain ⟨n2, z2, h2⟩ := trod_field Tryd.underlying38 h 2 3 12 cells_int rfl
  obtain ⟨n3, z3, h3⟩ := trod_field Tryd.underlying38 h 3 3 13 cells_int rfl
  obtain ⟨n4, z4, h4⟩ := trod_field Tryd.underlying38 h 4 2 14 cells_i64s rfl
  obtain ⟨n5, z5, h5⟩ := trod_field Tryd.underlying38 h 5 3 15 cells_int rfl
  simp only [List.drop_zero, List.drop_succ_cons, List.take_succ_cons, List.take_zero] at h0 h1 h2 h3 h4 h5
  obtain ⟨r, e0, k0⟩ := trod_regss h0
  obtain ⟨z, s, c, o, e1⟩ := trod_flags h1
  simp only [List.cons.injEq, and_true] at e0 e1
  obtain ⟨rfl, rfl, rfl, rfl, rfl, rfl, rfl, rfl⟩ := e0
  obtain ⟨rfl, rfl, rfl, rfl⟩ := e1
  obtain ⟨pc, rfl, k2⟩ := trod_i64s Tryd.underlying3 h2
  obtain ⟨ph, rfl, k3⟩ := trod_i64s Tryd.underlying3 h3
  obtain ⟨la, rfl, k4⟩ := trod_i64s Tryd.underlying2 h4
  obtain ⟨st, rfl, k5⟩ := trod_i64s Tryd.underlying3 h5
  exact ⟨⟨r, z, s, c, o, pc, ph, la, st⟩, rfl, k0, k2, k3, k4, k5⟩

theorem trod_ent64 (h : DataW.trod enc Tryd.prog W base spare held fuel 41 cs = some y) : ∃ x : Int × Int, cs = entC x ∧ I64 x.1 ∧ I64 x.2 := by
  have hl := trod_len Tryd.underlying41 h
  rw [cells_ent2] at hl
  obtain ⟨c0, c1, rfl⟩ := list2 hl
  obtain ⟨n0, z0, h0⟩ := trod_field Tryd.underlying41 h 0 3 0 cells_int rfl
  obtain ⟨n1, z1, h1⟩ := trod_field Tryd.underlying41 h 1 2 1 cells_i64s rfl
  simp only [List.drop_zero, List.drop_succ_cons, List.take_succ_cons, List.take_zero] at h0 h1
  obtain ⟨a0, rfl, k0⟩ := trod_i64s Tryd.underlying3 h0
  obtain ⟨a1, rfl, k1⟩ := trod_i64s Tryd.underlying2 h1
  exact ⟨(a0, a1), rfl, k0, k1⟩

/-- What all things of a row have besides. -/
theorem RowIn.split {α : Type} {k : Nat} {E : World → α → List Value → Prop} {P : α → Prop} {w : World} {v : Value} {l : List α} (h : RowIn k (fun w a cs => E w a cs ∧ P a) w v l) : RowIn k E w v l ∧ ∀ a ∈ l, P a := by
  obtain ⟨p, cap, h0, h1, h2, h3⟩ := h
  refine ⟨⟨p, cap, h0, h1, h2, fun hn => ?_⟩, fun a ha => ?_⟩
  · obtain ⟨g, o, rfl, h4⟩ := h3 hn
    exact ⟨g, o, rfl, fun i a hi => let ⟨cs, h5, h6⟩ := h4 i a hi; ⟨cs, h5.1, h6⟩⟩
  · obtain ⟨g, o, rfl, h4⟩ := h3 (by rintro rfl; cases ha)
    obtain ⟨i, hi, rfl⟩ := List.getElem_of_mem ha
    obtain ⟨cs, h5, -⟩ := h4 i _ (List.getElem?_eq_getElem hi)
    exact h5.2

theorem trod_bufs (h : DataW.trod enc Tryd.prog W base spare held fuel 39 cs = some y) : ∃ L, BufE W L cs := by
  obtain ⟨v, L, rfl, h1⟩ := trod_row (E := fun _ (x : Int × Int) cs => cs = entC x ∧ I64 x.1 ∧ I64 x.2) Tryd.underlying39 cells_ent2 (by omega) (fun n cs z hz => trod_ent64 hz) h
  obtain ⟨h2, h3⟩ := RowIn.split (E := EntE) (P := fun x => I64 x.1 ∧ I64 x.2) h1
  exact ⟨L, v, rfl, h2, h3⟩

set_option maxRecDepth 100000 in
theorem open_state {r : Reach} {b0 : Nat} {v : Value} {d : DataW H} {p : List MemPlace} (hv : Value.okWide Tryd.prog W r b0 26 v) (h : DataW.Trod enc Tryd.prog W base spare held 26 v d p) :
    ∃ m t b s, v = .agg #[m, t, b, .int .i64 s.lock] ∧ MsIn W m t b s := by
  obtain ⟨ca, rfl, hsz⟩ := okWide_struct Tryd.underlying26 hv
  obtain ⟨fuel, hf⟩ := h
  have hl := trod_len Tryd.underlying26 hf
  rw [cells_mst] at hl
  obtain ⟨c0, c1, c2, c3, hc⟩ := list4s hl
  rw [hc] at hf
  obtain ⟨n0, z0, h0⟩ := trod_field Tryd.underlying26 hf 0 22 0 cells_memv rfl
  obtain ⟨n1, z1, h1⟩ := trod_field Tryd.underlying26 hf 1 23 1 cells_thrv rfl
  obtain ⟨n2, z2, h2⟩ := trod_field Tryd.underlying26 hf 2 24 2 cells_bufv rfl
  obtain ⟨n3, z3, h3⟩ := trod_field Tryd.underlying26 hf 3 3 3 cells_int rfl
  simp only [List.drop_zero, List.drop_succ_cons, List.take_succ_cons, List.take_zero] at h0 h1 h2 h3
  obtain ⟨m, M, e0, k0⟩ := trod_row (E := IntE) Tryd.underlying22 cells_i64s (by omega) (fun n cs z hz => by
    obtain ⟨c, rfl⟩ : ∃ c, cs = [c] := by
      have := hz
      obtain ⟨q, hq1, hq2, hq3⟩ := DataW.trod_int Tryd.underlying2 hz
      exact ⟨_, hq1⟩
    obtain ⟨q, rfl, hq⟩ := trod_i64s Tryd.underlying2 hz
    exact ⟨q, rfl, hq⟩) h0
  obtain ⟨t, T, e1, k1⟩ := trod_row (E := TsE) Tryd.underlying23 cells_ts (by omega) (fun n cs z hz => trod_ts hz) h1
  obtain ⟨b, B, e2, k2⟩ := trod_row (E := BufE) Tryd.underlying24 cells_ents (by omega) (fun n cs z hz => trod_bufs hz) h2
  obtain ⟨q, e3, k3⟩ := trod_i64s Tryd.underlying3 h3
  simp only [List.cons.injEq, and_true] at e0 e1 e2
  subst e0 e1 e2 e3
  refine ⟨c0, c1, c2, ⟨M, T, B, q⟩, ?_, k0, k1, k2, k3⟩
  simp [Value.cells] at hc
  simp [hc, ← Array.toList_inj]

end

end Go.Proofs.YtpnbpjhoilibcaaDoor
