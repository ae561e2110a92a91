/-
  FOR THE ROWS: acts, and a match, that came in.
-/
import Derived.Test.YtlcgicgdlhnfoaaFrame
import Derived.Test.YtlcgicgdlhnfoaaBma
import Derived.Deep.Slices
import Derived.Deep.Fields
import Derived.ChangeSlices
import Derived.ChangeSame
import Derived.Lib.SmallJoins
namespace Go.Proofs.Ytlcgicgdlhnfoaa
open Go.Joins Go.ChangeShapes Go.WideShapes Go.RowKit Go.Deep
theorem wf_i64 {n : Int} (h : (Lit.int .i64 n).wf = true) : -9223372036854775808 ≤ n ∧ n ≤ 9223372036854775807 := by
  have := bounds_i64 h
  exact ⟨by omega, by omega⟩
theorem ce3 : Try.prog.cellsOf 3 = 1 := by kernel_rfl
theorem ce29 : Try.prog.cellsOf 29 = 1 := by kernel_rfl
theorem ce31 : Try.prog.cellsOf 31 = 4 := by kernel_rfl
theorem ce37 : Try.prog.cellsOf 37 = 1 := by kernel_rfl
theorem add_at (b o n : Nat) : (⟨b, o, none⟩ : Addr).add n = ⟨b, o + n, none⟩ := by unfold Addr.add; split <;> simp_all
theorem spot_none {W : World} {a : Addr} {v : Value} (h : W.cell? (a.add 0) = some v) : a.spot = none := by
  obtain ⟨b, o, s⟩ := a
  cases s with
  | none => rfl
  | some q =>
    exfalso
    have e0 : (⟨b, o, some q⟩ : Addr).add 0 = ⟨b, o, some q⟩ := by simp [Addr.add]
    rw [e0] at h
    have h01 : W.cell? ⟨b, o, some q⟩ = none := by
      unfold World.cell?
      split <;> simp
    rw [h01] at h; simp at h
/-- an act -/
structure Ac where
  k : Int
  a : Int
  b : Int
  p : List Int
/-- an act's numbers are such -/
def Ac.okA (x : Ac) : Prop := (-9223372036854775808 ≤ x.k ∧ x.k ≤ 9223372036854775807) ∧ (-9223372036854775808 ≤ x.a ∧ x.a ≤ 9223372036854775807) ∧ (-9223372036854775808 ≤ x.b ∧ x.b ≤ 9223372036854775807) ∧ x.p.length ≤ maxLen
/-- acts in memory -/
def Acs (w : World) (a : Option Addr) (R : List Ac) : Prop := ∀ p (h : p < R.length), ∃ g o q c, a = some ⟨g, o, none⟩ ∧ g < w.heap.size ∧ w.cell? ⟨g, o + p * 4, none⟩ = some (.int .i64 R[p].k) ∧ w.cell? ⟨g, o + p * 4 + 1, none⟩ = some (.int .i64 R[p].a) ∧ w.cell? ⟨g, o + p * 4 + 2, none⟩ = some (.int .i64 R[p].b) ∧ w.cell? ⟨g, o + p * 4 + 3, none⟩ = some (.slice q R[p].p.length c) ∧ Nums w q R[p].p ∧ R[p].okA
section
variable {H : Type} {enc : TypeId × Value → H} {W : World} {base : Nat}
theorem open_nums {b0 n : Nat} {sp : Nat → Bool} {hd : Bool} {cs : List Value} {y : DataW H × List MemPlace} (h : DataW.trod enc Try.prog W b0 sp hd n 29 cs = some y) :
    ∃ (q : Option Addr) (c : Nat) (P : List Int), cs = [.slice q P.length c] ∧ Nums W q P ∧ P.length ≤ c ∧ P.length ≤ maxLen := by
  rcases Go.Deep.open_slice1 Try.underlying29 ce3 h with ⟨rfl, _⟩ | ⟨a, len, cap, m, n', V, D, Pl, rfl, _, hl, hm, hmm, _, hi⟩
  · exact ⟨none, 0, [], rfl, fun i hi => by simp at hi, by simp, by simp⟩
  · have hlm : len ≤ m := by rw [hmm]; split <;> omega
    have hall : ∀ i : Fin len, ∃ x : Int, W.cell? (a.add i.1) = some (.int .i64 x) := fun i => by
      obtain ⟨hc, ht⟩ := hi i.1 (by have := i.2; omega)
      obtain ⟨x, e, _, _⟩ := DataW.trod_int Try.underlying3 ht
      simp only [List.cons.injEq, and_true] at e
      rw [e] at hc
      exact ⟨x, hc⟩
    obtain ⟨f, hf⟩ := Classical.axiomOfChoice hall
    refine ⟨some a, cap, List.ofFn f, by rw [List.length_ofFn], ?_, by rw [List.length_ofFn]; exact hl, by rw [List.length_ofFn]; omega⟩
    intro i hi'
    have hil : i < len := by simpa using hi'
    have h0 := spot_none (hf ⟨0, by omega⟩)
    have h1 := hf ⟨i, hil⟩
    obtain ⟨b, o, s⟩ := a
    simp only at h0
    subst h0
    simp only [add_at] at h1
    refine ⟨b, o, rfl, World.block_lt_of_cell? _ _ h1, ?_⟩
    rw [h1, List.getElem_ofFn]
/-- an act that came in, at its place -/
def AcAt (W : World) (a : Addr) (x : Ac × Option Addr × Nat) : Prop :=
  W.cell? (a.add 0) = some (.int .i64 x.1.k) ∧ W.cell? (a.add 1) = some (.int .i64 x.1.a) ∧ W.cell? (a.add 2) = some (.int .i64 x.1.b) ∧ W.cell? (a.add 3) = some (.slice x.2.1 x.1.p.length x.2.2) ∧ Nums W x.2.1 x.1.p ∧ x.1.okA
set_option maxRecDepth 100000 in
theorem open_act {b0 n : Nat} {sp : Nat → Bool} {hd : Bool} {a : Addr} {cs : List Value} {y : DataW H × List MemPlace} (h1 : W.cells? b0 a 4 = some cs) (h2 : DataW.trod enc Try.prog W b0 sp hd n 31 cs = some y) :
    ∃ x, AcAt W a x := by
  obtain ⟨_, hlen, hcell⟩ := World.cells?_some h1
  obtain ⟨xs, k, hk, hxy, _, hxl, hf⟩ := DataW.trod_struct Try.underlying31 h2
  match xs, hxl, cs, hlen with
  | [y0, y1, y2, y3], _, [v0, v1, v2, v3], _ =>
    have g0 := hf 0 _ rfl
    have g1 := hf 1 _ rfl
    have g2 := hf 2 _ rfl
    have g3 := hf 3 _ rfl
    simp [ce3, ce29] at g0 g1 g2 g3
    obtain ⟨k0, q0, _, u0⟩ := DataW.trod_int Try.underlying3 g0
    obtain ⟨k1, q1, _, u1⟩ := DataW.trod_int Try.underlying3 g1
    obtain ⟨k2, q2, _, u2⟩ := DataW.trod_int Try.underlying3 g2
    obtain ⟨q, c, P, q3, hP, hl, hm⟩ := open_nums g3
    simp only [List.cons.injEq, and_true] at q0 q1 q2 q3
    subst q0 q1 q2 q3
    refine ⟨(⟨k0, k1, k2, P⟩, q, c), ?_, ?_, ?_, ?_, hP, wf_i64 u0, wf_i64 u1, wf_i64 u2, hm⟩
    · simpa using hcell 0 (by omega)
    · simpa using hcell 1 (by omega)
    · simpa using hcell 2 (by omega)
    · simpa using hcell 3 (by omega)
set_option maxRecDepth 100000 in
theorem open_acts {v : Value} {d : DataW H} {p : List MemPlace} (hv : Value.okWide Try.prog W .any base 22 v) (h : DataW.Trod enc Try.prog W 0 (fun _ => true) true 22 v d p) :
    ∃ (a : Option Addr) (L : List Ac) (c : Nat), v = .slice a L.length c ∧ Acs W a L ∧ L.length ≤ 9223372036854775807 := by
  obtain ⟨a0, len, cap, rfl⟩ := okWide_slice Try.underlying22 hv
  obtain ⟨fuel, hf⟩ := h
  rcases Go.Deep.open_slice Try.underlying22 hf with ⟨hcs, _⟩ | ⟨a, len', cap', m, n, D, Pl, hcs, hb, hl, hm, hmm, hx, hi⟩
  · simp [Value.cells] at hcs
    obtain ⟨rfl, rfl, rfl⟩ := hcs
    exact ⟨none, [], 0, rfl, fun i hi => absurd hi (Nat.not_lt_zero i), by simp⟩
  · simp [Value.cells] at hcs
    obtain ⟨rfl, rfl, rfl⟩ := hcs
    have hlm : len ≤ m := by rw [hmm]; split <;> omega
    have hall : ∀ i : Fin len, ∃ x, AcAt W (a.add (i.1 * 4)) x := fun i => by
      obtain ⟨cs', hc, ht⟩ := hi i.1 (by have := i.2; omega)
      rw [ce31] at hc
      exact open_act hc ht
    obtain ⟨f, hf⟩ := Classical.axiomOfChoice hall
    refine ⟨some a, List.ofFn fun i => (f i).1, cap, by rw [List.length_ofFn], ?_, by rw [List.length_ofFn]; unfold maxLen at hm; omega⟩
    intro i hi'
    have hil : i < len := by simpa using hi'
    have hz := (hf ⟨0, by omega⟩).1
    have h1 := hf ⟨i, hil⟩
    clear hf hall hi hmm
    have h0 : a.spot = none := by
      obtain ⟨b, o, s⟩ := a
      simp only [Nat.zero_mul] at hz
      have e : (⟨b, o, s⟩ : Addr).add 0 = ⟨b, o, s⟩ := by cases s <;> simp [Addr.add]
      rw [e] at hz
      exact spot_none hz
    obtain ⟨b, o, s⟩ := a
    simp only at h0
    subst h0
    unfold AcAt at h1
    simp only [add_at, Nat.add_zero] at h1
    refine ⟨b, o, (f ⟨i, hil⟩).2.1, (f ⟨i, hil⟩).2.2, rfl, World.block_lt_of_cell? _ _ h1.1, ?_⟩
    rw [List.getElem_ofFn]
    exact ⟨h1.1, h1.2.1, h1.2.2.1, h1.2.2.2.1, h1.2.2.2.2.1, h1.2.2.2.2.2⟩
set_option maxRecDepth 100000 in
theorem open_match {v : Value} {d : DataW H} {p : List MemPlace} (hv : Value.okWide Try.prog W .any base 37 v) (h : DataW.Trod enc Try.prog W 0 (fun _ => true) true 37 v d p) :
    ∃ (q : Option Addr) (c : Nat) (P : List Int), v = .agg #[.slice q P.length c] ∧ Nums W q P := by
  obtain ⟨cs, rfl, hsz⟩ := okWide_struct Try.underlying37 hv
  rw [ce37] at hsz
  obtain ⟨fuel, hf⟩ := h
  obtain ⟨u, rfl⟩ : ∃ u, cs = #[u] := by
    obtain ⟨l⟩ := cs
    match l, hsz with
    | [u], _ => exact ⟨u, rfl⟩
  obtain ⟨xs, k, hk, hxy, _, hxl, hff⟩ := DataW.trod_struct Try.underlying37 hf
  match xs, hxl with
  | [y0], _ =>
    have g0 := hff 0 _ rfl
    simp [ce29, Value.cells] at g0
    obtain ⟨q, c, P, q0, hP, -, -⟩ := open_nums g0
    simp only [List.cons.injEq, and_true] at q0
    subst q0
    exact ⟨q, c, P, rfl, hP⟩
end
end Go.Proofs.Ytlcgicgdlhnfoaa
