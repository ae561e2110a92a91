/-
  FOR THE ROWS: a track that came in.
-/
import Derived.Test.YtifdljdnpdefgaaFrame
import Derived.Test.YtifdljdnpdefgaaTrk
import Derived.Deep.Slices
import Derived.Deep.Fields
import Derived.ChangeSame
import Derived.Lib.SmallJoins
namespace Go.Proofs.Ytifdljdnpdefgaa
open Go.Joins Go.ChangeShapes Go.WideShapes Go.RowKit Go.Deep
theorem wf_i64 {n : Int} (h : (Lit.int .i64 n).wf = true) : -9223372036854775808 ≤ n ∧ n ≤ 9223372036854775807 := by
  have := bounds_i64 h
  exact ⟨by omega, by omega⟩
theorem ce3 : Try.prog.cellsOf 3 = 1 := by kernel_rfl
theorem ce43 : Try.prog.cellsOf 43 = 1 := by kernel_rfl
theorem ce44 : Try.prog.cellsOf 44 = 1 := by kernel_rfl
theorem ce46 : Try.prog.cellsOf 46 = 5 := by kernel_rfl
theorem ce24 : Try.prog.cellsOf 24 = 4 := by kernel_rfl
theorem one24 : oneCellFields Try.prog #[{ name := "Count", type := 3, offset := 0, embedded := false, tag := "", pkgPath := "", byteOffset := 0 }, { name := "Stamp", type := 3, offset := 1, embedded := false, tag := "", pkgPath := "", byteOffset := 8 }, { name := "Lost", type := 3, offset := 2, embedded := false, tag := "", pkgPath := "", byteOffset := 16 }, { name := "Runs", type := 22, offset := 3, embedded := false, tag := "", pkgPath := "", byteOffset := 24 }] = true := by kernel_rfl
theorem add_at (b o n : Nat) : (⟨b, o, none⟩ : Addr).add n = ⟨b, o + n, none⟩ := by unfold Addr.add; split <;> simp_all
theorem spot_none {W : World} {a : Addr} {v : Value} (h : W.cell? (a.add 0) = some v) : a.spot = none := by
  obtain ⟨b, o, s⟩ := a
  cases s with
  | none => rfl
  | some q =>
    exfalso
    have e0 : (⟨b, o, some q⟩ : Addr).add 0 = ⟨b, o, some q⟩ := by simp [Addr.add]
    rw [e0] at h
    have h01 : W.cell? ⟨b, o, some q⟩ = none := by
      unfold World.cell?
      split <;> simp
    rw [h01] at h; simp at h
section
variable {H : Type} {enc : TypeId × Value → H} {W : World} {base : Nat}
theorem open_nums {b0 n : Nat} {sp : Nat → Bool} {hd : Bool} {cs : List Value} {y : DataW H × List MemPlace} (h : DataW.trod enc Try.prog W b0 sp hd n 44 cs = some y) :
    ∃ (q : Option Addr) (c : Nat) (P : List Int), cs = [.slice q P.length c] ∧ Ints W q P ∧ P.length ≤ c ∧ P.length ≤ maxLen := by
  rcases Go.Deep.open_slice1 Try.underlying44 ce3 h with ⟨rfl, _⟩ | ⟨a, len, cap, m, n', V, D, Pl, rfl, _, hl, hm, hmm, _, hi⟩
  · exact ⟨none, 0, [], rfl, fun i hi => by simp at hi, by simp, by simp⟩
  · have hlm : len ≤ m := by rw [hmm]; split <;> omega
    have hall : ∀ i : Fin len, ∃ x : Int, W.cell? (a.add i.1) = some (.int .i64 x) := fun i => by
      obtain ⟨hc, ht⟩ := hi i.1 (by have := i.2; omega)
      obtain ⟨x, e, _, _⟩ := DataW.trod_int Try.underlying3 ht
      simp only [List.cons.injEq, and_true] at e
      rw [e] at hc
      exact ⟨x, hc⟩
    obtain ⟨f, hf⟩ := Classical.axiomOfChoice hall
    refine ⟨some a, cap, List.ofFn f, by rw [List.length_ofFn], ?_, by rw [List.length_ofFn]; exact hl, by rw [List.length_ofFn]; omega⟩
    intro i hi'
    have hil : i < len := by simpa using hi'
    have h0 := spot_none (hf ⟨0, by omega⟩)
    have h1 := hf ⟨i, hil⟩
    obtain ⟨b, o, s⟩ := a
    simp only at h0
    subst h0
    simp only [add_at] at h1
    refine ⟨b, o, rfl, World.block_lt_of_cell? _ _ h1, ?_⟩
    rw [h1, List.getElem_ofFn]
/-- a run that came in, at its place -/
def RunAt (W : World) (a : Addr) (x : Rn × Option Addr × Nat) : Prop :=
  W.cell? (a.add 0) = some (.int .i64 x.1.b) ∧ W.cell? (a.add 1) = some (.int .i64 x.1.t) ∧ W.cell? (a.add 2) = some (.int .i64 x.1.s) ∧ W.cell? (a.add 3) = some (.int .u64 x.1.n) ∧ W.cell? (a.add 4) = some (.slice x.2.1 x.1.P.length x.2.2) ∧ Ints W x.2.1 x.1.P ∧ x.1.P.length ≤ x.2.2 ∧ (x.1.t ≤ 9223372036854775807 ∧ 0 ≤ x.1.n ∧ x.1.n < 18446744073709551616)
set_option maxRecDepth 100000 in
theorem open_run {b0 n : Nat} {sp : Nat → Bool} {hd : Bool} {a : Addr} {cs : List Value} {y : DataW H × List MemPlace} (h1 : W.cells? b0 a 5 = some cs) (h2 : DataW.trod enc Try.prog W b0 sp hd n 46 cs = some y) :
    ∃ x, RunAt W a x := by
  obtain ⟨_, hlen, hcell⟩ := World.cells?_some h1
  obtain ⟨xs, k, hk, hxy, _, hxl, hf⟩ := DataW.trod_struct Try.underlying46 h2
  match xs, hxl, cs, hlen with
  | [y0, y1, y2, y3, y4], _, [v0, v1, v2, v3, v4], _ =>
    have g0 := hf 0 _ rfl
    have g1 := hf 1 _ rfl
    have g2 := hf 2 _ rfl
    have g3 := hf 3 _ rfl
    have g4 := hf 4 _ rfl
    simp [ce3, ce43, ce44] at g0 g1 g2 g3 g4
    obtain ⟨k0, q0, _, _⟩ := DataW.trod_int Try.underlying3 g0
    obtain ⟨k1, q1, _, u1⟩ := DataW.trod_int Try.underlying3 g1
    obtain ⟨k2, q2, _, _⟩ := DataW.trod_int Try.underlying3 g2
    obtain ⟨k3, q3, _, u3⟩ := DataW.trod_int Try.underlying43 g3
    obtain ⟨q, c, P, q4, hP, hl, hm⟩ := open_nums g4
    simp only [List.cons.injEq, and_true] at q0 q1 q2 q3 q4
    subst q0 q1 q2 q3 q4
    have := bounds_u64 u3
    refine ⟨(⟨k0, k1, k2, k3, P⟩, q, c), ?_, ?_, ?_, ?_, ?_, hP, hl, (wf_i64 u1).2, by simp only; omega, by simp only; omega⟩
    · simpa using hcell 0 (by omega)
    · simpa using hcell 1 (by omega)
    · simpa using hcell 2 (by omega)
    · simpa using hcell 3 (by omega)
    · simpa using hcell 4 (by omega)
set_option maxRecDepth 100000 in
theorem open_track {v : Value} {d : DataW H} {p : List MemPlace} (hv : Value.okWide Try.prog W .any base 24 v) (h : DataW.Trod enc Try.prog W 0 (fun _ => true) true 24 v d p) :
    ∃ (c t l : Int) (q : Option Addr) (cp : Nat) (L : List Rn), v = trackV c t l (.slice q L.length cp) ∧ Rns W q L ∧ (∀ r ∈ L, r.t ≤ 9223372036854775807 ∧ 0 ≤ r.n ∧ r.n < 18446744073709551616) ∧ t ≤ 9223372036854775807 := by
  obtain ⟨v0, v1, v2, v3, y0, y1, y2, y3, n, rfl, _, _, h0, h1, h2, h3⟩ := open_agg4 Try.underlying24 one24 ce24 hv h
  obtain ⟨k0, e0, _, _⟩ := DataW.trod_int Try.underlying3 h0
  obtain ⟨k1, e1, _, u1⟩ := DataW.trod_int Try.underlying3 h1
  obtain ⟨k2, e2, _, _⟩ := DataW.trod_int Try.underlying3 h2
  simp only [List.cons.injEq, and_true] at e0 e1 e2
  subst e0 e1 e2
  rcases Go.Deep.open_slice Try.underlying22 h3 with ⟨hcs, _⟩ | ⟨a, len, cap, m, n', D, Pl, hcs, hb, hl, hm, hmm, hx, hi⟩
  · simp only [List.cons.injEq, and_true] at hcs
    subst hcs
    exact ⟨k0, k1, k2, none, 0, [], rfl, fun i hi => absurd hi (Nat.not_lt_zero i), fun x hx => by simp at hx, (wf_i64 u1).2⟩
  · simp only [List.cons.injEq, and_true] at hcs
    subst hcs
    have hlm : len ≤ m := by rw [hmm]; split <;> omega
    have hall : ∀ i : Fin len, ∃ x, RunAt W (a.add (i.1 * 5)) x := fun i => by
      obtain ⟨cs', hc, ht⟩ := hi i.1 (by have := i.2; omega)
      rw [ce46] at hc
      exact open_run hc ht
    obtain ⟨f, hf⟩ := Classical.axiomOfChoice hall
    refine ⟨k0, k1, k2, some a, cap, List.ofFn fun i => (f i).1, by rw [List.length_ofFn]; rfl, ?_, ?_, (wf_i64 u1).2⟩
    · intro i hi'
      have hil : i < len := by simpa using hi'
      have hz := (hf ⟨0, by omega⟩).1
      have h1 := hf ⟨i, hil⟩
      clear hf hall hi hmm
      have h0 : a.spot = none := by
        obtain ⟨b, o, s⟩ := a
        simp only [Nat.zero_mul] at hz
        have e : (⟨b, o, s⟩ : Addr).add 0 = ⟨b, o, s⟩ := by cases s <;> simp [Addr.add]
        rw [e] at hz
        exact spot_none hz
      obtain ⟨b, o, s⟩ := a
      simp only at h0
      subst h0
      unfold RunAt at h1
      simp only [add_at, Nat.add_zero] at h1
      refine ⟨b, o, (f ⟨i, hil⟩).2.1, (f ⟨i, hil⟩).2.2, rfl, World.block_lt_of_cell? _ _ h1.1, ?_⟩
      rw [List.getElem_ofFn]
      exact ⟨h1.1, h1.2.1, h1.2.2.1, h1.2.2.2.1, h1.2.2.2.2.1, h1.2.2.2.2.2.1, h1.2.2.2.2.2.2.1⟩
    · intro r hr
      obtain ⟨i, rfl⟩ := List.mem_ofFn.1 hr
      exact (hf i).2.2.2.2.2.2.2
end
end Go.Proofs.Ytifdljdnpdefgaa
