/-
  AgendaPlays: for every input the law returns true: an agenda is the document's list in the order, call by call; the argument reads behind the call as it read before. No condition.
-/
import Derived.Test.YtiklaaganiafjabOpen
import Derived.Test.YtiklaaganiafjabPlays
import Derived.Deep.Slices
namespace Go.Proofs.Ytiklaaganiafjab.agendaPlays
open Go.ChangeShapes Go.WideShapes Go.ChangeAt Go.RowKit
theorem add_at (b o n : Nat) : (⟨b, o, none⟩ : Addr).add n = ⟨b, o + n, none⟩ := by unfold Addr.add; split <;> simp_all
theorem ce3 : Try.prog.cellsOf 3 = 1 := by kernel_rfl
theorem ce32 : Try.prog.cellsOf 32 = 3 := by kernel_rfl
set_option maxRecDepth 100000 in
theorem open_act {H : Type} {enc : TypeId × Value → H} {W : World} {base n : Nat} {sp : Nat → Bool} {hd : Bool} {a : Addr} {cs : List Value} {y : DataW H × List MemPlace}
    (h1 : W.cells? base a 3 = some cs) (h2 : DataW.trod enc Try.prog W base sp hd n 32 cs = some y) :
    ∃ x : It, W.cell? (a.add 0) = some (.int .i64 x.t) ∧ W.cell? (a.add 1) = some (.int .i64 x.i) ∧ W.cell? (a.add 2) = some (.int .i64 x.x) := by
  obtain ⟨_, hlen, hcell⟩ := World.cells?_some h1
  obtain ⟨xs, k, hk, hxy, _, hxl, hf⟩ := DataW.trod_struct Try.underlying32 h2
  match xs, hxl, cs, hlen with
  | [y0, y1, y2], _, [v0, v1, v2], _ =>
    have g0 := hf 0 _ rfl
    have g1 := hf 1 _ rfl
    have g2 := hf 2 _ rfl
    simp [ce3] at g0 g1 g2
    obtain ⟨k0, e0, _, _⟩ := DataW.trod_int Try.underlying3 g0
    obtain ⟨k1, e1, _, _⟩ := DataW.trod_int Try.underlying3 g1
    obtain ⟨k2, e2, _, _⟩ := DataW.trod_int Try.underlying3 g2
    simp only [List.cons.injEq, and_true] at e0 e1 e2
    subst e0 e1 e2
    refine ⟨⟨k0, k1, k2⟩, ?_, ?_, ?_⟩
    · simpa using hcell 0 (by omega)
    · simpa using hcell 1 (by omega)
    · simpa using hcell 2 (by omega)
set_option maxRecDepth 100000 in
theorem open_acts {H : Type} {enc : TypeId × Value → H} {W : World} {base : Nat} {v : Value} {d : DataW H} {p : List MemPlace} (hv : Value.okWide Try.prog W .any base 22 v) (h : DataW.Trod enc Try.prog W 0 (fun _ => true) true 22 v d p) :
    ∃ (a : Option Addr) (L : List It) (c : Nat), v = .slice a L.length c ∧ Its W a L ∧ L.length ≤ 9223372036854775807 := by
  obtain ⟨a0, len, cap, rfl⟩ := okWide_slice Try.underlying22 hv
  obtain ⟨fuel, hf⟩ := h
  rcases Go.Deep.open_slice Try.underlying22 hf with ⟨hcs, _⟩ | ⟨a, len', cap', m, n, D, Pl, hcs, hb, hl, hm, hmm, hx, hi⟩
  · simp [Value.cells] at hcs
    obtain ⟨rfl, rfl, rfl⟩ := hcs
    exact ⟨none, [], 0, rfl, its_nil _ _, by simp⟩
  · simp [Value.cells] at hcs
    obtain ⟨rfl, rfl, rfl⟩ := hcs
    have hlm : len ≤ m := by rw [hmm]; split <;> omega
    have hall : ∀ i, i < len → ∃ x : It, W.cell? ((a.add (i * 3)).add 0) = some (.int .i64 x.t) ∧ W.cell? ((a.add (i * 3)).add 1) = some (.int .i64 x.i) ∧ W.cell? ((a.add (i * 3)).add 2) = some (.int .i64 x.x) := fun i hi' => by
      obtain ⟨cs', hc, ht⟩ := hi i (by omega)
      rw [ce32] at hc
      exact open_act hc ht
    have hsp : 0 < len → a.spot = none := fun h0 => by
      obtain ⟨x, c0, _⟩ := hall 0 h0
      obtain ⟨b, o, s⟩ := a
      cases s with
      | none => rfl
      | some q =>
        exfalso
        have e0 : ((⟨b, o, some q⟩ : Addr).add (0 * 3)).add 0 = ⟨b, o, some q⟩ := by simp [Addr.add]
        rw [e0] at c0
        have h01 : W.cell? ⟨b, o, some q⟩ = none := by
          unfold World.cell?
          split <;> simp
        rw [h01] at c0; simp at c0
    obtain ⟨f, hf⟩ : ∃ f : Nat → It, ∀ i, i < len → W.cell? ((a.add (i * 3)).add 0) = some (.int .i64 (f i).t) ∧ W.cell? ((a.add (i * 3)).add 1) = some (.int .i64 (f i).i) ∧ W.cell? ((a.add (i * 3)).add 2) = some (.int .i64 (f i).x) :=
      ⟨fun i => if h : i < len then Classical.choose (hall i h) else default, fun i h => by
        simp only [dif_pos h]
        exact Classical.choose_spec (hall i h)⟩
    have e1 : ((List.range len).map f).length = len := by rw [List.length_map, List.length_range]
    refine ⟨some a, (List.range len).map f, cap, by rw [e1], ?_, by rw [e1]; unfold maxLen at hm; omega⟩
    intro i hi'
    have hil : i < len := by rw [e1] at hi'; exact hi'
    have hs := hf i hil
    have eg : ((List.range len).map f)[i] = f i := by rw [List.getElem_map, List.getElem_range]
    rw [eg]
    have hsn := hsp (by omega)
    clear hf hall hsp hi hmm
    obtain ⟨b, o, s⟩ := a
    simp only at hsn
    subst hsn
    simp only [add_at, Nat.add_zero] at hs
    exact ⟨b, o, rfl, World.block_lt_of_cell? _ _ hs.1, hs.1, hs.2.1, hs.2.2⟩
set_option maxRecDepth 100000 in
theorem lifted (os : Os) (started : os.Started) (H : Type) (enc : TypeId × Value → H) :
    ReturnsInHanded {} Try.checked os 3 .any (Rows.agendaPlaysSpec.pre6 enc Try.prog Try.f3 Rows.agendaPlaysRow.domain false) (Rows.agendaPlaysSpec.post enc Try.prog Try.f3 false true false false) := by
  refine returnsInHanded_of_change_sized (C := Try.checked) own started (by kernel_rfl) Try.func3
    (ChangeSpec.witness6 (enc := enc) (C := Try.checked) false ⟨#[], #[.slice none 0 0], []⟩ 3 (by kernel_rfl) (by kernel_rfl) (by kernel_rfl) (by kernel_rfl)) ?_
  intro W base args ds gs before hval0 hW hcnd hsz _
  have hval : ∀ (j : Nat) t v, Try.f3.params[j]? = some t → args[j]? = some v → Value.okWide Try.prog W .any base t v := hval0
  have hW' := hW
  obtain ⟨p, q, hA0, hV, rfl, hfz, hnd⟩ := hW
  have hA : DataW.TrodAll enc Try.prog W 0 (fun _ => true) true Try.f3.params.toList args.toList ds p := hA0
  have hAll := hA
  rw [Try.params3] at hA hval
  obtain ⟨v0, vs0, d0, ds0, p0, q0, hargs, rfl, rfl, h0, r0⟩ := trodAll_cons hA
  obtain ⟨rfl, rfl, rfl⟩ := trodAll_nil r0
  obtain rfl : args = #[v0] := by cases args; simp_all
  obtain ⟨rfl, rfl⟩ := trodVars_none hV
  obtain ⟨s0, xs0, c0, rfl, hi0, hl0⟩ := open_acts (hval 0 22 v0 rfl rfl) h0
  have hR := reachBytes_lt
  clear hA0 hval0 hA
  refine (plays_any s0 c0 xs0 W hl0 hi0).mono fun e W' ⟨he, hg⟩ => ?_
  subst he
  exact ⟨_, rfl, law_post (tb := 4) laidOut (by rw [Try.params3]; decide +kernel) rfl rfl Try.underlying4 rfl hW' hAll hAll.lt hg⟩
theorem holds : Rows.AgendaPlaysSaid :=
  OpenClaim.holds_of_wide 3 Try.f3 rfl rfl rfl rfl rfl rfl rfl ⟨rfl, rfl, rfl, rfl, rfl⟩ rfl rfl rfl rfl rfl (by kernel_rfl) Try.func3 (by kernel_rfl)
    (of_decide_eq_true (by kernel_rfl)) (by unfold Func.isWrapper; rw [if_neg (by decide +kernel)]; exact ⟨rfl, rfl⟩)
    (fun os started H enc _ => lifted os started H enc)
end Go.Proofs.Ytiklaaganiafjab.agendaPlays
