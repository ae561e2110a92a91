/-
  A NET IN MEMORY: its block, its agenda, its letters; New, Len, Send of an ask.
-/
import Derived.Test.YtkdaifcnlobhkaaNtk
import Derived.Test.YtkdaifcnlobhkaaNmp
import Derived.Test.YtkdaifcnlobhkaaADrop
namespace Go.Proofs.Ytkdaifcnlobhkaa
open Go.RowKit
/-- an ask: of whom, to whom, its term -/
structure Ask where
  f : Int
  t : Int
  m : Int
structure OkA (a : Ask) : Prop where
  f : 0 ≤ a.f ∧ a.f < 7
  t : 0 ≤ a.t ∧ a.t < 7
  m : 0 ≤ a.m ∧ a.m ≤ 549755813888
  ne : a.f ≠ a.t
/-- A NET: it lies at N, behind w0's end; Z is the last number; R are the items in order; G tells the asks by their numbers; C who is cut off -/
structure NetP (w0 : World) (N : Nat) (Z : Int) (R : List Ag.It) (C : Int → Int → Bool) (A : Nat) (r : Option Nat) (M : Nat) (F : Lf) (cs : Array Value) (w : World) : Prop where
  k : Blk w N 62 cs
  k0 : cs[0]? = some (.pointer (some ⟨A, 0, none⟩))
  k1 : cs[1]? = some (.map (some M))
  kc : ∀ f t : Nat, f < 7 → t < 7 → cs[2 + f * 7 + t]? = some (.bool (C f t))
  a : Ag.Agd w w0.heap.size A Z r R
  l : Lts w M Z.toNat F
  hN : w0.heap.size ≤ N
  hA : w0.heap.size ≤ A
  hM : w0.heap.size ≤ M
  nA : N ≠ A
  nM : N ≠ M
  mA : M ≠ A
  rN : r ≠ some N
  rM : r ≠ some M
  b : Below w0.heap.size w0 w
  z : 0 ≤ Z
/-- the letters of what is under way -/
def LetG (R : List Ag.It) (G : Int → Ask) (F : Lf) : Prop := ∀ x ∈ R, F x.i = some (askS (G x.i).f (G x.i).t (G x.i).m) ∧ OkA (G x.i)
/-- blocks off the net, and what lies in them -/
def OffQ (N A M : Nat) (r : Option Nat) (Q : Nat → Option Obj) (w : World) : Prop := ∀ q o, Q q = some o → q ≠ N ∧ q ≠ A ∧ q ≠ M ∧ r ≠ some q ∧ w.heap[q]? = some o
def NetQ (w0 : World) (N : Nat) (Z : Int) (R : List Ag.It) (G : Int → Ask) (C : Int → Int → Bool) (Q : Nat → Option Obj) (w : World) : Prop := ∃ A r M F cs, NetP w0 N Z R C A r M F cs w ∧ LetG R G F ∧ OffQ N A M r Q w
def noQ : Nat → Option Obj := fun _ => none
abbrev NetS (w0 : World) (N : Nat) (Z : Int) (R : List Ag.It) (G : Int → Ask) (C : Int → Int → Bool) (w : World) : Prop := NetQ w0 N Z R G C noQ w
theorem offQ_no (N A M : Nat) (r : Option Nat) (w : World) : OffQ N A M r noQ w := fun q o h => by cases h
theorem OffQ.lt {N A M : Nat} {r : Option Nat} {Q : Nat → Option Obj} {w : World} (h : OffQ N A M r Q w) {q : Nat} {o : Obj} (e : Q q = some o) : q < w.heap.size := (Array.getElem?_eq_some_iff.1 (h q o e).2.2.2.2).1
theorem OffQ.fr {N A M : Nat} {r : Option Nat} {Q : Nat → Option Obj} {w w' : World} {P : Nat → Prop} (h : OffQ N A M r Q w) (f : Fr w w' P) (hP : ∀ q o, Q q = some o → ¬ P q) : OffQ N A M r Q w' := fun q o e => by
  obtain ⟨h1, h2, h3, h4, h5⟩ := h q o e
  exact ⟨h1, h2, h3, h4, (f.block q (h.lt e) (hP q o e)).trans h5⟩
theorem OffQ.next {N A M : Nat} {r : Option Nat} {Q : Nat → Option Obj} {w w' : World} (h : OffQ N A M r Q w) (b : Below w.heap.size w w') : OffQ N A M r Q w' := h.fr (Fr.of_below b (fun _ => False)) (fun _ _ _ h => h)
theorem OffQ.map {N A M : Nat} {r : Option Nat} {Q : Nat → Option Obj} {w w' : World} (h : OffQ N A M r Q w) (f : Fr w w' (fun q => q = M)) : OffQ N A M r Q w' := h.fr f (fun q o e hq => (h q o e).2.2.1 hq)
theorem OffQ.tch {N A M : Nat} {r r' : Option Nat} {Q : Nat → Option Obj} {w w' : World} (h : OffQ N A M r Q w) (t : Ag.Tch w w' A r r') : OffQ N A M r' Q w' := fun q o e => by
  obtain ⟨h1, h2, h3, h4, h5⟩ := h q o e
  have hl := h.lt e
  refine ⟨h1, h2, h3, fun e2 => ?_, (t.block q hl h2 (fun e2 => h4 e2.symm)).trans h5⟩
  rcases t.own with e3 | ⟨k, e3, hk⟩
  · exact h4 (e3 ▸ e2)
  · rw [e3] at e2; injection e2 with e2; omega
section
variable {w0 w w' : World} {N A M : Nat} {Z : Int} {R : List Ag.It} {G : Int → Ask} {C : Int → Int → Bool} {r : Option Nat} {F : Lf} {cs : Array Value}
theorem NetP.next (h : NetP w0 N Z R C A r M F cs w) (b : Below w.heap.size w w') : NetP w0 N Z R C A r M F cs w' :=
  ⟨h.k.next b, h.k0, h.k1, h.kc, h.a.below b, h.l.next b, h.hN, h.hA, h.hM, h.nA, h.nM, h.mA, h.rN, h.rM, h.b.trans (b.mono h.b.size), h.z⟩
theorem NetQ.next {Q : Nat → Option Obj} (h : NetQ w0 N Z R G C Q w) (b : Below w.heap.size w w') : NetQ w0 N Z R G C Q w' := by
  obtain ⟨A, r, M, F, cs, h, hg, hq⟩ := h
  exact ⟨A, r, M, F, cs, h.next b, hg, hq.next b⟩
theorem NetQ.plain {Q : Nat → Option Obj} (h : NetQ w0 N Z R G C Q w) : NetS w0 N Z R G C w := by
  obtain ⟨A, r, M, F, cs, h, hg, _⟩ := h
  exact ⟨A, r, M, F, cs, h, hg, offQ_no _ _ _ _ _⟩
theorem NetQ.outS (h : NetS w0 N Z R G C w) : ∃ A r M F cs, NetP w0 N Z R C A r M F cs w ∧ LetG R G F := by
  obtain ⟨A, r, M, F, cs, h, hg, _⟩ := h
  exact ⟨A, r, M, F, cs, h, hg⟩
theorem NetP.mkS (h : NetP w0 N Z R C A r M F cs w) (hg : LetG R G F) : NetS w0 N Z R G C w := ⟨A, r, M, F, cs, h, hg, offQ_no _ _ _ _ _⟩
theorem NetQ.bel {Q : Nat → Option Obj} (h : NetQ w0 N Z R G C Q w) : Below w0.heap.size w0 w := by
  obtain ⟨A, r, M, F, cs, h, _, _⟩ := h
  exact h.b
theorem NetQ.z {Q : Nat → Option Obj} (h : NetQ w0 N Z R G C Q w) : 0 ≤ Z := by
  obtain ⟨A, r, M, F, cs, h, _, _⟩ := h
  exact h.z
theorem NetP.c0 (h : NetP w0 N Z R C A r M F cs w) : w.cell? ⟨N, 0, none⟩ = some (.pointer (some ⟨A, 0, none⟩)) := (h.k.cell 0).trans h.k0
theorem NetP.c1 (h : NetP w0 N Z R C A r M F cs w) : w.cell? ⟨N, 1, none⟩ = some (.map (some M)) := (h.k.cell 1).trans h.k1
theorem NetP.cc (h : NetP w0 N Z R C A r M F cs w) (f t : Nat) (hf : f < 7) (ht : t < 7) : w.cell? ⟨N, 2 + f * 7 + t, none⟩ = some (.bool (C f t)) := (h.k.cell _).trans (h.kc f t hf ht)
/-- the agenda turns -/
theorem NetP.tch {r' : Option Nat} {Z' : Int} {R' : List Ag.It} (h : NetP w0 N Z R C A r M F cs w) (t : Ag.Tch w w' A r r') (ha : Ag.Agd w' w0.heap.size A Z' r' R') (hZ : Z ≤ Z') : NetP w0 N Z' R' C A r' M F cs w' := by
  have rn : ∀ q, q < w.heap.size → r ≠ some q → r' ≠ some q := fun q hq hr e => by
    rcases t.own with e2 | ⟨k, e2, hk⟩
    · exact hr (e2 ▸ e)
    · rw [e2] at e; injection e with e; omega
  have hr := h.a.lt.2.1
  have hz := h.z
  exact ⟨(t.block N h.k.lt h.nA (fun e => h.rN e.symm)).trans h.k, h.k0, h.k1, h.kc, ha, (h.l.kept (t.block M h.l.lt h.mA (fun e => h.rM e.symm))).mono (by omega), h.hN, h.hA, h.hM, h.nA, h.nM, h.mA, rn N h.k.lt h.rN, rn M h.l.lt h.rM,
    h.b.trans ⟨t.os, t.tape, t.output, t.size, fun k hk => t.block k (Nat.lt_of_lt_of_le hk h.b.size) (by have := h.hA; omega) (fun e => by have := (hr k e.symm).1; omega)⟩, by omega⟩
/-- the letters turn -/
theorem NetP.lts {F' : Lf} {n' : Nat} (h : NetP w0 N Z R C A r M F cs w) (f : Fr w w' (fun q => q = M)) (hl : Lts w' M n' F') (hn : n' ≤ Z.toNat) : NetP w0 N Z R C A r M F' cs w' :=
  ⟨h.k.fr f h.nM, h.k0, h.k1, h.kc, by
    obtain ⟨v, l, h1, h2, h3⟩ := h.a
    refine ⟨v, l, h1, ⟨(f.block A h2.lt (fun e => h.mA e.symm)).trans h2.blk, Fr.own h2.own f (fun q hq e => h.rM (by rw [← h1, hq, e])), h2.small⟩, h3⟩, hl.mono hn, h.hN, h.hA, h.hM, h.nA, h.nM, h.mA, h.rN, h.rM,
    h.b.trans (f.below (fun q e => by rw [e]; exact h.hM) h.b.size), h.z⟩
theorem NetP.tchl {r' : Option Nat} (h : NetP w0 N Z R C A r M F cs w) (t : Ag.Tch w w' A r r') : Lts w' M Z.toNat F := h.l.kept (t.block M h.l.lt h.mA (fun e => h.rM e.symm))
theorem NetP.lts' {F' : Lf} {Z' : Int} (h : NetP w0 N (Z' + 1) R C A r M F cs w) (f : Fr w w' (fun q => q = M)) (hl : Lts w' M (Z'.toNat + 1) F') (hz : 0 ≤ Z') : NetP w0 N (Z' + 1) R C A r M F' cs w' :=
  h.lts f hl (by omega)
/-- a block of another one turns -/
theorem NetP.off (h : NetP w0 N Z R C A r M F cs w) {T : Nat} (f : Fr w w' (fun q => q = T)) (hN : T ≠ N) (hA : T ≠ A) (hM : T ≠ M) (hr : r ≠ some T) (hT : w0.heap.size ≤ T) : NetP w0 N Z R C A r M F cs w' :=
  ⟨h.k.fr f (fun e => hN e.symm), h.k0, h.k1, h.kc, by
    obtain ⟨v, l, h1, h2, h3⟩ := h.a
    exact ⟨v, l, h1, ⟨(f.block A h2.lt (fun e => hA e.symm)).trans h2.blk, Fr.own h2.own f (fun q hq e => hr (by rw [← h1, hq, e])), h2.small⟩, h3⟩, h.l.fr f (fun e => hM e.symm), h.hN, h.hA, h.hM, h.nA, h.nM, h.mA, h.rN, h.rM,
    h.b.trans (f.below (fun q e => by rw [e]; exact hT) h.b.size), h.z⟩
def updQ (Q : Nat → Option Obj) (T : Nat) (o : Obj) : Nat → Option Obj := fun q => if q = T then some o else Q q
/-- another block is kept -/
theorem NetQ.more {Q : Nat → Option Obj} {T : Nat} {o : Obj} (h : NetQ w0 N Z R G C Q w) (b : Below w.heap.size w w') (hT : w.heap.size ≤ T) (ho : w'.heap[T]? = some o) : NetQ w0 N Z R G C (updQ Q T o) w' := by
  obtain ⟨A, r, M, F, cs, h, hg, hq⟩ := h
  refine ⟨A, r, M, F, cs, h.next b, hg, fun q o' e => ?_⟩
  unfold updQ at e
  by_cases eq : q = T
  · rw [if_pos eq] at e
    cases e
    subst eq
    have h1 := h.k.lt
    have h2 := h.a.lt
    have h3 := h.l.lt
    exact ⟨by omega, by omega, by omega, fun e => by have := (h2.2.1 q e).2; omega, ho⟩
  · rw [if_neg eq] at e
    exact hq.next b q o' e
/-- it is written to -/
theorem NetQ.put {Q : Nat → Option Obj} {T t : Nat} {c : Array Value} (h : NetQ w0 N Z R G C Q w) (hQ : Q T = some (.cells c t (0, 0))) (hT : w0.heap.size ≤ T) (i : Nat) (v : Value) : NetQ w0 N Z R G C (updQ Q T (.cells (c.setIfInBounds i v) t (0, 0))) (w.setCell ⟨T, i, none⟩ v) := by
  obtain ⟨A, r, M, F, cs, h, hg, hq⟩ := h
  obtain ⟨h1, h2, h3, h4, h5⟩ := hq T _ hQ
  have f := fr_set w T i v
  refine ⟨A, r, M, F, cs, h.off f h1 h2 h3 h4 hT, hg, fun q o' e => ?_⟩
  unfold updQ at e
  by_cases eq : q = T
  · rw [if_pos eq] at e
    cases e
    subst eq
    exact ⟨h1, h2, h3, h4, (show Blk w q t c from h5).set i v⟩
  · rw [if_neg eq] at e
    obtain ⟨g1, g2, g3, g4, g5⟩ := hq q o' e
    exact ⟨g1, g2, g3, g4, (f.block q (hq.lt e) eq).trans g5⟩
theorem NetQ.blk {Q : Nat → Option Obj} {T t : Nat} {c : Array Value} (h : NetQ w0 N Z R G C Q w) (hQ : Q T = some (.cells c t (0, 0))) : Blk w T t c := by
  obtain ⟨A, r, M, F, cs, h, hg, hq⟩ := h
  exact (hq T _ hQ).2.2.2.2
end
end Go.Proofs.Ytkdaifcnlobhkaa
